/- giveShares of law 04: points as the program's. Condition: what is handed in reads as a row of points. -/
import Derived.Test.YtphelljbaodhpaaDoorRef03
namespace Go.Proofs.YtphelljbaodhpaaDoor
open Go.RowKit Go.Lib Go.Maps
namespace PoC
open SlR FpM FpC PoM
set_option maxHeartbeats 800000 in
set_option maxRecDepth 100000 in
theorem give (A : Option Addr) (c n : Nat) (xs ys : List Nat) (w : World) (hn : xs.length = n) (hn2 : n ≤ 100000) (hr : RowS w A xs ys) :
    Calls Tryd.prog 6 #[.slice A n c] w fun e w' => ∃ A' c', e = .returned (.slice A' n c') ∧ w'.ownsRow w.heap.size 51 2 (.slice A' n c') n (pl xs ys n) ∧ Below w.heap.size w w' ∧ n ≤ c' := by
  obtain ⟨i0, hi, hz0, hz1, hz2⟩ := info_parts infoS
  go_enter Tryd.func6, Tryd.ntmps6
  go_wp2
  go_loopw [3, 4] (fun v i wr => ∃ (k : Nat), k ≤ n ∧ i = .int .i64 k ∧ wr.ownsRow w.heap.size 51 2 v k (pl xs ys k) ∧ Below w.heap.size w wr) (fun _ i _ => n - (intOf i).toNat)
  case atStart => exact ⟨0, Nat.zero_le _, rfl, World.ownsRow_nil _ _ _ _, Below.refl _ _⟩
  case round =>
    obtain ⟨k, hk, rfl, hown, hb⟩ := hrel
    obtain ⟨A', c', rfl, hcc⟩ := own_form2 hown
    by_cases hlt : k < n
    · obtain ⟨B, O, rfl, hab, hc1, hc2⟩ := (show RowS wr A xs ys from have : Step w wr := ⟨hb⟩; hr.to) k (by omega)
      have HT : Hid (pl xs ys (k + 1) = pl xs ys k ++ [.int .u64 (xs.getD k 0 : Nat), .int .u64 (ys.getD k 0 : Nat)]) := Lib.hid rfl
      obtain ⟨x, hx⟩ : ∃ x : Nat, Hid (x = xs.getD k 0) := ⟨_, Lib.hid rfl⟩
      obtain ⟨y, hy⟩ : ∃ y : Nat, Hid (y = ys.getD k 0) := ⟨_, Lib.hid rfl⟩
      rw [← hx.out] at hc1 HT
      rw [← hy.out] at hc2 HT
      have HB := Lib.hid hb
      have HO := Lib.hid hown
      clear hr hb hown
      go_wp2_with (at_builtin; refine wpList_append_own _ rfl _ _ 28 rfl w.heap.size 51 i0 _ 2 16 Tryd.underlying28 hi hz0 hz1 hz2 rfl (by decide) _ _ _ rfl (HO.out.alloc _) ⟨wr.heap.size, 0, none⟩ 1 1 [.int .u64 x, .int .u64 y] rfl rfl (two_new _ _ _ _) (ints_oneCell .u64 [(x : Int), (y : Int)]) (by unfold maxLen; omega) (by omega) (by have := HB.out.size; simp; omega) ?_; intro v' w1 hown1 hgrow1 hnil)
      go_roundw
      case rel => exact ⟨k + 1, by omega, by go_num, by rw [HT.out]; exact hown1, (HB.out.alloc HB.out.size _).grown hgrow1 (by have := HB.out.size; simp; omega) (fun g hg => (HO.out.lt g hg).1)⟩
      case measure => simp [intOf]; omega
    · have hkn : k = n := by omega
      subst hkn
      clear hr
      go_wp2
      go_ret
      exact ⟨_, _, rfl, hown, hb, hcc⟩
end PoC
end Go.Proofs.YtphelljbaodhpaaDoor
