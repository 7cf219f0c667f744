/- givePeers of a law. Conditions: what is handed in reads as a row of peers. -/
import Derived.Test.YtfeahgcigmoijaaGreatDoorPairB
namespace Go.Proofs.YtfeahgcigmoijaaGreatDoor
open Go.RowKit Go.Lib
namespace GiveP10
open SlR Pe
theorem infoQ : (Tryz.prog.info? 50).map (fun i => (i.zero, i.size, i.bytes)) = some (some (.agg #[.int .i64 0, .int .u64 0]), 2, 16) := by kernel_rfl
set_option maxHeartbeats 800000 in
set_option maxRecDepth 100000 in
theorem give_any (A : Option Addr) (c n : Nat) (ps : List (Int × Nat)) (w : World) (hn : ps.length = n) (hn2 : n ≤ 100000) (hr : RowQ w A ps) :
    Calls Tryz.prog 6 #[.slice A n c] w fun e w' => ∃ A' c', e = .returned (.slice A' n c') ∧ RowQ w' A' ps ∧ Step w w' := by
  obtain ⟨i0, hi, hz0, hz1, hz2⟩ := info_parts infoQ
  go_enter Tryz.func6, Tryz.ntmps6
  go_wp2
  go_loopw [3, 4] (fun v i wr => ∃ (k : Nat), k ≤ n ∧ i = .int .i64 k ∧ wr.ownsRow w.heap.size 50 2 v k (qc (ps.take k)) ∧ Step w wr) (fun _ i _ => n - (intOf i).toNat)
  case atStart => exact ⟨0, Nat.zero_le _, rfl, World.ownsRow_nil _ _ _ _, Step.of inferInstance⟩
  case round =>
    obtain ⟨k, hk, rfl, hown, hS⟩ := hrel
    obtain ⟨A', c', rfl, hcc⟩ := own_form2 hown
    by_cases hlt : k < n
    · obtain ⟨B, O, rfl, hab, hc1, hc2⟩ := (hr.to : RowQ wr A ps) k (by omega)
      obtain ⟨x, hx⟩ : ∃ x : Int, Hid (x = (ps.getD k (0, 0)).1) := ⟨_, Lib.hid rfl⟩
      obtain ⟨y, hy⟩ : ∃ y : Nat, Hid (y = (ps.getD k (0, 0)).2) := ⟨_, Lib.hid rfl⟩
      rw [← hx.out] at hc1
      rw [← hy.out] at hc2
      have HT : Hid (ps.take (k + 1) = ps.take k ++ [(x, y)]) := Lib.hid (by rw [take_snocQ ps k (by omega), hx.out, hy.out])
      have HO := Lib.hid hown
      clear hr hown
      go_wp2_with (at_builtin; refine one w wr rfl _ _ 34 rfl 50 i0 _ Tryz.underlying34 hi hz0 hz1 hz2 rfl _ k (ps.take k) rfl HO.out wr.heap.size (x, y) rfl (RowQ.lit1 wr _ _ (x, y) rfl) (by omega) ?_; intro A2 c2 w2 O2 S2 hc2' hg2)
      go_roundw
      case rel => exact ⟨k + 1, by omega, by go_num, by rw [HT.out]; exact O2, S2⟩
      case measure => simp [intOf]; omega
    · have hkn : k = n := by omega
      subst hkn
      have HE : Hid (ps.take k = ps) := Lib.hid (List.take_of_length_le (by omega))
      rw [HE.out] at hown
      clear hr
      go_wp2
      go_ret
      exact ⟨_, _, rfl, RowQ.of_own hown hn, Step.of inferInstance⟩
end GiveP10
end Go.Proofs.YtfeahgcigmoijaaGreatDoor
