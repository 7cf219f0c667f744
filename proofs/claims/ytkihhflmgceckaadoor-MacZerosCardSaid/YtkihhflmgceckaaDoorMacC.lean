/- mac.behind: a text behind a key's block, each byte of which is changed by a mask. Conditions: what is handed in reads as bytes. -/
import Derived.Test.YtkihhflmgceckaaDoorMacB
import Derived.Test.YtkihhflmgceckaaDoorApE
namespace Go.Proofs.YtkihhflmgceckaaDoor
open Go.RowKit Go.Lib
namespace Mc
open SlR Sh Sp
theorem of8 (a : Nat) (ha : a < 256) : (BitVec.ofInt 8 (a : Int)).toNat = a := by
  rw [BitVec.ofInt_natCast, BitVec.toNat_ofNat]
  exact Nat.mod_eq_of_lt (by omega)
theorem xor8_form (a b : Nat) (ha : a < 256) (hb : b < 256) : bits .xor .u8 (a : Int) (b : Int) = ((a ^^^ b : Nat) : Int) := by
  have hx := xor8 ha hb
  show IntKind.u8.wrap ((BitVec.ofInt 8 (a : Int) ^^^ BitVec.ofInt 8 (b : Int)).toNat : Int) = _
  rw [BitVec.toNat_xor, of8 a ha, of8 b hb, IntKind.wrap_u8']
  omega
theorem msk_snoc (m : Nat) (bs : List Nat) (k : Nat) (h : k < bs.length) : msk m (bs.take k) ++ [bs.getD k 0 ^^^ m] = msk m (bs.take (k + 1)) := by
  unfold msk
  rw [List.take_add_one, List.getElem?_eq_getElem h, List.map_append, List.getD_eq_getElem?_getD, List.getElem?_eq_getElem h]
  rfl
set_option maxHeartbeats 3200000 in
set_option maxRecDepth 100000 in
theorem behind_any (bs : List Nat) (m : Nat) (A : Option Addr) (c n : Nat) (t : List Nat) (w : World) (hbs : bs.length = 64) (hb8 : B8 bs) (hm : m < 256) (hn : t.length = n) (hn2 : n ≤ 90000) (hr : R8 w A t) :
    Calls Tryd.prog 32 #[.agg (vl .u8 bs).toArray, .int .u8 m, .slice A n c] w fun e w' => ∃ A' c', e = .returned (.slice A' (64 + n) c') ∧ 64 + n ≤ c' ∧ R8 w' A' (msk m bs ++ t) ∧ Step w w' := by
  obtain ⟨i0, hi, hz0, hz1, hz2⟩ := info_parts infoB
  have cN : Hid (∀ i, i < 64 → (vl .u8 bs)[i]? = some (.int .u8 (bs.getD i 0 : Nat))) := Lib.hid fun i hi => vl_at _ _ _ (by rw [hbs]; exact hi)
  have lE : (vl .u8 bs).length = 64 := by rw [vl_len, hbs]
  generalize vl .u8 bs = E at cN lE
  have rE := range_new w E.toArray 37
  have n1 : (n : Int) ≤ 90000 := by omega
  have n2 : IntKind.i64.wrap ((n : Int) + 64) = (n : Int) + 64 := by simp [IntKind.wrap, IntKind.bits, IntKind.signed]; omega
  have n3 : IntKind.i64.wrap (64 + (n : Int)) = 64 + (n : Int) := by simp [IntKind.wrap, IntKind.bits, IntKind.signed]; omega
  go_enter Tryd.func32, Tryd.ntmps32
  go_wp2_with (first
    | (at_make; refine wpList_make_own (w.alloc (Obj.cells E.toArray 37)) rfl _ _ 22 rfl w.heap.size 5 i0 _ 1 Tryd.underlying22 hi hz0 hz1 _ _ _ (64 + n) rfl rfl (by omega) (by rw [hz2]; omega) (by unfold maxLen; omega) (by simp) ?_; intro w1 O1 G1; have S1 : Step (w.alloc (Obj.cells E.toArray 37)) w1 := ⟨(Below.refl _ _).grown G1 (Nat.le_refl _) (fun k h => by cases h)⟩; have r1 : w1.rangeAt w.heap.size 0 E := range_under rE S1.h (by simp))
    | refine wpList_load_mid (by rfl) 37 (.tmp 3) (by rfl) w.heap.size 0 (by rfl) E _ r1 Tryd.underlying37 rfl (by rw [lE]; exact size64) ?_)
  have BW : Step w w1 := Step.of inferInstance
  have HO1 : Hid (ApE.Own .u8 5 w1 w.heap.size (.slice (some ⟨w.heap.size + 1, 0, none⟩) 0 (64 + n)) 0 (NL (msk m (bs.take 0)))) := Lib.hid (by
    rw [show (w.alloc (Obj.cells E.toArray 37)).heap.size = w.heap.size + 1 by simp] at O1
    exact O1)
  clear r1 rE O1 G1
  go_loopw [7, 15] (fun v i wr => ∃ k : Nat, k ≤ 64 ∧ i = .int .i64 k ∧ Hid (ApE.Own .u8 5 wr w.heap.size v k (NL (msk m (bs.take k)))) ∧ Step w wr) (fun _ i _ => 64 - (intOf i).toNat)
  case atStart => exact ⟨0, Nat.zero_le _, rfl, HO1, BW⟩
  case round =>
    obtain ⟨k, hk, rfl, hown, S⟩ := hrel
    obtain ⟨A', c', rfl⟩ := own_form hown.out
    by_cases hlt : k < 64
    · have hI : ∀ w, (Instr.index 37 (.agg E.toArray) (.int .i64 k)).run Tryd.prog w = .ok (.int .u8 (bs.getD k 0 : Nat)) w := run_index Tryd.underlying37 Tryd.sizeOf5 Tryd.isAgg5 k hlt (by rw [List.getElem?_toArray]; exact cN.out k hlt)
      have hX := Lib.hid (msk_snoc m bs k (by omega))
      have hx := hb8 k
      have hv := Lib.hid (xor8_form (bs.getD k 0) m hx hm)
      generalize bs.getD k 0 = x at hI hX hx hv
      have kI : (k : Int) < 64 := by omega
      go_wp2_with (at_builtin; refine ApE.wpE .u8 w wr (by rfl) _ _ 22 (by rfl) 5 i0 _ 1 Tryd.underlying22 hi hz0 hz1 hz2 rfl _ k _ (by rfl) hown.out _ 1 1 _ (by rfl) rfl (Row.lit1 _ _ _ _ (by simp)) (by omega) (by omega) ?_; intro A4 c4 w4 O4 S4)
      go_roundw
      case rel => exact ⟨k + 1, by omega, by go_num, Lib.hid (by
        rw [← hX.out, NL_app]
        rw [hv.out] at O4
        exact O4), Step.of inferInstance⟩
      case measure => simp [intOf]; omega
    · have hk64 : k = 64 := by omega
      subst hk64
      have hT : bs.take 64 = bs := List.take_of_length_le (by omega)
      rw [hT] at hown
      go_wp2_with (at_builtin; refine ApE.wpE .u8 w wr (by rfl) _ _ 22 (by rfl) 5 i0 _ 1 Tryd.underlying22 hi hz0 hz1 hz2 rfl _ 64 _ (by rfl) hown.out A n c (NL t) (by rfl) (by rw [NL_len]; exact hn) hr.to (by omega) (by omega) ?_; intro A4 c4 w4 O4 S4)
      have hcap := ApE.capped O4
      have R4 : R8 w4 A4 (msk m bs ++ t) := by
        unfold R8
        rw [NL_app]
        exact Row.of_own O4
      go_ret
      exact ⟨A4, c4, rfl, hcap, R4, Step.of inferInstance⟩
end Mc
end Go.Proofs.YtkihhflmgceckaaDoor
