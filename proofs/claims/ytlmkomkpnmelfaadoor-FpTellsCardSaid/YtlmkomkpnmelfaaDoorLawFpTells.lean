/- FpTells answers true at any two numbers of 64 bits. Condition: errors.errorType reads as laid. -/
import Derived.Test.YtlmkomkpnmelfaaDoorSure01
import Derived.Test.YtlmkomkpnmelfaaDoorRef01
namespace Go.Proofs.YtlmkomkpnmelfaaDoor
open Go.RowKit Go.Lib
namespace LawFpTells
open FpM FpC ErrAs Num01
theorem neq_mod (a : Nat) : ((fOf a : Int) != (a : Int) % 2305843009213693951) = false := by
  have h : (fOf a : Int) = (a : Int) % 2305843009213693951 := by unfold fOf; rw [P_lit]; omega
  rw [h]; simp
theorem mod_eq (a : Nat) : (a : Int) % 2305843009213693951 = (fOf a : Int) := by unfold fOf; rw [P_lit]; omega
theorem mod_pos (a : Nat) (h : fOf a ≠ 0) : decide (0 < (a : Int) % 2305843009213693951) = true := by rw [mod_eq]; simp; omega
theorem mod_zero (a : Nat) (h : fOf a = 0) : decide (0 < (a : Int) % 2305843009213693951) = false := by rw [mod_eq, h]; simp
theorem mod_is0 (a : Nat) (h : fOf a = 0) : ((a : Int) % 2305843009213693951 == 0) = true := by rw [mod_eq, h]; simp
theorem mod_not0 (a : Nat) (h : fOf a ≠ 0) : ((a : Int) % 2305843009213693951 == 0) = false := by rw [mod_eq]; simp; omega
set_option maxHeartbeats 1000000 in
theorem walk (a b : Nat) (ha : Hid (a < 18446744073709551616)) (hb : Hid (b < 18446744073709551616)) (w : World) (hs : Hid (St w w)) :
    Calls Tryd.prog 3 #[.int .u64 a, .int .u64 b] w fun e w' => e = .returned (.bool true) ∧ Below w.heap.size w w' := by
  have N1 := neq_mod a
  by_cases h1 : fOf a = 0
  all_goals by_cases h2 : fOf b = 0
  · have T1 := mod_zero a h1
    have T2 := mod_is0 b h2
    have T3 : ((0 : Int) != (fInv a : Int)) = false := by rw [fInv_zero a h1]; rfl
    have H1 := Lib.hid h1
    have H2 := Lib.hid h2
    clear h1 h2
    go_enter Tryd.func3, Tryd.ntmps3
    go_wp2_with (first
      | (go_at_call 6; ((with_reducible refine (inv_none a H1 _).mono ?_); rintro e w' ⟨rfl, n, rfl⟩))
      | (go_at_call 7; ((with_reducible refine (div_none a b H2 _).mono ?_); rintro e w' ⟨rfl, n, rfl⟩))
      | (go_at_call 8; ((with_reducible refine (of_any a _).mono ?_); rintro e w' ⟨rfl, rfl⟩))
      | (go_at_call 9; ((with_reducible refine (add_any a b _).mono ?_); rintro e w' ⟨rfl, rfl⟩))
      | (go_at_call 10; ((with_reducible refine (Ref01.add_any a b _).mono ?_); rintro e w' ⟨rfl, rfl⟩))
      | (go_at_call 11; ((with_reducible refine (sub_any a b _).mono ?_); rintro e w' ⟨rfl, rfl⟩))
      | (go_at_call 12; ((with_reducible refine (Ref01.sub_any a b _).mono ?_); rintro e w' ⟨rfl, rfl⟩))
      | (go_at_call 13; ((with_reducible refine (mul_any a b ha hb _).mono ?_); rintro e w' ⟨rfl, n, rfl⟩))
      | (go_at_call 14; ((with_reducible refine (Ref01.mul_any _ _ _).mono ?_); rintro e w' ⟨rfl, rfl⟩))
      | (go_at_call 15; ((with_reducible refine (pow_any a b ha hb _).mono ?_); rintro e w' ⟨rfl, n, rfl⟩))
      | (go_at_call 16; ((with_reducible refine (Ref01.pow_any a b hb _).mono ?_); rintro e w' ⟨rfl, rfl⟩))
      | (go_at_call 17; ((with_reducible refine (Ref01.inv_any _ _).mono ?_); rintro e w' ⟨rfl, rfl⟩))
      | (go_at_call 18; ((with_reducible refine (num_some 1 w _ (by first | assumption | (apply St.drewN; assumption))).mono ?_); rintro e w1 ⟨rfl, hs⟩))
      | (go_at_call 19; ((with_reducible refine (Sure01.sure_any w _ (by first | assumption | (apply St.drewN; assumption))).mono ?_); rintro e w2 ⟨rfl, hs⟩)))
    go_ret
    exact ⟨rfl, hs.out.1⟩
  · have T1 := mod_zero a h1
    have T2 := mod_not0 b h2
    have T3 : ((0 : Int) != (fInv a : Int)) = false := by rw [fInv_zero a h1]; rfl
    have H1 := Lib.hid h1
    have H2 := Lib.hid h2
    clear h1 h2
    go_enter Tryd.func3, Tryd.ntmps3
    go_wp2_with (first
      | (go_at_call 6; ((with_reducible refine (inv_none a H1 _).mono ?_); rintro e w' ⟨rfl, n, rfl⟩))
      | (go_at_call 7; ((with_reducible refine (div_some a b ha hb H2 _).mono ?_); rintro e w' ⟨rfl, n, rfl⟩))
      | (go_at_call 8; ((with_reducible refine (of_any a _).mono ?_); rintro e w' ⟨rfl, rfl⟩))
      | (go_at_call 9; ((with_reducible refine (add_any a b _).mono ?_); rintro e w' ⟨rfl, rfl⟩))
      | (go_at_call 10; ((with_reducible refine (Ref01.add_any a b _).mono ?_); rintro e w' ⟨rfl, rfl⟩))
      | (go_at_call 11; ((with_reducible refine (sub_any a b _).mono ?_); rintro e w' ⟨rfl, rfl⟩))
      | (go_at_call 12; ((with_reducible refine (Ref01.sub_any a b _).mono ?_); rintro e w' ⟨rfl, rfl⟩))
      | (go_at_call 13; ((with_reducible refine (mul_any a b ha hb _).mono ?_); rintro e w' ⟨rfl, n, rfl⟩))
      | (go_at_call 14; ((with_reducible refine (Ref01.mul_any _ _ _).mono ?_); rintro e w' ⟨rfl, rfl⟩))
      | (go_at_call 15; ((with_reducible refine (pow_any a b ha hb _).mono ?_); rintro e w' ⟨rfl, n, rfl⟩))
      | (go_at_call 16; ((with_reducible refine (Ref01.pow_any a b hb _).mono ?_); rintro e w' ⟨rfl, rfl⟩))
      | (go_at_call 17; ((with_reducible refine (Ref01.inv_any _ _).mono ?_); rintro e w' ⟨rfl, rfl⟩))
      | (go_at_call 18; ((with_reducible refine (num_some 1 w _ (by first | assumption | (apply St.drewN; assumption))).mono ?_); rintro e w1 ⟨rfl, hs⟩))
      | (go_at_call 19; ((with_reducible refine (Sure01.sure_any w _ (by first | assumption | (apply St.drewN; assumption))).mono ?_); rintro e w2 ⟨rfl, hs⟩)))
    go_ret
    exact ⟨rfl, hs.out.1⟩
  · have T1 := mod_pos a h1
    have T2 := mod_is0 b h2
    have H1 := Lib.hid h1
    have H2 := Lib.hid h2
    clear h1 h2
    go_enter Tryd.func3, Tryd.ntmps3
    go_wp2_with (first
      | (go_at_call 6; ((with_reducible refine (inv_some a ha H1 _).mono ?_); rintro e w' ⟨rfl, n, rfl⟩))
      | (go_at_call 7; ((with_reducible refine (div_none a b H2 _).mono ?_); rintro e w' ⟨rfl, n, rfl⟩))
      | (go_at_call 8; ((with_reducible refine (of_any a _).mono ?_); rintro e w' ⟨rfl, rfl⟩))
      | (go_at_call 9; ((with_reducible refine (add_any a b _).mono ?_); rintro e w' ⟨rfl, rfl⟩))
      | (go_at_call 10; ((with_reducible refine (Ref01.add_any a b _).mono ?_); rintro e w' ⟨rfl, rfl⟩))
      | (go_at_call 11; ((with_reducible refine (sub_any a b _).mono ?_); rintro e w' ⟨rfl, rfl⟩))
      | (go_at_call 12; ((with_reducible refine (Ref01.sub_any a b _).mono ?_); rintro e w' ⟨rfl, rfl⟩))
      | (go_at_call 13; ((with_reducible refine (mul_any a b ha hb _).mono ?_); rintro e w' ⟨rfl, n, rfl⟩))
      | (go_at_call 14; ((with_reducible refine (Ref01.mul_any _ _ _).mono ?_); rintro e w' ⟨rfl, rfl⟩))
      | (go_at_call 15; ((with_reducible refine (pow_any a b ha hb _).mono ?_); rintro e w' ⟨rfl, n, rfl⟩))
      | (go_at_call 16; ((with_reducible refine (Ref01.pow_any a b hb _).mono ?_); rintro e w' ⟨rfl, rfl⟩))
      | (go_at_call 17; ((with_reducible refine (Ref01.inv_any _ _).mono ?_); rintro e w' ⟨rfl, rfl⟩))
      | (go_at_call 18; ((with_reducible refine (num_some 1 w _ (by first | assumption | (apply St.drewN; assumption))).mono ?_); rintro e w1 ⟨rfl, hs⟩))
      | (go_at_call 19; ((with_reducible refine (Sure01.sure_any w _ (by first | assumption | (apply St.drewN; assumption))).mono ?_); rintro e w2 ⟨rfl, hs⟩)))
    go_ret
    exact ⟨rfl, hs.out.1⟩
  · have T1 := mod_pos a h1
    have T2 := mod_not0 b h2
    have H1 := Lib.hid h1
    have H2 := Lib.hid h2
    clear h1 h2
    go_enter Tryd.func3, Tryd.ntmps3
    go_wp2_with (first
      | (go_at_call 6; ((with_reducible refine (inv_some a ha H1 _).mono ?_); rintro e w' ⟨rfl, n, rfl⟩))
      | (go_at_call 7; ((with_reducible refine (div_some a b ha hb H2 _).mono ?_); rintro e w' ⟨rfl, n, rfl⟩))
      | (go_at_call 8; ((with_reducible refine (of_any a _).mono ?_); rintro e w' ⟨rfl, rfl⟩))
      | (go_at_call 9; ((with_reducible refine (add_any a b _).mono ?_); rintro e w' ⟨rfl, rfl⟩))
      | (go_at_call 10; ((with_reducible refine (Ref01.add_any a b _).mono ?_); rintro e w' ⟨rfl, rfl⟩))
      | (go_at_call 11; ((with_reducible refine (sub_any a b _).mono ?_); rintro e w' ⟨rfl, rfl⟩))
      | (go_at_call 12; ((with_reducible refine (Ref01.sub_any a b _).mono ?_); rintro e w' ⟨rfl, rfl⟩))
      | (go_at_call 13; ((with_reducible refine (mul_any a b ha hb _).mono ?_); rintro e w' ⟨rfl, n, rfl⟩))
      | (go_at_call 14; ((with_reducible refine (Ref01.mul_any _ _ _).mono ?_); rintro e w' ⟨rfl, rfl⟩))
      | (go_at_call 15; ((with_reducible refine (pow_any a b ha hb _).mono ?_); rintro e w' ⟨rfl, n, rfl⟩))
      | (go_at_call 16; ((with_reducible refine (Ref01.pow_any a b hb _).mono ?_); rintro e w' ⟨rfl, rfl⟩))
      | (go_at_call 17; ((with_reducible refine (Ref01.inv_any _ _).mono ?_); rintro e w' ⟨rfl, rfl⟩))
      | (go_at_call 18; ((with_reducible refine (num_some 1 w _ (by first | assumption | (apply St.drewN; assumption))).mono ?_); rintro e w1 ⟨rfl, hs⟩))
      | (go_at_call 19; ((with_reducible refine (Sure01.sure_any w _ (by first | assumption | (apply St.drewN; assumption))).mono ?_); rintro e w2 ⟨rfl, hs⟩)))
    go_ret
    exact ⟨rfl, hs.out.1⟩
end LawFpTells
end Go.Proofs.YtlmkomkpnmelfaaDoor
