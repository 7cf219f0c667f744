/- FpField answers true at any three numbers of 64 bits. Condition: errors.errorType reads as laid. -/
import Derived.Test.YtlmkomkpnmelfaaDoorSure01
namespace Go.Proofs.YtlmkomkpnmelfaaDoor
open Go.RowKit Go.Lib
namespace LawFpField
open FpM FpC ErrAs Num01
theorem neqF {a b : Nat} (h : a = b) : ((a : Int) != (b : Int)) = false := by subst h; simp
theorem c_mul1 (a : Nat) (ha : Hid (a < 18446744073709551616)) (w : World) : Calls Tryd.prog 13 #[.int .u64 a, .int .u64 1] w (Qt (.int .u64 (fOf a : Int)) w) := by
  have h := mul_any a 1 ha (Lib.hid (by omega)) w
  rw [fMul_one] at h; exact h
theorem c_mul0 (a : Nat) (ha : Hid (a < 18446744073709551616)) (w : World) : Calls Tryd.prog 13 #[.int .u64 a, .int .u64 0] w (Qt (.int .u64 0) w) := by
  have h := mul_any a 0 ha (Lib.hid (by omega)) w
  rw [fMul_zero] at h; exact h
theorem c_add0 (a : Nat) (w : World) : Calls Tryd.prog 9 #[.int .u64 a, .int .u64 0] w (Qt (.int .u64 (fOf a : Int)) w) := by
  have h := add_any a 0 w
  rw [fAdd_zero] at h; exact h.mono fun e w' ⟨x, y⟩ => ⟨x, 0, y.symm⟩
theorem ltP (a : Nat) (h : a < P) : decide ((a : Int) < 2305843009213693951) = true := by rw [P_lit] at h; simp; omega
set_option maxHeartbeats 1000000 in
theorem walk (a b c : Nat) (ha : Hid (a < 18446744073709551616)) (hb : Hid (b < 18446744073709551616)) (hc : Hid (c < 18446744073709551616)) (w : World) (hs : Hid (St w w)) :
    Calls Tryd.prog 4 #[.int .u64 a, .int .u64 b, .int .u64 c] w fun e w' => e = .returned (.bool true) ∧ Below w.heap.size w w' := by
  have F1 := neqF (fAdd_comm a b)
  have F2 := neqF (fMul_comm a b)
  have F3 := neqF (fAdd_assoc a b c)
  have F4 := neqF (fMul_assoc a b c)
  have F5 := neqF (fMul_add a b c)
  have F6 : ((fAdd (fSub a b) b : Int) != (fOf a : Int)) = false := neqF (fSub_add a b)
  have F7 : ((fSub (fAdd a b) b : Int) != (fOf a : Int)) = false := neqF (fAdd_sub a b)
  have L1 := ltP _ (fAdd_lt a b)
  have L2 := ltP _ (fMul_lt a b)
  by_cases h1 : fOf a = 0
  all_goals by_cases h2 : fOf b = 0
  · have T1 : ((fOf a : Int) == 0) = true := by simp; omega
    have H1 := Lib.hid h1
    have H2 := Lib.hid h2
    clear h1 h2
    go_enter Tryd.func4, Tryd.ntmps4
    go_wp2_with (first
      | (go_at_call 6; ((with_reducible refine (inv_none a H1 _).mono ?_); rintro e w' ⟨rfl, n, rfl⟩))
      | (go_at_call 7; ((with_reducible refine (div_none a b H2 _).mono ?_); rintro e w' ⟨rfl, n, rfl⟩))
      | (go_at_call 8; ((with_reducible refine (of_any a _).mono ?_); rintro e w' ⟨rfl, rfl⟩))
      | (go_at_call 9; ((with_reducible refine (add_any _ _ _).mono ?_); rintro e w' ⟨rfl, rfl⟩))
      | (go_at_call 9; ((with_reducible refine (c_add0 a _).mono ?_); rintro e w' ⟨rfl, n, rfl⟩))
      | (go_at_call 11; ((with_reducible refine (sub_any _ _ _).mono ?_); rintro e w' ⟨rfl, rfl⟩))
      | (go_at_call 13; ((with_reducible refine (mul_any _ _ (by first | assumption | exact Lib.hid (lt64 (fMul_lt _ _)) | exact Lib.hid (lt64 (fAdd_lt _ _)) | exact Lib.hid (lt64 (fInv_lt _)) | exact Lib.hid (lt64 (fPow_lt _ _))) (by first | assumption | exact Lib.hid (lt64 (fMul_lt _ _)) | exact Lib.hid (lt64 (fAdd_lt _ _)) | exact Lib.hid (lt64 (fInv_lt _)) | exact Lib.hid (lt64 (fPow_lt _ _))) _).mono ?_); rintro e w' ⟨rfl, n, rfl⟩))
      | (go_at_call 13; ((with_reducible refine (c_mul1 a ha _).mono ?_); rintro e w' ⟨rfl, n, rfl⟩))
      | (go_at_call 13; ((with_reducible refine (c_mul0 a ha _).mono ?_); rintro e w' ⟨rfl, n, rfl⟩))
      | (go_at_call 19; ((with_reducible refine (Sure01.sure_any w _ (by first | assumption | (apply St.drewN; assumption))).mono ?_); rintro e w2 ⟨rfl, hs⟩)))
    go_ret
    exact ⟨rfl, hs.out.1⟩
  · have T1 : ((fOf a : Int) == 0) = true := by simp; omega
    have T4 : ((fMul (fMul a (fInv b)) b : Int) == (fOf a : Int)) = true := by rw [div_mul a b h2]; unfold fOf; simp
    have H1 := Lib.hid h1
    have H2 := Lib.hid h2
    clear h1 h2
    go_enter Tryd.func4, Tryd.ntmps4
    go_wp2_with (first
      | (go_at_call 6; ((with_reducible refine (inv_none a H1 _).mono ?_); rintro e w' ⟨rfl, n, rfl⟩))
      | (go_at_call 7; ((with_reducible refine (div_some a b ha hb H2 _).mono ?_); rintro e w' ⟨rfl, n, rfl⟩))
      | (go_at_call 8; ((with_reducible refine (of_any a _).mono ?_); rintro e w' ⟨rfl, rfl⟩))
      | (go_at_call 9; ((with_reducible refine (add_any _ _ _).mono ?_); rintro e w' ⟨rfl, rfl⟩))
      | (go_at_call 9; ((with_reducible refine (c_add0 a _).mono ?_); rintro e w' ⟨rfl, n, rfl⟩))
      | (go_at_call 11; ((with_reducible refine (sub_any _ _ _).mono ?_); rintro e w' ⟨rfl, rfl⟩))
      | (go_at_call 13; ((with_reducible refine (mul_any _ _ (by first | assumption | exact Lib.hid (lt64 (fMul_lt _ _)) | exact Lib.hid (lt64 (fAdd_lt _ _)) | exact Lib.hid (lt64 (fInv_lt _)) | exact Lib.hid (lt64 (fPow_lt _ _))) (by first | assumption | exact Lib.hid (lt64 (fMul_lt _ _)) | exact Lib.hid (lt64 (fAdd_lt _ _)) | exact Lib.hid (lt64 (fInv_lt _)) | exact Lib.hid (lt64 (fPow_lt _ _))) _).mono ?_); rintro e w' ⟨rfl, n, rfl⟩))
      | (go_at_call 13; ((with_reducible refine (c_mul1 a ha _).mono ?_); rintro e w' ⟨rfl, n, rfl⟩))
      | (go_at_call 13; ((with_reducible refine (c_mul0 a ha _).mono ?_); rintro e w' ⟨rfl, n, rfl⟩))
      | (go_at_call 19; ((with_reducible refine (Sure01.sure_any w _ (by first | assumption | (apply St.drewN; assumption))).mono ?_); rintro e w2 ⟨rfl, hs⟩)))
    go_ret
    exact ⟨rfl, hs.out.1⟩
  · have T1 : ((fOf a : Int) == 0) = false := by simp; omega
    have T3 : ((fMul (fInv a) a : Int) == 1) = true := by rw [fInv_mul a h1]; rfl
    have H1 := Lib.hid h1
    have H2 := Lib.hid h2
    clear h1 h2
    go_enter Tryd.func4, Tryd.ntmps4
    go_wp2_with (first
      | (go_at_call 6; ((with_reducible refine (inv_some a ha H1 _).mono ?_); rintro e w' ⟨rfl, n, rfl⟩))
      | (go_at_call 7; ((with_reducible refine (div_none a b H2 _).mono ?_); rintro e w' ⟨rfl, n, rfl⟩))
      | (go_at_call 8; ((with_reducible refine (of_any a _).mono ?_); rintro e w' ⟨rfl, rfl⟩))
      | (go_at_call 9; ((with_reducible refine (add_any _ _ _).mono ?_); rintro e w' ⟨rfl, rfl⟩))
      | (go_at_call 9; ((with_reducible refine (c_add0 a _).mono ?_); rintro e w' ⟨rfl, n, rfl⟩))
      | (go_at_call 11; ((with_reducible refine (sub_any _ _ _).mono ?_); rintro e w' ⟨rfl, rfl⟩))
      | (go_at_call 13; ((with_reducible refine (mul_any _ _ (by first | assumption | exact Lib.hid (lt64 (fMul_lt _ _)) | exact Lib.hid (lt64 (fAdd_lt _ _)) | exact Lib.hid (lt64 (fInv_lt _)) | exact Lib.hid (lt64 (fPow_lt _ _))) (by first | assumption | exact Lib.hid (lt64 (fMul_lt _ _)) | exact Lib.hid (lt64 (fAdd_lt _ _)) | exact Lib.hid (lt64 (fInv_lt _)) | exact Lib.hid (lt64 (fPow_lt _ _))) _).mono ?_); rintro e w' ⟨rfl, n, rfl⟩))
      | (go_at_call 13; ((with_reducible refine (c_mul1 a ha _).mono ?_); rintro e w' ⟨rfl, n, rfl⟩))
      | (go_at_call 13; ((with_reducible refine (c_mul0 a ha _).mono ?_); rintro e w' ⟨rfl, n, rfl⟩))
      | (go_at_call 19; ((with_reducible refine (Sure01.sure_any w _ (by first | assumption | (apply St.drewN; assumption))).mono ?_); rintro e w2 ⟨rfl, hs⟩)))
    go_ret
    exact ⟨rfl, hs.out.1⟩
  · have T1 : ((fOf a : Int) == 0) = false := by simp; omega
    have T3 : ((fMul (fInv a) a : Int) == 1) = true := by rw [fInv_mul a h1]; rfl
    have T4 : ((fMul (fMul a (fInv b)) b : Int) == (fOf a : Int)) = true := by rw [div_mul a b h2]; unfold fOf; simp
    have H1 := Lib.hid h1
    have H2 := Lib.hid h2
    clear h1 h2
    go_enter Tryd.func4, Tryd.ntmps4
    go_wp2_with (first
      | (go_at_call 6; ((with_reducible refine (inv_some a ha H1 _).mono ?_); rintro e w' ⟨rfl, n, rfl⟩))
      | (go_at_call 7; ((with_reducible refine (div_some a b ha hb H2 _).mono ?_); rintro e w' ⟨rfl, n, rfl⟩))
      | (go_at_call 8; ((with_reducible refine (of_any a _).mono ?_); rintro e w' ⟨rfl, rfl⟩))
      | (go_at_call 9; ((with_reducible refine (add_any _ _ _).mono ?_); rintro e w' ⟨rfl, rfl⟩))
      | (go_at_call 9; ((with_reducible refine (c_add0 a _).mono ?_); rintro e w' ⟨rfl, n, rfl⟩))
      | (go_at_call 11; ((with_reducible refine (sub_any _ _ _).mono ?_); rintro e w' ⟨rfl, rfl⟩))
      | (go_at_call 13; ((with_reducible refine (mul_any _ _ (by first | assumption | exact Lib.hid (lt64 (fMul_lt _ _)) | exact Lib.hid (lt64 (fAdd_lt _ _)) | exact Lib.hid (lt64 (fInv_lt _)) | exact Lib.hid (lt64 (fPow_lt _ _))) (by first | assumption | exact Lib.hid (lt64 (fMul_lt _ _)) | exact Lib.hid (lt64 (fAdd_lt _ _)) | exact Lib.hid (lt64 (fInv_lt _)) | exact Lib.hid (lt64 (fPow_lt _ _))) _).mono ?_); rintro e w' ⟨rfl, n, rfl⟩))
      | (go_at_call 13; ((with_reducible refine (c_mul1 a ha _).mono ?_); rintro e w' ⟨rfl, n, rfl⟩))
      | (go_at_call 13; ((with_reducible refine (c_mul0 a ha _).mono ?_); rintro e w' ⟨rfl, n, rfl⟩))
      | (go_at_call 19; ((with_reducible refine (Sure01.sure_any w _ (by first | assumption | (apply St.drewN; assumption))).mono ?_); rintro e w2 ⟨rfl, hs⟩)))
    go_ret
    exact ⟨rfl, hs.out.1⟩
end LawFpField
end Go.Proofs.YtlmkomkpnmelfaaDoor
