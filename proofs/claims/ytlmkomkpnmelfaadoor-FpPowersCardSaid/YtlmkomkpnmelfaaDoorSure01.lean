/- Layer 1's 'sure' answers true; the world has at most new blocks and draws. Condition: errors.errorType reads as laid. -/
import Derived.Test.YtlmkomkpnmelfaaDoorNum01
import Derived.Test.YtlmkomkpnmelfaaDoorFp
import Derived.WalkSmall
namespace Go.Proofs.YtlmkomkpnmelfaaDoor
open Go.RowKit Go.Lib
namespace Sure01
open FpM FpC ErrAs Num01
theorem beqT {a b : Nat} (h : a = b) : (((a : Nat) : Int) == ((b : Nat) : Int)) = true := by subst h; simp
theorem neqF {a b : Nat} (h : a = b) : (((a : Nat) : Int) != ((b : Nat) : Int)) = false := by subst h; simp
theorem of61 : fOf 2305843009213693952 = 1 := by kernel_rfl
theorem add0 : fAdd 2305843009213693950 1 = 0 := by kernel_rfl
theorem sub1 : fSub 0 1 = 2305843009213693950 := by kernel_rfl
theorem mul1 : fMul 2147483648 1073741824 = 1 := by kernel_rfl
theorem pow1 : fPow 2 61 = 1 := by rw [fPow_fast _ _ (by omega)]; kernel_rfl
theorem inv2 : fInv 2 = 1152921504606846976 := by rw [fInv, fPow_fast _ _ (by omega)]; kernel_rfl
theorem div2 : fMul 6 (fInv 3) = 2 := by rw [fInv, fPow_fast _ _ (by omega)]; kernel_rfl
theorem c_inv2 (w : World) : Calls Tryd.prog 6 #[.int .u64 2] w (Qt (.tuple #[.int .u64 1152921504606846976, .nilIface]) w) := by
  have h := inv_some 2 (Lib.hid (by omega)) (Lib.hid (by rw [show fOf 2 = 2 by kernel_rfl]; omega)) w
  rw [inv2] at h; exact h
theorem c_invP (w : World) : Calls Tryd.prog 6 #[.int .u64 2305843009213693951] w (Qt (.tuple #[.int .u64 0, .iface 36 (.int .i64 1)]) w) :=
  inv_none 2305843009213693951 (Lib.hid (by kernel_rfl)) w
theorem c_div (w : World) : Calls Tryd.prog 7 #[.int .u64 6, .int .u64 3] w (Qt (.tuple #[.int .u64 2, .nilIface]) w) := by
  have h := div_some 6 3 (Lib.hid (by omega)) (Lib.hid (by omega)) (Lib.hid (by rw [show fOf 3 = 3 by kernel_rfl]; omega)) w
  rw [div2] at h; exact h
theorem c_of (w : World) : Calls Tryd.prog 8 #[.int .u64 2305843009213693952] w (Qt (.int .u64 1) w) := by
  have h := of_any 2305843009213693952 w
  rw [of61] at h; exact h.mono fun e w' ⟨a, b⟩ => ⟨a, 0, b.symm⟩
theorem c_add (w : World) : Calls Tryd.prog 9 #[.int .u64 2305843009213693950, .int .u64 1] w (Qt (.int .u64 0) w) := by
  have h := add_any 2305843009213693950 1 w
  rw [add0] at h; exact h.mono fun e w' ⟨a, b⟩ => ⟨a, 0, b.symm⟩
theorem c_sub (w : World) : Calls Tryd.prog 11 #[.int .u64 0, .int .u64 1] w (Qt (.int .u64 2305843009213693950) w) := by
  have h := sub_any 0 1 w
  rw [sub1] at h; exact h.mono fun e w' ⟨a, b⟩ => ⟨a, 0, b.symm⟩
theorem c_mul (w : World) : Calls Tryd.prog 13 #[.int .u64 2147483648, .int .u64 1073741824] w (Qt (.int .u64 1) w) := by
  have h := mul_any 2147483648 1073741824 (Lib.hid (by omega)) (Lib.hid (by omega)) w
  rw [mul1] at h; exact h
theorem c_pow (w : World) : Calls Tryd.prog 15 #[.int .u64 2, .int .u64 61] w (Qt (.int .u64 1) w) := by
  have h := pow_any 2 61 (Lib.hid (by omega)) (Lib.hid (by omega)) w
  rw [pow1] at h; exact h
set_option maxHeartbeats 400000 in
theorem sure_any (w0 w : World) (hs : Hid (St w0 w)) : Calls Tryd.prog 19 #[] w fun e w' => e = .returned (.bool true) ∧ Hid (St w0 w') := by
  go_enter Tryd.func19, Tryd.ntmps19
  go_wp2_with (first
    | (go_at_call 6; ((with_reducible refine (c_inv2 _).mono ?_); rintro e w' ⟨rfl, n, rfl⟩))
    | (go_at_call 6; ((with_reducible refine (c_invP _).mono ?_); rintro e w' ⟨rfl, n, rfl⟩))
    | (go_at_call 7; ((with_reducible refine (c_div _).mono ?_); rintro e w' ⟨rfl, n, rfl⟩))
    | (go_at_call 8; ((with_reducible refine (c_of _).mono ?_); rintro e w' ⟨rfl, n, rfl⟩))
    | (go_at_call 9; ((with_reducible refine (c_add _).mono ?_); rintro e w' ⟨rfl, n, rfl⟩))
    | (go_at_call 11; ((with_reducible refine (c_sub _).mono ?_); rintro e w' ⟨rfl, n, rfl⟩))
    | (go_at_call 13; ((with_reducible refine (c_mul _).mono ?_); rintro e w' ⟨rfl, n, rfl⟩))
    | (go_at_call 15; ((with_reducible refine (c_pow _).mono ?_); rintro e w' ⟨rfl, n, rfl⟩))
    | (go_at_call 18; ((with_reducible refine (num_some 1 w0 _ (by first | assumption | (apply St.drewN; assumption))).mono ?_); rintro e w1 ⟨rfl, hs⟩)))
  go_ret
  exact ⟨rfl, by first | assumption | (apply St.drewN; assumption)⟩
end Sure01
end Go.Proofs.YtlmkomkpnmelfaaDoor
