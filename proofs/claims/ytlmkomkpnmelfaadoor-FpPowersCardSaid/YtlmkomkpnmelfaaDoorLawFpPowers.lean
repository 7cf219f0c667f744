/- FpPowers answers true at any number of 64 bits and any two of 32. Condition: errors.errorType reads as laid. -/
import Derived.Test.YtlmkomkpnmelfaaDoorSure01
namespace Go.Proofs.YtlmkomkpnmelfaaDoor
open Go.RowKit Go.Lib
namespace LawFpPowers
open FpM FpC ErrAs Num01
theorem c_powP (a : Nat) (ha : Hid (a < 18446744073709551616)) (w : World) : Calls Tryd.prog 15 #[.int .u64 a, .int .u64 2305843009213693951] w (Qt (.int .u64 (fOf a : Int)) w) := by
  have h := pow_any a 2305843009213693951 ha (Lib.hid (by omega)) w
  rw [fPow_P] at h; exact h
theorem c_pow0 (a : Nat) (ha : Hid (a < 18446744073709551616)) (w : World) : Calls Tryd.prog 15 #[.int .u64 a, .int .u64 0] w (Qt (.int .u64 1) w) := by
  have h := pow_any a 0 ha (Lib.hid (by omega)) w
  rw [fPow_zero] at h; exact h
theorem eqT {a b : Nat} (h : a = b) : ((a : Int) == (b : Int)) = true := by subst h; simp
theorem prod_lt {m n : Nat} (hm : m < 4294967296) (hn : n < 4294967296) : m * n < 18446744073709551616 := by
  have h : m * n ≤ 4294967295 * 4294967295 := Nat.mul_le_mul (by omega) (by omega)
  omega
set_option maxHeartbeats 1000000 in
theorem walk (a m n : Nat) (ha : Hid (a < 18446744073709551616)) (hm : Hid (m < 4294967296)) (hn : Hid (n < 4294967296)) (w : World) (hs : Hid (St w w)) :
    Calls Tryd.prog 5 #[.int .u64 a, .int .u32 m, .int .u32 n] w fun e w' => e = .returned (.bool true) ∧ Below w.heap.size w w' := by
  have F1 := eqT (fPow_add a m n)
  have F2 := eqT (fPow_mul a m n)
  have E2 : Hid (IntKind.u64.wrap ((m : Int) * (n : Int)) = ((m * n : Nat) : Int)) := Lib.hid (by
    have := prod_lt hm.out hn.out
    rw [IntKind.wrap_u64, ← Int.natCast_mul]; omega)
  have B1 : Hid (m < 18446744073709551616) := Lib.hid (by have := hm.out; omega)
  have B2 : Hid (n < 18446744073709551616) := Lib.hid (by have := hn.out; omega)
  have B3 : Hid (m + n < 18446744073709551616) := Lib.hid (by have := hn.out; have := hm.out; omega)
  have B4 : Hid (m * n < 18446744073709551616) := Lib.hid (prod_lt hm.out hn.out)
  have B5 : Hid (fPow a m < 18446744073709551616) := Lib.hid (lt64 (fPow_lt _ _))
  have B6 : Hid (fPow a n < 18446744073709551616) := Lib.hid (lt64 (fPow_lt _ _))
  have E3 : Hid ((m : Int) + (n : Int) = ((m + n : Nat) : Int)) := Lib.hid (by omega)
  have m1 : m < 4294967296 := hm.out
  have n1 : n < 4294967296 := hn.out
  go_enter Tryd.func5, Tryd.ntmps5
  go_wp2_with (first
    | (go_at_call 15; ((with_reducible refine (pow_any _ _ (by assumption) (by assumption) _).mono ?_); rintro e w' ⟨rfl, k, rfl⟩))
    | (go_at_call 15; ((rw [E3.out]; with_reducible refine (pow_any a (m + n) ha B3 _).mono ?_); rintro e w' ⟨rfl, k, rfl⟩))
    | (go_at_call 15; ((rw [E2.out]; with_reducible refine (pow_any a (m * n) ha B4 _).mono ?_); rintro e w' ⟨rfl, k, rfl⟩))
    | (go_at_call 15; ((with_reducible refine (c_powP a ha _).mono ?_); rintro e w' ⟨rfl, k, rfl⟩))
    | (go_at_call 15; ((with_reducible refine (c_pow0 a ha _).mono ?_); rintro e w' ⟨rfl, k, rfl⟩))
    | (go_at_call 13; ((with_reducible refine (mul_any _ _ (by assumption) (by assumption) _).mono ?_); rintro e w' ⟨rfl, k, rfl⟩))
    | (go_at_call 8; ((with_reducible refine (of_any a _).mono ?_); rintro e w' ⟨rfl, rfl⟩))
    | (go_at_call 19; ((with_reducible refine (Sure01.sure_any w _ (by first | assumption | (apply St.drewN; assumption))).mono ?_); rintro e w2 ⟨rfl, hs⟩)))
  go_ret
  exact ⟨rfl, hs.out.1⟩
end LawFpPowers
end Go.Proofs.YtlmkomkpnmelfaaDoor
