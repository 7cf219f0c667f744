/- The program's own turn of a word (package sha's rotr, math/bits.RotateLeft32). Conditions: the word fits 32 bits, the turn is one to 31. -/
import Derived.Test.YtkihhflmgceckaaDoorRef05
import Derived.Test.YtkihhflmgceckaaDoorBits32
namespace Go.Proofs.YtkihhflmgceckaaDoor
open Go.RowKit Go.Lib
namespace Sp
open SlR Sh
theorem or_rot {x n : Nat} (hx : x < 4294967296) (h : n ≤ 31) : (x * 2 ^ (32 - n) % 4294967296) ||| (x / 2 ^ n) = rot x n := by
  obtain ⟨e1, e2⟩ := pow_parts n h
  unfold rot
  rw [e1]
  have hm : x * 2 ^ (32 - n) % 4294967296 = x % 2 ^ n * 2 ^ (32 - n) := by
    rw [← e2, Nat.mul_comm (2 ^ n), Nat.mul_comm x, Nat.mul_mod_mul_left, Nat.mul_comm]
  have hd : x / 2 ^ n < 2 ^ (32 - n) := Nat.div_lt_of_lt_mul (by rw [e2]; exact hx)
  rw [hm, Nat.mul_comm, ← Nat.two_pow_add_eq_or_of_lt hd, Nat.add_comm]
theorem left_any (x n : Nat) (k : Int) (w : World) (hx : x < 4294967296) (hn : 1 ≤ n ∧ n ≤ 31) (hk : bits .and .u64 (IntKind.u64.wrap k) 31 = ((32 - n : Nat) : Int)) :
    Calls Tryd.prog 42 #[.int .u32 x, .int .i64 k] w fun e w' => e = .returned (.int .u32 (rot x n : Nat)) ∧ w' = w := by
  go_enter Tryd.func42, Tryd.ntmps42
  go_wp2
  go_ret
  refine ⟨congrArg (fun z => Ending.returned (Value.int .u32 z)) ?_, rfl⟩
  have e1 : 32 - (32 - n) = n := by omega
  have e2 : (x : Int) * 2 ^ (32 - n) % 4294967296 = ((x * 2 ^ (32 - n) % 4294967296 : Nat) : Int) := by rw [Int.natCast_emod, Int.natCast_mul, Int.natCast_pow]; rfl
  have e3 : (x : Int) / 2 ^ n = ((x / 2 ^ n : Nat) : Int) := by rw [Int.natCast_ediv, Int.natCast_pow]; rfl
  rw [e1, e2, e3, B3.or32 _ _ (Nat.mod_lt _ (by omega)) (Nat.lt_of_le_of_lt (Nat.div_le_self _ _) hx), or_rot hx hn.2]
theorem mask_neg (n : Nat) (hn : 1 ≤ n ∧ n ≤ 31) : bits .and .u64 (IntKind.u64.wrap (IntKind.i64.wrap (-(n : Int)))) 31 = ((32 - n : Nat) : Int) := by
  rcases (by omega : n = 1 ∨ n = 2 ∨ n = 3 ∨ n = 4 ∨ n = 5 ∨ n = 6 ∨ n = 7 ∨ n = 8 ∨ n = 9 ∨ n = 10 ∨ n = 11 ∨ n = 12 ∨ n = 13 ∨ n = 14 ∨ n = 15 ∨ n = 16 ∨ n = 17 ∨ n = 18 ∨ n = 19 ∨ n = 20 ∨ n = 21 ∨ n = 22 ∨ n = 23 ∨ n = 24 ∨ n = 25 ∨ n = 26 ∨ n = 27 ∨ n = 28 ∨ n = 29 ∨ n = 30 ∨ n = 31) with rfl | rfl | rfl | rfl | rfl | rfl | rfl | rfl | rfl | rfl | rfl | rfl | rfl | rfl | rfl | rfl | rfl | rfl | rfl | rfl | rfl | rfl | rfl | rfl | rfl | rfl | rfl | rfl | rfl | rfl | rfl <;> decide
theorem rotr_any (x n : Nat) (w : World) (hx : x < 4294967296) (hn : 1 ≤ n ∧ n ≤ 31) :
    Calls Tryd.prog 36 #[.int .u32 x, .int .i64 n] w fun e w' => e = .returned (.int .u32 (rot x n : Nat)) ∧ w' = w := by
  have c := left_any x n (IntKind.i64.wrap (-(n : Int))) w hx hn (mask_neg n hn)
  have e : IntKind.i64.wrap (-(n : Int)) = -(n : Int) := by simp [IntKind.wrap, IntKind.bits, IntKind.signed]; omega
  rw [e] at c
  go_enter Tryd.func36, Tryd.ntmps36
  go_wp2_with ((with_reducible refine c.mono ?_); rintro e w' ⟨rfl, rfl⟩)
  go_ret
  exact ⟨rfl, rfl⟩
end Sp
end Go.Proofs.YtkihhflmgceckaaDoor
