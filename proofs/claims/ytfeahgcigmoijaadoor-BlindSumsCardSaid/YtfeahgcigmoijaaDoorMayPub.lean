/- What is public of a key may be. No condition. -/
import Derived.Test.YtfeahgcigmoijaaDoorPairB
namespace Go.Proofs.YtfeahgcigmoijaaDoor
open Go.RowKit Go.Lib
namespace MayP
open Pe
theorem zero_any (n : Nat) (h : 0 < n) : FpM.fPow 0 n = 0 := by rw [FpM.fPow_eq, Nat.zero_pow h]; rfl
theorem one_any (n : Nat) : FpM.fPow 1 n = 1 := by rw [FpM.fPow_eq, Nat.one_pow]; rfl
theorem pub_ne (k : Nat) : FpM.fPow 3 k ≠ 0 := fun h => by
  have h1 : FpM.fPow (FpM.fPow 3 k) 2305843009213693950 = 1 := by
    rw [FpM.fPow_mul, Nat.mul_comm, ← FpM.fPow_mul, FpM.fermat 3 (by decide), one_any]
  rw [h, zero_any _ (by omega)] at h1
  exact absurd h1 (by decide)
theorem pub_lt (k : Nat) : FpM.fPow 3 k < 2305843009213693951 := FpM.fPow_lt 3 k
theorem may_pub {lo i : Int} {k : Nat} {l : List (Int × Nat)} (h1 : lo ≤ i) (h2 : i ≤ 63) (h : mayF (i + 1) l = true) : mayF lo ((i, FpM.fPow 3 k) :: l) = true := by
  rw [mayF_cons]
  simp [h1, h2, h, pub_ne k, pub_lt k]
theorem q64_of {ps : List (Int × Nat)} (h : ∀ p ∈ ps, p.2 < 18446744073709551616) : Q64 ps := fun k => by
  rw [List.getD_eq_getElem?_getD]
  cases e : ps[k]? with
  | none => exact (by decide : 0 < 18446744073709551616)
  | some p => exact h p (List.mem_of_getElem? e)
end MayP
end Go.Proofs.YtfeahgcigmoijaaDoor
