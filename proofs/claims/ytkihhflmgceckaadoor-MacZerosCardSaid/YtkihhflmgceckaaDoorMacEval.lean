/- The document's example of layer 6, and the sum with no key of no text, reckoned out. No condition. -/
import Derived.Test.YtkihhflmgceckaaDoorMacD
import Derived.Test.YtkihhflmgceckaaDoorShEval
namespace Go.Proofs.YtkihhflmgceckaaDoor
open Go.RowKit Go.Lib
namespace Mc
open SlR Sh Sp
def jefe : List Nat := [74, 101, 102, 101]
def what : List Nat := [119, 104, 97, 116, 32, 100, 111, 32, 121, 97, 32, 119, 97, 110, 116, 32, 102, 111, 114, 32, 110, 111, 116, 104, 105, 110, 103, 63]
set_option maxRecDepth 100000 in
theorem hm_in : Sh.sum (msk 54 (fill jefe) ++ what) = [162, 228, 133, 134, 61, 39, 249, 216, 100, 172, 141, 128, 36, 50, 161, 237, 71, 125, 140, 76, 111, 52, 157, 22, 212, 231, 233, 23, 198, 41, 202, 215] := by
  rw [← Ev.sumF_eq]
  decide +kernel
set_option maxRecDepth 100000 in
theorem hm_jefe : hm jefe what = [91, 220, 193, 70, 191, 96, 117, 78, 106, 4, 36, 38, 8, 149, 117, 199, 90, 0, 63, 8, 157, 39, 57, 131, 157, 236, 88, 185, 100, 236, 56, 67] := by
  have e : blk jefe = fill jefe := rfl
  unfold hm
  rw [e, hm_in, ← Ev.sumF_eq]
  decide +kernel
set_option maxRecDepth 100000 in
theorem hm_nil : Sh.sum (msk 54 (fill []) ++ []) = Ev.sumF (msk 54 (fill [])) := by rw [Ev.sumF_eq, List.append_nil]
set_option maxRecDepth 100000 in
theorem hm_none : hm [] [] ≠ List.replicate 32 0 := by
  have e : blk [] = fill [] := rfl
  unfold hm
  rw [e, hm_nil, ← Ev.sumF_eq]
  decide +kernel
theorem jefe_b8 : B8 jefe := b8_mem (by decide)
theorem what_b8 : B8 what := b8_mem (by decide)
theorem text6 : strOfNums (NL (txt (hm jefe what))) = ByteArray.mk #[53, 98, 100, 99, 99, 49, 52, 54, 98, 102, 54, 48, 55, 53, 52, 101, 54, 97, 48, 52, 50, 52, 50, 54, 48, 56, 57, 53, 55, 53, 99, 55, 53, 97, 48, 48, 51, 102, 48, 56, 57, 100, 50, 55, 51, 57, 56, 51, 57, 100, 101, 99, 53, 56, 98, 57, 54, 52, 101, 99, 51, 56, 52, 51] := by
  rw [hm_jefe]
  rfl
end Mc
end Go.Proofs.YtkihhflmgceckaaDoor
