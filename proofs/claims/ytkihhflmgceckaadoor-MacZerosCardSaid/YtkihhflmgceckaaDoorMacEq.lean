/- Arrays of 64 bytes compared. No condition but the lengths. -/
import Derived.Test.YtkihhflmgceckaaDoorMacA
namespace Go.Proofs.YtkihhflmgceckaaDoor
open Go.RowKit Go.Lib
namespace Mc
open SlR Sh Sp
theorem eq64 (xs ys : List Nat) (hx : xs.length = 64) (hy : ys.length = 64) (w : World) : (Op.equalIn 10000 37 (.agg (vl .u8 xs).toArray) (.agg (vl .u8 ys).toArray)).run Tryd.prog w = .ok (decide (xs = ys)) w := by
  obtain ⟨i0, hi, -, -, -⟩ := info_parts infoB
  rw [run_equalIn_array w 9999 _ _ Tryd.underlying37 hi, cells5, items5 9998 xs ys (List.range 64) (fun i hi => by have := List.mem_range.1 hi; omega), all_eq xs ys 64 hx hy]
end Mc
end Go.Proofs.YtkihhflmgceckaaDoor
