/- num of law 09, said of growing worlds. Condition: errors.errorType reads as laid. -/
import Derived.Test.YtmdknpejadepbaaDoorPkA
import Derived.Test.YtmdknpejadepbaaDoorNum09
namespace Go.Proofs.YtmdknpejadepbaaDoor
open Go.RowKit Go.Lib
namespace Num09
open ErrAs
theorem some_ (k : Int) (w : World) (h : Laid w) : Calls Tryd.prog 64 #[.iface 84 (.int .i64 k)] w fun e w' => e = .returned (.int .i64 k) ∧ Step w w' :=
  (num_some k w w (St.start h)).mono fun _ _ ⟨a, b⟩ => ⟨a, ⟨b.out.1⟩⟩
end Num09
end Go.Proofs.YtmdknpejadepbaaDoor
