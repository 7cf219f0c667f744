/- num of law 02, said of growing worlds. Condition: errors.errorType reads as laid. -/
import Derived.Test.YthplidolnffaaaaDoorExt
import Derived.Test.YthplidolnffaaaaDoorNum02
namespace Go.Proofs.YthplidolnffaaaaDoor
open Go.RowKit Go.Lib
namespace Num02
open ErrAs
theorem some_ (k : Int) (w : World) (h : Laid w) : Calls Tryd.prog 13 #[.iface 49 (.int .i64 k)] w fun e w' => e = .returned (.int .i64 k) ∧ Step w w' :=
  (num_some k w w (St.start h)).mono fun _ _ ⟨a, b⟩ => ⟨a, ⟨b.out.1⟩⟩
end Num02
end Go.Proofs.YthplidolnffaaaaDoor
