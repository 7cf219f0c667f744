/- num of law 07, said of growing worlds. Condition: errors.errorType reads as laid. -/
import Derived.Test.YtmjbbaekdbiopaaDoorPkA
import Derived.Test.YtmjbbaekdbiopaaDoorNum07
namespace Go.Proofs.YtmjbbaekdbiopaaDoor
open Go.RowKit Go.Lib
namespace Num07
open ErrAs
theorem some_ (k : Int) (w : World) (h : Laid w) : Calls Tryd.prog 51 #[.iface 68 (.int .i64 k)] w fun e w' => e = .returned (.int .i64 k) ∧ Step w w' :=
  (num_some k w w (St.start h)).mono fun _ _ ⟨a, b⟩ => ⟨a, ⟨b.out.1⟩⟩
end Num07
end Go.Proofs.YtmjbbaekdbiopaaDoor
