/- num of law 03, said of growing worlds. Condition: errors.errorType reads as laid. -/
import Derived.Test.YtjiagdkopchaeaaDoorExt
import Derived.Test.YtjiagdkopchaeaaDoorNum03
namespace Go.Proofs.YtjiagdkopchaeaaDoor
open Go.RowKit Go.Lib
namespace Num03
open ErrAs
theorem some_ (k : Int) (w : World) (h : Laid w) : Calls Tryd.prog 15 #[.iface 57 (.int .i64 k)] w fun e w' => e = .returned (.int .i64 k) ∧ Step w w' :=
  (num_some k w w (St.start h)).mono fun _ _ ⟨a, b⟩ => ⟨a, ⟨b.out.1⟩⟩
end Num03
end Go.Proofs.YtjiagdkopchaeaaDoor
