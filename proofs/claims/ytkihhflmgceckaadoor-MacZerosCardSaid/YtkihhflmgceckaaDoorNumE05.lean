/- num of law 05, said of growing worlds. Condition: errors.errorType reads as laid. -/
import Derived.Test.YtkihhflmgceckaaDoorExt
import Derived.Test.YtkihhflmgceckaaDoorNum05
namespace Go.Proofs.YtkihhflmgceckaaDoor
open Go.RowKit Go.Lib
namespace Num05
open ErrAs
theorem some_ (k : Int) (w : World) (h : Laid w) : Calls Tryd.prog 13 #[.iface 56 (.int .i64 k)] w fun e w' => e = .returned (.int .i64 k) ∧ Step w w' :=
  (num_some k w w (St.start h)).mono fun _ _ ⟨a, b⟩ => ⟨a, ⟨b.out.1⟩⟩
end Num05
end Go.Proofs.YtkihhflmgceckaaDoor
