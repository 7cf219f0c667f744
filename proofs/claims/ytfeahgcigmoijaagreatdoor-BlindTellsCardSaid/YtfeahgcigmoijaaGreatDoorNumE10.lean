/- num of law 10, said of growing worlds. Condition: errors.errorType reads as laid. -/
import Derived.Test.YtfeahgcigmoijaaGreatDoorPkA
import Derived.Test.YtfeahgcigmoijaaGreatDoorNum10
namespace Go.Proofs.YtfeahgcigmoijaaGreatDoor
open Go.RowKit Go.Lib
namespace Num10
open ErrAs
theorem some_ (k : Int) (w : World) (h : Laid w) : Calls Tryz.prog 14 #[.iface 77 (.int .i64 k)] w fun e w' => e = .returned (.int .i64 k) ∧ Step w w' :=
  (num_some k w w (St.start h)).mono fun _ _ ⟨a, b⟩ => ⟨a, ⟨b.out.1⟩⟩
end Num10
end Go.Proofs.YtfeahgcigmoijaaGreatDoor
