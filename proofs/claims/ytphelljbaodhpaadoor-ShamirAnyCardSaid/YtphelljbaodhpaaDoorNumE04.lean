/- num of law 04, said of growing worlds. Condition: errors.errorType reads as laid. -/
import Derived.Test.YtphelljbaodhpaaDoorExt
import Derived.Test.YtphelljbaodhpaaDoorNum04
namespace Go.Proofs.YtphelljbaodhpaaDoor
open Go.RowKit Go.Lib
namespace Num04
open ErrAs
theorem some_ (k : Int) (w : World) (h : Laid w) : Calls Tryd.prog 16 #[.iface 55 (.int .i64 k)] w fun e w' => e = .returned (.int .i64 k) ∧ Step w w' :=
  (num_some k w w (St.start h)).mono fun _ _ ⟨a, b⟩ => ⟨a, ⟨b.out.1⟩⟩
end Num04
end Go.Proofs.YtphelljbaodhpaaDoor
