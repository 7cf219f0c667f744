/- A law's own 'num': an error's number: of nil 0, of an api.Errno itself. Condition: errors.errorType reads as laid. -/
import Derived.Test.YtfeahgcigmoijaaGreatDoorPkA
namespace Go.Proofs.YtfeahgcigmoijaaGreatDoor
open Go.RowKit Go.Lib
namespace Num10
open ErrAs
theorem num_nil (w0 w : World) (hs : Hid (St w0 w)) : Calls Tryz.prog 14 #[.nilIface] w fun e w' => e = .returned (.int .i64 0) ∧ Hid (St w0 w') := by
  go_enter Tryz.func14, Tryz.ntmps14
  go_wp2_with (fail)
  go_ret
  exact ⟨rfl, Lib.hid (hs.out.below ((Below.refl _ _).alloc (Nat.le_refl _) _))⟩
theorem num_some (k : Int) (w0 w : World) (hs : Hid (St w0 w)) : Calls Tryz.prog 14 #[.iface 77 (.int .i64 k)] w fun e w' => e = .returned (.int .i64 k) ∧ Hid (St w0 w') := by
  have hlt := hs.out.2.lt
  have h1 : Hid (Laid (w.alloc (.cells #[.int .i64 0] 77))) := Lib.hid (hs.out.2.below ((Below.refl _ _).alloc (Nat.le_refl _) _) (Nat.le_refl _))
  go_enter Tryz.func14, Tryz.ntmps14
  go_wp2_with (go_at_call 34; refine (as_hit k _ (.int .i64 0) _ h1.out (by simp) (by simp)).mono ?_; rintro e w' ⟨rfl, rfl⟩)
  go_ret
  refine ⟨rfl, Lib.hid (hs.out.below ?_)⟩
  repeat (first | exact Below.refl _ _ | refine Below.alloc ?_ (by simp <;> omega) _)
end Num10
end Go.Proofs.YtfeahgcigmoijaaGreatDoor
