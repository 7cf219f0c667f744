/- The document's answers of layer 2, said of growing worlds. Conditions: what is handed in reads as rows of 32 bits; lengths as stated. -/
import Derived.Test.YtfeahgcigmoijaaGreatDoorVecE
import Derived.Test.YtfeahgcigmoijaaGreatDoorRef02
namespace Go.Proofs.YtfeahgcigmoijaaGreatDoor
open Go.RowKit Go.Lib
namespace Ref02
open SlR VecC VecE
def YesB (w : World) (n : Nat) (zs : List Int) (e : Ending) (w' : World) : Prop := ∃ A c, e = .returned (.tuple #[.slice A n c, .bool true]) ∧ Row .u32 w' A zs ∧ Step w w'
def ErrB (w : World) (e : Ending) (w' : World) : Prop := e = .returned (.tuple #[.slice none 0 0, .bool false]) ∧ Step w w'
theorem YesB.of {w : World} {n : Nat} {zs : List Int} {e : Ending} {w' : World} (h : AnsB w n zs e w') : YesB w n zs e w' := by
  obtain ⟨A, c, h1, h2, h3⟩ := h
  exact ⟨A, c, h1, Row.of_own h2, ⟨h3⟩⟩
theorem ErrB.of {w : World} {e : Ending} {w' : World} (h : NoB w e w') : ErrB w e w' := ⟨h.1, ⟨h.2⟩⟩
theorem add (A D : Option Addr) (c d n : Nat) (q : Int) (xs ys : List Int) (w : World) (hxn : xs.length = n) (hyn : ys.length = n) (hx : Row .u32 w A xs) (hy : Row .u32 w D ys) (hbx : Bits xs) (hby : Bits ys) (hl : n ≤ 32) (hq : 0 ≤ q ∧ q < 18446744073709551616) :
    Calls Tryz.prog 21 #[.slice A n c, .slice D n d, .int .u64 q] w (YesB w n (vLin q xs ys)) := (add_ok A D c d n q xs ys w hxn hyn hx hy hbx hby hl hq).mono fun _ _ => YesB.of
theorem addNo (A D : Option Addr) (c d n m : Nat) (q : Int) (w : World) (h : 32 < n ∨ n ≠ m) :
    Calls Tryz.prog 21 #[.slice A n c, .slice D m d, .int .u64 q] w (ErrB w) := (add_no A D c d n m q w h).mono fun _ _ => ErrB.of
theorem same (A D : Option Addr) (c d n m : Nat) (xs ys : List Int) (w : World) (hxn : xs.length = n) (hym : ys.length = m) (hx : Row .u32 w A xs) (hy : Row .u32 w D ys) (hl : n ≤ 2000000000) (hl2 : m ≤ 2000000000) (b : Bool) (hb : decide (xs = ys) = b) :
    Calls Tryz.prog 13 #[.slice A n c, .slice D m d] w fun e w' => e = .returned (.bool b) ∧ ∃ t, w' = w.drewN t := by
  subst hb; exact SlEq.ref_any A D c d n m w.heap.size xs ys w hxn hym hx hy hl hl2
end Ref02
end Go.Proofs.YtfeahgcigmoijaaGreatDoor
