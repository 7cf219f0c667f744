/- The document's answers of layer 2, said of growing worlds. Conditions: what is handed in reads as rows of 32 bits; lengths as stated. -/
import Derived.Test.YtmdknpejadepbaaDoorVecE
import Derived.Test.YtmdknpejadepbaaDoorRef02
namespace Go.Proofs.YtmdknpejadepbaaDoor
open Go.RowKit Go.Lib
namespace Ref02
open SlR VecC VecE
def YesB (w : World) (n : Nat) (zs : List Int) (e : Ending) (w' : World) : Prop := ∃ A c, e = .returned (.tuple #[.slice A n c, .bool true]) ∧ Row .u32 w' A zs ∧ Step w w'
def ErrB (w : World) (e : Ending) (w' : World) : Prop := e = .returned (.tuple #[.slice none 0 0, .bool false]) ∧ Step w w'
theorem YesB.of {w : World} {n : Nat} {zs : List Int} {e : Ending} {w' : World} (h : AnsB w n zs e w') : YesB w n zs e w' := by
  obtain ⟨A, c, h1, h2, h3⟩ := h
  exact ⟨A, c, h1, Row.of_own h2, ⟨h3⟩⟩
theorem ErrB.of {w : World} {e : Ending} {w' : World} (h : NoB w e w') : ErrB w e w' := ⟨h.1, ⟨h.2⟩⟩
theorem add (A D : Option Addr) (c d n : Nat) (q : Int) (xs ys : List Int) (w : World) (hxn : xs.length = n) (hyn : ys.length = n) (hx : Row .u32 w A xs) (hy : Row .u32 w D ys) (hbx : Bits xs) (hby : Bits ys) (hl : n ≤ 32) (hq : 0 ≤ q ∧ q < 18446744073709551616) :
    Calls Tryd.prog 28 #[.slice A n c, .slice D n d, .int .u64 q] w (YesB w n (vLin q xs ys)) := (add_ok A D c d n q xs ys w hxn hyn hx hy hbx hby hl hq).mono fun _ _ => YesB.of
theorem addNo (A D : Option Addr) (c d n m : Nat) (q : Int) (w : World) (h : 32 < n ∨ n ≠ m) :
    Calls Tryd.prog 28 #[.slice A n c, .slice D m d, .int .u64 q] w (ErrB w) := (add_no A D c d n m q w h).mono fun _ _ => ErrB.of
theorem sum (A : Option Addr) (c n m : Nat) (ls : List (List Int)) (w : World) (hm : ls.length = m) (hm2 : m ≤ 100000) (hr : Rows2 w A ls) (hbs : ∀ row ∈ ls, Bits row) (hl : n ≤ 32) (hg : ∀ row ∈ ls, row.length = n) :
    Calls Tryd.prog 36 #[.slice A m c, .int .i64 n] w (YesB w n (vSum n ls)) := (sum_any A c n m ls w hm hm2 hr hbs hl).mono fun _ _ h => by
  rcases h with h | ⟨⟨row, h1, h2⟩, _⟩
  · exact YesB.of h.2
  · exact absurd (hg row h1) h2
theorem sumBad (A : Option Addr) (c n m : Nat) (ls : List (List Int)) (w : World) (hm : ls.length = m) (hm2 : m ≤ 100000) (hr : Rows2 w A ls) (hbs : ∀ row ∈ ls, Bits row) (hl : n ≤ 32) (hg : ∃ row ∈ ls, row.length ≠ n) :
    Calls Tryd.prog 36 #[.slice A m c, .int .i64 n] w (ErrB w) := (sum_any A c n m ls w hm hm2 hr hbs hl).mono fun _ _ h => by
  obtain ⟨row, h1, h2⟩ := hg
  rcases h with ⟨h3, _⟩ | h
  · exact absurd (h3 row h1) h2
  · exact ErrB.of h.2
theorem sumNo (A : Option Addr) (c m : Nat) (n : Int) (w : World) (hn : n < 0 ∨ 32 < n) : Calls Tryd.prog 36 #[.slice A m c, .int .i64 n] w (ErrB w) := (sum_no A c m n w hn).mono fun _ _ => ErrB.of
theorem same (A D : Option Addr) (c d n m : Nat) (xs ys : List Int) (w : World) (hxn : xs.length = n) (hym : ys.length = m) (hx : Row .u32 w A xs) (hy : Row .u32 w D ys) (hl : n ≤ 2000000000) (hl2 : m ≤ 2000000000) (b : Bool) (hb : decide (xs = ys) = b) :
    Calls Tryd.prog 31 #[.slice A n c, .slice D m d] w fun e w' => e = .returned (.bool b) ∧ ∃ t, w' = w.drewN t := by
  subst hb; exact SlEq.ref_any A D c d n m w.heap.size xs ys w hxn hym hx hy hl hl2
end Ref02
end Go.Proofs.YtmdknpejadepbaaDoor
