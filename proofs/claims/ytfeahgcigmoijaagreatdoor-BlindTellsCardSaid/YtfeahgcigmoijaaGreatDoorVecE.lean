/- vec's contracts, said of growing worlds. Conditions: what is handed in reads as rows of 32 bits; lengths as stated. -/
import Derived.Test.YtfeahgcigmoijaaGreatDoorPkA
import Derived.Test.YtfeahgcigmoijaaGreatDoorVecC
import Derived.Test.YtfeahgcigmoijaaGreatDoorSlEq
namespace Go.Proofs.YtfeahgcigmoijaaGreatDoor
open Go.RowKit Go.Lib
namespace VecE
open SlR VecC
def Yes (w : World) (n : Nat) (zs : List Int) (e : Ending) (w' : World) : Prop := ∃ A c, e = .returned (.tuple #[.slice A n c, .nilIface]) ∧ Row .u32 w' A zs ∧ Step w w'
def Err (w : World) (e : Ending) (w' : World) : Prop := e = .returned (.tuple #[.slice none 0 0, .iface 77 (.int .i64 1)]) ∧ Step w w'
theorem Yes.of {w : World} {n : Nat} {zs : List Int} {e : Ending} {w' : World} (h : Ans w n zs e w') : Yes w n zs e w' := by
  obtain ⟨A, c, h1, h2, h3⟩ := h
  exact ⟨A, c, h1, Row.of_own h2, ⟨h3⟩⟩
theorem Err.of {w : World} {e : Ending} {w' : World} (h : No w e w') : Err w e w' := ⟨h.1, ⟨h.2⟩⟩
theorem zero (n : Nat) (hn : n ≤ 32) (w : World) : Calls Tryz.prog 26 #[.int .i64 n] w (Yes w n (List.replicate n 0)) :=
  (zero_ok n hn w).mono fun _ _ ⟨a, b, c⟩ => ⟨_, _, a, by unfold Ow at b; rw [List.length_replicate] at b; exact Row.of_own b, ⟨c⟩⟩
theorem zeroNo (n : Int) (hn : n < 0 ∨ 32 < n) (w : World) : Calls Tryz.prog 26 #[.int .i64 n] w (Err w) :=
  (zero_no n hn w).mono fun _ _ ⟨a, b⟩ => ⟨a, ⟨by rw [b]; exact Below.refl _ _⟩⟩
theorem add (A D : Option Addr) (c d n : Nat) (xs ys : List Int) (w : World) (hxn : xs.length = n) (hyn : ys.length = n) (hx : Row .u32 w A xs) (hy : Row .u32 w D ys) (hbx : Bits xs) (hl : n ≤ 32) :
    Calls Tryz.prog 53 #[.slice A n c, .slice D n d] w (Yes w n (vAdd xs ys)) := (add_ok A D c d n xs ys w hxn hyn hx hy hbx hl).mono fun _ _ => Yes.of
theorem addNo (A D : Option Addr) (c d n m : Nat) (xs ys : List Int) (w : World) (hxn : xs.length = n) (hym : ys.length = m) (hx : Row .u32 w A xs) (hy : Row .u32 w D ys) (h : 32 < n ∨ n ≠ m) :
    Calls Tryz.prog 53 #[.slice A n c, .slice D m d] w (Err w) := (add_no A D c d n m xs ys w hxn hym hx hy h).mono fun _ _ => Err.of
theorem sub (A D : Option Addr) (c d n : Nat) (xs ys : List Int) (w : World) (hxn : xs.length = n) (hyn : ys.length = n) (hx : Row .u32 w A xs) (hy : Row .u32 w D ys) (hl : n ≤ 32) :
    Calls Tryz.prog 16 #[.slice A n c, .slice D n d] w (Yes w n (vSub xs ys)) := (sub_ok A D c d n xs ys w hxn hyn hx hy hl).mono fun _ _ => Yes.of
theorem subNo (A D : Option Addr) (c d n m : Nat) (w : World) (h : 32 < n ∨ n ≠ m) : Calls Tryz.prog 16 #[.slice A n c, .slice D m d] w (Err w) := (sub_no A D c d n m w h).mono fun _ _ => Err.of
/-- A slice of rows. -/
def Rows2 (w : World) (A : Option Addr) (ls : List (List Int)) : Prop := RdR w w.heap.size A ls
theorem Rows2.to {w w' : World} {A : Option Addr} {ls : List (List Int)} (h : Rows2 w A ls) [e : Ext w w'] : Rows2 w' A ls := (RdR.below h e.h).more e.h.size
theorem Rows2.two (A D : Option Addr) (c d n m H : Nat) (xs ys : List Int) (w : World) (hxn : xs.length = n) (hym : ys.length = m) (hx : Row .u32 w A xs) (hy : Row .u32 w D ys) (hH : w.heap.size = H) :
    Rows2 (w.alloc (.cells #[.slice A n c, .slice D m d] 22 (0, 0))) (some ⟨H, 0, none⟩) [xs, ys] := by
  subst hxn; subst hym; subst hH
  have h := two_rows A D c d xs ys w hx hy
  have hs : (w.alloc (.cells #[.slice A xs.length c, .slice D ys.length d] 22 (0, 0))).heap.size = w.heap.size + 1 := by simp
  unfold Rows2
  rw [hs]
  exact h
theorem sum (A : Option Addr) (c n m : Nat) (ls : List (List Int)) (w : World) (hm : ls.length = m) (hm2 : m ≤ 100000) (hr : Rows2 w A ls) (hl : n ≤ 32) (hg : ∀ row ∈ ls, row.length = n) :
    Calls Tryz.prog 19 #[.slice A m c, .int .i64 n] w (Yes w n (vSum n ls)) := (sum_any A c n m ls w hm hm2 hr hl).mono fun _ _ h => by
  rcases h with h | ⟨⟨row, h1, h2⟩, _⟩
  · exact Yes.of h.2
  · exact absurd (hg row h1) h2
theorem sumBad (A : Option Addr) (c n m : Nat) (ls : List (List Int)) (w : World) (hm : ls.length = m) (hm2 : m ≤ 100000) (hr : Rows2 w A ls) (hl : n ≤ 32) (hg : ∃ row ∈ ls, row.length ≠ n) :
    Calls Tryz.prog 19 #[.slice A m c, .int .i64 n] w (Err w) := (sum_any A c n m ls w hm hm2 hr hl).mono fun _ _ h => by
  obtain ⟨row, h1, h2⟩ := hg
  rcases h with ⟨h3, _⟩ | h
  · exact absurd (h3 row h1) h2
  · exact Err.of h.2
theorem sumNo (A : Option Addr) (c m : Nat) (n : Int) (w : World) (hn : n < 0 ∨ 32 < n) : Calls Tryz.prog 19 #[.slice A m c, .int .i64 n] w (Err w) := (sum_no A c m n w hn).mono fun _ _ => Err.of
theorem same (A D : Option Addr) (c d n m : Nat) (xs ys : List Int) (w : World) (hxn : xs.length = n) (hym : ys.length = m) (hx : Row .u32 w A xs) (hy : Row .u32 w D ys) (hl : n ≤ 2000000000) (hl2 : m ≤ 2000000000) (b : Bool) (hb : decide (xs = ys) = b) :
    Calls Tryz.prog 17 #[.slice A n c, .slice D m d] w fun e w' => e = .returned (.bool b) ∧ ∃ t, w' = w.drewN t := by
  subst hb; exact SlEq.same_any A D c d n m w.heap.size xs ys w hxn hym hx hy hl hl2
end VecE
end Go.Proofs.YtfeahgcigmoijaaGreatDoor
