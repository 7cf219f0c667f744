/- Worlds that only grow: what was there reads as before. Classes that find the way from an earlier world to a later one, so that what is known of memory is carried along. No condition. -/
import Derived.Test.YtkihhflmgceckaaDoorRow
import Derived.Test.YtkihhflmgceckaaDoorErrAs
namespace Go.Proofs.YtkihhflmgceckaaDoor
open Go.RowKit Go.Lib
open SlR
/-- Nothing that was in w has changed in w'. -/
class Ext (w w' : World) : Prop where
  h : Below w.heap.size w w'
/-- One call's step. -/
class Step (w : outParam World) (w' : World) : Prop where
  h : Below w.heap.size w w'
instance (priority := 2000) Ext.refl (w : World) : Ext w w := ⟨Below.refl _ _⟩
theorem Below.step {w a b : World} (h : Below w.heap.size w a) (k : Below a.heap.size a b) : Below w.heap.size w b := h.trans (k.mono h.size)
instance Ext.alloc {w a : World} [h : Ext w a] (o : Obj) : Ext w (a.alloc o) := ⟨h.h.alloc h.h.size o⟩
instance Ext.drewN {w a : World} [h : Ext w a] (n : Nat) : Ext w (a.drewN n) := ⟨h.h.trans ⟨rfl, rfl, rfl, Nat.le_refl _, fun _ _ => rfl⟩⟩
instance Ext.drew {w a : World} [h : Ext w a] : Ext w a.drew := ⟨h.h.drew⟩
instance Ext.step {w a b : World} [k : Step a b] [h : Ext w a] : Ext w b := ⟨Below.step h.h k.h⟩
theorem Ext.size {w w' : World} (h : Ext w w') : w.heap.size ≤ w'.heap.size := h.h.size
theorem Step.of {w w' : World} (h : Ext w w') : Step w w' := ⟨h.h⟩
/-- A slice's cells read as xs. -/
def Row (k : IntKind) (w : World) (A : Option Addr) (xs : List Int) : Prop := Rd k w w.heap.size A xs
theorem Row.to {k : IntKind} {w w' : World} {A : Option Addr} {xs : List Int} (h : Row k w A xs) [e : Ext w w'] : Row k w' A xs := (Rd.below h e.h).more e.h.size
theorem Row.nil {k : IntKind} {w : World} {A : Option Addr} : Row k w A [] := Rd.nil
theorem Row.of_own {k : IntKind} {w : World} {base : Nat} {e : TypeId} {n c : Nat} {A : Option Addr} {xs : List Int} (h : w.ownsRow base e 1 (.slice A n c) n (xs.map (Value.int k))) : Row k w A xs := Rd.of_own h
theorem Row.lit1 {k : IntKind} (w : World) (H : Nat) (t : TypeId) (a : Int) (h : w.heap.size = H) : Row k (w.alloc (.cells #[.int k a] t (0, 0))) (some ⟨H, 0, none⟩) [a] := by
  subst h
  intro j x hj
  match j, hj with
  | 0, hj => simp at hj; subst hj; exact ⟨_, rfl, by simp, by simp [Addr.add]⟩
theorem Row.lit2 {k : IntKind} (w : World) (H : Nat) (t : TypeId) (a b : Int) (h : w.heap.size = H) : Row k (w.alloc (.cells #[.int k a, .int k b] t (0, 0))) (some ⟨H, 0, none⟩) [a, b] := by
  subst h
  intro j x hj
  match j, hj with
  | 0, hj => simp at hj; subst hj; exact ⟨_, rfl, by simp, by simp [Addr.add]⟩
  | 1, hj => simp at hj; subst hj; exact ⟨_, rfl, by simp, by simp [Addr.add]⟩
theorem Row.litN {k : IntKind} (w : World) (H : Nat) (t : TypeId) (xs : List Int) (h : w.heap.size = H) : Row k (w.alloc (.cells (xs.map (Value.int k)).toArray t (0, 0))) (some ⟨H, 0, none⟩) xs := by
  subst h
  intro j x hj
  refine ⟨_, rfl, by simp, ?_⟩
  have hc := cell_of_row (w.alloc (.cells (xs.map (Value.int k)).toArray t (0, 0))) w.heap.size j _ t (0, 0) (heap_alloc_new w _)
  have e : (⟨w.heap.size, 0, none⟩ : Addr).add j = ⟨w.heap.size, j, none⟩ := by unfold Addr.add; split <;> simp_all
  rw [e, hc]
  simp [hj]
theorem ErrAs.Laid.to {w w' : World} (h : ErrAs.Laid w) [e : Ext w w'] : ErrAs.Laid w' := h.below e.h (Nat.le_refl _)
end Go.Proofs.YtkihhflmgceckaaDoor
