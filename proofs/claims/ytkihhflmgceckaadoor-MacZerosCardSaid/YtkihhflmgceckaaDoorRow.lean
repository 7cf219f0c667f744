/- Slices of integers that read as lists, and rows of the call's own: words for all walks. No condition. -/
import Derived.Test.YtkihhflmgceckaaDoorKit
import Derived.Below
import Derived.OneCell
import Derived.OwnWalk
import Derived.Laws.OwnMore
import Derived.Deep.AppendLies
import Derived.Deep.Onto
import Derived.Deep.Draws
namespace Go.Proofs.YtkihhflmgceckaaDoor
open Go.RowKit
namespace SlR
theorem blockAdd (a : Addr) (n : Nat) : (a.add n).block = a.block := by unfold Addr.add; split <;> rfl
/-- The cells behind address A read as xs (integers of kind k); they lie below block B. -/
def Rd (k : IntKind) (w : World) (B : Nat) (A : Option Addr) (xs : List Int) : Prop :=
  ∀ j x, xs[j]? = some x → ∃ ad : Addr, A = some ad ∧ ad.block < B ∧ w.cell? (ad.add j) = some (.int k x)
section
variable {k : IntKind} {w w' : World} {B B' : Nat} {A : Option Addr} {xs : List Int}
theorem Rd.nil : Rd k w B A [] := fun j x h => by simp at h
theorem Rd.keep (h : Rd k w B A xs) (hk : ∀ p : Addr, p.block < B → w'.cell? p = w.cell? p) : Rd k w' B A xs := fun j x hx => by
  obtain ⟨ad, h1, h2, h3⟩ := h j x hx
  exact ⟨ad, h1, h2, (hk _ (by rw [blockAdd]; exact h2)).trans h3⟩
theorem Rd.below (h : Rd k w B A xs) (hb : Below B w w') : Rd k w' B A xs := h.keep fun _ hp => hb.cell hp
theorem Rd.more (h : Rd k w B A xs) (hB : B ≤ B') : Rd k w B' A xs := fun j x hx => by
  obtain ⟨ad, h1, h2, h3⟩ := h j x hx
  exact ⟨ad, h1, by omega, h3⟩
theorem Rd.belowM (h : Rd k w B A xs) (hb : Below B' w w') (hB : B ≤ B') : Rd k w' B A xs := h.below (hb.mono hB)
theorem Rd.alloc (h : Rd k w B A xs) (hB : B ≤ w.heap.size) (o : Obj) : Rd k (w.alloc o) B A xs := h.keep fun p hp => World.cell?_alloc_lt w o p (by omega)
theorem Rd.setCell (h : Rd k w B A xs) {p : Addr} (hB : B ≤ p.block) (u : Value) : Rd k (w.setCell p u) B A xs :=
  h.keep fun q hq => World.cell?_setCell_other w p q u (fun e => by subst e; omega)
theorem Rd.drewN (h : Rd k w B A xs) (n : Nat) : Rd k (w.drewN n) B A xs := h
theorem Rd.drew (h : Rd k w B A xs) : Rd k w.drew B A xs := h
theorem Rd.at (h : Rd k w B A xs) {j : Nat} (hj : j < xs.length) : ∃ ad x, A = some ad ∧ ad.block < B ∧ xs[j]? = some x ∧ w.cell? (ad.add j) = some (.int k x) := by
  obtain ⟨ad, h1, h2, h3⟩ := h j _ (List.getElem?_eq_getElem hj)
  exact ⟨ad, _, h1, h2, List.getElem?_eq_getElem hj, h3⟩
/-- The front part, at the same address. -/
theorem Rd.front (h : Rd k w B A xs) (n : Nat) : Rd k w B A (xs.take n) := fun j x hx => by
  refine h j x ?_
  rw [List.getElem?_take] at hx
  split at hx
  · exact hx
  · cases hx
theorem Rd.of_own {base : Nat} {e : TypeId} {n c : Nat} (h : w.ownsRow base e 1 (.slice A n c) n (xs.map (Value.int k))) : Rd k w w.heap.size A xs := fun j x hx => by
  have hl : j < xs.length := (List.getElem?_eq_some_iff.mp hx).1
  have hn : 0 < n := by have := h.1; simp at this; omega
  obtain ⟨g, cap, hv, _, hlt⟩ := h.form hn
  have hA : A = some ⟨g, 0, none⟩ := by injection hv
  subst hA
  exact ⟨_, rfl, hlt, h.cells (g := g) rfl j _ (by simp [hx])⟩
theorem own_form {base : Nat} {e : TypeId} {n : Nat} {v : Value} {vs : List Value} (h : w.ownsRow base e 1 v n vs) : ∃ A c, v = .slice A n c := by
  rcases h.2 with ⟨rfl, rfl⟩ | ⟨g, cap, cur, rfl, _⟩
  · exact ⟨_, _, rfl⟩
  · exact ⟨_, _, rfl⟩
end
theorem take_snoc {α : Type} {zs : List α} {k : Nat} {z : α} (h : zs[k]? = some z) : zs.take (k + 1) = zs.take k ++ [z] := by
  rw [List.take_add_one, h]; rfl
theorem zip_at {α : Type} {f : α → α → α} {xs ys : List α} {k : Nat} {x y : α} (hx : xs[k]? = some x) (hy : ys[k]? = some y) : (List.zipWith f xs ys)[k]? = some (f x y) := by
  rw [List.getElem?_zipWith, hx, hy]
end SlR
end Go.Proofs.YtkihhflmgceckaaDoor
