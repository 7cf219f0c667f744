/- What an argument that can be read holds: slices of bools; a struct by value whose second field is a slice of integers. No condition. -/
import Derived.Test.YtfeahgcigmoijaaGreatDoorPkA
import Derived.Deep.Grids
namespace Go.Proofs.YtfeahgcigmoijaaGreatDoor
open Go.ChangeShapes Go.WideShapes Go.ChangeAt Go.RowKit Go.Lib Go.Deep Go.Joins
open SlR
namespace Opn
section
variable {H : Type} {enc : TypeId × Value → H} {P : Program} {w : World}
/-- A slice of integers, from its one cell. -/
theorem rowF {t e : TypeId} {k : IntKind} {held : Bool} {fuel : Nat} {cs : List Value} {y : DataW H × List MemPlace} (ht : P.underlying t = some (.slice e)) (he : P.underlying e = some (.int k)) (hc : P.cellsOf e = 1)
    (hf : DataW.trod enc P w 0 (fun _ => true) held fuel t cs = some y) :
    ∃ (A : Option Addr) (n c : Nat) (xs : List Int), cs = [.slice A n c] ∧ xs.length = n ∧ n ≤ c ∧ c ≤ maxLen ∧ Row k w A xs ∧ ∀ z ∈ xs, (Lit.int k z).wf = true := by
  rcases open_ints ht he hc hf with ⟨hcs, _⟩ | ⟨a, len, cap, zs, hcs, _, hl, hm, hz, _, hcell, hw⟩
  · exact ⟨none, 0, 0, [], hcs, rfl, Nat.le_refl _, Nat.zero_le _, Row.nil, fun z h => by simp at h⟩
  · simp only [if_true] at hz
    refine ⟨some a, len, cap, zs.take len, hcs, by simp [hz]; omega, hl, hm, ?_, fun z h => hw z (List.mem_of_mem_take h)⟩
    intro j x hj
    have hj2 : zs[j]? = some x := by
      rw [List.getElem?_take] at hj
      split at hj
      · exact hj
      · cases hj
    have hlt : j < zs.length := (List.getElem?_eq_some_iff.mp hj2).1
    have hc := hcell j hlt
    have hb := World.block_lt_of_cell? w _ hc
    rw [blockAdd] at hb
    refine ⟨a, rfl, hb, ?_⟩
    rw [hc, List.getD_eq_getElem?_getD, hj2]; rfl
/-- A struct by value: an integer, a slice of integers, two integers. -/
theorem askV {e e1 : TypeId} {f0 f1 f2 f3 : Field} {k0 k1 k2 k3 : IntKind} {held : Bool} {v : Value} {d : DataW H} {ps : List MemPlace} {r : Reach} {b0 : Nat} (he : P.underlying e = some (.struct #[f0, f1, f2, f3]))
    (h0 : P.underlying f0.type = some (.int k0)) (h1 : P.underlying f1.type = some (.slice e1)) (h1e : P.underlying e1 = some (.int k1)) (h2 : P.underlying f2.type = some (.int k2)) (h3 : P.underlying f3.type = some (.int k3))
    (hone : oneCellFields P #[f0, f1, f2, f3] = true) (ce : P.cellsOf e = 4) (c1 : P.cellsOf e1 = 1) (hv : Value.okWide P w r b0 e v) (h : DataW.Trod enc P w 0 (fun _ => true) held e v d ps) :
    ∃ (a : Int) (A : Option Addr) (n c : Nat) (xs : List Int) (b g : Int), v = .agg #[.int k0 a, .slice A n c, .int k2 b, .int k3 g] ∧ (Lit.int k0 a).wf = true ∧ xs.length = n ∧ n ≤ c ∧ c ≤ maxLen ∧ Row k1 w A xs ∧ (∀ z ∈ xs, (Lit.int k1 z).wf = true) ∧ (Lit.int k2 b).wf = true ∧ (Lit.int k3 g).wf = true := by
  obtain ⟨cs, rfl, hsz⟩ := okWide_struct he hv
  obtain ⟨fuel, hf⟩ := h
  obtain ⟨y0, y1, y2, y3, n, _, hl, t0, t1, t2, t3⟩ := trod_struct4 he hf
  obtain ⟨o0, q0⟩ := hone_of hone 0 f0 rfl
  obtain ⟨o1, q1⟩ := hone_of hone 1 f1 rfl
  obtain ⟨o2, q2⟩ := hone_of hone 2 f2 rfl
  obtain ⟨o3, q3⟩ := hone_of hone 3 f3 rfl
  rw [o0, q0] at t0
  rw [o1, q1] at t1
  rw [o2, q2] at t2
  rw [o3, q3] at t3
  rw [ce] at hsz
  obtain ⟨u0, u1, u2, u3, rfl⟩ := array4 hsz
  obtain ⟨a, ha, wa⟩ := cell h0 t0
  obtain ⟨A, m, c, xs, hA, hx1, hx2, hx3, hx4, hx5⟩ := rowF h1 h1e c1 t1
  obtain ⟨b, hb, wb⟩ := cell h2 t2
  obtain ⟨g, hg, wg⟩ := cell h3 t3
  simp [Value.cells] at ha hA hb hg
  subst ha hA hb hg
  exact ⟨a, A, m, c, xs, b, g, rfl, wa, hx1, hx2, hx3, hx4, hx5, wb, wg⟩
/-- A slice of bools. -/
theorem bools {t e : TypeId} {held : Bool} {v : Value} {d : DataW H} {ps : List MemPlace} (ht : P.underlying t = some (.slice e)) (he : P.underlying e = some .bool) (hc : P.cellsOf e = 1)
    (hv : ∃ u, v.cells.toList = [u] ∧ v = u) (h : DataW.Trod enc P w 0 (fun _ => true) held t v d ps) :
    ∃ (A : Option Addr) (n c : Nat) (bs : List Bool), v = .slice A n c ∧ bs.length = n ∧ (n = 0 ∨ ∃ el sp, d = .slice el sp ∧ el.length = n) ∧ ∀ j b, bs[j]? = some b → ∃ ad : Addr, A = some ad ∧ ad.block < w.heap.size ∧ w.cell? (ad.add j) = some (.bool b) := by
  obtain ⟨u, hu, rfl⟩ := hv
  obtain ⟨fuel, hf⟩ := h
  rw [hu] at hf
  rcases open_bools ht he hc hf with ⟨hcs, _⟩ | ⟨a, len, cap, B, hcs, _, hl, hm, hd, hcell⟩
  · have e1 : v = .slice none 0 0 := by simpa using hcs
    exact ⟨none, 0, 0, [], e1, rfl, .inl rfl, fun j b h => by simp at h⟩
  · have e1 : v = .slice (some a) len cap := by simpa using hcs
    refine ⟨some a, len, cap, (List.range len).map B, e1, by simp, .inr ?_, fun j b hj => ?_⟩
    · injection hd with hd _
      exact ⟨_, _, hd, by simp⟩
    have hj1 : j < len := by have := (List.getElem?_eq_some_iff.mp hj).1; simpa using this
    rw [List.getElem?_map, List.getElem?_range hj1] at hj
    obtain rfl := Option.some.inj hj
    have hc := hcell j (by omega)
    have hb := World.block_lt_of_cell? w _ hc
    rw [blockAdd] at hb
    exact ⟨a, rfl, hb, hc⟩
end
end Opn
end Go.Proofs.YtfeahgcigmoijaaGreatDoor
