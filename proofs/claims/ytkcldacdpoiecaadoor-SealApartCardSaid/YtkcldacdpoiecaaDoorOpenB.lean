/- What an argument that can be read holds: a struct of an array of integers and a slice of slices of integers, an array of two slices of slices of integers. No condition. -/
import Derived.Test.YtkcldacdpoiecaaDoorPkA
namespace Go.Proofs.YtkcldacdpoiecaaDoor
open Go.ChangeShapes Go.WideShapes Go.ChangeAt Go.RowKit Go.Lib Go.Deep Go.Joins
open SlR
namespace Opn
section
variable {H : Type} {enc : TypeId × Value → H} {P : Program} {w : World}
/-- What is read of a slice of slices. -/
def RowsOf (k : IntKind) (w : World) (A : Option Addr) (ls : List (List Int)) : Prop :=
  ∀ j row, ls[j]? = some row → ∃ (ad : Addr) (A' : Option Addr) (c' : Nat), A = some ad ∧ ad.block < w.heap.size ∧ w.cell? (ad.add j) = some (.slice A' row.length c') ∧ Row k w A' row
theorem rowsF {t e q : TypeId} {k : IntKind} {held : Bool} {fuel : Nat} {cs : List Value} {y : DataW H × List MemPlace} (ht : P.underlying t = some (.slice e)) (he : P.underlying e = some (.slice q)) (hq : P.underlying q = some (.int k))
    (ce : P.cellsOf e = 1) (cq : P.cellsOf q = 1) (h : DataW.trod enc P w 0 (fun _ => true) held fuel t cs = some y) :
    ∃ (A : Option Addr) (n c : Nat) (ls : List (List Int)), cs = [.slice A n c] ∧ ls.length = n ∧ n ≤ c ∧ c ≤ maxLen ∧ (∀ row ∈ ls, row.length ≤ maxLen ∧ ∀ z ∈ row, (Lit.int k z).wf = true) ∧ RowsOf k w A ls := by
  have hcs : ∃ u : Value, cs = [u] ∧ u.cells.toList = [u] := by
    rcases open_int_rows ht he hq ce cq h with ⟨h1, _⟩ | ⟨a, len, cap, A, L, C, Z, h1, _⟩
    · exact ⟨_, h1, rfl⟩
    · exact ⟨_, h1, rfl⟩
  obtain ⟨u, rfl, hu⟩ := hcs
  obtain ⟨A, n, c, ls, h1, h2, h3, h4, h5, h6⟩ := rows (v := u) (d := y.1) (ps := y.2) ht he hq ce cq ⟨u, hu, rfl⟩ ⟨fuel, by rw [hu]; exact h⟩
  exact ⟨A, n, c, ls, by rw [h1], h2, h3, h4, h5, h6⟩
/-- A struct of an array of integers and a slice of slices of integers. -/
theorem arrRows {e t0 q0 t1 e1 q1 : TypeId} {f0 f1 : Field} {k0 k1 : IntKind} {N : Nat} {held : Bool} {v : Value} {d : DataW H} {ps : List MemPlace} {r : Reach} {b0 : Nat} (he : P.underlying e = some (.struct #[f0, f1])) (e0 : f0.type = t0) (e1' : f1.type = t1)
    (o0 : f0.offset = 0) (o1 : f1.offset = N) (h0 : P.underlying t0 = some (.array N q0)) (h0q : P.underlying q0 = some (.int k0)) (h1 : P.underlying t1 = some (.slice e1)) (h1e : P.underlying e1 = some (.slice q1)) (h1q : P.underlying q1 = some (.int k1))
    (c0 : P.cellsOf t0 = N) (cq0 : P.cellsOf q0 = 1) (c1 : P.cellsOf t1 = 1) (ce1 : P.cellsOf e1 = 1) (cq1 : P.cellsOf q1 = 1) (ce : P.cellsOf e = N + 1) (hv : Value.okWide P w r b0 e v) (h : DataW.Trod enc P w 0 (fun _ => true) held e v d ps) :
    ∃ (s : List Int) (A : Option Addr) (n c : Nat) (ls : List (List Int)), v = .agg (s.map (Value.int k0) ++ [Value.slice A n c]).toArray ∧ s.length = N ∧ (∀ z ∈ s, (Lit.int k0 z).wf = true) ∧ ls.length = n ∧ n ≤ c ∧ c ≤ maxLen ∧ (∀ row ∈ ls, row.length ≤ maxLen ∧ ∀ z ∈ row, (Lit.int k1 z).wf = true) ∧ RowsOf k1 w A ls := by
  obtain ⟨cs, rfl, hsz⟩ := okWide_struct he hv
  obtain ⟨fuel, hf⟩ := h
  obtain ⟨y0, y1, m, _, hl, t0', t1'⟩ := trod_struct2 he hf
  rw [e0, o0, c0, List.drop_zero] at t0'
  rw [e1', o1, c1] at t1'
  obtain ⟨s, hs1, hs2, hs3⟩ := arr h0 h0q cq0 c0 t0'
  obtain ⟨A, n, c, ls, hA, hx1, hx2, hx3, hx4, hx5⟩ := rowsF h1 h1e h1q ce1 cq1 t1'
  refine ⟨s, A, n, c, ls, ?_, hs1, hs3, hx1, hx2, hx3, hx4, hx5⟩
  have hcl : (Value.agg cs).cells.toList = cs.toList := rfl
  rw [hcl] at hs2 hA
  have hlen : cs.toList.length = N + 1 := by rw [Array.length_toList, hsz, ce]
  have e2 : cs.toList = s.map (Value.int k0) ++ [Value.slice A n c] := by
    rw [← hs2, ← hA, List.take_of_length_le (l := cs.toList.drop N) (by rw [List.length_drop, hlen]; omega), List.take_append_drop]
  congr 1
  apply Array.ext'
  rw [e2]
/-- An array of two slices of slices of integers. -/
theorem twoRows {t t1 e1 q1 : TypeId} {k1 : IntKind} {held : Bool} {v : Value} {d : DataW H} {ps : List MemPlace} {r : Reach} {b0 : Nat} (ht : P.underlying t = some (.array 2 t1)) (h1 : P.underlying t1 = some (.slice e1)) (h1e : P.underlying e1 = some (.slice q1)) (h1q : P.underlying q1 = some (.int k1))
    (c1 : P.cellsOf t1 = 1) (ce1 : P.cellsOf e1 = 1) (cq1 : P.cellsOf q1 = 1) (ce : P.cellsOf t = 2) (hv : Value.okWide P w r b0 t v) (h : DataW.Trod enc P w 0 (fun _ => true) held t v d ps) :
    ∃ (A : Option Addr) (n c : Nat) (ls : List (List Int)) (A2 : Option Addr) (n2 c2 : Nat) (ls2 : List (List Int)), v = .agg #[.slice A n c, .slice A2 n2 c2] ∧
      ls.length = n ∧ n ≤ c ∧ c ≤ maxLen ∧ (∀ row ∈ ls, row.length ≤ maxLen ∧ ∀ z ∈ row, (Lit.int k1 z).wf = true) ∧ RowsOf k1 w A ls ∧
      ls2.length = n2 ∧ n2 ≤ c2 ∧ c2 ≤ maxLen ∧ (∀ row ∈ ls2, row.length ≤ maxLen ∧ ∀ z ∈ row, (Lit.int k1 z).wf = true) ∧ RowsOf k1 w A2 ls2 := by
  simp only [Value.okWide, ht] at hv
  obtain ⟨cs, rfl, hsz⟩ := hv
  obtain ⟨fuel, hf⟩ := h
  obtain ⟨xs, m, _, _, hl, hxl, hx⟩ := DataW.trod_array ht hf
  have hcl : (Value.agg cs).cells.toList = cs.toList := rfl
  rw [hcl] at hl hx
  rw [ce] at hl
  have x0 := hx 0 (by omega)
  have x1 := hx 1 (by omega)
  rw [c1, List.getElem?_eq_getElem (by omega : 0 < xs.length)] at x0
  rw [c1, List.getElem?_eq_getElem (by omega : 1 < xs.length)] at x1
  obtain ⟨A, n, c, ls, hA, hb⟩ := rowsF h1 h1e h1q ce1 cq1 x0
  obtain ⟨A2, n2, c2, ls2, hA2, hb2, hb3, hb4, hb5, hb6⟩ := rowsF h1 h1e h1q ce1 cq1 x1
  obtain ⟨hb1, hb7, hb8, hb9, hb10⟩ := hb
  refine ⟨A, n, c, ls, A2, n2, c2, ls2, ?_, hb1, hb7, hb8, hb9, hb10, hb2, hb3, hb4, hb5, hb6⟩
  have e2 : cs.toList = [.slice A n c, .slice A2 n2 c2] := by
    match hcs : cs.toList, hl with
    | [u, v], _ =>
      rw [hcs] at hA hA2
      simp at hA hA2
      rw [hA, hA2]
  congr 1
  apply Array.ext'
  rw [e2]
end
end Opn
end Go.Proofs.YtkcldacdpoiecaaDoor
