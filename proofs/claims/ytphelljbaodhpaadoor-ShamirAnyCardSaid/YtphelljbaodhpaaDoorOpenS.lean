/- What an argument that can be read holds: structs of two integers, by value and in slices. No condition. -/
import Derived.Test.YtphelljbaodhpaaDoorOpen
import Derived.Lib.SmallJoins
namespace Go.Proofs.YtphelljbaodhpaaDoor
open Go.ChangeShapes Go.WideShapes Go.ChangeAt Go.RowKit Go.Lib Go.Deep Go.Joins
open SlR
namespace Opn
section
variable {H : Type} {enc : TypeId × Value → H} {P : Program} {w : World}
theorem two {e : TypeId} {f0 f1 : Field} {k0 k1 : IntKind} {base : Nat} {sp : Nat → Bool} {held : Bool} {fuel : Nat} {cs : List Value} {y : DataW H × List MemPlace} (he : P.underlying e = some (.struct #[f0, f1]))
    (h0 : P.underlying f0.type = some (.int k0)) (h1 : P.underlying f1.type = some (.int k1)) (hone : oneCellFields P #[f0, f1] = true) (ce : P.cellsOf e = 2) (h : DataW.trod enc P w base sp held fuel e cs = some y) :
    ∃ a b : Int, cs = [.int k0 a, .int k1 b] ∧ (Lit.int k0 a).wf = true ∧ (Lit.int k1 b).wf = true := by
  obtain ⟨y0, y1, n, _, hl, t0, t1⟩ := trod_struct2 he h
  obtain ⟨o0, q0⟩ := hone_of hone 0 f0 rfl
  obtain ⟨o1, q1⟩ := hone_of hone 1 f1 rfl
  rw [o0, q0] at t0
  rw [o1, q1] at t1
  obtain ⟨a, ha, wa⟩ := cell h0 t0
  obtain ⟨b, hb, wb⟩ := cell h1 t1
  rw [ce] at hl
  match cs, hl with
  | [u, v], _ =>
    simp at ha hb
    exact ⟨a, b, by rw [ha, hb], wa, wb⟩
theorem twoV {e : TypeId} {f0 f1 : Field} {k0 k1 : IntKind} {base : Nat} {sp : Nat → Bool} {held : Bool} {v : Value} {d : DataW H} {ps : List MemPlace} {r : Reach} {b0 : Nat} (he : P.underlying e = some (.struct #[f0, f1]))
    (h0 : P.underlying f0.type = some (.int k0)) (h1 : P.underlying f1.type = some (.int k1)) (hone : oneCellFields P #[f0, f1] = true) (ce : P.cellsOf e = 2) (hv : Value.okWide P w r b0 e v) (h : DataW.Trod enc P w base sp held e v d ps) :
    ∃ a b : Int, v = .agg #[.int k0 a, .int k1 b] ∧ (Lit.int k0 a).wf = true ∧ (Lit.int k1 b).wf = true := by
  obtain ⟨cs, rfl, _⟩ := okWide_struct he hv
  obtain ⟨fuel, hf⟩ := h
  obtain ⟨a, b, hc, wa, wb⟩ := two he h0 h1 hone ce hf
  refine ⟨a, b, ?_, wa, wb⟩
  have e1 : cs.toList = [.int k0 a, .int k1 b] := by simpa [Value.cells] using hc
  congr 1
  apply Array.ext'
  simpa using e1
/-- A slice of structs of two integers. -/
theorem pairs {t e : TypeId} {f0 f1 : Field} {k0 k1 : IntKind} {held : Bool} {v : Value} {d : DataW H} {ps : List MemPlace} (ht : P.underlying t = some (.slice e)) (he : P.underlying e = some (.struct #[f0, f1]))
    (h0 : P.underlying f0.type = some (.int k0)) (h1 : P.underlying f1.type = some (.int k1)) (hone : oneCellFields P #[f0, f1] = true) (ce : P.cellsOf e = 2) (hv : ∃ u, v.cells.toList = [u] ∧ v = u) (h : DataW.Trod enc P w 0 (fun _ => true) held t v d ps) :
    ∃ (A : Option Addr) (n c : Nat) (xs ys : List Int), v = .slice A n c ∧ xs.length = n ∧ ys.length = n ∧ n ≤ c ∧ c ≤ maxLen ∧ (∀ z ∈ xs, (Lit.int k0 z).wf = true) ∧ (∀ z ∈ ys, (Lit.int k1 z).wf = true) ∧
      ∀ j x y, xs[j]? = some x → ys[j]? = some y → ∃ b o, A = some ⟨b, o, none⟩ ∧ b < w.heap.size ∧ w.cell? ⟨b, o + j * 2, none⟩ = some (.int k0 x) ∧ w.cell? ⟨b, o + j * 2 + 1, none⟩ = some (.int k1 y) := by
  obtain ⟨u, hu, rfl⟩ := hv
  obtain ⟨fuel, hf⟩ := h
  rw [hu] at hf
  rcases open_slice ht hf with ⟨hcs, _⟩ | ⟨a, len, cap, m, f, D, Pl, hcs, _, hl, hm, hmm, _, hx⟩
  · have e1 : v = .slice none 0 0 := by simpa using hcs
    exact ⟨none, 0, 0, [], [], e1, rfl, rfl, Nat.le_refl _, Nat.zero_le _, fun z h => by simp at h, fun z h => by simp at h, fun j x y h => by simp at h⟩
  · have e1 : v = .slice (some a) len cap := by simpa using hcs
    simp only [if_true] at hmm
    subst hmm
    have each : ∀ i, i < m → ∃ p : Int × Int, (Lit.int k0 p.1).wf = true ∧ (Lit.int k1 p.2).wf = true ∧ w.cell? (a.add (i * 2)) = some (.int k0 p.1) ∧ w.cell? (a.add (i * 2 + 1)) = some (.int k1 p.2) := by
      intro i hi
      obtain ⟨cs', hc, hd⟩ := hx i hi
      obtain ⟨p, q, rfl, w1, w2⟩ := two he h0 h1 hone ce hd
      rw [ce] at hc
      obtain ⟨_, _, hcell⟩ := World.cells?_some hc
      have g0 := hcell 0 (by omega)
      have g1 := hcell 1 (by omega)
      rw [Addr.add_add] at g0 g1
      exact ⟨(p, q), w1, w2, g0, g1⟩
    let g : Nat → Int × Int := fun i => if h : i < m then (each i h).choose else (0, 0)
    have hg : ∀ i (h : i < m), (Lit.int k0 (g i).1).wf = true ∧ (Lit.int k1 (g i).2).wf = true ∧ w.cell? (a.add (i * 2)) = some (.int k0 (g i).1) ∧ w.cell? (a.add (i * 2 + 1)) = some (.int k1 (g i).2) := by
      intro i h
      have := (each i h).choose_spec
      simp only [g, h, dif_pos]
      exact this
    refine ⟨some a, len, m, (List.range len).map fun i => (g i).1, (List.range len).map fun i => (g i).2, e1, by simp, by simp, hl, hm, ?_, ?_, ?_⟩
    · intro z hz
      obtain ⟨i, hi, rfl⟩ := List.mem_map.mp hz
      have := List.mem_range.mp hi
      exact (hg i (by omega)).1
    · intro z hz
      obtain ⟨i, hi, rfl⟩ := List.mem_map.mp hz
      have := List.mem_range.mp hi
      exact (hg i (by omega)).2.1
    · intro j x y hjx hjy
      have hj1 : j < len := by have := (List.getElem?_eq_some_iff.mp hjx).1; simpa using this
      rw [List.getElem?_map, List.getElem?_range hj1] at hjx hjy
      obtain rfl := Option.some.inj hjx
      obtain rfl := Option.some.inj hjy
      have hs : a.spot = none := by
        have h00 := (hg 0 (by omega)).2.2.1
        rw [Nat.zero_mul] at h00
        have := World.cell?_spot h00
        simpa [Addr.add] using this
      obtain ⟨b, o, s⟩ := a
      obtain rfl : s = none := hs
      obtain ⟨_, _, c0, c1⟩ := hg j (by omega)
      have hb := World.block_lt_of_cell? w _ c0
      rw [Addr.add_lit] at c0 c1
      rw [blockAdd] at hb
      exact ⟨b, o, rfl, hb, c0, c1⟩
end
end Opn
end Go.Proofs.YtphelljbaodhpaaDoor
