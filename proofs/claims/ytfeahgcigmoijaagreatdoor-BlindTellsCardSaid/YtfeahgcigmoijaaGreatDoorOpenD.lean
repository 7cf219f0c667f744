/- What an argument that can be read holds: a struct by value of integers and of slices of integers and of structs of two; a slice of structs of two integers, an array and a bool. No condition. -/
import Derived.Test.YtfeahgcigmoijaaGreatDoorOpenA
namespace Go.Proofs.YtfeahgcigmoijaaGreatDoor
open Go.ChangeShapes Go.WideShapes Go.ChangeAt Go.RowKit Go.Lib Go.Deep Go.Joins
open SlR
namespace Opn
section
variable {H : Type} {enc : TypeId × Value → H} {P : Program} {w : World}
/-- One cell of the bools. -/
theorem cellB {e : TypeId} {base : Nat} {sp : Nat → Bool} {held : Bool} {fuel : Nat} {cs : List Value} {y : DataW H × List MemPlace} (he : P.underlying e = some .bool) (h : DataW.trod enc P w base sp held fuel e cs = some y) : ∃ b, cs = [.bool b] := by
  cases fuel with
  | zero => simp [DataW.trod] at h
  | succ m =>
    unfold DataW.trod at h
    simp only [he] at h
    split at h
    all_goals first
      | exact ⟨_, rfl⟩
      | (rename_i heq; cases heq; done)
      | (cases h; done)
      | (exfalso; simp_all; done)
/-- A slice of structs of two integers, from its one cell. -/
theorem pairsF {t e : TypeId} {f0 f1 : Field} {k0 k1 : IntKind} {held : Bool} {fuel : Nat} {cs : List Value} {y : DataW H × List MemPlace} (ht : P.underlying t = some (.slice e)) (he : P.underlying e = some (.struct #[f0, f1]))
    (h0 : P.underlying f0.type = some (.int k0)) (h1 : P.underlying f1.type = some (.int k1)) (hone : oneCellFields P #[f0, f1] = true) (ce : P.cellsOf e = 2) (hf : DataW.trod enc P w 0 (fun _ => true) held fuel t cs = some y) :
    ∃ (A : Option Addr) (n c : Nat) (xs ys : List Int), cs = [.slice A n c] ∧ xs.length = n ∧ ys.length = n ∧ n ≤ c ∧ c ≤ maxLen ∧ (∀ z ∈ xs, (Lit.int k0 z).wf = true) ∧ (∀ z ∈ ys, (Lit.int k1 z).wf = true) ∧
      ∀ j x y, xs[j]? = some x → ys[j]? = some y → ∃ b o, A = some ⟨b, o, none⟩ ∧ b < w.heap.size ∧ w.cell? ⟨b, o + j * 2, none⟩ = some (.int k0 x) ∧ w.cell? ⟨b, o + j * 2 + 1, none⟩ = some (.int k1 y) := by
  rcases open_slice ht hf with ⟨hcs, _⟩ | ⟨a, len, cap, m, f, D, Pl, hcs, _, hl, hm, hmm, _, hx⟩
  · have e1 : cs = [.slice none 0 0] := hcs
    exact ⟨none, 0, 0, [], [], e1, rfl, rfl, Nat.le_refl _, Nat.zero_le _, fun z h => by simp at h, fun z h => by simp at h, fun j x y h => by simp at h⟩
  · have e1 : cs = [.slice (some a) len cap] := hcs
    simp only [if_true] at hmm
    subst hmm
    have each : ∀ i, i < m → ∃ p : Int × Int, (Lit.int k0 p.1).wf = true ∧ (Lit.int k1 p.2).wf = true ∧ w.cell? (a.add (i * 2)) = some (.int k0 p.1) ∧ w.cell? (a.add (i * 2 + 1)) = some (.int k1 p.2) := by
      intro i hi
      obtain ⟨cs', hc, hd⟩ := hx i hi
      obtain ⟨p, q, rfl, w1, w2⟩ := two he h0 h1 hone ce hd
      rw [ce] at hc
      obtain ⟨_, _, hcell⟩ := World.cells?_some hc
      have g0 := hcell 0 (by omega)
      have g1 := hcell 1 (by omega)
      rw [Addr.add_add] at g0 g1
      exact ⟨(p, q), w1, w2, g0, g1⟩
    let g : Nat → Int × Int := fun i => if h : i < m then (each i h).choose else (0, 0)
    have hg : ∀ i (h : i < m), (Lit.int k0 (g i).1).wf = true ∧ (Lit.int k1 (g i).2).wf = true ∧ w.cell? (a.add (i * 2)) = some (.int k0 (g i).1) ∧ w.cell? (a.add (i * 2 + 1)) = some (.int k1 (g i).2) := by
      intro i h
      have := (each i h).choose_spec
      simp only [g, h, dif_pos]
      exact this
    refine ⟨some a, len, m, (List.range len).map fun i => (g i).1, (List.range len).map fun i => (g i).2, e1, by simp, by simp, hl, hm, ?_, ?_, ?_⟩
    · intro z hz
      obtain ⟨i, hi, rfl⟩ := List.mem_map.mp hz
      have := List.mem_range.mp hi
      exact (hg i (by omega)).1
    · intro z hz
      obtain ⟨i, hi, rfl⟩ := List.mem_map.mp hz
      have := List.mem_range.mp hi
      exact (hg i (by omega)).2.1
    · intro j x y hjx hjy
      have hj1 : j < len := by have := (List.getElem?_eq_some_iff.mp hjx).1; simpa using this
      rw [List.getElem?_map, List.getElem?_range hj1] at hjx hjy
      obtain rfl := Option.some.inj hjx
      obtain rfl := Option.some.inj hjy
      have hs : a.spot = none := by
        have h00 := (hg 0 (by omega)).2.2.1
        rw [Nat.zero_mul] at h00
        have := World.cell?_spot h00
        simpa [Addr.add] using this
      obtain ⟨b, o, s⟩ := a
      obtain rfl : s = none := hs
      obtain ⟨_, _, c0, c1⟩ := hg j (by omega)
      have hb := World.block_lt_of_cell? w _ c0
      rw [Addr.add_lit] at c0 c1
      rw [blockAdd] at hb
      exact ⟨b, o, rfl, hb, c0, c1⟩
theorem array8 {α : Type} {cs : Array α} (h : cs.size = 8) : ∃ c0 c1 c2 c3 c4 c5 c6 c7, cs = #[c0, c1, c2, c3, c4, c5, c6, c7] := by
  obtain ⟨l⟩ := cs
  match l, h with
  | [c0, c1, c2, c3, c4, c5, c6, c7], _ => exact ⟨c0, c1, c2, c3, c4, c5, c6, c7, rfl⟩
/-- A struct whose fields are of one cell each: field by field. -/
theorem fieldsV {e : TypeId} {fs : Array Field} {held : Bool} {v : Value} {d : DataW H} {ps : List MemPlace} {r : Reach} {b0 : Nat} (he : P.underlying e = some (.struct fs)) (hone : oneCellFields P fs = true) (hv : Value.okWide P w r b0 e v) (h : DataW.Trod enc P w 0 (fun _ => true) held e v d ps) :
    ∃ cs : Array Value, v = .agg cs ∧ cs.size = P.cellsOf e ∧ ∃ n, ∀ i f, fs[i]? = some f → ∃ y, DataW.trod enc P w 0 (fun _ => true) held n f.type ((cs.toList.drop i).take 1) = some y := by
  obtain ⟨cs, rfl, hsz⟩ := okWide_struct he hv
  obtain ⟨fuel, hf⟩ := h
  obtain ⟨xs, n, _, _, hl, hlen, hx⟩ := DataW.trod_struct he hf
  refine ⟨cs, rfl, hsz, n, fun i f hi => ?_⟩
  obtain ⟨o, q⟩ := hone_of hone i f hi
  have := hx i f hi
  rw [o, q] at this
  have hlt : i < xs.length := by have := (Array.getElem?_eq_some_iff.1 hi).1; omega
  rw [List.getElem?_eq_getElem hlt] at this
  exact ⟨_, by simpa [Value.cells] using this⟩
/-- Layer 10's Ask. -/
theorem ask8 {e es eI eN : TypeId} {f0 f1 f2 f3 f4 f5 f6 f7 g0 g1 : Field} {held : Bool} {v : Value} {d : DataW H} {ps : List MemPlace} {r : Reach} {b0 : Nat} (he : P.underlying e = some (.struct #[f0, f1, f2, f3, f4, f5, f6, f7]))
    (h0 : P.underlying f0.type = some (.int .i64)) (h1 : P.underlying f1.type = some (.slice es)) (h1e : P.underlying es = some (.int .u32)) (h2 : P.underlying f2.type = some (.int .u64)) (h3 : P.underlying f3.type = some (.int .u64))
    (h4 : P.underlying f4.type = some (.slice eI)) (h4e : P.underlying eI = some (.int .i64)) (h5 : P.underlying f5.type = some (.slice eN)) (h5e : P.underlying eN = some (.struct #[g0, g1])) (hg0 : P.underlying g0.type = some (.int .i64)) (hg1 : P.underlying g1.type = some (.int .u64))
    (h6 : P.underlying f6.type = some (.slice eN)) (h7 : P.underlying f7.type = some (.int .i64))
    (hone : oneCellFields P #[f0, f1, f2, f3, f4, f5, f6, f7] = true) (ce : P.cellsOf e = 8) (c1 : P.cellsOf es = 1) (c2 : P.cellsOf eI = 1) (hone2 : oneCellFields P #[g0, g1] = true) (c3 : P.cellsOf eN = 2)
    (hv : Value.okWide P w r b0 e v) (h : DataW.Trod enc P w 0 (fun _ => true) held e v d ps) :
    ∃ (me : Int) (A1 : Option Addr) (n1 c1 : Nat) (xs : List Int) (s k : Int) (A2 : Option Addr) (n2 c2 : Nat) (cm : List Int) (A3 : Option Addr) (n3 c3 : Nat) (si sv : List Int) (A4 : Option Addr) (n4 c4 : Nat) (ki kv : List Int) (dim : Int),
      v = .agg #[.int .i64 me, .slice A1 n1 c1, .int .u64 s, .int .u64 k, .slice A2 n2 c2, .slice A3 n3 c3, .slice A4 n4 c4, .int .i64 dim] ∧ (Lit.int .i64 me).wf = true ∧ (Lit.int .u64 s).wf = true ∧ (Lit.int .u64 k).wf = true ∧ (Lit.int .i64 dim).wf = true ∧
      (xs.length = n1 ∧ Row .u32 w A1 xs ∧ ∀ z ∈ xs, (Lit.int .u32 z).wf = true) ∧ (cm.length = n2 ∧ Row .i64 w A2 cm) ∧
      (si.length = n3 ∧ sv.length = n3 ∧ (∀ z ∈ si, (Lit.int .i64 z).wf = true) ∧ (∀ z ∈ sv, (Lit.int .u64 z).wf = true) ∧ ∀ j x y, si[j]? = some x → sv[j]? = some y → ∃ b o, A3 = some ⟨b, o, none⟩ ∧ b < w.heap.size ∧ w.cell? ⟨b, o + j * 2, none⟩ = some (.int .i64 x) ∧ w.cell? ⟨b, o + j * 2 + 1, none⟩ = some (.int .u64 y)) ∧
      (ki.length = n4 ∧ kv.length = n4 ∧ (∀ z ∈ ki, (Lit.int .i64 z).wf = true) ∧ (∀ z ∈ kv, (Lit.int .u64 z).wf = true) ∧ ∀ j x y, ki[j]? = some x → kv[j]? = some y → ∃ b o, A4 = some ⟨b, o, none⟩ ∧ b < w.heap.size ∧ w.cell? ⟨b, o + j * 2, none⟩ = some (.int .i64 x) ∧ w.cell? ⟨b, o + j * 2 + 1, none⟩ = some (.int .u64 y)) := by
  obtain ⟨cs, rfl, hsz, n, hx⟩ := fieldsV he hone hv h
  rw [ce] at hsz
  obtain ⟨u0, u1, u2, u3, u4, u5, u6, u7, rfl⟩ := array8 hsz
  obtain ⟨_, t0⟩ := hx 0 f0 rfl
  obtain ⟨_, t1⟩ := hx 1 f1 rfl
  obtain ⟨_, t2⟩ := hx 2 f2 rfl
  obtain ⟨_, t3⟩ := hx 3 f3 rfl
  obtain ⟨_, t4⟩ := hx 4 f4 rfl
  obtain ⟨_, t5⟩ := hx 5 f5 rfl
  obtain ⟨_, t6⟩ := hx 6 f6 rfl
  obtain ⟨_, t7⟩ := hx 7 f7 rfl
  obtain ⟨me, e0, w0⟩ := cell h0 t0
  obtain ⟨A1, n1, c1', xs, e1, l1, _, _, r1, b1⟩ := rowF h1 h1e c1 t1
  obtain ⟨s, e2, w2⟩ := cell h2 t2
  obtain ⟨k, e3, w3⟩ := cell h3 t3
  obtain ⟨A2, n2, c2', cm, e4, l4, _, _, r4, _⟩ := rowF h4 h4e c2 t4
  obtain ⟨A3, n3, c3', si, sv, e5, l5, m5, _, _, i5, v5, r5⟩ := pairsF h5 h5e hg0 hg1 hone2 c3 t5
  obtain ⟨A4, n4, c4', ki, kv, e6, l6, m6, _, _, i6, v6, r6⟩ := pairsF h6 h5e hg0 hg1 hone2 c3 t6
  obtain ⟨dim, e7, w7⟩ := cell h7 t7
  simp at e0 e1 e2 e3 e4 e5 e6 e7
  subst e0 e1 e2 e3 e4 e5 e6 e7
  exact ⟨me, A1, n1, c1', xs, s, k, A2, n2, c2', cm, A3, n3, c3', si, sv, A4, n4, c4', ki, kv, dim, rfl, w0, w2, w3, w7, ⟨l1, r1, b1⟩, ⟨l4, r4⟩, ⟨l5, m5, i5, v5, r5⟩, l6, m6, i6, v6, r6⟩
end
end Opn
end Go.Proofs.YtfeahgcigmoijaaGreatDoor
