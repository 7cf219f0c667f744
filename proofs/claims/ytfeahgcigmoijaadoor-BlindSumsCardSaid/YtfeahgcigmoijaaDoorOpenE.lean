/- What an argument that can be read holds: a slice of structs of two integers, an array of four and a bool. No condition. -/
import Derived.Test.YtfeahgcigmoijaaDoorOpenD
namespace Go.Proofs.YtfeahgcigmoijaaDoor
open Go.ChangeShapes Go.WideShapes Go.ChangeAt Go.RowKit Go.Lib Go.Deep Go.Joins
open SlR
namespace Opn
section
variable {H : Type} {enc : TypeId × Value → H} {P : Program} {w : World}
/-- What is told of the one at a place. -/
def HadAt (w : World) (A : Option Addr) (j : Nat) (k s : Int) (b : Bool) (x : List Int) : Prop :=
  ∃ B O, A = some ⟨B, O, none⟩ ∧ B < w.heap.size ∧ w.cell? ⟨B, O + j * 7, none⟩ = some (.int .u64 k) ∧ (Lit.int .u64 k).wf = true ∧ w.cell? ⟨B, O + j * 7 + 1, none⟩ = some (.int .u64 s) ∧ (Lit.int .u64 s).wf = true ∧
    w.cell? ⟨B, O + j * 7 + 6, none⟩ = some (.bool b) ∧ x.length = 4 ∧ (∀ z ∈ x, (Lit.int .u32 z).wf = true) ∧ ∀ q z, x[q]? = some z → w.cell? ⟨B, O + j * 7 + 2 + q, none⟩ = some (.int .u32 z)
theorem hads {t e : TypeId} {f0 f1 f2 f3 : Field} {eA : TypeId} {held : Bool} {v : Value} {d : DataW H} {ps : List MemPlace} (ht : P.underlying t = some (.slice e)) (he : P.underlying e = some (.struct #[f0, f1, f2, f3]))
    (h0 : P.underlying f0.type = some (.int .u64)) (h1 : P.underlying f1.type = some (.int .u64)) (h2 : P.underlying f2.type = some (.array 4 eA)) (h2e : P.underlying eA = some (.int .u32)) (h3 : P.underlying f3.type = some .bool)
    (ho : [f0.offset, f1.offset, f2.offset, f3.offset] = [0, 1, 2, 6]) (hc : [P.cellsOf f0.type, P.cellsOf f1.type, P.cellsOf f2.type, P.cellsOf f3.type] = [1, 1, 4, 1]) (ce : P.cellsOf e = 7) (cA : P.cellsOf eA = 1)
    (hv : ∃ u, v.cells.toList = [u] ∧ v = u) (h : DataW.Trod enc P w 0 (fun _ => true) held t v d ps) :
    ∃ (A : Option Addr) (n c : Nat) (k s : Nat → Int) (b : Nat → Bool) (x : Nat → List Int), v = .slice A n c ∧ n ≤ c ∧ ∀ j, j < n → HadAt w A j (k j) (s j) (b j) (x j) := by
  simp only [List.cons.injEq, and_true] at ho hc
  obtain ⟨o0, o1, o2, o3⟩ := ho
  obtain ⟨q0, q1, q2, q3⟩ := hc
  obtain ⟨u, hu, rfl⟩ := hv
  obtain ⟨fuel, hf⟩ := h
  rw [hu] at hf
  rcases open_slice ht hf with ⟨hcs, _⟩ | ⟨a, len, cap, m, f, D, Pl, hcs, _, hl, hm, hmm, _, hx⟩
  · have e1 : v = .slice none 0 0 := by simpa using hcs
    exact ⟨none, 0, 0, fun _ => 0, fun _ => 0, fun _ => false, fun _ => [], e1, Nat.le_refl _, fun j hj => absurd hj (Nat.not_lt_zero _)⟩
  · have e1 : v = .slice (some a) len cap := by simpa using hcs
    simp only [if_true] at hmm
    subst hmm
    have each : ∀ i, i < m → ∃ p : Int × Int × Bool × List Int, (Lit.int .u64 p.1).wf = true ∧ (Lit.int .u64 p.2.1).wf = true ∧ p.2.2.2.length = 4 ∧ (∀ z ∈ p.2.2.2, (Lit.int .u32 z).wf = true) ∧
        w.cell? (a.add (i * 7)) = some (.int .u64 p.1) ∧ w.cell? (a.add (i * 7 + 1)) = some (.int .u64 p.2.1) ∧ w.cell? (a.add (i * 7 + 6)) = some (.bool p.2.2.1) ∧ ∀ q z, p.2.2.2[q]? = some z → w.cell? (a.add (i * 7 + 2 + q)) = some (.int .u32 z) := by
      intro i hi
      obtain ⟨cs', hc, hd⟩ := hx i hi
      obtain ⟨xs, nn, _, _, hlen, hxl, hff⟩ := DataW.trod_struct he hd
      have t0 := hff 0 f0 rfl
      have t1 := hff 1 f1 rfl
      have t2 := hff 2 f2 rfl
      have t3 := hff 3 f3 rfl
      have hxl4 : xs.length = 4 := by simpa using hxl
      rw [o0, q0, List.getElem?_eq_getElem (by omega)] at t0
      rw [o1, q1, List.getElem?_eq_getElem (by omega)] at t1
      rw [o2, q2, List.getElem?_eq_getElem (by omega)] at t2
      rw [o3, q3, List.getElem?_eq_getElem (by omega)] at t3
      rw [ce] at hlen hc
      obtain ⟨a0, e0, w0⟩ := cell h0 t0
      obtain ⟨a1, e1, w1⟩ := cell h1 t1
      obtain ⟨zs, hz1, hz2, hz3⟩ := arr h2 h2e cA q2 t2
      obtain ⟨bb, e3⟩ := cellB h3 t3
      obtain ⟨_, _, hcell⟩ := World.cells?_some hc
      have at0 : cs'[0]? = some (.int .u64 a0) := by
        have := congrArg (fun l => l[0]?) e0
        simpa using this
      have at1 : cs'[1]? = some (.int .u64 a1) := by
        have := congrArg (fun l => l[0]?) e1
        simpa using this
      have at6 : cs'[6]? = some (.bool bb) := by
        have := congrArg (fun l => l[0]?) e3
        simpa using this
      have at2 : ∀ q z, zs[q]? = some z → cs'[2 + q]? = some (.int .u32 z) := fun q z hq => by
        have hql : q < 4 := by have := (List.getElem?_eq_some_iff.mp hq).1; omega
        have := congrArg (fun l => l[q]?) hz2
        simp only [List.getElem?_map, hq, Option.map_some] at this
        rw [List.getElem?_take_of_lt hql, List.getElem?_drop] at this
        exact this
      have get : ∀ (p : Nat) (u : Value), cs'[p]? = some u → w.cell? (a.add (i * 7 + p)) = some u := fun p u hp => by
        have hpl := (List.getElem?_eq_some_iff.mp hp).1
        have := hcell p (by omega)
        rw [Addr.add_add] at this
        rw [this, ← hp]
      exact ⟨(a0, a1, bb, zs), w0, w1, hz1, hz3, get 0 _ at0, get 1 _ at1, get 6 _ at6, fun q z hq => by
        have := get (2 + q) _ (at2 q z hq)
        rwa [← Nat.add_assoc] at this⟩
    let g : Nat → Int × Int × Bool × List Int := fun i => if h : i < m then (each i h).choose else (0, 0, false, [])
    refine ⟨some a, len, m, fun i => (g i).1, fun i => (g i).2.1, fun i => (g i).2.2.1, fun i => (g i).2.2.2, e1, hl, fun j hj => ?_⟩
    have hjm : j < m := by omega
    have hs : a.spot = none := by
      obtain ⟨p, _, _, _, _, g00, _⟩ := each 0 (by omega)
      rw [Nat.zero_mul] at g00
      have := World.cell?_spot g00
      simpa [Addr.add] using this
    obtain ⟨B, O, sp⟩ := a
    obtain rfl : sp = none := hs
    have hg : g j = (each j hjm).choose := by simp only [g, dif_pos hjm]
    obtain ⟨g0, g1, g2, g3, g4, g5, g6, g7⟩ := (each j hjm).choose_spec
    rw [← hg] at g0 g1 g2 g3 g4 g5 g6 g7
    simp only [Addr.add_lit] at g4 g5 g6 g7
    have hb := World.block_lt_of_cell? w _ g4
    exact ⟨B, O, rfl, hb, g4, g0, g5, g1, g6, g2, g3, fun q z hq => by
      have := g7 q z hq
      rwa [show O + (j * 7 + 2 + q) = O + j * 7 + 2 + q by omega] at this⟩
end
end Opn
end Go.Proofs.YtfeahgcigmoijaaDoor
