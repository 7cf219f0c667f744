/- What an argument that can be read holds: rows of integers, rows of rows, arrays. No condition. -/
import Derived.Test.YtkihhflmgceckaaDoorExt
import Derived.Deep.Matrix
import Derived.Deep.Slices
import Derived.ProofKit
import Derived.OpenShut
namespace Go.Proofs.YtkihhflmgceckaaDoor
open Go.ChangeShapes Go.WideShapes Go.ChangeAt Go.RowKit Go.Lib Go.Deep
open SlR
namespace Opn
section
variable {H : Type} {enc : TypeId × Value → H} {P : Program} {w : World}
theorem wf_u32 {z : Int} (h : (Lit.int .u32 z).wf = true) : 0 ≤ z ∧ z < 4294967296 := by
  have := bounds_u32 h; omega
/-- A slice of integers. -/
theorem row {t e : TypeId} {k : IntKind} {held : Bool} {v : Value} {d : DataW H} {ps : List MemPlace} (ht : P.underlying t = some (.slice e)) (he : P.underlying e = some (.int k)) (hc : P.cellsOf e = 1)
    (hv : ∃ u, v.cells.toList = [u] ∧ v = u) (h : DataW.Trod enc P w 0 (fun _ => true) held t v d ps) :
    ∃ (A : Option Addr) (n c : Nat) (xs : List Int), v = .slice A n c ∧ xs.length = n ∧ n ≤ c ∧ c ≤ maxLen ∧ Row k w A xs ∧ ∀ z ∈ xs, (Lit.int k z).wf = true := by
  obtain ⟨u, hu, rfl⟩ := hv
  obtain ⟨fuel, hf⟩ := h
  rw [hu] at hf
  rcases open_ints ht he hc hf with ⟨hcs, _⟩ | ⟨a, len, cap, zs, hcs, _, hl, hm, hz, _, hcell, hw⟩
  · have e1 : v = .slice none 0 0 := by simpa using hcs
    exact ⟨none, 0, 0, [], e1, rfl, Nat.le_refl _, Nat.zero_le _, Row.nil, fun z h => by simp at h⟩
  · have e1 : v = .slice (some a) len cap := by simpa using hcs
    simp only [if_true] at hz
    refine ⟨some a, len, cap, zs.take len, e1, by simp [hz]; omega, hl, hm, ?_, fun z h => hw z (List.mem_of_mem_take h)⟩
    intro j x hj
    have hj2 : zs[j]? = some x := by
      rw [List.getElem?_take] at hj
      split at hj
      · exact hj
      · cases hj
    have hlt : j < zs.length := (List.getElem?_eq_some_iff.mp hj2).1
    have hc := hcell j hlt
    have hb := World.block_lt_of_cell? w _ hc
    rw [blockAdd] at hb
    refine ⟨a, rfl, hb, ?_⟩
    rw [hc, List.getD_eq_getElem?_getD, hj2]; rfl
/-- A slice of slices of integers. -/
theorem rows {t e q : TypeId} {k : IntKind} {held : Bool} {v : Value} {d : DataW H} {ps : List MemPlace} (ht : P.underlying t = some (.slice e)) (he : P.underlying e = some (.slice q)) (hq : P.underlying q = some (.int k))
    (ce : P.cellsOf e = 1) (cq : P.cellsOf q = 1) (hv : ∃ u, v.cells.toList = [u] ∧ v = u) (h : DataW.Trod enc P w 0 (fun _ => true) held t v d ps) :
    ∃ (A : Option Addr) (n c : Nat) (ls : List (List Int)), v = .slice A n c ∧ ls.length = n ∧ n ≤ c ∧ c ≤ maxLen ∧ (∀ row ∈ ls, row.length ≤ maxLen ∧ ∀ z ∈ row, (Lit.int k z).wf = true) ∧
      ∀ j row, ls[j]? = some row → ∃ (ad : Addr) (A' : Option Addr) (c' : Nat), A = some ad ∧ ad.block < w.heap.size ∧ w.cell? (ad.add j) = some (.slice A' row.length c') ∧ Row k w A' row := by
  obtain ⟨u, hu, rfl⟩ := hv
  obtain ⟨fuel, hf⟩ := h
  rw [hu] at hf
  rcases open_int_rows ht he hq ce cq hf with ⟨hcs, _⟩ | ⟨a, len, cap, A, L, C, Z, hcs, _, hl, hm, _, hr⟩
  · have e1 : v = .slice none 0 0 := by simpa using hcs
    exact ⟨none, 0, 0, [], e1, rfl, Nat.le_refl _, Nat.zero_le _, fun z h => by simp at h, fun j row h => by simp at h⟩
  · have e1 : v = .slice (some a) len cap := by simpa using hcs
    have hlen : ∀ r, r < cap → ((Z r).take (L r)).length = L r := fun r hr' => by
      obtain ⟨_, h1, _, h2, _⟩ := hr r hr'
      simp [h2]; omega
    refine ⟨some a, len, cap, (List.range len).map fun r => (Z r).take (L r), e1, by simp, hl, hm, ?_, ?_⟩
    · intro row hrow
      obtain ⟨r, hr1, rfl⟩ := List.mem_map.mp hrow
      have hr2 : r < cap := by have := List.mem_range.mp hr1; omega
      obtain ⟨_, h1, h3, h2, h4, _⟩ := hr r hr2
      exact ⟨by rw [hlen r hr2]; omega, fun z hz => h4 z (List.mem_of_mem_take hz)⟩
    · intro j row hj
      have hj1 : j < len := by have := (List.getElem?_eq_some_iff.mp hj).1; simpa using this
      have hj2 : row = (Z j).take (L j) := by
        rw [List.getElem?_map, List.getElem?_range hj1] at hj
        exact (Option.some.inj hj).symm
      obtain ⟨hcell, h1, h3, h2, h4, h5, h6⟩ := hr j (by omega)
      have hb := World.block_lt_of_cell? w _ hcell
      rw [blockAdd] at hb
      refine ⟨a, A j, C j, rfl, hb, by rw [hj2, hlen j (by omega)]; exact hcell, ?_⟩
      intro i x hx
      rw [hj2, List.getElem?_take] at hx
      split at hx
      case isFalse => cases hx
      have hi : i < (Z j).length := (List.getElem?_eq_some_iff.mp hx).1
      cases hA : A j with
      | none => have := h5 hA; omega
      | some a' =>
        obtain ⟨_, h7⟩ := h6 a' hA
        have h8 := h7 i (by omega)
        have hb := World.block_lt_of_cell? w _ h8
        rw [blockAdd] at hb
        exact ⟨a', rfl, hb, by rw [h8, List.getD_eq_getElem?_getD, hx]; rfl⟩
/-- One cell of an integer type. -/
theorem cell {e : TypeId} {k : IntKind} {base : Nat} {sp : Nat → Bool} {held : Bool} {fuel : Nat} {cs : List Value} {y : DataW H × List MemPlace} (he : P.underlying e = some (.int k)) (h : DataW.trod enc P w base sp held fuel e cs = some y) :
    ∃ z, cs = [.int k z] ∧ (Lit.int k z).wf = true := by
  cases fuel with
  | zero => simp [DataW.trod] at h
  | succ m =>
    unfold DataW.trod at h
    simp only [he] at h
    split at h
    case h_2 =>
      rename_i k1 k2 z heq
      obtain rfl : k = k1 := by injection heq with h1; injection h1
      split at h
      · rename_i hw; exact ⟨z, by rw [hw.1], hw.2⟩
      · cases h
    all_goals first
      | (rename_i heq; cases heq; done)
      | (cases h; done)
      | (exfalso; simp_all; done)
/-- An array of integers. -/
theorem arr {t e : TypeId} {k : IntKind} {n : Nat} {base : Nat} {sp : Nat → Bool} {held : Bool} {fuel : Nat} {cs : List Value} {y : DataW H × List MemPlace} (ht : P.underlying t = some (.array n e)) (he : P.underlying e = some (.int k)) (hc : P.cellsOf e = 1) (hn : P.cellsOf t = n)
    (h : DataW.trod enc P w base sp held fuel t cs = some y) : ∃ zs : List Int, zs.length = n ∧ cs = zs.map (Value.int k) ∧ ∀ z ∈ zs, (Lit.int k z).wf = true := by
  obtain ⟨xs, m, _, _, hl, hxl, hx⟩ := DataW.trod_array ht h
  rw [hn] at hl
  have each : ∀ i (hi : i < cs.length), ∃ z, cs[i] = .int k z ∧ (Lit.int k z).wf = true := by
    intro i hi
    have h1 := hx i (by omega)
    rw [hc, Nat.mul_one, List.getElem?_eq_getElem (by omega : i < xs.length)] at h1
    obtain ⟨z, hz, hw⟩ := cell he h1
    have hz2 : cs[i] = .int k z := by
      have e1 : (cs.drop i).take 1 = [cs[i]] := by rw [List.drop_eq_getElem_cons hi]; rfl
      rw [e1] at hz
      injection hz
    exact ⟨z, hz2, hw⟩
  refine ⟨cs.map intOf, by simp [hl], ?_, ?_⟩
  · apply List.ext_getElem (by simp)
    intro i h1 h2
    obtain ⟨z, hz, _⟩ := each i h1
    simp [hz, intOf]
  · intro z hz
    obtain ⟨u, hu, rfl⟩ := List.mem_map.mp hz
    obtain ⟨i, hi, rfl⟩ := List.mem_iff_getElem.mp hu
    obtain ⟨z, hz, hw⟩ := each i hi
    rw [hz]; exact hw
theorem arrV {t e : TypeId} {k : IntKind} {n : Nat} {base : Nat} {sp : Nat → Bool} {held : Bool} {v : Value} {d : DataW H} {ps : List MemPlace} {r : Reach} {b0 : Nat} (ht : P.underlying t = some (.array n e)) (he : P.underlying e = some (.int k)) (hc : P.cellsOf e = 1) (hn : P.cellsOf t = n)
    (hv : Value.okWide P w r b0 t v) (h : DataW.Trod enc P w base sp held t v d ps) : ∃ zs : List Int, zs.length = n ∧ v = .agg (zs.map (Value.int k)).toArray ∧ ∀ z ∈ zs, (Lit.int k z).wf = true := by
  simp only [Value.okWide, ht] at hv
  obtain ⟨cs, rfl, _⟩ := hv
  obtain ⟨fuel, hf⟩ := h
  obtain ⟨zs, h1, h2, h3⟩ := arr ht he hc hn hf
  refine ⟨zs, h1, ?_, h3⟩
  rw [← h2]; simp [Value.cells]
theorem sliceV {t e : TypeId} {v : Value} {r : Reach} {b0 : Nat} (ht : P.underlying t = some (.slice e)) (hv : Value.okWide P w r b0 t v) : ∃ u, v.cells.toList = [u] ∧ v = u := by
  obtain ⟨a0, len, cap, rfl⟩ := okWide_slice ht hv
  exact ⟨_, rfl, rfl⟩
/-- A slice of arrays of integers. -/
theorem arrs {t e q : TypeId} {k : IntKind} {n8 : Nat} {held : Bool} {v : Value} {d : DataW H} {ps : List MemPlace} (ht : P.underlying t = some (.slice e)) (he : P.underlying e = some (.array n8 q)) (hq : P.underlying q = some (.int k))
    (cq : P.cellsOf q = 1) (ce : P.cellsOf e = n8) (hv : ∃ u, v.cells.toList = [u] ∧ v = u) (h : DataW.Trod enc P w 0 (fun _ => true) held t v d ps) :
    ∃ (A : Option Addr) (n c : Nat) (ls : List (List Int)), v = .slice A n c ∧ ls.length = n ∧ n ≤ c ∧ c ≤ maxLen ∧ (∀ row ∈ ls, row.length = n8 ∧ ∀ z ∈ row, (Lit.int k z).wf = true) ∧
      ∀ j row, ls[j]? = some row → ∃ ad : Addr, A = some ad ∧ Row k w (some (ad.add (j * n8))) row := by
  obtain ⟨u, hu, rfl⟩ := hv
  obtain ⟨fuel, hf⟩ := h
  rw [hu] at hf
  rcases open_slice ht hf with ⟨hcs, _⟩ | ⟨a, len, cap, m, f, D, Pl, hcs, _, hl, hm, hmm, _, hx⟩
  · have e1 : v = .slice none 0 0 := by simpa using hcs
    exact ⟨none, 0, 0, [], e1, rfl, Nat.le_refl _, Nat.zero_le _, fun z h => by simp at h, fun j row h => by simp at h⟩
  · have e1 : v = .slice (some a) len cap := by simpa using hcs
    simp only [if_true] at hmm
    subst hmm
    have each : ∀ i, i < m → ∃ zs : List Int, zs.length = n8 ∧ (∀ z ∈ zs, (Lit.int k z).wf = true) ∧ Row k w (some (a.add (i * n8))) zs := by
      intro i hi
      obtain ⟨cs', hc, hd⟩ := hx i hi
      obtain ⟨zs, h1, h2, h3⟩ := arr he hq cq ce hd
      refine ⟨zs, h1, h3, ?_⟩
      rw [ce] at hc
      obtain ⟨_, hlen, hcell⟩ := World.cells?_some hc
      intro j x hj
      have hjl : j < zs.length := (List.getElem?_eq_some_iff.mp hj).1
      have h4 := hcell j (by omega)
      rw [h2, List.getElem?_map, hj] at h4
      have hb := World.block_lt_of_cell? w _ h4
      rw [blockAdd] at hb
      exact ⟨_, rfl, hb, h4⟩
    let g : Nat → List Int := fun i => if h : i < m then (each i h).choose else []
    have hg : ∀ i (h : i < m), (g i).length = n8 ∧ (∀ z ∈ g i, (Lit.int k z).wf = true) ∧ Row k w (some (a.add (i * n8))) (g i) := by
      intro i h
      have := (each i h).choose_spec
      simp only [g, h, dif_pos]
      exact this
    refine ⟨some a, len, m, (List.range len).map g, e1, by simp, hl, hm, ?_, ?_⟩
    · intro row hrow
      obtain ⟨i, hi, rfl⟩ := List.mem_map.mp hrow
      have := List.mem_range.mp hi
      exact ⟨(hg i (by omega)).1, (hg i (by omega)).2.1⟩
    · intro j row hj
      have hj1 : j < len := by have := (List.getElem?_eq_some_iff.mp hj).1; simpa using this
      rw [List.getElem?_map, List.getElem?_range hj1] at hj
      obtain rfl := Option.some.inj hj
      exact ⟨a, rfl, (hg j (by omega)).2.2⟩
end
end Opn
end Go.Proofs.YtkihhflmgceckaaDoor
