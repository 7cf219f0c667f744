/- Two slices of rows grown in one statement whose order is open: appends of a literal row wherever it lies, and a copy onto an empty row, as steps of such a region. Conditions: lengths as stated. -/
import Derived.Test.YtfeahgcigmoijaaDoorPkA
namespace Go.Proofs.YtfeahgcigmoijaaDoor
open Go.RowKit Go.Lib
namespace PsR
open SlR Hdr
variable {P : Program}
/-- append of one row onto the headers, wherever the literal lies; another slice of rows stays. -/
theorem push {k : IntKind} {TU TS : TypeId} {ops : Array Oper} {o : Oper} {a : Act} {K : Act → World → Prop} {Q : Exit → Act → World → Prop} {E : Prop} (W w1 : World) {w : World} [e1 : Ext w1 w] [e2 : Ext W w] (hne : TU ≠ TS) (hgd : o.guard = none) (s x : Operand) (t : TypeId)
    (ho : o.op = .call { callee := .builtin .append, args := #[s, x], argTypes := #[t, t] })
    (i : TypeInfo) (z : Value) (bytes : Nat) (ht : P.underlying t = some (.slice TS)) (hi : P.info? TS = some i) (hz : i.zero = some z)
    (hsize : i.size = 1) (hby : i.bytes = bytes) (hzs : z.cells.size = 1) (n n2 : Nat) (v u : Value) (ls ls2 : List (List Int)) (hs : a.eval s = v) (hv : HR k TU TS w1 W.heap.size v n ls) (hu : HR k TU TS w1 W.heap.size u n2 ls2) (hap : Apart u v)
    (H : Nat) (hx : a.eval x = .slice (some ⟨H, 0, none⟩) 1 1) (A : Option Addr) (r c : Nat) (row : List Int) (hl : w.cell? ⟨H, 0, none⟩ = some (.slice A r c)) (hr : row.length = r) (hA : RowU k TU w1 A row)
    (h63 : n + 1 ≤ 1000000) (hb : bytes ≤ 24)
    (h : ∀ A' c' w', HR k TU TS w' W.heap.size (.slice A' (n + 1) c') (n + 1) (ls ++ [row]) → HR k TU TS w' W.heap.size u n2 ls2 → Apart u (.slice A' (n + 1) c') → Step W w' → K (a.put o.dst (.slice A' (n + 1) c')) w') :
    if Region.wanted o (yielded ops a.tmps) = true then Oper.wp P o a w K Q else E := by
  have hw : Region.wanted o (yielded ops a.tmps) = true := by simp [Region.wanted, hgd]
  rw [if_pos hw]
  subst hr
  have hbytes : (n + 1) * bytes ≤ 140737488355328 := Nat.le_trans (Nat.mul_le_mul h63 hb) (by omega)
  have hv1 : HR k TU TS w W.heap.size v n ls := hv.to
  have hu1 : HR k TU TS w W.heap.size u n2 ls2 := hu.to
  have hA1 : RowU k TU w A row := hA.keep (Keeps.of_ext e1)
  obtain ⟨Hs, h1, h2, h3⟩ := hv1
  obtain ⟨v', w', hrun, r1, r2, _, r4⟩ := run_append_own_at (P := P) w W.heap.size t o.type TS i z 1 bytes ht hi hz hsize hby hzs (by omega) v n Hs h1 ⟨H, 0, none⟩ 1 1 [.slice A row.length c] rfl
    (by intro j u hj
        match j, hj with
        | 0, hj => simp at hj; subst hj; simpa [Addr.add] using hl)
    (by intro u hu; simp at hu; subst hu; rfl) (by unfold maxLen; omega) hbytes e2.size
  obtain ⟨A', c', rfl⟩ := own_form r1
  have hk := Keeps.of_grown (TU := TU) hne h1 r2
  obtain ⟨g1, g2⟩ := hu1.other ⟨r2, hk, r4⟩ hap
  unfold Oper.wp
  simp only [execOp, ho, resolve, invoke, builtin, Sem.run_bind, Sem.run_pure, Result.andThen_ok, List.map_toArray, List.map_cons, List.map_nil, hs, hx, hrun]
  refine h A' c' w' ⟨Hs ++ [.slice A row.length c], r1, by simp [h2], ?_⟩ g1 g2 ⟨e2.h.grown r2 e2.size (fun q hq => (h1.lt q hq).1)⟩
  intro j rw' hj
  have hHl : Hs.length = n := by have := h1.1; omega
  by_cases hjn : j < n
  · rw [List.getElem?_append_left (by omega)] at hj
    obtain ⟨A2, c2, h4, h5⟩ := h3 j rw' hj
    exact ⟨A2, c2, by rw [List.getElem?_append_left (by omega)]; exact h4, h5.keep hk⟩
  · rw [List.getElem?_append_right (by omega)] at hj
    have hj0 : j - ls.length = 0 := by
      have := (List.getElem?_eq_some_iff.mp hj).1
      simp at this; omega
    rw [hj0] at hj
    simp at hj
    subst hj
    refine ⟨A, c, ?_, hA1.keep hk⟩
    rw [List.getElem?_append_right (by omega), hHl, show j - n = 0 by omega]
    rfl
/-- A copy of a row that is not empty onto an empty row: whatever is there stays. -/
theorem copy {ops : Array Oper} {o : Oper} {a : Act} {K : Act → World → Prop} {Q : Exit → Act → World → Prop} {E : Prop} (k : IntKind) {w : World} (hgd : o.guard = none) (s x : Operand) (t : TypeId)
    (ho : o.op = .call { callee := .builtin .append, args := #[s, x], argTypes := #[t, t] }) (e : TypeId) (i : TypeInfo) (z : Value) (bytes : Nat) (ht : P.underlying t = some (.slice e)) (hi : P.info? e = some i) (hz : i.zero = some z)
    (hsize : i.size = 1) (hby : i.bytes = bytes) (hb : bytes ≤ 8) (H : Nat) (hs : a.eval s = .slice (some ⟨H, 0, none⟩) 0 0)
    (A : Option Addr) (m c : Nat) (news : List Int) (hx : a.eval x = .slice A m c) (hm : news.length = m) (hr : Row k w A news) (h0 : 0 < m) (h63 : m ≤ 1000000)
    (h : ∀ A' c' w', RowU k e w' A' news → Step w w' → K (a.put o.dst (.slice A' m c')) w') :
    if Region.wanted o (yielded ops a.tmps) = true then Oper.wp P o a w K Q else E := by
  have hw : Region.wanted o (yielded ops a.tmps) = true := by simp [Region.wanted, hgd]
  rw [if_pos hw]
  obtain ⟨ad, x0, rfl, _⟩ := Rd.at hr (j := 0) (by omega)
  have hrun := run_append_grow (P := P) w t o.type e i z ht hi hz ⟨H, 0, none⟩ 0 0 [] (by simp) (by simp) ad m c (news.map (Value.int k)) (by simp [hm, hsize]) (fun j q hj => by
    rw [List.getElem?_map, Option.map_eq_some_iff] at hj
    obtain ⟨y, hy, rfl⟩ := hj
    have hjl := (List.getElem?_eq_some_iff.mp hy).1
    obtain ⟨ad', y', e1, _, hy', hc⟩ := Rd.at hr hjl
    cases e1
    rw [hy] at hy'
    cases hy'
    exact hc) (by omega) (by omega) (by
      rw [hby]
      have hcap : Builtin.nextslicecap (0 + m) 0 ≤ 2 * (0 + m) := nextslicecap_le (by omega)
      exact Nat.le_trans (Nat.mul_le_mul (Nat.le_trans hcap (by omega : 2 * (0 + m) ≤ 2000000)) hb) (by omega))
  unfold Oper.wp
  simp only [execOp, ho, resolve, invoke, builtin, Sem.run_bind, Sem.run_pure, Result.andThen_ok, List.map_toArray, List.map_cons, List.map_nil, hs, hx, hrun]
  rw [Nat.zero_add]
  refine h _ _ _ (fun j y hj => ?_) (Step.of inferInstance)
  refine ⟨⟨w.heap.size, 0, none⟩, _, _, rfl, heap_alloc_new w.drew _, ?_⟩
  have hc := cell_of_row _ _ j _ _ (0, 0) (heap_alloc_new w.drew (.cells (([] : List Value).toArray ++ (news.map (Value.int k)).toArray ++ Builtin.zeroCells z.cells (grownCap w m 0 e - m)) e))
  rw [Addr.add_lit, Nat.zero_add]
  refine hc.trans ?_
  have hjl := (List.getElem?_eq_some_iff.mp hj).1
  rw [Array.getElem?_append_left (by simp; omega)]
  simp [hj]
theorem lit0 (w : World) (v : Value) (t : TypeId) (H : Nat) (h : w.heap.size = H) : (w.alloc (.cells #[v] t (0, 0))).cell? ⟨H, 0, none⟩ = some v := by subst h; simp
theorem lit1 (w : World) (v : Value) (t : TypeId) (o : Obj) (H : Nat) (h : w.heap.size = H) : ((w.alloc (.cells #[v] t (0, 0))).alloc o).cell? ⟨H, 0, none⟩ = some v := by
  subst h
  rw [World.cell?_alloc_lt _ _ _ (by simp)]; simp
theorem lit2 (w : World) (v : Value) (t : TypeId) (o : Obj) (H : Nat) (h : (w.alloc o).heap.size = H) : ((w.alloc o).alloc (.cells #[v] t (0, 0))).cell? ⟨H, 0, none⟩ = some v := lit0 (w.alloc o) v t H h
end PsR
end Go.Proofs.YtfeahgcigmoijaaDoor
