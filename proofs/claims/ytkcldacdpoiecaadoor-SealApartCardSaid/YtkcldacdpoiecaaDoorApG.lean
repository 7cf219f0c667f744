/- Appends of integers onto a row of the call's own, and what becomes of all other blocks: they stay. Conditions: lengths as stated. -/
import Derived.Test.YtkcldacdpoiecaaDoorPkA
namespace Go.Proofs.YtkcldacdpoiecaaDoor
open Go.RowKit Go.Lib
namespace ApG
open SlR
variable {P : Program}
/-- Blocks that are not the row's own stay, and are not the new row's. -/
def Kept (w w' : World) (v v' : Value) : Prop := w.heap.size ≤ w'.heap.size ∧ ∀ g, g < w.heap.size → v.ownBlock ≠ some g → v'.ownBlock ≠ some g ∧ w'.heap[g]? = w.heap[g]?
theorem Kept.cell {w w' : World} {v v' : Value} (h : Kept w w' v v') {g : Nat} (hg : g < w.heap.size) (hv : v.ownBlock ≠ some g) (o : Nat) : w'.cell? ⟨g, o, none⟩ = w.cell? ⟨g, o, none⟩ := by
  have := (h.2 g hg hv).2
  simp [World.cell?, this]
theorem run (k : IntKind) (W w1 : World) {w : World} [e1 : Ext w1 w] [e2 : Ext W w] (t ty e : TypeId) (i : TypeInfo) (z : Value) (bytes : Nat) (ht : P.underlying t = some (.slice e)) (hi : P.info? e = some i) (hz : i.zero = some z)
    (hsize : i.size = 1) (hby : i.bytes = bytes) (hzs : z.cells.size = 1) (v : Value) (n : Nat) (xs : List Int) (hown : ApE.Own k e w1 W.heap.size v n xs)
    (A : Option Addr) (l c : Nat) (news : List Int) (hm : news.length = l) (hr : Row k w A news) (h63 : n + l ≤ 1000000000) (hb : bytes ≤ 8) :
    ∃ A' c' w', (Builtin.append_ #[t, t] ty #[v, .slice A l c]).run P w = .ok (.slice A' (n + l) c') w' ∧ ApE.Own k e w' W.heap.size (.slice A' (n + l) c') (n + l) (xs ++ news) ∧ Step W w' ∧ Kept w1 w' v (.slice A' (n + l) c') := by
  have hown2 : ApE.Own k e w W.heap.size v n xs := ApE.own_ext hown e1
  have hbb : (n + l) * bytes ≤ 140737488355328 := Nat.le_trans (Nat.mul_le_mul h63 hb) (by omega)
  cases A with
  | none =>
    have hn : news = [] := by
      cases news with
      | nil => rfl
      | cons a q => obtain ⟨ad, h, _⟩ := hr 0 a rfl; cases h
    subst hn
    obtain rfl : l = 0 := hm.symm
    obtain ⟨A', c', rfl⟩ := own_form hown2
    exact ⟨A', c', w, App.runNil w W.heap.size t ty e i 1 ht hi _ n _ hown2 c, by simpa using hown2, ⟨e2.h⟩, e1.size, fun g hg hv => ⟨hv, e1.h.block g hg⟩⟩
  | some ad =>
    obtain ⟨v', w', hrun, h2, h3, _, h5⟩ := run_append_own_at (P := P) w W.heap.size t ty e i z 1 bytes ht hi hz hsize hby hzs (by omega) v n _ hown2 ad l c (news.map (Value.int k)) (by simp [hm]) (fun j q hj => by
        rw [List.getElem?_map] at hj
        obtain ⟨x, hx, rfl⟩ := Option.map_eq_some_iff.mp hj
        obtain ⟨ad', h, _, hc⟩ := hr j x hx
        cases h
        exact hc) (by intro q hq; obtain ⟨x, _, rfl⟩ := List.mem_map.mp hq; rfl) (by unfold maxLen; omega) hbb e2.size
    obtain ⟨A', c', rfl⟩ := own_form h2
    refine ⟨A', c', w', hrun, by unfold ApE.Own; rw [List.map_append]; exact h2, ⟨ApE.below_own e2.h h3 hown2 (Nat.le_refl _) e2.size⟩, Nat.le_trans e1.size h3.size, fun g hg hv => ⟨fun hv' => ?_, ?_⟩⟩
    · rcases h5 with e | e
      · rw [e] at hv'; exact hv hv'
      · rw [e] at hv'
        injection hv' with hv'
        have := e1.size
        omega
    · rw [h3.block g (by have := e1.size; omega) (fun e => hv e.symm)]
      exact e1.h.block g hg
theorem wp {ops : Array Oper} {rest : List Oper} {o : Oper} {a : Act} {Q : Exit → Act → World → Prop} (k : IntKind) (W w1 : World) {w : World} [e1 : Ext w1 w] [e2 : Ext W w] (hgd : o.guard = none) (s x : Operand) (t : TypeId)
    (ho : o.op = .call { callee := .builtin .append, args := #[s, x], argTypes := #[t, t] }) (e : TypeId) (i : TypeInfo) (z : Value) (bytes : Nat) (ht : P.underlying t = some (.slice e)) (hi : P.info? e = some i) (hz : i.zero = some z)
    (hsize : i.size = 1) (hby : i.bytes = bytes) (hzs : z.cells.size = 1) (v : Value) (n : Nat) (xs : List Int) (hs : a.eval s = v) (hown : ApE.Own k e w1 W.heap.size v n xs)
    (A : Option Addr) (l c : Nat) (news : List Int) (hx : a.eval x = .slice A l c) (hm : news.length = l) (hr : Row k w A news) (h63 : n + l ≤ 1000000000) (hb : bytes ≤ 8)
    (h : ∀ A' c' w', ApE.Own k e w' W.heap.size (.slice A' (n + l) c') (n + l) (xs ++ news) → Step W w' → Kept w1 w' v (.slice A' (n + l) c') → wpList P ops Q rest (a.put o.dst (.slice A' (n + l) c')) w') : wpList P ops Q (o :: rest) a w := by
  refine wpList_plain hgd fun K hK => ?_
  obtain ⟨A', c', w', hrun, h2, h3, h4⟩ := run k W w1 t o.type e i z bytes ht hi hz hsize hby hzs v n xs hown A l c news hm hr h63 hb
  unfold Oper.wp
  simp only [execOp, ho, resolve, invoke, builtin, Sem.run_bind, Sem.run_pure, Result.andThen_ok, List.map_toArray, List.map_cons, List.map_nil, hs, hx, hrun]
  exact hK _ _ (h A' c' w' h2 h3 h4)
end ApG
end Go.Proofs.YtkcldacdpoiecaaDoor
