/- Appends of integers of any kind onto one of two rows of the call's own, in growing worlds: the other row stays. Conditions: lengths as stated. -/
import Derived.Test.YtkihhflmgceckaaDoorApE
namespace Go.Proofs.YtkihhflmgceckaaDoor
open Go.RowKit Go.Lib
namespace ApT
open SlR
variable {P : Program}
theorem run (k : IntKind) (W w1 : World) {w : World} [e1 : Ext w1 w] [e2 : Ext W w] (t ty e : TypeId) (i : TypeInfo) (z : Value) (bytes : Nat) (ht : P.underlying t = some (.slice e)) (hi : P.info? e = some i) (hz : i.zero = some z)
    (hsize : i.size = 1) (hby : i.bytes = bytes) (hzs : z.cells.size = 1) (v u : Value) (n m : Nat) (xs ys : List Int) (hown : ApE.Own k e w1 W.heap.size v n xs) (hu : ApE.Own k e w1 W.heap.size u m ys) (ha : Hdr.Apart u v)
    (A : Option Addr) (l c : Nat) (news : List Int) (hm : news.length = l) (hr : Row k w A news) (h63 : n + l ≤ 1000000000) (hb : bytes ≤ 8) :
    ∃ A' c' w', (Builtin.append_ #[t, t] ty #[v, .slice A l c]).run P w = .ok (.slice A' (n + l) c') w' ∧ ApE.Own k e w' W.heap.size (.slice A' (n + l) c') (n + l) (xs ++ news) ∧ ApE.Own k e w' W.heap.size u m ys ∧ Hdr.Apart u (.slice A' (n + l) c') ∧ Step W w' := by
  have hown2 : ApE.Own k e w W.heap.size v n xs := ApE.own_ext hown e1
  have hu2 : ApE.Own k e w W.heap.size u m ys := ApE.own_ext hu e1
  have hbb : (n + l) * bytes ≤ 140737488355328 := Nat.le_trans (Nat.mul_le_mul h63 hb) (by omega)
  cases A with
  | none =>
    have hn : news = [] := by
      cases news with
      | nil => rfl
      | cons a q => obtain ⟨ad, h, _⟩ := hr 0 a rfl; cases h
    subst hn
    obtain rfl : l = 0 := hm.symm
    obtain ⟨A', c', rfl⟩ := own_form hown2
    exact ⟨A', c', w, App.runNil w W.heap.size t ty e i 1 ht hi _ n _ hown2 c, by simpa using hown2, hu2, ha, ⟨e2.h⟩⟩
  | some ad =>
    obtain ⟨v', w', hrun, h2, h3, _, h5⟩ := run_append_own_at (P := P) w W.heap.size t ty e i z 1 bytes ht hi hz hsize hby hzs (by omega) v n _ hown2 ad l c (news.map (Value.int k)) (by simp [hm]) (fun j q hj => by
        rw [List.getElem?_map] at hj
        obtain ⟨x, hx, rfl⟩ := Option.map_eq_some_iff.mp hj
        obtain ⟨ad', h, _, hc⟩ := hr j x hx
        cases h
        exact hc) (by intro q hq; obtain ⟨x, _, rfl⟩ := List.mem_map.mp hq; rfl) (by unfold maxLen; omega) hbb e2.size
    obtain ⟨A', c', rfl⟩ := own_form h2
    refine ⟨A', c', w', hrun, by unfold ApE.Own; rw [List.map_append]; exact h2, hu2.kept h3 ?_, fun g hg hv => ?_, ⟨ApE.below_own e2.h h3 hown2 (Nat.le_refl _) e2.size⟩⟩
    · cases hg : u.ownBlock with
      | none => exact .inl rfl
      | some g => exact .inr (fun e => ha g hg e.symm)
    · rcases h5 with e | e
      · rw [e] at hv; exact ha g hg hv
      · rw [e] at hv
        injection hv with hv
        have := (hu2.lt g hg).2
        omega
theorem wp {ops : Array Oper} {rest : List Oper} {o : Oper} {a : Act} {Q : Exit → Act → World → Prop} (k : IntKind) (W w1 : World) {w : World} [e1 : Ext w1 w] [e2 : Ext W w] (hgd : o.guard = none) (s x : Operand) (t : TypeId)
    (ho : o.op = .call { callee := .builtin .append, args := #[s, x], argTypes := #[t, t] }) (e : TypeId) (i : TypeInfo) (z : Value) (bytes : Nat) (ht : P.underlying t = some (.slice e)) (hi : P.info? e = some i) (hz : i.zero = some z)
    (hsize : i.size = 1) (hby : i.bytes = bytes) (hzs : z.cells.size = 1) (v u : Value) (n m : Nat) (xs ys : List Int) (hs : a.eval s = v) (hown : ApE.Own k e w1 W.heap.size v n xs) (hu : ApE.Own k e w1 W.heap.size u m ys) (ha : Hdr.Apart u v)
    (A : Option Addr) (l c : Nat) (news : List Int) (hx : a.eval x = .slice A l c) (hm : news.length = l) (hr : Row k w A news) (h63 : n + l ≤ 1000000000) (hb : bytes ≤ 8)
    (h : ∀ A' c' w', ApE.Own k e w' W.heap.size (.slice A' (n + l) c') (n + l) (xs ++ news) → ApE.Own k e w' W.heap.size u m ys → Hdr.Apart u (.slice A' (n + l) c') → Step W w' → wpList P ops Q rest (a.put o.dst (.slice A' (n + l) c')) w') : wpList P ops Q (o :: rest) a w := by
  refine wpList_plain hgd fun K hK => ?_
  obtain ⟨A', c', w', hrun, h2, h3, h4, h5⟩ := run k W w1 t o.type e i z bytes ht hi hz hsize hby hzs v u n m xs ys hown hu ha A l c news hm hr h63 hb
  unfold Oper.wp
  simp only [execOp, ho, resolve, invoke, builtin, Sem.run_bind, Sem.run_pure, Result.andThen_ok, List.map_toArray, List.map_cons, List.map_nil, hs, hx, hrun]
  exact hK _ _ (h A' c' w' h2 h3 h4 h5)
end ApT
end Go.Proofs.YtkihhflmgceckaaDoor
