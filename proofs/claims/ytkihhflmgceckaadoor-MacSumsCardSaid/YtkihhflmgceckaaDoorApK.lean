/- Appends onto a row of the call's own that is not nil: what the old row held it holds still. Conditions: the row's own. -/
import Derived.Test.YtkihhflmgceckaaDoorApE
import Derived.Deep.DeepAppendRoom
import Derived.ArgAppend
import Derived.Lib.SmallJoins
import Derived.Deep.MidRow
namespace Go.Proofs.YtkihhflmgceckaaDoor
open Go.RowKit Go.Lib
namespace ApE
open SlR
variable {P : Program}
theorem news_of {k : IntKind} {w : World} {ad : Addr} {news : List Int} (hr : Row k w (some ad) news) : ∀ j u, (news.map (Value.int k))[j]? = some u → w.cell? (ad.add j) = some u := fun j u hu => by
  rw [List.getElem?_map] at hu
  cases hq : news[j]? with
  | none => rw [hq] at hu; cases hu
  | some x =>
    rw [hq] at hu
    obtain ⟨_, e, _, h⟩ := hr j x hq
    cases e
    rw [h]
    exact hu
theorem one_of (k : IntKind) (news : List Int) : ∀ u ∈ news.map (Value.int k), u.oneCell' = true := fun u hu => by
  obtain ⟨a, -, rfl⟩ := List.mem_map.1 hu
  rfl
theorem runK (k : IntKind) (W w1 : World) {w : World} [e1 : Ext w1 w] [e2 : Ext W w] (t ty e : TypeId) (i : TypeInfo) (z : Value) (bytes : Nat) (ht : P.underlying t = some (.slice e)) (hi : P.info? e = some i) (hz : i.zero = some z)
    (hsize : i.size = 1) (hby : i.bytes = bytes) (hzs : z.cells.size = 1) (g n c : Nat) (xs : List Int) (hown : Own k e w1 W.heap.size (.slice (some ⟨g, 0, none⟩) n c) n xs)
    (ad : Addr) (m ca : Nat) (news : List Int) (hm : news.length = m) (hr : Row k w (some ad) news) (h63 : n + m ≤ 1000000000) (hb : bytes ≤ 8) :
    ∃ A' c' w', (Builtin.append_ #[t, t] ty #[.slice (some ⟨g, 0, none⟩) n c, .slice (some ad) m ca]).run P w = .ok (.slice A' (n + m) c') w' ∧ Own k e w' W.heap.size (.slice A' (n + m) c') (n + m) (xs ++ news) ∧ Step W w' ∧ ∀ j, j < n → w'.cell? ⟨g, j, none⟩ = w.cell? ⟨g, j, none⟩ := by
  have hown2 : Own k e w W.heap.size (.slice (some ⟨g, 0, none⟩) n c) n xs := own_ext hown e1
  have hbb : (n + m) * bytes ≤ 140737488355328 := Nat.le_trans (Nat.mul_le_mul h63 hb) (by omega)
  have hlx : xs.length = n := by have := hown2.1; simpa using this
  have lm : (news.map (Value.int k)).length = m * 1 := by simp [hm]
  have old : ∀ j, j < n → ∃ v, xs[j]? = some v ∧ w.cell? ⟨g, j, none⟩ = some (.int k v) := fun j hj => by
    refine ⟨xs[j]'(by omega), List.getElem?_eq_getElem (by omega), ?_⟩
    have := hown2.cells (g := g) rfl j (.int k (xs[j]'(by omega))) (by rw [List.getElem?_map, List.getElem?_eq_getElem (by omega)]; rfl)
    rw [Addr.add_mid, Nat.zero_add] at this
    exact this
  by_cases hroom : n + m ≤ c
  · obtain ⟨w', hrun, ho, hg⟩ := run_append_own_spare (P := P) w W.heap.size t ty e i 1 ht hi hsize g n c (xs.map (Value.int k)) hown2 ad m ca (news.map (Value.int k)) lm (news_of hr) (one_of k news) hroom
    have ho2 : Own k e w' W.heap.size (.slice (some ⟨g, 0, none⟩) (n + m) c) (n + m) (xs ++ news) := by unfold Own; rw [List.map_append]; exact ho
    refine ⟨_, _, w', hrun, ho2, ⟨below_own e2.h (v := .slice (some ⟨g, 0, none⟩) n c) hg hown2 (Nat.le_refl _) e2.size⟩, fun j hj => ?_⟩
    obtain ⟨v, hv, hc⟩ := old j hj
    have := ho2.cells (g := g) rfl j (.int k v) (by rw [List.getElem?_map, List.getElem?_append_left (by omega), hv]; rfl)
    rw [Addr.add_mid, Nat.zero_add] at this
    rw [this, hc]
  · obtain ⟨v', w', hrun, ho, hg⟩ := run_append_arg_grows (P := P) w t ty e i z 1 bytes ht hi hz hsize hby hzs (by omega) ⟨g, 0, none⟩ n c (xs.map (Value.int k)) (by simp [hlx]) (fun j u hu => by
        have hj : j < n := by have := (List.getElem?_eq_some_iff.1 hu).1; simp at this; omega
        obtain ⟨v, hv, hc⟩ := old j hj
        rw [List.getElem?_map, hv] at hu
        rw [Addr.add_mid, Nat.zero_add, hc]
        exact hu) ad m ca (news.map (Value.int k)) lm (news_of hr) (by omega) (by unfold maxLen; omega) hbb
    have ho2 : Own k e w' W.heap.size v' (n + m) (xs ++ news) := by unfold Own; rw [List.map_append]; exact Go.Joins.ownsRow_le ho e2.size
    obtain ⟨A', c', rfl⟩ := own_form ho2
    refine ⟨A', c', w', hrun, ho2, ⟨e2.h.grown hg e2.size (fun q hq => by cases hq)⟩, fun j hj => ?_⟩
    obtain ⟨v, hv, hc⟩ := old j hj
    have hl := World.block_lt_of_cell? w _ hc
    exact World.cell?_of_block (hg.block g hl (by simp))
/-- In a region that draws its order. -/
theorem stepK {ops : Array Oper} {o : Oper} {a : Act} {K : Act → World → Prop} {Q : Exit → Act → World → Prop} {E : Prop} (k : IntKind) (W w1 : World) {w : World} [e1 : Ext w1 w] [e2 : Ext W w] (hgd : o.guard = none) (s x : Operand) (t : TypeId)
    (ho : o.op = .call { callee := .builtin .append, args := #[s, x], argTypes := #[t, t] }) (e : TypeId) (i : TypeInfo) (z : Value) (bytes : Nat) (ht : P.underlying t = some (.slice e)) (hi : P.info? e = some i) (hz : i.zero = some z)
    (hsize : i.size = 1) (hby : i.bytes = bytes) (hzs : z.cells.size = 1) (g n c : Nat) (xs : List Int) (hs : a.eval s = .slice (some ⟨g, 0, none⟩) n c) (hown : Own k e w1 W.heap.size (.slice (some ⟨g, 0, none⟩) n c) n xs)
    (ad : Addr) (m ca : Nat) (news : List Int) (hx : a.eval x = .slice (some ad) m ca) (hm : news.length = m) (hr : Row k w (some ad) news) (h63 : n + m ≤ 1000000000) (hb : bytes ≤ 8)
    (h : ∀ A' c' w', Own k e w' W.heap.size (.slice A' (n + m) c') (n + m) (xs ++ news) → Step W w' → (∀ j, j < n → w'.cell? ⟨g, j, none⟩ = w.cell? ⟨g, j, none⟩) → K (a.put o.dst (.slice A' (n + m) c')) w') :
    if Region.wanted o (yielded ops a.tmps) = true then Oper.wp P o a w K Q else E := by
  have hw : Region.wanted o (yielded ops a.tmps) = true := by simp [Region.wanted, hgd]
  rw [if_pos hw]
  obtain ⟨A', c', w', hrun, h2, h3, h4⟩ := runK k W w1 t o.type e i z bytes ht hi hz hsize hby hzs g n c xs hown ad m ca news hm hr h63 hb
  unfold Oper.wp
  simp only [execOp, ho, resolve, invoke, builtin, Sem.run_bind, Sem.run_pure, Result.andThen_ok, List.map_toArray, List.map_cons, List.map_nil, hs, hx, hrun]
  exact h A' c' w' h2 h3 h4
end ApE
end Go.Proofs.YtkihhflmgceckaaDoor
