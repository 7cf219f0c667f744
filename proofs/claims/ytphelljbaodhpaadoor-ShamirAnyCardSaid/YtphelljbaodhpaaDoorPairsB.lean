/- Appends of points inside walks of growing worlds; a point put in where it belongs. Conditions: lengths as stated. -/
import Derived.Test.YtphelljbaodhpaaDoorPairs
import Derived.RegionTactic
namespace Go.Proofs.YtphelljbaodhpaaDoor
open Go.RowKit Go.Lib Go.Maps
namespace ShM
open SlR FpM FpC PoM PoC
theorem own_ext {w w' : World} {base : Nat} {e : TypeId} {size n : Nat} {v : Value} {xs : List Value} (h : w.ownsRow base e size v n xs) (x : Ext w w') : w'.ownsRow base e size v n xs := by
  obtain ⟨h1, ⟨rfl, rfl⟩ | ⟨g, cap, cur, rfl, h2⟩⟩ := h
  · exact ⟨h1, .inl ⟨rfl, rfl⟩⟩
  · exact World.ownsRow.kept ⟨h1, .inr ⟨g, cap, cur, rfl, h2⟩⟩ (Hdr.grown_of_ext x) (by simp [Value.ownBlock])
namespace App2
variable {P : Program}
/-- Onto a row of the call's own, from an earlier world on. -/
theorem runE (W w1 : World) {w : World} [e1 : Ext w1 w] [e2 : Ext W w] (t ty e : TypeId) (i : TypeInfo) (z : Value) (ht : P.underlying t = some (.slice e)) (hi : P.info? e = some i) (hz : i.zero = some z)
    (hsize : i.size = 2) (hby : i.bytes = 16) (hzs : z.cells.size = 2) (v : Value) (n : Nat) (xs : List (Nat × Nat)) (hown : w1.ownsRow W.heap.size e 2 v n (pc xs))
    (A : Option Addr) (m c : Nat) (news : List (Nat × Nat)) (hm : news.length = m) (hr : RowP w A news) (h63 : n + m ≤ 1000000) :
    ∃ A' c' w', (Builtin.append_ #[t, t] ty #[v, .slice A m c]).run P w = .ok (.slice A' (n + m) c') w' ∧ w'.ownsRow W.heap.size e 2 (.slice A' (n + m) c') (n + m) (pc (xs ++ news)) ∧ Step W w' ∧ n + m ≤ c' ∧ w.grownBy w' v.ownBlock := by
  have hown2 : w.ownsRow W.heap.size e 2 v n (pc xs) := own_ext hown e1
  obtain ⟨A', c', w', h1, h2, h3, h4⟩ := run w W.heap.size t ty e i z ht hi hz hsize hby hzs v n xs hown2 A m c news hm hr h63 e2.size
  exact ⟨A', c', w', h1, h2, ⟨below_own e2.h h3 hown2 (Nat.le_refl _) e2.size⟩, h4, h3⟩
theorem wpE {ops : Array Oper} {rest : List Oper} {o : Oper} {a : Act} {Q : Exit → Act → World → Prop} (W w1 : World) {w : World} [e1 : Ext w1 w] [e2 : Ext W w] (hgd : o.guard = none) (s x : Operand) (t : TypeId)
    (ho : o.op = .call { callee := .builtin .append, args := #[s, x], argTypes := #[t, t] }) (e : TypeId) (i : TypeInfo) (z : Value) (ht : P.underlying t = some (.slice e)) (hi : P.info? e = some i) (hz : i.zero = some z)
    (hsize : i.size = 2) (hby : i.bytes = 16) (hzs : z.cells.size = 2) (v : Value) (n : Nat) (xs : List (Nat × Nat)) (hs : a.eval s = v) (hown : w1.ownsRow W.heap.size e 2 v n (pc xs))
    (A : Option Addr) (m c : Nat) (news : List (Nat × Nat)) (hx : a.eval x = .slice A m c) (hm : news.length = m) (hr : RowP w A news) (h63 : n + m ≤ 1000000)
    (h : ∀ A' c' w', w'.ownsRow W.heap.size e 2 (.slice A' (n + m) c') (n + m) (pc (xs ++ news)) → Step W w' → n + m ≤ c' → wpList P ops Q rest (a.put o.dst (.slice A' (n + m) c')) w') : wpList P ops Q (o :: rest) a w := by
  refine wpList_plain hgd fun K hK => ?_
  obtain ⟨A', c', w', hrun, h2, h3, h4, _⟩ := runE W w1 t o.type e i z ht hi hz hsize hby hzs v n xs hown A m c news hm hr h63
  unfold Oper.wp
  simp only [execOp, ho, resolve, invoke, builtin, Sem.run_bind, Sem.run_pure, Result.andThen_ok, List.map_toArray, List.map_cons, List.map_nil, hs, hx, hrun]
  exact hK _ _ (h A' c' w' h2 h3 h4)
/-- The same in a region that draws its order. -/
theorem stepE {ops : Array Oper} {o : Oper} {a : Act} {K : Act → World → Prop} {Q : Exit → Act → World → Prop} {E : Prop} (W w1 : World) {w : World} [e1 : Ext w1 w] [e2 : Ext W w] (hgd : o.guard = none) (s x : Operand) (t : TypeId)
    (ho : o.op = .call { callee := .builtin .append, args := #[s, x], argTypes := #[t, t] }) (e : TypeId) (i : TypeInfo) (z : Value) (ht : P.underlying t = some (.slice e)) (hi : P.info? e = some i) (hz : i.zero = some z)
    (hsize : i.size = 2) (hby : i.bytes = 16) (hzs : z.cells.size = 2) (v : Value) (n : Nat) (xs : List (Nat × Nat)) (hs : a.eval s = v) (hown : w1.ownsRow W.heap.size e 2 v n (pc xs))
    (A : Option Addr) (m c : Nat) (news : List (Nat × Nat)) (hx : a.eval x = .slice A m c) (hm : news.length = m) (hr : RowP w A news) (h63 : n + m ≤ 1000000)
    (h : ∀ A' c' w', w'.ownsRow W.heap.size e 2 (.slice A' (n + m) c') (n + m) (pc (xs ++ news)) → Step W w' → n + m ≤ c' → K (a.put o.dst (.slice A' (n + m) c')) w') :
    if Region.wanted o (yielded ops a.tmps) = true then Oper.wp P o a w K Q else E := by
  have hw : Region.wanted o (yielded ops a.tmps) = true := by simp [Region.wanted, hgd]
  rw [if_pos hw]
  obtain ⟨A', c', w', hrun, h2, h3, h4, _⟩ := runE W w1 t o.type e i z ht hi hz hsize hby hzs v n xs hown A m c news hm hr h63
  unfold Oper.wp
  simp only [execOp, ho, resolve, invoke, builtin, Sem.run_bind, Sem.run_pure, Result.andThen_ok, List.map_toArray, List.map_cons, List.map_nil, hs, hx, hrun]
  exact h A' c' w' h2 h3 h4
/-- Onto nil, in a region: what is at hand stays. -/
theorem stepN {ops : Array Oper} {o : Oper} {a : Act} {K : Act → World → Prop} {Q : Exit → Act → World → Prop} {E : Prop} (W : World) {w : World} [e2 : Ext W w] (hgd : o.guard = none) (s x : Operand) (t : TypeId)
    (ho : o.op = .call { callee := .builtin .append, args := #[s, x], argTypes := #[t, t] }) (e : TypeId) (i : TypeInfo) (z : Value) (ht : P.underlying t = some (.slice e)) (hi : P.info? e = some i) (hz : i.zero = some z)
    (hsize : i.size = 2) (hby : i.bytes = 16) (hzs : z.cells.size = 2) (hs : a.eval s = .slice none 0 0)
    (A : Option Addr) (m c : Nat) (news : List (Nat × Nat)) (hx : a.eval x = .slice A m c) (hm : news.length = m) (hr : RowP w A news) (h63 : m ≤ 1000000)
    (h : ∀ A' c' w', w'.ownsRow W.heap.size e 2 (.slice A' m c') m (pc news) → Step w w' → m ≤ c' → K (a.put o.dst (.slice A' m c')) w') :
    if Region.wanted o (yielded ops a.tmps) = true then Oper.wp P o a w K Q else E := by
  have hw : Region.wanted o (yielded ops a.tmps) = true := by simp [Region.wanted, hgd]
  rw [if_pos hw]
  obtain ⟨A', c', w', hrun, h2, h3, h4, h5⟩ := runE W w t o.type e i z ht hi hz hsize hby hzs (.slice none 0 0) 0 [] (World.ownsRow_nil _ _ _ _) A m c news hm hr (by omega)
  unfold Oper.wp
  simp only [execOp, ho, resolve, invoke, builtin, Sem.run_bind, Sem.run_pure, Result.andThen_ok, List.map_toArray, List.map_cons, List.map_nil, hs, hx, hrun]
  rw [Nat.zero_add, List.nil_append] at h2
  rw [Nat.zero_add] at h4
  rw [Nat.zero_add]
  exact h A' c' w' h2 ⟨(Below.refl _ w).grown h5 (Nat.le_refl _) (fun g h => by simp [Value.ownBlock] at h)⟩ h4
/-- Onto nil. -/
theorem wpN {ops : Array Oper} {rest : List Oper} {o : Oper} {a : Act} {Q : Exit → Act → World → Prop} (W : World) {w : World} [e2 : Ext W w] (hgd : o.guard = none) (s x : Operand) (t : TypeId)
    (ho : o.op = .call { callee := .builtin .append, args := #[s, x], argTypes := #[t, t] }) (e : TypeId) (i : TypeInfo) (z : Value) (ht : P.underlying t = some (.slice e)) (hi : P.info? e = some i) (hz : i.zero = some z)
    (hsize : i.size = 2) (hby : i.bytes = 16) (hzs : z.cells.size = 2) (hs : a.eval s = .slice none 0 0)
    (A : Option Addr) (m c : Nat) (news : List (Nat × Nat)) (hx : a.eval x = .slice A m c) (hm : news.length = m) (hr : RowP w A news) (h63 : m ≤ 1000000)
    (h : ∀ A' c' w', w'.ownsRow W.heap.size e 2 (.slice A' m c') m (pc news) → Step w w' → m ≤ c' → wpList P ops Q rest (a.put o.dst (.slice A' m c')) w') : wpList P ops Q (o :: rest) a w := by
  refine wpList_plain hgd fun K hK => ?_
  obtain ⟨A', c', w', hrun, h2, h3, h4, h5⟩ := runE W w t o.type e i z ht hi hz hsize hby hzs (.slice none 0 0) 0 [] (World.ownsRow_nil _ _ _ _) A m c news hm hr (by omega)
  unfold Oper.wp
  simp only [execOp, ho, resolve, invoke, builtin, Sem.run_bind, Sem.run_pure, Result.andThen_ok, List.map_toArray, List.map_cons, List.map_nil, hs, hx, hrun]
  rw [Nat.zero_add, List.nil_append] at h2
  rw [Nat.zero_add] at h4
  rw [Nat.zero_add]
  exact hK _ _ (h A' c' w' h2 ⟨(Below.refl _ w).grown h5 (Nat.le_refl _) (fun g h => by simp [Value.ownBlock] at h)⟩ h4)
end App2
theorem RowP.lit1 (w : World) (H : Nat) (t : TypeId) (p : Nat × Nat) (h : w.heap.size = H) : RowP (w.alloc (.cells #[.int .u64 p.1, .int .u64 p.2] t (0, 0))) (some ⟨H, 0, none⟩) [p] := by
  subst h
  intro j hj
  match j, hj with
  | 0, hj => exact ⟨_, 0, rfl, by simp, by simp, by simp⟩
theorem own_some {w : World} {base : Nat} {e : TypeId} {n c : Nat} {A : Option Addr} {ps : List (Nat × Nat)} (h : w.ownsRow base e 2 (.slice A n c) n (pc ps)) (hn : 0 < n) (hl : ps.length = n) : ∃ g, A = some ⟨g, 0, none⟩ ∧ RowP w (some ⟨g, 0, none⟩) ps := by
  obtain ⟨g, cap, hv, _, _⟩ := h.form hn
  have hA : A = some ⟨g, 0, none⟩ := by injection hv
  subst hA
  exact ⟨g, rfl, RowP.of_own h hl⟩
theorem RowP.step {a b : World} {A : Option Addr} {ps : List (Nat × Nat)} (s : Step a b) (h : RowP a A ps) : RowP b A ps := h.to
/-- A point put in behind the first j. -/
def ins (out : List (Nat × Nat)) (j : Nat) (p : Nat × Nat) : List (Nat × Nat) := out.take j ++ [p] ++ out.drop j
theorem ins_len {out : List (Nat × Nat)} {j : Nat} {p : Nat × Nat} (h : j ≤ out.length) : (ins out j p).length = out.length + 1 := by
  unfold ins; simp; omega
theorem getD_ofP {ps : List (Nat × Nat)} {i : Nat} (h : i < ps.length) : ps.getD i (0, 0) = ps[i] := by
  rw [List.getD_eq_getElem?_getD, List.getElem?_eq_getElem h]; rfl
theorem Up.lt {ps : List (Nat × Nat)} (h : Up ps) {i j : Nat} (hij : i < j) (hj : j < ps.length) : (ps.getD i (0, 0)).1 < (ps.getD j (0, 0)).1 := by
  rw [getD_ofP (by omega), getD_ofP hj]
  exact (List.pairwise_iff_getElem.mp h) i j (by omega) hj hij
theorem up_ins {out : List (Nat × Nat)} {j : Nat} {p : Nat × Nat} (h : Up out) (h1 : ∀ i, i < j → (out.getD i (0, 0)).1 < p.1) (h2 : j < out.length → p.1 < (out.getD j (0, 0)).1) : Up (ins out j p) := by
  unfold ins
  rw [List.append_assoc]
  refine List.pairwise_append.mpr ⟨h.sublist (List.take_sublist ..), List.pairwise_append.mpr ⟨List.pairwise_singleton _ _, h.sublist (List.drop_sublist ..), ?_⟩, ?_⟩
  · intro a ha b hb
    rw [List.mem_singleton] at ha
    subst ha
    obtain ⟨i, hi, rfl⟩ := List.mem_iff_getElem.mp hb
    rw [List.length_drop] at hi
    rw [List.getElem_drop]
    have h3 := h2 (by omega)
    rcases Nat.eq_zero_or_pos i with h0 | h0
    · subst h0; rw [getD_ofP (by omega)] at h3; simpa using h3
    · have := h.lt (i := j) (j := j + i) (by omega) (by omega)
      rw [getD_ofP (ps := out) (i := j + i) (by omega)] at this
      exact Nat.lt_trans h3 this
  · intro a ha b hb
    obtain ⟨i, hi, rfl⟩ := List.mem_iff_getElem.mp ha
    rw [List.length_take] at hi
    have h3 := h1 i (by omega)
    rw [getD_ofP (by omega)] at h3
    rw [List.getElem_take]
    rcases List.mem_append.mp hb with hb | hb
    · rw [List.mem_singleton] at hb; subst hb; exact h3
    · obtain ⟨m, hm, rfl⟩ := List.mem_iff_getElem.mp hb
      rw [List.length_drop] at hm
      rw [List.getElem_drop]
      have := h.lt (i := i) (j := j + m) (by omega) (by omega)
      rwa [getD_ofP (by omega), getD_ofP (by omega)] at this
theorem perm_ins {out ps : List (Nat × Nat)} {j k : Nat} (h : out.Perm (ps.take k)) (hk : k < ps.length) : (ins out j (ps.getD k (0, 0))).Perm (ps.take (k + 1)) := by
  rw [take_snocP ps k hk]
  unfold ins
  have h1 : (out.take j ++ [ps.getD k (0, 0)] ++ out.drop j).Perm ([ps.getD k (0, 0)] ++ (out.take j ++ out.drop j)) := by
    rw [← List.append_assoc]
    exact List.perm_append_comm.append_right _
  rw [List.take_append_drop] at h1
  exact h1.trans (List.perm_append_comm.trans (h.append_right _))
theorem dup_of {out ps : List (Nat × Nat)} {j k : Nat} (h : out.Perm (ps.take k)) (hk : k < ps.length) (hj : j < out.length) (he : (out.getD j (0, 0)).1 = (ps.getD k (0, 0)).1) : ¬ (fs ps).Nodup := fun hn => by
  have h2 : (fs (ps.take (k + 1))).Nodup := by
    unfold fs at *
    rw [List.map_take]
    exact hn.sublist (List.take_sublist ..)
  rw [take_snocP ps k hk] at h2
  unfold fs at h2
  rw [List.map_append] at h2
  have h3 := (List.pairwise_append.mp h2).2.2
  refine h3 (out.getD j (0, 0)).1 ?_ (ps.getD k (0, 0)).1 (by simp) he
  refine (h.map Prod.fst).mem_iff.mp ?_
  rw [getD_ofP hj]
  exact List.mem_map.mpr ⟨_, List.getElem_mem _, rfl⟩
end ShM
end Go.Proofs.YtphelljbaodhpaaDoor
