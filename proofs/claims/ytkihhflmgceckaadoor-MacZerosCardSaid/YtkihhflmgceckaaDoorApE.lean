/- Appends of integers inside walks of growing worlds, onto rows of the call's own. Conditions: lengths as stated. -/
import Derived.Test.YtkihhflmgceckaaDoorApp
import Derived.Test.YtkihhflmgceckaaDoorHdr
import Derived.RegionTactic
namespace Go.Proofs.YtkihhflmgceckaaDoor
open Go.RowKit Go.Lib
namespace ApE
open SlR
variable {P : Program}
theorem own_ext {w w' : World} {base : Nat} {e : TypeId} {size n : Nat} {v : Value} {xs : List Value} (h : w.ownsRow base e size v n xs) (x : Ext w w') : w'.ownsRow base e size v n xs := by
  obtain ⟨h1, ⟨rfl, rfl⟩ | ⟨g, cap, cur, rfl, h2⟩⟩ := h
  · exact ⟨h1, .inl ⟨rfl, rfl⟩⟩
  · exact World.ownsRow.kept ⟨h1, .inr ⟨g, cap, cur, rfl, h2⟩⟩ (Hdr.grown_of_ext x) (by simp [Value.ownBlock])
theorem below_own {w w' : World} {base : Nat} {e : TypeId} {size n m : Nat} {v : Value} {xs : List Value} (hb : Below m w w') {w2 : World} (hg : w'.grownBy w2 v.ownBlock) (hown : w'.ownsRow base e size v n xs) (hm : m ≤ base) (hs : m ≤ w'.heap.size) : Below m w w2 :=
  hb.grown hg hs (fun g h => Nat.le_trans hm (hown.lt g h).1)
/-- A row of the call's own, from block B on. -/
abbrev Own (k : IntKind) (e : TypeId) (w : World) (B : Nat) (v : Value) (n : Nat) (xs : List Int) : Prop := w.ownsRow B e 1 v n (xs.map (Value.int k))
theorem capped {w : World} {B n c : Nat} {e : TypeId} {A : Option Addr} {xs : List Value} (h : w.ownsRow B e 1 (.slice A n c) n xs) : n ≤ c := by
  rcases h.2 with ⟨hv, h0⟩ | ⟨g, cap, cur, hv, _, _, hc, _⟩
  · omega
  · injection hv with _ _ e
    omega
theorem runE (k : IntKind) (W w1 : World) {w : World} [e1 : Ext w1 w] [e2 : Ext W w] (t ty e : TypeId) (i : TypeInfo) (z : Value) (bytes : Nat) (ht : P.underlying t = some (.slice e)) (hi : P.info? e = some i) (hz : i.zero = some z)
    (hsize : i.size = 1) (hby : i.bytes = bytes) (hzs : z.cells.size = 1) (v : Value) (n : Nat) (xs : List Int) (hown : Own k e w1 W.heap.size v n xs)
    (A : Option Addr) (m c : Nat) (news : List Int) (hm : news.length = m) (hr : Row k w A news) (h63 : n + m ≤ 1000000000) (hb : bytes ≤ 8) :
    ∃ A' c' w', (Builtin.append_ #[t, t] ty #[v, .slice A m c]).run P w = .ok (.slice A' (n + m) c') w' ∧ Own k e w' W.heap.size (.slice A' (n + m) c') (n + m) (xs ++ news) ∧ Step W w' ∧ w.grownBy w' v.ownBlock := by
  have hown2 : Own k e w W.heap.size v n xs := own_ext hown e1
  have hbb : (n + m) * bytes ≤ 140737488355328 := Nat.le_trans (Nat.mul_le_mul h63 hb) (by omega)
  obtain ⟨A', c', w', h1, h2, h3⟩ := App.run k w W.heap.size t ty e i z bytes ht hi hz hsize hby hzs v n _ hown2 A m c news hm hr (by unfold maxLen; omega) hbb e2.size
  exact ⟨A', c', w', h1, by unfold Own; rw [List.map_append]; exact h2, ⟨below_own e2.h h3 hown2 (Nat.le_refl _) e2.size⟩, h3⟩
theorem wpE {ops : Array Oper} {rest : List Oper} {o : Oper} {a : Act} {Q : Exit → Act → World → Prop} (k : IntKind) (W w1 : World) {w : World} [e1 : Ext w1 w] [e2 : Ext W w] (hgd : o.guard = none) (s x : Operand) (t : TypeId)
    (ho : o.op = .call { callee := .builtin .append, args := #[s, x], argTypes := #[t, t] }) (e : TypeId) (i : TypeInfo) (z : Value) (bytes : Nat) (ht : P.underlying t = some (.slice e)) (hi : P.info? e = some i) (hz : i.zero = some z)
    (hsize : i.size = 1) (hby : i.bytes = bytes) (hzs : z.cells.size = 1) (v : Value) (n : Nat) (xs : List Int) (hs : a.eval s = v) (hown : Own k e w1 W.heap.size v n xs)
    (A : Option Addr) (m c : Nat) (news : List Int) (hx : a.eval x = .slice A m c) (hm : news.length = m) (hr : Row k w A news) (h63 : n + m ≤ 1000000000) (hb : bytes ≤ 8)
    (h : ∀ A' c' w', Own k e w' W.heap.size (.slice A' (n + m) c') (n + m) (xs ++ news) → Step W w' → wpList P ops Q rest (a.put o.dst (.slice A' (n + m) c')) w') : wpList P ops Q (o :: rest) a w := by
  refine wpList_plain hgd fun K hK => ?_
  obtain ⟨A', c', w', hrun, h2, h3, _⟩ := runE k W w1 t o.type e i z bytes ht hi hz hsize hby hzs v n xs hown A m c news hm hr h63 hb
  unfold Oper.wp
  simp only [execOp, ho, resolve, invoke, builtin, Sem.run_bind, Sem.run_pure, Result.andThen_ok, List.map_toArray, List.map_cons, List.map_nil, hs, hx, hrun]
  exact hK _ _ (h A' c' w' h2 h3)
/-- Onto nil: what is at hand stays. -/
theorem wpN {ops : Array Oper} {rest : List Oper} {o : Oper} {a : Act} {Q : Exit → Act → World → Prop} (k : IntKind) (W : World) {w : World} [e2 : Ext W w] (hgd : o.guard = none) (s x : Operand) (t : TypeId)
    (ho : o.op = .call { callee := .builtin .append, args := #[s, x], argTypes := #[t, t] }) (e : TypeId) (i : TypeInfo) (z : Value) (bytes : Nat) (ht : P.underlying t = some (.slice e)) (hi : P.info? e = some i) (hz : i.zero = some z)
    (hsize : i.size = 1) (hby : i.bytes = bytes) (hzs : z.cells.size = 1) (hs : a.eval s = .slice none 0 0)
    (A : Option Addr) (m c : Nat) (news : List Int) (hx : a.eval x = .slice A m c) (hm : news.length = m) (hr : Row k w A news) (h63 : m ≤ 1000000000) (hb : bytes ≤ 8)
    (h : ∀ A' c' w', Own k e w' W.heap.size (.slice A' m c') m news → Step w w' → wpList P ops Q rest (a.put o.dst (.slice A' m c')) w') : wpList P ops Q (o :: rest) a w := by
  refine wpList_plain hgd fun K hK => ?_
  obtain ⟨A', c', w', hrun, h2, h3, h5⟩ := runE k W w t o.type e i z bytes ht hi hz hsize hby hzs (.slice none 0 0) 0 [] (World.ownsRow_nil _ _ _ _) A m c news hm hr (by omega) hb
  unfold Oper.wp
  simp only [execOp, ho, resolve, invoke, builtin, Sem.run_bind, Sem.run_pure, Result.andThen_ok, List.map_toArray, List.map_cons, List.map_nil, hs, hx, hrun]
  rw [Nat.zero_add, List.nil_append] at h2
  rw [Nat.zero_add]
  exact hK _ _ (h A' c' w' h2 ⟨(Below.refl _ w).grown h5 (Nat.le_refl _) (fun g h => by simp [Value.ownBlock] at h)⟩)
/-- In a region that draws its order. -/
theorem stepE {ops : Array Oper} {o : Oper} {a : Act} {K : Act → World → Prop} {Q : Exit → Act → World → Prop} {E : Prop} (k : IntKind) (W w1 : World) {w : World} [e1 : Ext w1 w] [e2 : Ext W w] (hgd : o.guard = none) (s x : Operand) (t : TypeId)
    (ho : o.op = .call { callee := .builtin .append, args := #[s, x], argTypes := #[t, t] }) (e : TypeId) (i : TypeInfo) (z : Value) (bytes : Nat) (ht : P.underlying t = some (.slice e)) (hi : P.info? e = some i) (hz : i.zero = some z)
    (hsize : i.size = 1) (hby : i.bytes = bytes) (hzs : z.cells.size = 1) (v : Value) (n : Nat) (xs : List Int) (hs : a.eval s = v) (hown : Own k e w1 W.heap.size v n xs)
    (A : Option Addr) (m c : Nat) (news : List Int) (hx : a.eval x = .slice A m c) (hm : news.length = m) (hr : Row k w A news) (h63 : n + m ≤ 1000000000) (hb : bytes ≤ 8)
    (h : ∀ A' c' w', Own k e w' W.heap.size (.slice A' (n + m) c') (n + m) (xs ++ news) → Step W w' → K (a.put o.dst (.slice A' (n + m) c')) w') :
    if Region.wanted o (yielded ops a.tmps) = true then Oper.wp P o a w K Q else E := by
  have hw : Region.wanted o (yielded ops a.tmps) = true := by simp [Region.wanted, hgd]
  rw [if_pos hw]
  obtain ⟨A', c', w', hrun, h2, h3, _⟩ := runE k W w1 t o.type e i z bytes ht hi hz hsize hby hzs v n xs hown A m c news hm hr h63 hb
  unfold Oper.wp
  simp only [execOp, ho, resolve, invoke, builtin, Sem.run_bind, Sem.run_pure, Result.andThen_ok, List.map_toArray, List.map_cons, List.map_nil, hs, hx, hrun]
  exact h A' c' w' h2 h3
theorem lit4 {k : IntKind} (w : World) (H : Nat) (t : TypeId) (a b c d : Int) (h : w.heap.size = H) : Row k (w.alloc (.cells #[.int k a, .int k b, .int k c, .int k d] t (0, 0))) (some ⟨H, 0, none⟩) [a, b, c, d] := Row.litN w H t [a, b, c, d] h
end ApE
end Go.Proofs.YtkihhflmgceckaaDoor
