/- Slices of slices of the call's own, grown by append: the headers in a block of their own type, the rows in blocks of another. Conditions: the lengths as stated. -/
import Derived.Test.YtkihhflmgceckaaDoorApp
namespace Go.Proofs.YtkihhflmgceckaaDoor
open Go.RowKit Go.Lib
open SlR
namespace Hdr
variable {P : Program} {k : IntKind} {TU TS : TypeId} {w w' : World}
/-- A row whose cells lie in a block of its own type. -/
def RowU (k : IntKind) (TU : TypeId) (w : World) (A : Option Addr) (xs : List Int) : Prop :=
  ∀ j x, xs[j]? = some x → ∃ (ad : Addr) (cs : Array Value) (fr : Nat × Nat), A = some ad ∧ w.heap[ad.block]? = some (.cells cs TU fr) ∧ w.cell? (ad.add j) = some (.int k x)
/-- Blocks of type TU stay. -/
def Keeps (TU : TypeId) (w w' : World) : Prop := w.heap.size ≤ w'.heap.size ∧ ∀ (i : Nat) (cs : Array Value) (fr : Nat × Nat), w.heap[i]? = some (.cells cs TU fr) → w'.heap[i]? = w.heap[i]?
theorem lt_of_some {i : Nat} {o : Obj} (h : w.heap[i]? = some o) : i < w.heap.size := lt_of_block h
theorem RowU.of_own {base n c : Nat} {A : Option Addr} {xs : List Int} (h : w.ownsRow base TU 1 (.slice A n c) n (xs.map (Value.int k))) : RowU k TU w A xs := fun j x hj => by
  have hl : j < xs.length := (List.getElem?_eq_some_iff.mp hj).1
  have h1 := h.1
  rw [List.length_map] at h1
  rcases h.2 with ⟨_, h0⟩ | ⟨g, cap, cur, hv, _, hg, _⟩
  · omega
  · have hA : A = some ⟨g, 0, none⟩ := by injection hv
    subst hA
    exact ⟨_, cur, _, rfl, hg, h.cells (g := g) rfl j _ (by simp [hj])⟩
theorem RowU.row {A : Option Addr} {xs : List Int} (h : RowU k TU w A xs) : Row k w A xs := fun j x hj => by
  obtain ⟨ad, cs, fr, h1, h2, h3⟩ := h j x hj
  exact ⟨ad, h1, lt_of_some h2, h3⟩
theorem RowU.keep {A : Option Addr} {xs : List Int} (h : RowU k TU w A xs) (hk : Keeps TU w w') : RowU k TU w' A xs := fun j x hj => by
  obtain ⟨ad, cs, fr, h1, h2, h3⟩ := h j x hj
  have h4 := hk.2 _ _ _ h2
  exact ⟨ad, cs, fr, h1, h4.trans h2, (World.cell?_of_block (by rw [blockAdd]; exact h4)).trans h3⟩
theorem Keeps.of_ext (e : Ext w w') : Keeps TU w w' := ⟨e.size, fun i _ _ h => e.h.block i (lt_of_some h)⟩
theorem Keeps.trans {a b c : World} (h : Keeps TU a b) (g : Keeps TU b c) : Keeps TU a c :=
  ⟨Nat.le_trans h.1 g.1, fun i cs fr hi => by
    have h1 := h.2 i cs fr hi
    exact (g.2 i cs fr (h1.trans hi)).trans h1⟩
theorem Keeps.of_grown {B n : Nat} {v : Value} {H : List Value} (hne : TU ≠ TS) (ho : w.ownsRow B TS 1 v n H) (hg : w.grownBy w' v.ownBlock) : Keeps TU w w' :=
  ⟨hg.size, fun i _ _ hi => hg.block i (lt_of_some hi) (fun e => by
    rcases ho.2 with ⟨rfl, _⟩ | ⟨g, cap, cur, rfl, _, hgb, _⟩
    · simp [Value.ownBlock] at e
    · simp only [Value.ownBlock, Option.some.injEq] at e
      subst e
      rw [hgb] at hi
      injection hi with hi
      injection hi with _ ht _
      exact hne ht.symm)⟩
/-- The headers v of n rows, the rows ls; the headers lie in a block of the call's own, from block B on. -/
def HR (k : IntKind) (TU TS : TypeId) (w : World) (B : Nat) (v : Value) (n : Nat) (ls : List (List Int)) : Prop :=
  ∃ H : List Value, w.ownsRow B TS 1 v n H ∧ ls.length = n ∧ ∀ (j : Nat) (row : List Int), ls[j]? = some row → ∃ (A' : Option Addr) (c' : Nat), H[j]? = some (Value.slice A' row.length c') ∧ RowU k TU w A' row
theorem HR.nil (B : Nat) : HR k TU TS w B (.slice none 0 0) 0 [] := ⟨[], World.ownsRow_nil _ _ _ _, rfl, fun j row h => by simp at h⟩
theorem HR.form {B n : Nat} {v : Value} {ls : List (List Int)} (h : HR k TU TS w B v n ls) : ∃ (A : Option Addr) (c : Nat), v = Value.slice A n c := by
  obtain ⟨H, h1, _⟩ := h
  exact own_form h1
theorem HR.lt {B n : Nat} {v : Value} {ls : List (List Int)} (h : HR k TU TS w B v n ls) : ∀ g, v.ownBlock = some g → B ≤ g ∧ g < w.heap.size := by
  obtain ⟨H, h1, _⟩ := h
  exact h1.lt
theorem HR.cap {B n c : Nat} {A : Option Addr} {ls : List (List Int)} (h : HR k TU TS w B (.slice A n c) n ls) : n ≤ c := by
  obtain ⟨H, h1, _⟩ := h
  rcases h1.2 with ⟨_, rfl⟩ | ⟨g, cap, cur, hv, _, _, h2, _⟩
  · omega
  · injection hv with _ _ hc
    omega
theorem HR.rows {B n c : Nat} {A : Option Addr} {ls : List (List Int)} (h : HR k TU TS w B (.slice A n c) n ls) :
    ∀ (j : Nat) (row : List Int), ls[j]? = some row → ∃ (ad : Addr) (A' : Option Addr) (c' : Nat), A = some ad ∧ ad.block < w.heap.size ∧ w.cell? (ad.add j) = some (.slice A' row.length c') ∧ Row k w A' row := fun j row hj => by
  obtain ⟨H, h1, h2, h3⟩ := h
  obtain ⟨A', c', h4, h5⟩ := h3 j row hj
  have hl : j < ls.length := (List.getElem?_eq_some_iff.mp hj).1
  rcases h1.2 with ⟨_, h0⟩ | ⟨g, cap, cur, hv, _, hg, _⟩
  · omega
  · have hA : A = some ⟨g, 0, none⟩ := by injection hv
    subst hA
    exact ⟨_, A', c', rfl, lt_of_some hg, h1.cells (g := g) rfl j _ h4, h5.row⟩
theorem HR.kept {B n : Nat} {v : Value} {ls : List (List Int)} {r : Option Nat} (h : HR k TU TS w B v n ls) (hg : w.grownBy w' r) (hne : v.ownBlock = none ∨ v.ownBlock ≠ r) (hk : Keeps TU w w') : HR k TU TS w' B v n ls := by
  obtain ⟨H, h1, h2, h3⟩ := h
  exact ⟨H, h1.kept hg hne, h2, fun j row hj => by
    obtain ⟨A', c', h4, h5⟩ := h3 j row hj
    exact ⟨A', c', h4, h5.keep hk⟩⟩
theorem grown_of_ext (e : Ext w w') : w.grownBy w' none := ⟨e.h.os, e.h.tape, e.h.output, e.h.size, fun i hi _ => e.h.block i hi⟩
theorem HR.to {B n : Nat} {v : Value} {ls : List (List Int)} (h : HR k TU TS w B v n ls) [e : Ext w w'] : HR k TU TS w' B v n ls :=
  h.kept (grown_of_ext e) (by
    by_cases h0 : v.ownBlock = none
    · exact .inl h0
    · exact .inr h0) (Keeps.of_ext e)
/-- Two headers in blocks apart. -/
def Apart (u v : Value) : Prop := ∀ g, u.ownBlock = some g → v.ownBlock ≠ some g
theorem Apart.symm {u v : Value} (h : Apart u v) : Apart v u := fun g h1 h2 => h g h2 h1
theorem Apart.nil (v : Value) : Apart (.slice none 0 0) v := fun g h => by simp [Value.ownBlock] at h
/-- What an append onto the headers v does to the world: v' is the new value. -/
structure Push (w w' : World) (v v' : Value) (TU : TypeId) : Prop where
  grown : w.grownBy w' v.ownBlock
  keeps : Keeps TU w w'
  lies : v'.ownBlock = v.ownBlock ∨ v'.ownBlock = some w.heap.size
theorem HR.other {B n : Nat} {u v v' : Value} {ls : List (List Int)} (h : HR k TU TS w B u n ls) (p : Push w w' v v' TU) (ha : Apart u v) : HR k TU TS w' B u n ls ∧ Apart u v' := by
  refine ⟨h.kept p.grown ?_ p.keeps, fun g hg hv => ?_⟩
  · cases hu : u.ownBlock with
    | none => exact .inl rfl
    | some g => exact .inr (fun e => ha g hu e.symm)
  · rcases p.lies with e | e
    · rw [e] at hv; exact ha g hg hv
    · rw [e] at hv
      injection hv with hv
      have := (h.lt g hg).2
      omega
/-- append of one row onto the headers. -/
theorem push {ops : Array Oper} {rest : List Oper} {o : Oper} {a : Act} {Q : Exit → Act → World → Prop} (hne : TU ≠ TS) (H : Nat) (hgd : o.guard = none) (s x : Operand) (t : TypeId)
    (ho : o.op = .call { callee := .builtin .append, args := #[s, x], argTypes := #[t, t] })
    (i : TypeInfo) (z : Value) (bytes : Nat) (ht : P.underlying t = some (.slice TS)) (hi : P.info? TS = some i) (hz : i.zero = some z)
    (hsize : i.size = 1) (hby : i.bytes = bytes) (hzs : z.cells.size = 1) (B n : Nat) (v : Value) (ls : List (List Int)) (hs : a.eval s = v) (hv : HR k TU TS w B v n ls)
    (hx : a.eval x = .slice (some ⟨H, 0, none⟩) 1 1) (hH : w.heap.size = H) (A : Option Addr) (r c : Nat) (row : List Int) (hr : row.length = r) (hA : RowU k TU w A row)
    (h63 : n + 1 ≤ maxLen) (hbytes : (n + 1) * bytes ≤ 140737488355328) (hB : B ≤ w.heap.size)
    (h : ∀ A' c' w', HR k TU TS w' B (.slice A' (n + 1) c') (n + 1) (ls ++ [row]) → Push (w.alloc (.cells #[.slice A r c] TS (0, 0))) w' v (.slice A' (n + 1) c') TU → wpList P ops Q rest (a.put o.dst (.slice A' (n + 1) c')) w') :
    wpList P ops Q (o :: rest) a (w.alloc (.cells #[.slice A r c] TS (0, 0))) := by
  subst hH; subst hr
  have hv1 : HR k TU TS (w.alloc (.cells #[.slice A row.length c] TS (0, 0))) B v n ls := hv.to
  have hA1 : RowU k TU (w.alloc (.cells #[.slice A row.length c] TS (0, 0))) A row := hA.keep (Keeps.of_ext inferInstance)
  obtain ⟨Hs, h1, h2, h3⟩ := hv1
  obtain ⟨v', w', hrun, r1, r2, _, r4⟩ := run_append_own_at (P := P) (w.alloc (.cells #[.slice A row.length c] TS (0, 0))) B t o.type TS i z 1 bytes ht hi hz hsize hby hzs (by omega) v n Hs h1 ⟨w.heap.size, 0, none⟩ 1 1 [.slice A row.length c] rfl
    (by intro j u hj
        match j, hj with
        | 0, hj => simp at hj; subst hj; simp [Addr.add])
    (by intro u hu; simp at hu; subst hu; rfl) h63 hbytes (by simp; omega)
  obtain ⟨A', c', rfl⟩ := own_form r1
  have hk := Keeps.of_grown (TU := TU) hne h1 r2
  refine wpList_plain hgd fun K hK => ?_
  unfold Oper.wp
  simp only [execOp, ho, resolve, invoke, builtin, Sem.run_bind, Sem.run_pure, Result.andThen_ok, List.map_toArray, List.map_cons, List.map_nil, hs, hx, hrun]
  refine hK _ _ (h A' c' w' ⟨Hs ++ [.slice A row.length c], r1, by simp [h2], ?_⟩ ⟨r2, hk, r4⟩)
  intro j rw' hj
  have hHl : Hs.length = n := by have := h1.1; omega
  by_cases hjn : j < n
  · rw [List.getElem?_append_left (by omega)] at hj
    obtain ⟨A2, c2, h4, h5⟩ := h3 j rw' hj
    exact ⟨A2, c2, by rw [List.getElem?_append_left (by omega)]; exact h4, h5.keep hk⟩
  · rw [List.getElem?_append_right (by omega)] at hj
    have hj0 : j - ls.length = 0 := by
      have := (List.getElem?_eq_some_iff.mp hj).1
      simp at this; omega
    rw [hj0] at hj
    simp at hj
    subst hj
    refine ⟨A, c, ?_, hA1.keep hk⟩
    rw [List.getElem?_append_right (by omega), hHl, show j - n = 0 by omega]
    rfl
end Hdr
end Go.Proofs.YtkihhflmgceckaaDoor
