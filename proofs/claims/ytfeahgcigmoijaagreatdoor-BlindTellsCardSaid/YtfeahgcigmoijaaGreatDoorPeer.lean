/- Peers: lists of a number (with its sign) and of a number that is public, in cells of two; rows of them, own ones too. Conditions: lengths as stated. -/
import Derived.Test.YtfeahgcigmoijaaGreatDoorPkA
namespace Go.Proofs.YtfeahgcigmoijaaGreatDoor
open Go.RowKit Go.Lib
namespace Pe
open SlR
/-- The cells. -/
def qc (ps : List (Int × Nat)) : List Value := ps.flatMap fun p => [.int .i64 p.1, .int .u64 (p.2 : Nat)]
theorem qc_app (ps qs : List (Int × Nat)) : qc (ps ++ qs) = qc ps ++ qc qs := by unfold qc; rw [List.flatMap_append]
theorem qc_len (ps : List (Int × Nat)) : (qc ps).length = ps.length * 2 := by
  induction ps with
  | nil => rfl
  | cons p ps ih => rw [show qc (p :: ps) = qc [p] ++ qc ps from qc_app [p] ps, List.length_append, ih]; simp [qc]; omega
theorem qc_one (p : Int × Nat) : qc [p] = [.int .i64 p.1, .int .u64 (p.2 : Nat)] := rfl
theorem take_snocQ (ps : List (Int × Nat)) (k : Nat) (h : k < ps.length) : ps.take (k + 1) = ps.take k ++ [ps.getD k (0, 0)] := by
  rw [List.take_add_one, List.getD_eq_getElem?_getD, List.getElem?_eq_getElem h]; rfl
theorem qc_at : ∀ (ps : List (Int × Nat)) (j : Nat), j < ps.length → (qc ps)[j * 2]? = some (.int .i64 (ps.getD j (0, 0)).1) ∧ (qc ps)[j * 2 + 1]? = some (.int .u64 ((ps.getD j (0, 0)).2 : Nat))
  | [], _, h => absurd h (Nat.not_lt_zero _)
  | p :: ps, 0, _ => ⟨rfl, rfl⟩
  | p :: ps, j + 1, h => by
    have := qc_at ps j (by simpa using h)
    rw [show (j + 1) * 2 = j * 2 + 2 by omega, show j * 2 + 2 + 1 = (j * 2 + 1) + 2 by omega, show qc (p :: ps) = .int .i64 p.1 :: .int .u64 (p.2 : Nat) :: qc ps from rfl]
    exact this
theorem qc_cell (ps : List (Int × Nat)) : ∀ u ∈ qc ps, u.oneCell' = true := fun u hu => by
  unfold qc at hu
  obtain ⟨p, _, hp⟩ := List.mem_flatMap.mp hu
  simp only [List.mem_cons, List.not_mem_nil, or_false] at hp
  rcases hp with rfl | rfl <;> rfl
/-- A row of peers. -/
def RowQ (w : World) (A : Option Addr) (ps : List (Int × Nat)) : Prop :=
  ∀ j, j < ps.length → ∃ b o, A = some ⟨b, o, none⟩ ∧ b < w.heap.size ∧ w.cell? ⟨b, o + j * 2, none⟩ = some (.int .i64 (ps.getD j (0, 0)).1) ∧ w.cell? ⟨b, o + j * 2 + 1, none⟩ = some (.int .u64 ((ps.getD j (0, 0)).2 : Nat))
theorem RowQ.to {w w' : World} {A : Option Addr} {ps : List (Int × Nat)} (h : RowQ w A ps) [e : Ext w w'] : RowQ w' A ps := fun j hj => by
  obtain ⟨b, o, h1, h2, h3, h4⟩ := h j hj
  have hs := e.size
  exact ⟨b, o, h1, by omega, (e.h.cell h2).trans h3, (e.h.cell h2).trans h4⟩
theorem RowQ.nil {w : World} {A : Option Addr} : RowQ w A [] := fun j hj => by simp at hj
theorem own_form2 {w : World} {base : Nat} {e : TypeId} {size n : Nat} {v : Value} {vs : List Value} (h : w.ownsRow base e size v n vs) : ∃ A c, v = .slice A n c ∧ n ≤ c := by
  rcases h.2 with ⟨rfl, rfl⟩ | ⟨g, cap, cur, rfl, _, _, hc, _⟩
  · exact ⟨_, _, rfl, Nat.le_refl _⟩
  · exact ⟨_, _, rfl, hc⟩
theorem RowQ.of_own {w : World} {base : Nat} {e : TypeId} {n c : Nat} {A : Option Addr} {ps : List (Int × Nat)} (h : w.ownsRow base e 2 (.slice A n c) n (qc ps)) (hn : ps.length = n) : RowQ w A ps := fun j hj => by
  obtain ⟨g, cap, hv, _, hlt⟩ := h.form (by omega)
  have hA : A = some ⟨g, 0, none⟩ := by injection hv
  subst hA
  have hp := qc_at ps j hj
  refine ⟨g, 0, rfl, hlt, ?_, ?_⟩
  · rw [Nat.zero_add, ← hp.1]; exact h.cellAt _ (by omega)
  · rw [Nat.zero_add, ← hp.2]; exact h.cellAt _ (by omega)
theorem RowQ.take {w : World} {A : Option Addr} {ps : List (Int × Nat)} (h : RowQ w A ps) (k : Nat) : RowQ w A (ps.take k) := fun j hj => by
  rw [List.length_take] at hj
  have e : (ps.take k).getD j (0, 0) = ps.getD j (0, 0) := by rw [List.getD_eq_getElem?_getD, List.getD_eq_getElem?_getD, List.getElem?_take_of_lt (by omega)]
  rw [e]
  exact h j (by omega)
theorem RowQ.drop {w : World} {b o : Nat} {ps : List (Int × Nat)} (h : RowQ w (some ⟨b, o, none⟩) ps) (k : Nat) : RowQ w (some ⟨b, o + k * 2, none⟩) (ps.drop k) := fun j hj => by
  have hl : k + j < ps.length := by simp at hj; omega
  obtain ⟨b', o', e, h1, h2, h3⟩ := h (k + j) hl
  cases e
  have e1 : (ps.drop k).getD j (0, 0) = ps.getD (k + j) (0, 0) := by rw [List.getD_eq_getElem?_getD, List.getD_eq_getElem?_getD, List.getElem?_drop]
  rw [e1]
  refine ⟨b, o + k * 2, rfl, h1, ?_, ?_⟩
  · rw [← h2]; congr 2; omega
  · rw [← h3]; congr 2; omega
theorem two_new (w : World) (t : TypeId) (u v : Value) : ∀ j z, ([u, v] : List Value)[j]? = some z → (w.alloc (.cells #[u, v] t (0, 0))).cell? ((⟨w.heap.size, 0, none⟩ : Addr).add j) = some z := fun j z hj => by
  match j, hj with
  | 0, hj => simp at hj; subst hj; simp [Addr.add]
  | 1, hj => simp at hj; subst hj; simp [Addr.add]
/-- A literal row. -/
theorem RowQ.lit1 (w : World) (H : Nat) (t : TypeId) (p : Int × Nat) (h : w.heap.size = H) : RowQ (w.alloc (.cells #[.int .i64 p.1, .int .u64 p.2] t (0, 0))) (some ⟨H, 0, none⟩) [p] := by
  subst h
  intro j hj
  match j, hj with
  | 0, hj => exact ⟨_, 0, rfl, by simp, by simp, by simp⟩
theorem RowQ.lit2 (w : World) (H : Nat) (t : TypeId) (p q : Int × Nat) (h : w.heap.size = H) : RowQ (w.alloc (.cells #[.int .i64 p.1, .int .u64 p.2, .int .i64 q.1, .int .u64 q.2] t (0, 0))) (some ⟨H, 0, none⟩) [p, q] := by
  subst h
  intro j hj
  match j, hj with
  | 0, hj => exact ⟨_, 0, rfl, by simp, by simp, by simp⟩
  | 1, hj => exact ⟨_, 0, rfl, by simp, by simp, by simp⟩
theorem own_ext {w w' : World} {base : Nat} {e : TypeId} {size n : Nat} {v : Value} {xs : List Value} (h : w.ownsRow base e size v n xs) (x : Ext w w') : w'.ownsRow base e size v n xs := by
  obtain ⟨h1, ⟨rfl, rfl⟩ | ⟨g, cap, cur, rfl, h2⟩⟩ := h
  · exact ⟨h1, .inl ⟨rfl, rfl⟩⟩
  · exact World.ownsRow.kept ⟨h1, .inr ⟨g, cap, cur, rfl, h2⟩⟩ (Hdr.grown_of_ext x) (by simp [Value.ownBlock])
theorem below_own {w w' : World} {base : Nat} {e : TypeId} {size n m : Nat} {v : Value} {xs : List Value} (hb : Below m w w') {w2 : World} (hg : w'.grownBy w2 v.ownBlock) (hown : w'.ownsRow base e size v n xs) (hm : m ≤ base) (hs : m ≤ w'.heap.size) : Below m w w2 :=
  hb.grown hg hs (fun g h => Nat.le_trans hm (hown.lt g h).1)
/-- append of one peer onto an own row, from an earlier world on. -/
theorem one {P : Program} {ops : Array Oper} {rest : List Oper} {o : Oper} {a : Act} {Q : Exit → Act → World → Prop} (W w1 : World) {w : World} [e1 : Ext w1 w] [e2 : Ext W w] (hgd : o.guard = none) (s x : Operand) (t : TypeId)
    (ho : o.op = .call { callee := .builtin .append, args := #[s, x], argTypes := #[t, t] }) (e : TypeId) (i : TypeInfo) (z : Value) (ht : P.underlying t = some (.slice e)) (hi : P.info? e = some i) (hz : i.zero = some z)
    (hsize : i.size = 2) (hby : i.bytes = 16) (hzs : z.cells.size = 2) (v : Value) (n : Nat) (xs : List (Int × Nat)) (hs : a.eval s = v) (hown : w1.ownsRow W.heap.size e 2 v n (qc xs))
    (H : Nat) (p : Int × Nat) (hx : a.eval x = .slice (some ⟨H, 0, none⟩) 1 1) (hr : RowQ w (some ⟨H, 0, none⟩) [p]) (h63 : n ≤ 1000000)
    (h : ∀ A' c' w', w'.ownsRow W.heap.size e 2 (.slice A' (n + 1) c') (n + 1) (qc (xs ++ [p])) → Step W w' → n + 1 ≤ c' → w.grownBy w' v.ownBlock → wpList P ops Q rest (a.put o.dst (.slice A' (n + 1) c')) w') : wpList P ops Q (o :: rest) a w := by
  refine wpList_plain hgd fun K hK => ?_
  have hown2 : w.ownsRow W.heap.size e 2 v n (qc xs) := own_ext hown e1
  obtain ⟨v', w', hrun, h2, h3, _, _⟩ := run_append_own_at (P := P) w W.heap.size t o.type e i z 2 16 ht hi hz hsize hby hzs (by omega) v n (qc xs) hown2 ⟨H, 0, none⟩ 1 1 (qc [p]) rfl
    (fun j u hj => by
      obtain ⟨b', o', e, _, h1, h2⟩ := hr 0 (by simp)
      cases e
      match j, hj with
      | 0, hj => simp [qc] at hj; subst hj; rw [Addr.add_lit]; simpa using h1
      | 1, hj => simp [qc] at hj; subst hj; rw [Addr.add_lit]; simpa using h2
      | j + 2, hj => simp [qc] at hj) (qc_cell [p]) (by unfold maxLen; omega) (by omega) e2.size
  obtain ⟨A', c', rfl, hc⟩ := own_form2 h2
  rw [← qc_app] at h2
  unfold Oper.wp
  simp only [execOp, ho, resolve, invoke, builtin, Sem.run_bind, Sem.run_pure, Result.andThen_ok, List.map_toArray, List.map_cons, List.map_nil, hs, hx, hrun]
  exact hK _ _ (h A' c' w' h2 ⟨below_own e2.h h3 hown2 (Nat.le_refl _) e2.size⟩ hc h3)
/-- What an argument's two lists are as peers. -/
theorem opened {W : World} {A : Option Addr} {n : Nat} {xs ys : List Int} (hl : xs.length = n) (hm : ys.length = n)
    (hr : ∀ j x y, xs[j]? = some x → ys[j]? = some y → ∃ b o, A = some ⟨b, o, none⟩ ∧ b < W.heap.size ∧ W.cell? ⟨b, o + j * 2, none⟩ = some (.int .i64 x) ∧ W.cell? ⟨b, o + j * 2 + 1, none⟩ = some (.int .u64 y))
    (hy : ∀ z ∈ ys, 0 ≤ z ∧ z < 18446744073709551616) :
    (List.zip xs (ys.map Int.toNat)).length = n ∧ RowQ W A (List.zip xs (ys.map Int.toNat)) ∧ ∀ k, ((List.zip xs (ys.map Int.toNat)).getD k (0, 0)).2 < 18446744073709551616 := by
  have hlen : (List.zip xs (ys.map Int.toNat)).length = n := by simp [hl, hm]
  have hat : ∀ k, k < n → ∃ x y, xs[k]? = some x ∧ ys[k]? = some y ∧ (List.zip xs (ys.map Int.toNat)).getD k (0, 0) = (x, y.toNat) := fun k hk => by
    refine ⟨xs[k]'(by omega), ys[k]'(by omega), List.getElem?_eq_getElem _, List.getElem?_eq_getElem _, ?_⟩
    rw [List.getD_eq_getElem?_getD, List.getElem?_eq_getElem (by omega)]
    simp
  refine ⟨hlen, fun j hj => ?_, fun k => ?_⟩
  · obtain ⟨x, y, h1, h2, h3⟩ := hat j (by omega)
    obtain ⟨b, o, e, h4, h5, h6⟩ := hr j x y h1 h2
    have := hy y (List.mem_of_getElem? h2)
    rw [h3]
    refine ⟨b, o, e, h4, h5, ?_⟩
    rw [h6]
    show some (Value.int .u64 y) = some (Value.int .u64 ((y.toNat : Nat) : Int))
    rw [Int.toNat_of_nonneg this.1]
  · by_cases hk : k < n
    · obtain ⟨x, y, h1, h2, h3⟩ := hat k hk
      have := hy y (List.mem_of_getElem? h2)
      rw [h3]
      show y.toNat < _
      omega
    · rw [List.getD_eq_getElem?_getD, List.getElem?_eq_none (by omega)]
      exact (by decide : 0 < 18446744073709551616)
end Pe
end Go.Proofs.YtfeahgcigmoijaaGreatDoor
