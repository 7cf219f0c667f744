/- append of so many noughts (append(s, make([]T, k)...)) onto a row of the call's own, in growing worlds. Conditions: lengths as stated. -/
import Derived.Test.YtkihhflmgceckaaDoorApE
import Derived.Lib.AppendZerosOnto
namespace Go.Proofs.YtkihhflmgceckaaDoor
open Go.RowKit Go.Lib
namespace ApZ
open SlR
variable {P : Program}
theorem zeros_eq (k : IntKind) (m : Nat) : Builtin.zeroCells (Value.int k 0).cells m = (List.replicate m (Value.int k 0)).toArray := by
  have e : (Value.int k 0).cells = #[Value.int k 0] := rfl
  rw [e]
  apply Array.ext
  · simp [Builtin.zeroCells]
  · intro i h1 h2
    simp [Builtin.zeroCells, Nat.mod_one]
theorem rep_map (k : IntKind) (m : Nat) : (List.replicate m (0 : Int)).map (Value.int k) = List.replicate m (Value.int k 0) := by simp
theorem run (kk : IntKind) (W w1 : World) {w : World} [e1 : Ext w1 w] [e2 : Ext W w] (t tn ty e : TypeId) (i : TypeInfo) (kq kn : IntKind) (ht : P.underlying t = some (.slice e)) (htn : P.underlying tn = some (.int kn)) (hi : P.info? e = some i) (hz : i.zero = some (.int kk 0))
    (hsize : i.size = 1) (hby : i.bytes = 1) (v : Value) (n : Nat) (xs : List Int) (hown : ApE.Own kk e w1 W.heap.size v n xs) (k : Nat) (h63 : n + k ≤ 1000000000) :
    ∃ A' c' w', (Builtin.append_ #[t, tn] ty #[v, .int kq k]).run P w = .ok (.slice A' (n + k) c') w' ∧ ApE.Own kk e w' W.heap.size (.slice A' (n + k) c') (n + k) (xs ++ List.replicate k 0) ∧ Step W w' := by
  have hown2 : ApE.Own kk e w W.heap.size v n xs := ApE.own_ext hown e1
  have hlx : xs.length = n := by have := hown2.1; simpa using this
  have hw : IntKind.i64.wrap (k : Int) = k := by rw [IntKind.wrap_i64]; omega
  have hneg : ¬ ((k : Int) < 0) := by omega
  have h48i : ¬ (281474976710656 < (k : Int) * (i.bytes : Int)) := by rw [hby]; omega
  have hlen : ((xs ++ List.replicate k 0).map (Value.int kk)).length = (n + k) * 1 := by simp [hlx]
  have hmap : (xs ++ List.replicate k (0 : Int)).map (Value.int kk) = xs.map (Value.int kk) ++ List.replicate k (Value.int kk 0) := by rw [List.map_append, rep_map]
  have grow : ∀ (base : Option Addr) (cap : Nat), v = .slice base n cap → cap < n + k → (Builtin.firstCells i.size n (.slice base n cap)).run P w.drew = .ok (xs.map (Value.int kk)).toArray w.drew →
      ∃ A' c' w', (Builtin.append_ #[t, tn] ty #[v, .int kq k]).run P w = .ok (.slice A' (n + k) c') w' ∧ ApE.Own kk e w' W.heap.size (.slice A' (n + k) c') (n + k) (xs ++ List.replicate k 0) ∧ Step W w' := by
    intro base cap hv hcap hold
    subst hv
    have hnc : n ≤ cap := ApE.capped hown2
    have hfit : Builtin.nextslicecap (n + k) cap * i.bytes ≤ 281474976710656 := by
      have := nextslicecap_le (need := n + k) (old := cap) hcap
      rw [hby]
      omega
    have hrun := run_append_grow_zeros (P := P) w t tn ty e i (.int kk 0) kq kn ht htn hi hz base n cap _ hold k (by omega) (by omega) hcap (by omega) (by rw [hby]; omega) hfit
    refine ⟨_, _, _, hrun, ⟨hlen, .inr ⟨_, _, _, rfl, e2.size, heap_alloc_new w.drew _, grownCap_ge _ _ _ _, grownCap_le_maxLen _ _ _ _ (by unfold maxLen; omega), ?_, ?_⟩⟩, ⟨?_⟩⟩
    · have hge := grownCap_ge w (n + k) cap e
      simp only [Array.size_append, List.size_toArray, size_zeroCells, List.length_map, hlx]
      show n + k * 1 + (grownCap w (n + k) cap e - (n + k)) * 1 = _
      omega
    · rw [zeros_eq, zeros_eq, hmap]
      simp only [Array.toList_append, List.append_assoc]
      rw [← List.append_assoc, ← hlen, hmap]
      exact List.take_left
    · have X : Ext W (w.drew.alloc (.cells ((xs.map (Value.int kk)).toArray ++ Builtin.zeroCells (Value.int kk 0).cells k ++ Builtin.zeroCells (Value.int kk 0).cells (grownCap w (n + k) cap e - (n + k))) e)) := inferInstance
      exact X.h
  rcases hown2.2 with ⟨hv, h0⟩ | ⟨g, cap, cur, hv, hbg, hg, hnc, hcm, hcs, htake⟩
  · subst hv
    subst h0
    by_cases hk : k = 0
    · subst hk
      refine ⟨none, 0, w, ?_, by simpa using hown2, ⟨e2.h⟩⟩
      simp [Builtin.append_, run_underlying ht, run_underlying htn, sizeOf, typeInfo, zeroValue, hi, hz, asInt, asIntOf, IntKind.wrap_i64]
    · have hx : xs = [] := List.eq_nil_of_length_eq_zero hlx
      subst hx
      exact grow none 0 rfl (by omega) (by rw [hsize]; simp [Builtin.firstCells])
  · subst hv
    by_cases hroom : n + k ≤ cap
    · have hsz : cur.size = cap := by rw [hcs, Nat.mul_one]
      have hst := run_storeCells_at P g (n * 1) e (List.replicate k (Value.int kk 0)) 0 cur w hg (by simp [hsz]; omega) (fun u hu => by rw [List.eq_of_mem_replicate hu]; rfl)
      simp only [Nat.mul_one, Nat.add_zero, List.length_replicate] at hst
      refine ⟨some ⟨g, 0, none⟩, cap, w.setRow g (cur.toList.take n ++ List.replicate k (Value.int kk 0) ++ cur.toList.drop (n + k)).toArray, ?_, ⟨hlen, .inr ⟨g, cap, _, rfl, hbg, setRow_heap w g cur _ e _ hg, hroom, hcm, ?_, ?_⟩⟩, ⟨?_⟩⟩
      · by_cases hk : k = 0
        · subst hk
          simp only [List.replicate_zero, List.append_nil, Nat.add_zero] at hst ⊢
          simp [Builtin.append_, run_underlying ht, run_underlying htn, sizeOf, typeInfo, zeroValue, hi, hz, hsize, asInt, asIntOf, IntKind.wrap_i64, hnc, Addr.add_lit]
          simpa [storeCells] using hst
        · have hns : ¬ (k * i.size = 0) := by rw [hsize]; omega
          have hze := zeros_eq kk k
          simp [Builtin.append_, run_underlying ht, run_underlying htn, sizeOf, typeInfo, zeroValue, hi, hz, hsize, asInt, asIntOf, hw, hneg, h48i, hroom, hk, hze, Addr.add_lit, hst]
      · simp only [List.size_toArray, List.length_append, List.length_take, List.length_drop, Array.length_toList, List.length_replicate]
        omega
      · rw [Nat.mul_one] at htake
        rw [hmap, ← htake, ← hlen, hmap, ← htake]
        exact List.take_left
      · have hgr : w.grownBy (w.setRow g (cur.toList.take n ++ List.replicate k (Value.int kk 0) ++ cur.toList.drop (n + k)).toArray) (some g) := ⟨rfl, rfl, rfl, by simp, fun q _ hq => setRow_other w g q _ (fun e => hq (by simp [e]))⟩
        exact ApE.below_own e2.h (v := .slice (some ⟨g, 0, none⟩) n cap) hgr hown2 (Nat.le_refl _) e2.size
    · refine grow (some ⟨g, 0, none⟩) cap rfl (by omega) ?_
      have hf := run_firstCells_some (P := P) w.drew i.size n ⟨g, 0, none⟩ n cap (xs.map (Value.int kk)) (by simp [hlx, hsize]) (fun j u hu => hown2.cells (g := g) rfl j u hu)
      exact hf
/-- In a region that draws its order. -/
theorem step {ops : Array Oper} {o : Oper} {a : Act} {K : Act → World → Prop} {Q : Exit → Act → World → Prop} {E : Prop} (kk : IntKind) (W w1 : World) {w : World} [e1 : Ext w1 w] [e2 : Ext W w] (hgd : o.guard = none) (s x : Operand) (t tn : TypeId)
    (ho : o.op = .call { callee := .builtin .append, args := #[s, x], argTypes := #[t, tn] }) (e : TypeId) (i : TypeInfo) (kq kn : IntKind) (ht : P.underlying t = some (.slice e)) (htn : P.underlying tn = some (.int kn)) (hi : P.info? e = some i) (hz : i.zero = some (.int kk 0))
    (hsize : i.size = 1) (hby : i.bytes = 1) (v : Value) (n : Nat) (xs : List Int) (hs : a.eval s = v) (hown : ApE.Own kk e w1 W.heap.size v n xs) (k : Nat) (hx : a.eval x = .int kq k) (h63 : n + k ≤ 1000000000)
    (h : ∀ A' c' w', ApE.Own kk e w' W.heap.size (.slice A' (n + k) c') (n + k) (xs ++ List.replicate k 0) → Step W w' → K (a.put o.dst (.slice A' (n + k) c')) w') :
    if Region.wanted o (yielded ops a.tmps) = true then Oper.wp P o a w K Q else E := by
  have hw : Region.wanted o (yielded ops a.tmps) = true := by simp [Region.wanted, hgd]
  rw [if_pos hw]
  obtain ⟨A', c', w', hrun, h2, h3⟩ := run (w := w) kk W w1 t tn o.type e i kq kn ht htn hi hz hsize hby v n xs hown k h63
  unfold Oper.wp
  simp only [execOp, ho, resolve, invoke, builtin, Sem.run_bind, Sem.run_pure, Result.andThen_ok, List.map_toArray, List.map_cons, List.map_nil, hs, hx, hrun]
  exact h A' c' w' h2 h3
end ApZ
end Go.Proofs.YtkihhflmgceckaaDoor
