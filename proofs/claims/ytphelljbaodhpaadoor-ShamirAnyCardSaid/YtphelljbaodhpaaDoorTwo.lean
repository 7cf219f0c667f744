/- Two rows of integers of the call's own, grown by append in one statement whose order is open. Conditions: lengths as stated. -/
import Derived.Test.YtphelljbaodhpaaDoorPairsB
namespace Go.Proofs.YtphelljbaodhpaaDoor
open Go.RowKit Go.Lib Go.Maps
namespace Two
open SlR FpM FpC PoM PoC ShM
variable {P : Program}
def Own (e : TypeId) (w : World) (B : Nat) (v : Value) (k : Nat) (xs : List Nat) : Prop := w.ownsRow B e 1 v k ((NL xs).map (Value.int .u64))
theorem nl_app (xs : List Nat) (x : Nat) : (NL xs).map (Value.int .u64) ++ [Value.int .u64 (x : Nat)] = (NL (xs ++ [x])).map (Value.int .u64) := by unfold NL; simp
theorem run (W w1 : World) {w : World} [e1 : Ext w1 w] [e2 : Ext W w] (t ty e : TypeId) (i : TypeInfo) (z : Value) (ht : P.underlying t = some (.slice e)) (hi : P.info? e = some i) (hz : i.zero = some z)
    (hsize : i.size = 1) (hby : i.bytes = 8) (hzs : z.cells.size = 1) (v u : Value) (n m : Nat) (xs ys : List Nat) (hown : Own e w1 W.heap.size v n xs) (hu : Own e w1 W.heap.size u m ys) (ha : Hdr.Apart u v)
    (H x : Nat) (hr : RowN w (some ⟨H, 0, none⟩) [x]) (h63 : n + 1 ≤ 1000000) :
    ∃ A' c' w', (Builtin.append_ #[t, t] ty #[v, .slice (some ⟨H, 0, none⟩) 1 1]).run P w = .ok (.slice A' (n + 1) c') w' ∧ Own e w' W.heap.size (.slice A' (n + 1) c') (n + 1) (xs ++ [x]) ∧ Own e w' W.heap.size u m ys ∧ Hdr.Apart u (.slice A' (n + 1) c') ∧ Step W w' ∧ w.grownBy w' v.ownBlock := by
  have hown2 : w.ownsRow W.heap.size e 1 v n ((NL xs).map (Value.int .u64)) := own_ext hown e1
  have hu2 : w.ownsRow W.heap.size e 1 u m ((NL ys).map (Value.int .u64)) := own_ext hu e1
  obtain ⟨v', w', hrun, h2, h3, _, h5⟩ := run_append_own_at (P := P) w W.heap.size t ty e i z 1 8 ht hi hz hsize hby hzs (by omega) v n _ hown2 ⟨H, 0, none⟩ 1 1 [.int .u64 (x : Nat)] rfl (fun j q hj => by
      obtain ⟨ad, hA, hc⟩ := hr.at (j := 0) (by simp)
      cases hA
      match j, hj with
      | 0, hj => simp at hj; subst hj; exact hc) (ints_oneCell .u64 [(x : Int)]) (by unfold maxLen; omega) (by omega) e2.size
  obtain ⟨A', c', rfl⟩ := own_form h2
  refine ⟨A', c', w', hrun, by unfold Own; rw [← nl_app]; exact h2, hu2.kept h3 ?_, fun g hg hv => ?_, ⟨below_own e2.h h3 hown2 (Nat.le_refl _) e2.size⟩, h3⟩
  · cases hg : u.ownBlock with
    | none => exact .inl rfl
    | some g => exact .inr (fun e => ha g hg e.symm)
  · rcases h5 with e | e
    · rw [e] at hv; exact ha g hg hv
    · rw [e] at hv
      injection hv with hv
      have := (hu2.lt g hg).2
      omega
/-- In a region that draws its order; what lies in new blocks stays. -/
theorem step {ops : Array Oper} {o : Oper} {a : Act} {K : Act → World → Prop} {Q : Exit → Act → World → Prop} {E : Prop} (W w1 : World) {w : World} [e1 : Ext w1 w] [e2 : Ext W w] (hgd : o.guard = none) (s y : Operand) (t : TypeId)
    (ho : o.op = .call { callee := .builtin .append, args := #[s, y], argTypes := #[t, t] }) (e : TypeId) (i : TypeInfo) (z : Value) (ht : P.underlying t = some (.slice e)) (hi : P.info? e = some i) (hz : i.zero = some z)
    (hsize : i.size = 1) (hby : i.bytes = 8) (hzs : z.cells.size = 1) (v u : Value) (n m : Nat) (xs ys : List Nat) (hs : a.eval s = v) (hown : Own e w1 W.heap.size v n xs) (hu : Own e w1 W.heap.size u m ys) (ha : Hdr.Apart u v)
    (H x : Nat) (hy : a.eval y = .slice (some ⟨H, 0, none⟩) 1 1) (hr : RowN w (some ⟨H, 0, none⟩) [x]) (h63 : n + 1 ≤ 1000000) (L : Nat) (hL : ∀ g, v.ownBlock = some g → g < L)
    (h : ∀ A' c' w', Own e w' W.heap.size (.slice A' (n + 1) c') (n + 1) (xs ++ [x]) → Own e w' W.heap.size u m ys → Hdr.Apart u (.slice A' (n + 1) c') → Step W w' → (∀ H' y', L ≤ H' → RowN w (some ⟨H', 0, none⟩) [y'] → RowN w' (some ⟨H', 0, none⟩) [y']) → K (a.put o.dst (.slice A' (n + 1) c')) w') :
    if Region.wanted o (yielded ops a.tmps) = true then Oper.wp P o a w K Q else E := by
  have hw : Region.wanted o (yielded ops a.tmps) = true := by simp [Region.wanted, hgd]
  rw [if_pos hw]
  obtain ⟨A', c', w', hrun, h2, h3, h4, h5, h6⟩ := run W w1 t o.type e i z ht hi hz hsize hby hzs v u n m xs ys hown hu ha H x hr h63
  unfold Oper.wp
  simp only [execOp, ho, resolve, invoke, builtin, Sem.run_bind, Sem.run_pure, Result.andThen_ok, List.map_toArray, List.map_cons, List.map_nil, hs, hy, hrun]
  refine h A' c' w' h2 h3 h4 h5 fun H' y' hH hrow j q hj => ?_
  obtain ⟨ad, e0, hb, hc⟩ := hrow j q hj
  cases e0
  refine ⟨_, rfl, Nat.lt_of_lt_of_le hb h6.size, ?_⟩
  rw [h6.cell_far _ (by rw [blockAdd]; exact hb) (by rw [blockAdd]; exact fun e => by have := hL _ e.symm; simp at this; omega)]
  exact hc
theorem lit0 (w : World) (H : Nat) (t : TypeId) (x : Nat) (h : w.heap.size = H) : RowN (w.alloc (.cells #[.int .u64 (x : Nat)] t (0, 0))) (some ⟨H, 0, none⟩) [x] := Row.lit1 w H t x h
theorem lit1 (w : World) (H : Nat) (t : TypeId) (x : Nat) (o : Obj) (h : w.heap.size = H) : RowN ((w.alloc (.cells #[.int .u64 (x : Nat)] t (0, 0))).alloc o) (some ⟨H, 0, none⟩) [x] := RowN.to (lit0 w H t x h)
end Two
end Go.Proofs.YtphelljbaodhpaaDoor
