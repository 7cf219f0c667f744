/- Maps of the call's own: made, and a number put into one, in growing worlds. Conditions: as stated. -/
import Derived.Test.YtfeahgcigmoijaaGreatDoorMap
namespace Go.Proofs.YtfeahgcigmoijaaGreatDoor
open Go.RowKit Go.Lib Go.Maps
namespace Mp
/-- A map of the call's own, from block B on. -/
def OwnM (B : Nat) (w : World) (b n : Nat) (f : Int → Option Nat) : Prop := ∃ D, w.ownsMap Tryz.prog 3 (plainElem (H := Unit) Tryz.prog 23) b n D ∧ DF D f ∧ B ≤ b
theorem OwnM.made {B : Nat} (w : World) (h : B ≤ w.heap.size) : OwnM B (w.alloc (.map #[] 0)) w.heap.size 0 (fun _ => none) := ⟨_, World.ownsMap_made w _ _ _, DF.empty, h⟩
theorem OwnM.made2 {B : Nat} (w : World) (H : Nat) (h : B ≤ w.heap.size) (hH : w.heap.size = H) : OwnM B (w.alloc (.map #[] 0)) H 0 (fun _ => none) := hH ▸ OwnM.made w h
theorem OwnM.to {B : Nat} {w w' : World} {b n : Nat} {f : Int → Option Nat} (h : OwnM B w b n f) [e : Ext w w'] : OwnM B w' b n f := by
  obtain ⟨D, h1, h2, h3⟩ := h
  exact ⟨D, h1.kept (row := none) (Hdr.grown_of_ext e) (by simp), h2, h3⟩
theorem OwnM.kept {B : Nat} {w w' : World} {b n : Nat} {f : Int → Option Nat} {r : Option Nat} (h : OwnM B w b n f) (hg : w.grownBy w' r) (hne : some b ≠ r) : OwnM B w' b n f := by
  obtain ⟨D, h1, h2, h3⟩ := h
  exact ⟨D, h1.kept hg hne, h2, h3⟩
theorem OwnM.mapF {B : Nat} {w : World} {b n : Nat} {f : Int → Option Nat} (h : OwnM B w b n f) : MapF w (.map (some b)) f := by
  obtain ⟨D, h1, h2, _⟩ := h
  exact .inr ⟨b, n, D, rfl, h1, h2⟩
theorem put_run {B : Nat} {w : World} {b n : Nat} {f : Int → Option Nat} (h : OwnM B w b n f) (hn : n ≤ 1000000) (i : Int) (hi : I64 i) (v : Nat) (hv : v < 18446744073709551616) :
    ∃ w', (Instr.mapUpdate 41 (.map (some b)) (.int .i64 i) (.int .u64 (v : Int))).run Tryz.prog w = .ok () w' ∧ OwnM B w' b (n + 1) (upd f i v) ∧ w.grownBy w' (some b) := by
  obtain ⟨D, h1, h2, h3⟩ := h
  obtain ⟨w', hrun, r1, r2⟩ := h1.update keysI Tryz.underlying41 (by unfold maxLen; omega) (keyI hi) (d := .lit (.int .u64 (v : Int))) (ps := []) (plainElem_int Tryz.underlying23 (WalkArith.wf_u64 (by omega)))
  exact ⟨w', hrun, ⟨_, r1, h2.put i v hv, h3⟩, r2⟩
/-- m[i] = v. -/
theorem put {ops : Array Oper} {rest : List Oper} {o : Oper} {a : Act} {Q : Exit → Act → World → Prop} (W w1 : World) {w : World} [e1 : Ext w1 w] [e2 : Ext W w] (hg : o.guard = none) (m x v : Operand) (hop : o.op = Op.mapUpdate 41 m x v)
    (b n : Nat) (f : Int → Option Nat) (hm : a.eval m = .map (some b)) (hown : OwnM W.heap.size w1 b n f) (hn : n ≤ 1000000) (i : Int) (hi : I64 i) (hx : a.eval x = .int .i64 i) (z : Nat) (hz : z < 18446744073709551616) (hv : a.eval v = .int .u64 (z : Int))
    (hK : ∀ w', OwnM W.heap.size w' b (n + 1) (upd f i z) → Step W w' → w.grownBy w' (some b) → wpList Tryz.prog ops Q rest (a.put o.dst undef) w') : wpList Tryz.prog ops Q (o :: rest) a w := by
  refine wpList_plain hg fun K' hK' => ?_
  have hown2 : OwnM W.heap.size w b n f := hown.to
  obtain ⟨w', hrun, r1, r2⟩ := put_run hown2 hn i hi z hz
  have hb : W.heap.size ≤ b := hown2.choose_spec.2.2
  unfold Oper.wp
  simp [execOp, hop, hm, hx, hv, hrun, Result.andThen]
  exact hK' _ _ (hK w' r1 ⟨e2.h.grown r2 e2.h.size (fun j hj => by cases hj; exact hb)⟩ r2)
/-- .. in a literal. -/
theorem ins {ops : Array Oper} {rest : List Oper} {o : Oper} {a : Act} {Q : Exit → Act → World → Prop} (W w1 : World) {w : World} [e1 : Ext w1 w] [e2 : Ext W w] (hg : o.guard = none) (m x v : Operand) (hop : o.op = Op.insert 41 m x v)
    (b n : Nat) (f : Int → Option Nat) (hm : a.eval m = .map (some b)) (hown : OwnM W.heap.size w1 b n f) (hn : n ≤ 1000000) (i : Int) (hi : I64 i) (hx : a.eval x = .int .i64 i) (z : Nat) (hz : z < 18446744073709551616) (hv : a.eval v = .int .u64 (z : Int))
    (hK : ∀ w', OwnM W.heap.size w' b (n + 1) (upd f i z) → Step W w' → w.grownBy w' (some b) → wpList Tryz.prog ops Q rest (a.put o.dst undef) w') : wpList Tryz.prog ops Q (o :: rest) a w := by
  refine wpList_plain hg fun K' hK' => ?_
  have hown2 : OwnM W.heap.size w b n f := hown.to
  obtain ⟨w', hrun, r1, r2⟩ := put_run hown2 hn i hi z hz
  have hb : W.heap.size ≤ b := hown2.choose_spec.2.2
  unfold Oper.wp
  simp [execOp, hop, hm, hx, hv, hrun, Result.andThen]
  exact hK' _ _ (hK w' r1 ⟨e2.h.grown r2 e2.h.size (fun j hj => by cases hj; exact hb)⟩ r2)
end Mp
end Go.Proofs.YtfeahgcigmoijaaGreatDoor
