/- Long arrays by value whose cells are one letter: made, built of nothing, stored, loaded and answered without going through them cell by cell. No condition. -/
import Derived.Test.YtkihhflmgceckaaDoorExt
import Derived.Deep.MidRow
import Derived.Laws.ResultCell
namespace Go.Proofs.YtkihhflmgceckaaDoor
open Go.RowKit
namespace Lg
section
variable {P : Program} {ops : Array Oper} {rest : List Oper} {op : Oper} {a : Act} {w : World} {Q : Exit → Act → World → Prop}
/-- A variable is made; its type's zero value is a letter. -/
theorem wpAlloc (hgd : op.guard = none) (ty : TypeId) (ho : op.op = .alloc ty) (Z : Array Value) (hz : ∀ w, (zeroValue ty).run P w = .ok (.agg Z) w)
    (h : wpList P ops Q rest (a.put op.dst (.pointer (some ⟨w.heap.size, 0, none⟩))) (w.alloc (.cells Z ty))) : wpList P ops Q (op :: rest) a w :=
  wpList_plain hgd fun K hK => by
    unfold Oper.wp execOp
    simp only [ho]
    have e : (Instr.alloc ty true (.tuple #[])).run P w = .ok (.pointer (some ⟨w.heap.size, 0, none⟩)) (w.alloc (.cells Z ty)) := by
      simp only [Instr.alloc, Sem.run_bind, hz, Result.andThen_ok]
      rfl
    simp [e]
    exact hK _ _ h
/-- An array is built of nothing. -/
theorem wpBuild (hgd : op.guard = none) (ty : TypeId) (ho : op.op = .build ty #[]) (Z : Array Value) (n : Nat) (e : TypeId) (hz : ∀ w, (zeroValue ty).run P w = .ok (.agg Z) w) (hu : P.underlying ty = some (.array n e)) (m : Nat) (hs : ∀ w, (sizeOf e).run P w = .ok m w)
    (h : wpList P ops Q rest (a.put op.dst (.agg Z)) w) : wpList P ops Q (op :: rest) a w :=
  wpList_plain hgd fun K hK => by
    unfold Oper.wp execOp
    simp only [ho]
    have e : (Instr.build ty #[]).run P w = .ok (.agg Z) w := by
      simp [Instr.build, Sem.run_bind, hz, run_underlying hu, hs, Instr.fill, Value.cells]
    simp [e]
    exact hK _ _ h
end
theorem below_setCells {B : Nat} {a : World} {b : Nat} (hb : B ≤ b) : ∀ (vs : List Value) (o : Nat) (w : World), Below B a w → Below B a (w.setCells b o vs)
  | [], _, _, h => h
  | v :: r, o, _, h => below_setCells hb r (o + 1) _ (h.setCell (p := ⟨b, o, none⟩) hb v)
theorem there_new (w : World) (C : Array Value) (t : TypeId) (n : Nat) (h : C.size = n) : (w.alloc (.cells C t)).there w.heap.size 0 n := fun j hj => by
  rw [World.cell?_alloc_new, World.frozen?_alloc_new]
  exact ⟨by simp; omega, rfl⟩
/-- Two results, the first of them an array that lies in a cell of its own. -/
theorem results_mid {P : Program} {fn : Func} {p u : Tmp} {ty : TypeId} (h : fn.results = #[.cell p ty, .tmp u]) (tmps : Array Value) (w : World) (b o : Nat) (cs : List Value) (d : TypeDesc)
    (hp : tmps.getD p undef = .pointer (some ⟨b, o, none⟩)) (hc : w.rangeAt b o cs) (hu : P.underlying ty = some d) (hd : d.isRow = true) (hi : (P.info? ty).map (·.size) = some cs.length) :
    (results fn tmps).run P w = .ok (.tuple #[.agg cs.toArray, tmps.getD u undef]) w := by
  rw [results_cell_tmp h, hp]
  have e : (asAddr (.pointer (some ⟨b, o, none⟩))).run P w = .ok ⟨b, o, none⟩ w := rfl
  rw [e, Result.andThen_ok, run_loadVar_mid w b o ty cs d hc hu hd hi, Result.andThen_ok]
end Lg
end Go.Proofs.YtkihhflmgceckaaDoor
