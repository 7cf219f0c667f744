/- Small words for all seats' walks: what a call answers that changes nothing but the count of draws; ends of walks. No condition. -/
import Derived.WalkKit
import Derived.Lib.Hide
import Derived.Outline
import Derived.Deep.QuietTactic
import Derived.BigQuiet
namespace Go.Proofs.YtkihhflmgceckaaDoor
open Go.RowKit
/-- The call answers v; nothing of the world has changed but the count of draws. -/
def Qt (v : Value) (w : World) (e : Ending) (w' : World) : Prop := e = .returned v ∧ ∃ n, w' = w.drewN n
theorem Qt.zero {v : Value} {w : World} : Qt v w (.returned v) w := ⟨rfl, 0, rfl⟩
theorem Qt.some {v : Value} {w : World} {n : Nat} : Qt v w (.returned v) (w.drewN n) := ⟨rfl, n, rfl⟩
theorem Qt.drew {v : Value} {w : World} : Qt v w (.returned v) w.drew := ⟨rfl, 1, rfl⟩
theorem Qt.of {v v' : Value} {w : World} {n : Nat} (h : v' = v) : Qt v w (.returned v') (w.drewN n) := ⟨by rw [h], n, rfl⟩
theorem Qt.of0 {v v' : Value} {w : World} (h : v' = v) : Qt v w (.returned v') w := ⟨by rw [h], 0, rfl⟩
theorem Qt.more {v : Value} {w w' : World} {a : Nat} {e : Ending} (h : Qt v (w.drewN a) e w') : Qt v w e w' := by
  obtain ⟨h1, n, h2⟩ := h
  exact ⟨h1, a + n, by rw [h2, World.drewN_drewN]⟩
/-- In a quiet region, ahead of any draw. -/
theorem Qt.quiet {P : Program} {f : FuncId} {args : Array Value} {w : World} {n : Nat} {v : Value} (h : Calls P f args (w.drewN n) (Qt v (w.drewN n))) :
    Calls P f args (w.drewN n) fun e w'' => e = .returned v ∧ ∃ m, w'' = w.drewN m :=
  h.mono fun _ _ ⟨he, m, hm⟩ => ⟨he, n + m, by rw [hm, World.drewN_drewN]⟩
/-- In a quiet region behind draws. -/
theorem Qt.quiet_add {P : Program} {f : FuncId} {args : Array Value} {w : World} {a n : Nat} {v : Value} (h : Calls P f args (w.drewN (a + n)) (Qt v (w.drewN (a + n)))) :
    Calls P f args (w.drewN (a + n)) fun e w'' => e = .returned v ∧ ∃ m, w'' = w.drewN (a + m) :=
  h.mono fun _ _ ⟨he, m, hm⟩ => ⟨he, n + m, by rw [hm, World.drewN_drewN, Nat.add_assoc]⟩
theorem int_eq {k : IntKind} {a b : Int} (h : a = b) : Value.int k a = Value.int k b := by rw [h]
end Go.Proofs.YtkihhflmgceckaaDoor
