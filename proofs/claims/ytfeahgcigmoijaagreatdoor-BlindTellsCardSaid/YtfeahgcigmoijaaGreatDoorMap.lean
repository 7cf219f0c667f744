/- Maps of numbers by numbers: what one reads as, in growing worlds; a look-up that tells whether there is one. Conditions: as stated. -/
import Derived.Test.YtfeahgcigmoijaaGreatDoorPkA
import Derived.Maps.OwnSet
import Derived.WalkArith
namespace Go.Proofs.YtfeahgcigmoijaaGreatDoor
open Go.RowKit Go.Lib Go.Maps
namespace Mp
theorem keysI : Keyed Tryz.prog 3 := int_keyed Tryz.underlying3
theorem zeroE (w : World) : (zeroValue 23).run Tryz.prog w = .ok (.int .u64 0) w := by kernel_rfl
def kd (i : Int) : Lit := .int .i64 i
def I64 (i : Int) : Prop := -9223372036854775808 ≤ i ∧ i ≤ 9223372036854775807
theorem keyI {i : Int} (h : I64 i) : keyOf Tryz.prog 3 (.int .i64 i) = some (kd i) := keyOf_int_mk Tryz.underlying3 (WalkArith.wf_i64 (by unfold I64 at h; omega))
theorem kd_ne {i k : Int} (h : i ≠ k) : kd i ≠ kd k := fun e => h (by injection e)
/-- A datum that reads as a function. -/
def DF (D : DataW Unit) (f : Int → Option Nat) : Prop := IsMap D ∧ (∀ i, Maps.has D (kd i) = (f i).isSome) ∧ (∀ i, D.atKey (kd i) (.lit (.int .u64 0)) = .lit (.int .u64 (((f i).getD 0 : Nat) : Int))) ∧ ∀ i, (f i).getD 0 < 18446744073709551616
theorem kd_lit (i : Int) : WideAt.IsKeyLit (kd i) := by unfold kd; trivial
theorem DF.empty : DF (.map []) (fun _ => none) := ⟨isMap_empty, fun _ => rfl, fun _ => rfl, fun _ => (by decide : 0 < 18446744073709551616)⟩
/-- One more number. -/
def upd (f : Int → Option Nat) (i : Int) (v : Nat) : Int → Option Nat := fun k => if k = i then some v else f k
theorem DF.put {D : DataW Unit} {f : Int → Option Nat} (h : DF D f) (i : Int) (v : Nat) (hv : v < 18446744073709551616) : DF (D.put (kd i) (.lit (.int .u64 (v : Int)))) (upd f i v) := by
  refine ⟨h.1.put _ _, fun k => ?_, fun k => ?_, fun k => ?_⟩
  · unfold upd
    split
    · rename_i e; subst e; exact has_put_same h.1 (kd_lit _) _
    · rename_i e; rw [has_put_other (kd_ne e)]; exact h.2.1 k
  · unfold upd
    split
    · rename_i e; subst e; exact atKey_put_same h.1 (kd_lit _) _ _
    · rename_i e; rw [atKey_put_other (kd_ne e)]; exact h.2.2.1 k
  · unfold upd
    split
    · exact hv
    · exact h.2.2.2 k
/-- A map's value that reads as a function. -/
def MapF (w : World) (v : Value) (f : Int → Option Nat) : Prop :=
  (v = .map none ∧ f = fun _ => none) ∨ ∃ b n D, v = .map (some b) ∧ w.ownsMap Tryz.prog 3 (plainElem (H := Unit) Tryz.prog 23) b n D ∧ DF D f
theorem MapF.to {w w' : World} {v : Value} {f : Int → Option Nat} (h : MapF w v f) [e : Ext w w'] : MapF w' v f := by
  rcases h with h | ⟨b, n, D, rfl, h1, h2⟩
  · exact .inl h
  · exact .inr ⟨b, n, D, rfl, h1.kept (row := none) (Hdr.grown_of_ext e) (by simp), h2⟩
theorem MapF.nil (w : World) : MapF w (.map none) (fun _ => none) := .inl ⟨rfl, rfl⟩
theorem MapF.lt {w : World} {v : Value} {f : Int → Option Nat} (h : MapF w v f) (i : Int) : (f i).getD 0 < 18446744073709551616 := by
  rcases h with ⟨rfl, rfl⟩ | ⟨b, n, D, rfl, h1, h2⟩
  · exact (by decide : 0 < 18446744073709551616)
  · exact h2.2.2.2 i
/-- v, ok := m[i]. -/
theorem look {ops : Array Oper} {rest : List Oper} {o : Oper} {a : Act} {Q : Exit → Act → World → Prop} (w : World) (hg : o.guard = none) (m x : Operand) (hop : o.op = Op.lookup 41 m x true)
    (f : Int → Option Nat) (v : Value) (hm : a.eval m = v) (hown : MapF w v f) (i : Int) (hi : I64 i) (hx : a.eval x = .int .i64 i)
    (hK : wpList Tryz.prog ops Q rest (a.put o.dst (.tuple #[.int .u64 (((f i).getD 0 : Nat) : Int), .bool (f i).isSome])) w) : wpList Tryz.prog ops Q (o :: rest) a w := by
  rcases hown with ⟨rfl, rfl⟩ | ⟨b, n, D, rfl, h1, h2⟩
  · refine wpList_plain hg fun K hK' => ?_
    have hrun := Maps.look_nil true keysI Tryz.underlying41 (zeroE w) (keyI hi)
    rw [if_pos rfl] at hrun
    obtain ⟨z, hz⟩ : ∃ z : Value, z = Value.tuple #[.int .u64 0, .bool false] := ⟨_, rfl⟩
    rw [← hz] at hrun
    have hK2 : wpList Tryz.prog ops Q rest (a.put o.dst z) w := hz ▸ hK
    clear hK hz
    unfold Oper.wp
    simp [execOp, hop, hm, hx, hrun, Result.andThen]
    exact hK' _ _ hK2
  · refine wpList_lookup_own_ok_int w hg m x _ hop _ _ .u64 keysI Tryz.underlying41 Tryz.underlying23 (zeroE w) b n D hm h1 _ _ hx (keyI hi) fun c hc hwc => ?_
    rw [h2.2.2.1 i] at hc
    have e : (((f i).getD 0 : Nat) : Int) = c := by injection hc with hc; injection hc
    rw [← e, h2.2.1 i]
    exact hK
/-- The same, where what it tells has names. -/
theorem lookH {ops : Array Oper} {rest : List Oper} {o : Oper} {a : Act} {Q : Exit → Act → World → Prop} (w : World) (hg : o.guard = none) (m x : Operand) (hop : o.op = Op.lookup 41 m x true)
    (f : Int → Option Nat) (v : Value) (hm : a.eval m = v) (hown : MapF w v f) (i : Int) (hi : I64 i) (hx : a.eval x = .int .i64 i) (s : Nat) (b : Bool) (hs : Hid (s = (f i).getD 0)) (hb : Hid (b = (f i).isSome))
    (hK : wpList Tryz.prog ops Q rest (a.put o.dst (.tuple #[.int .u64 (s : Int), .bool b])) w) : wpList Tryz.prog ops Q (o :: rest) a w :=
  look w hg m x hop f v hm hown i hi hx (by rw [← hs.out, ← hb.out]; exact hK)
end Mp
end Go.Proofs.YtfeahgcigmoijaaGreatDoor
