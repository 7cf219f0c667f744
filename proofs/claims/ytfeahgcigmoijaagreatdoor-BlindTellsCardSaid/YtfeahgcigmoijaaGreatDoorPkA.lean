/- Several texts in one, each with its own word ahead. -/
import Derived.WalkKit
import Derived.Lib.Hide
import Derived.Outline
import Derived.Deep.QuietTactic
import Derived.BigQuiet
import Derived.Below
import Derived.OneCell
import Derived.OwnWalk
import Derived.Laws.OwnMore
import Derived.Deep.AppendLies
import Derived.Deep.Onto
import Derived.Deep.Draws
import Derived.Test.YtfeahgcigmoijaaGreatDoorProg
import Derived.LaidEql
import Derived.Stop.Asserts
import Derived.RowKitTokens
import Derived.Maps.AppendAt
import Derived.RegionTactic
import Derived.Deep.DeepAppendRoom
import Derived.ArgAppend
import Derived.Lib.SmallJoins
import Derived.Deep.MidRow
import Derived.Lib.AppendZerosOnto
import Derived.Deep.Matrix
import Derived.Deep.Slices
import Derived.ProofKit
import Derived.OpenShut
import Derived.Laws.ResultCell
import Derived.OwnWalkIn
import Derived.OrdersIn
/- Small words for all seats' walks: what a call answers that changes nothing but the count of draws; ends of walks. No condition. -/
namespace Go.Proofs.YtfeahgcigmoijaaGreatDoor
open Go.RowKit
/-- The call answers v; nothing of the world has changed but the count of draws. -/
def Qt (v : Value) (w : World) (e : Ending) (w' : World) : Prop := e = .returned v ∧ ∃ n, w' = w.drewN n
theorem Qt.zero {v : Value} {w : World} : Qt v w (.returned v) w := ⟨rfl, 0, rfl⟩
theorem Qt.some {v : Value} {w : World} {n : Nat} : Qt v w (.returned v) (w.drewN n) := ⟨rfl, n, rfl⟩
theorem Qt.drew {v : Value} {w : World} : Qt v w (.returned v) w.drew := ⟨rfl, 1, rfl⟩
theorem Qt.of {v v' : Value} {w : World} {n : Nat} (h : v' = v) : Qt v w (.returned v') (w.drewN n) := ⟨by rw [h], n, rfl⟩
theorem Qt.of0 {v v' : Value} {w : World} (h : v' = v) : Qt v w (.returned v') w := ⟨by rw [h], 0, rfl⟩
theorem Qt.more {v : Value} {w w' : World} {a : Nat} {e : Ending} (h : Qt v (w.drewN a) e w') : Qt v w e w' := by
  obtain ⟨h1, n, h2⟩ := h
  exact ⟨h1, a + n, by rw [h2, World.drewN_drewN]⟩
/-- In a quiet region, ahead of any draw. -/
theorem Qt.quiet {P : Program} {f : FuncId} {args : Array Value} {w : World} {n : Nat} {v : Value} (h : Calls P f args (w.drewN n) (Qt v (w.drewN n))) :
    Calls P f args (w.drewN n) fun e w'' => e = .returned v ∧ ∃ m, w'' = w.drewN m :=
  h.mono fun _ _ ⟨he, m, hm⟩ => ⟨he, n + m, by rw [hm, World.drewN_drewN]⟩
/-- In a quiet region behind draws. -/
theorem Qt.quiet_add {P : Program} {f : FuncId} {args : Array Value} {w : World} {a n : Nat} {v : Value} (h : Calls P f args (w.drewN (a + n)) (Qt v (w.drewN (a + n)))) :
    Calls P f args (w.drewN (a + n)) fun e w'' => e = .returned v ∧ ∃ m, w'' = w.drewN (a + m) :=
  h.mono fun _ _ ⟨he, m, hm⟩ => ⟨he, n + m, by rw [hm, World.drewN_drewN, Nat.add_assoc]⟩
theorem int_eq {k : IntKind} {a b : Int} (h : a = b) : Value.int k a = Value.int k b := by rw [h]
end Go.Proofs.YtfeahgcigmoijaaGreatDoor
/- Slices of integers that read as lists, and rows of the call's own: words for all walks. No condition. -/
namespace Go.Proofs.YtfeahgcigmoijaaGreatDoor
open Go.RowKit
namespace SlR
theorem blockAdd (a : Addr) (n : Nat) : (a.add n).block = a.block := by unfold Addr.add; split <;> rfl
/-- The cells behind address A read as xs (integers of kind k); they lie below block B. -/
def Rd (k : IntKind) (w : World) (B : Nat) (A : Option Addr) (xs : List Int) : Prop :=
  ∀ j x, xs[j]? = some x → ∃ ad : Addr, A = some ad ∧ ad.block < B ∧ w.cell? (ad.add j) = some (.int k x)
section
variable {k : IntKind} {w w' : World} {B B' : Nat} {A : Option Addr} {xs : List Int}
theorem Rd.nil : Rd k w B A [] := fun j x h => by simp at h
theorem Rd.keep (h : Rd k w B A xs) (hk : ∀ p : Addr, p.block < B → w'.cell? p = w.cell? p) : Rd k w' B A xs := fun j x hx => by
  obtain ⟨ad, h1, h2, h3⟩ := h j x hx
  exact ⟨ad, h1, h2, (hk _ (by rw [blockAdd]; exact h2)).trans h3⟩
theorem Rd.below (h : Rd k w B A xs) (hb : Below B w w') : Rd k w' B A xs := h.keep fun _ hp => hb.cell hp
theorem Rd.more (h : Rd k w B A xs) (hB : B ≤ B') : Rd k w B' A xs := fun j x hx => by
  obtain ⟨ad, h1, h2, h3⟩ := h j x hx
  exact ⟨ad, h1, by omega, h3⟩
theorem Rd.belowM (h : Rd k w B A xs) (hb : Below B' w w') (hB : B ≤ B') : Rd k w' B A xs := h.below (hb.mono hB)
theorem Rd.alloc (h : Rd k w B A xs) (hB : B ≤ w.heap.size) (o : Obj) : Rd k (w.alloc o) B A xs := h.keep fun p hp => World.cell?_alloc_lt w o p (by omega)
theorem Rd.setCell (h : Rd k w B A xs) {p : Addr} (hB : B ≤ p.block) (u : Value) : Rd k (w.setCell p u) B A xs :=
  h.keep fun q hq => World.cell?_setCell_other w p q u (fun e => by subst e; omega)
theorem Rd.drewN (h : Rd k w B A xs) (n : Nat) : Rd k (w.drewN n) B A xs := h
theorem Rd.drew (h : Rd k w B A xs) : Rd k w.drew B A xs := h
theorem Rd.at (h : Rd k w B A xs) {j : Nat} (hj : j < xs.length) : ∃ ad x, A = some ad ∧ ad.block < B ∧ xs[j]? = some x ∧ w.cell? (ad.add j) = some (.int k x) := by
  obtain ⟨ad, h1, h2, h3⟩ := h j _ (List.getElem?_eq_getElem hj)
  exact ⟨ad, _, h1, h2, List.getElem?_eq_getElem hj, h3⟩
/-- The front part, at the same address. -/
theorem Rd.front (h : Rd k w B A xs) (n : Nat) : Rd k w B A (xs.take n) := fun j x hx => by
  refine h j x ?_
  rw [List.getElem?_take] at hx
  split at hx
  · exact hx
  · cases hx
theorem Rd.of_own {base : Nat} {e : TypeId} {n c : Nat} (h : w.ownsRow base e 1 (.slice A n c) n (xs.map (Value.int k))) : Rd k w w.heap.size A xs := fun j x hx => by
  have hl : j < xs.length := (List.getElem?_eq_some_iff.mp hx).1
  have hn : 0 < n := by have := h.1; simp at this; omega
  obtain ⟨g, cap, hv, _, hlt⟩ := h.form hn
  have hA : A = some ⟨g, 0, none⟩ := by injection hv
  subst hA
  exact ⟨_, rfl, hlt, h.cells (g := g) rfl j _ (by simp [hx])⟩
theorem own_form {base : Nat} {e : TypeId} {n : Nat} {v : Value} {vs : List Value} (h : w.ownsRow base e 1 v n vs) : ∃ A c, v = .slice A n c := by
  rcases h.2 with ⟨rfl, rfl⟩ | ⟨g, cap, cur, rfl, _⟩
  · exact ⟨_, _, rfl⟩
  · exact ⟨_, _, rfl⟩
end
theorem take_snoc {α : Type} {zs : List α} {k : Nat} {z : α} (h : zs[k]? = some z) : zs.take (k + 1) = zs.take k ++ [z] := by
  rw [List.take_add_one, h]; rfl
theorem zip_at {α : Type} {f : α → α → α} {xs ys : List α} {k : Nat} {x y : α} (hx : xs[k]? = some x) (hy : ys[k]? = some y) : (List.zipWith f xs ys)[k]? = some (f x y) := by
  rw [List.getElem?_zipWith, hx, hy]
end SlR
end Go.Proofs.YtfeahgcigmoijaaGreatDoor
/- errors.As at a target of type *api.Errno, and an error that is nil or an api.Errno (Go's own text walked). Condition: the listed variable errors.errorType reads as laid; the target's cell may be written. -/
namespace Go.Proofs.YtfeahgcigmoijaaGreatDoor
open Go.RowKit Go.Extern.Stop Go.Stop Go.Extern Go.Lib
namespace ErrAs
/-- What the listed variable holds. -/
def Laid (w : World) : Prop := w.cell? ⟨0, 0, none⟩ = some (.iface 114 (.agg #[.pointer (some ⟨4, 31, none⟩)]))
theorem as_nil (t : Value) (w : World) :
    Calls Tryz.prog 34 #[.nilIface, t] w fun e w' => e = .returned (.bool false) ∧ w = w' := by
  go_enter Tryz.func34, Tryz.ntmps34
  go_wp2
  go_ret
  exact ⟨rfl, rfl⟩

theorem valueOfP (t : Addr) (w : World) : (ReflectliteValue.unpack (.iface 79 (.pointer (some t)))).run Tryz.prog w
    = .ok (.agg #[.pointer (some ⟨4, 79, none⟩), .pointer (some ⟨w.heap.size, 0, none⟩), .int .u64 150]) (w.alloc (.cells #[.pointer (some t)] 79)) := by kernel_rfl
theorem typeP (a : Addr) (w : World) : (ReflectliteValue.methodAny (ReflectliteValue.valueError "reflectlite.Value.Type" 0) (fun t _ _ _ => ReflectliteType.toType t) #[.agg #[.pointer (some ⟨4, 79, none⟩), .pointer (some a), .int .u64 150]]).run Tryz.prog w
    = .ok (.iface 114 (.agg #[.pointer (some ⟨4, 79, none⟩)])) w := by kernel_rfl
theorem methodKind (h : Value) (w : World) : (Go.method 281 114 (.agg #[h]) "Kind").run Tryz.prog w = .ok (108, h) w := by kernel_rfl
theorem kindP (w : World) : ((ReflectliteType.abiMethod fun t => (fun a : Nat => Value.int IntKind.u8 (a : Int)) <$> Rtype.kind t) #[.pointer (some ⟨4, 79, none⟩)]).run Tryz.prog w = .ok (.int .u8 22) w := by kernel_rfl
theorem kindE (w : World) : ((ReflectliteType.abiMethod fun t => (fun a : Nat => Value.int IntKind.u8 (a : Int)) <$> Rtype.kind t) #[.pointer (some ⟨4, 77, none⟩)]).run Tryz.prog w = .ok (.int .u8 2) w := by kernel_rfl

theorem rlm (z : Sem Value) (f : TypeId → Addr → Nat → Nat → Sem Value) (v : Value) :
    ReflectliteValue.method z f #[v] = (do match ← ReflectliteValue.parts v with | none => z | some (t, a, fl) => f t a fl (fl % 32)) := rfl
theorem partsP (a : Addr) (w : World) : (ReflectliteValue.parts (.agg #[.pointer (some ⟨4, 79, none⟩), .pointer (some a), .int .u64 150])).run Tryz.prog w = .ok (some (79, a, 150)) w := by kernel_rfl
theorem isNilP (a p : Addr) (W : World) (ha : W.cell? a = some (.pointer (some p))) :
    (ReflectliteValue.method (ReflectliteValue.valueError "reflectlite.Value.IsNil" 0) ReflectliteValue.isNil #[.agg #[.pointer (some ⟨4, 79, none⟩), .pointer (some a), .int .u64 150]]).run Tryz.prog W = .ok (.bool false) W := by
  rw [rlm]
  simp only [Sem.run_bind, partsP, Result.andThen]
  simp [ReflectliteValue.isNil, loadVar, isAgg, underlying, Tryz.underlying79, ha, Result.andThen]

theorem methodElem (h : Value) (w : World) : (Go.method 281 114 (.agg #[h]) "Elem").run Tryz.prog w = .ok (118, .agg #[h]) w := by kernel_rfl
theorem methodImplements (h : Value) (w : World) : (Go.method 281 114 (.agg #[h]) "Implements").run Tryz.prog w = .ok (119, .agg #[h]) w := by kernel_rfl
theorem methodAssignableTo (h : Value) (w : World) : (Go.method 281 114 (.agg #[h]) "AssignableTo").run Tryz.prog w = .ok (116, .agg #[h]) w := by kernel_rfl
theorem elemP (w : World) : (ReflectliteType.method ReflectliteType.elem #[.agg #[.pointer (some ⟨4, 79, none⟩)]]).run Tryz.prog w = .ok (.iface 114 (.agg #[.pointer (some ⟨4, 77, none⟩)])) w := by kernel_rfl
theorem implementsE (w : World) : (ReflectliteType.relation "Implements" ReflectliteType.implements_ #[.agg #[.pointer (some ⟨4, 77, none⟩)], .iface 114 (.agg #[.pointer (some ⟨4, 31, none⟩)])]).run Tryz.prog w = .ok (.bool true) w := by kernel_rfl
theorem typeOfE (v : Value) (w : World) : (ReflectliteType.typeOf #[.iface 77 v]).run Tryz.prog w = .ok (.iface 114 (.agg #[.pointer (some ⟨4, 77, none⟩)])) w := by kernel_rfl
theorem assignableE (w : World) : (ReflectliteType.relation "AssignableTo" ReflectliteType.assignableTo #[.agg #[.pointer (some ⟨4, 77, none⟩)], .iface 114 (.agg #[.pointer (some ⟨4, 77, none⟩)])]).run Tryz.prog w = .ok (.bool true) w := by kernel_rfl
theorem valueOfE (k : Int) (w : World) : (ReflectliteValue.unpack (.iface 77 (.int .i64 k))).run Tryz.prog w
    = .ok (.agg #[.pointer (some ⟨4, 77, none⟩), .pointer (some ⟨w.heap.size, 0, none⟩), .int .u64 130]) (w.alloc (.cells #[.int .i64 k] 77)) := by kernel_rfl

theorem elemOfP (w : World) : (Rtype.elem? 79).run Tryz.prog w = .ok (some 77) w := by kernel_rfl
theorem mkE (p : Addr) (w : World) : (ReflectliteValue.mk 77 p ReflectliteValue.flagAddr).run Tryz.prog w = .ok (.agg #[.pointer (some ⟨4, 77, none⟩), .pointer (some p), .int .u64 386]) w := by kernel_rfl
theorem elemVP (a p : Addr) (W : World) (ha : W.cell? a = some (.pointer (some p))) :
    (ReflectliteValue.method (ReflectliteValue.valueError "reflectlite.Value.Elem" 0) ReflectliteValue.elem #[.agg #[.pointer (some ⟨4, 79, none⟩), .pointer (some a), .int .u64 150]]).run Tryz.prog W
      = .ok (.agg #[.pointer (some ⟨4, 77, none⟩), .pointer (some p), .int .u64 386]) W := by
  rw [rlm]
  simp only [Sem.run_bind, partsP, Result.andThen]
  simp [ReflectliteValue.elem, loadVar, isAgg, underlying, Tryz.underlying79, ha, Result.andThen, elemOfP, mkE]
theorem rls (v x : Value) : ReflectliteValue.set #[v, x] = (do
    let (some (dst, a, fl), some (src, b, _)) := (← ReflectliteValue.parts v, ← ReflectliteValue.parts x)
      | unsupported (.noEntry "extern/(internal/reflectlite.Value).Set.zeroValue")
    if fl / ReflectliteValue.flagAddr % 2 == 0 then unsupported (.noEntry "extern/(internal/reflectlite.Value).Set.unaddressable")
    let val ← loadVar src b
    if ← Rtype.directlyAssignable dst src then storeVar dst a val
    else if ← Rtype.implements dst src then
      if (← Rtype.kind src) == 20 then
        match val with
        | .nilIface => unsupported (.noEntry "extern/reflectlite: a nil value of one interface type handed on as a value of another")
        | _ => storeVar dst a val
      else storeVar dst a (.iface src val)
    else panicString ("reflectlite.Set: value of type " ++ (← Rtype.spelt src) ++ " is not assignable to type " ++ (← Rtype.spelt dst))
    pure (.tuple #[])) := rfl
theorem partsEa (a : Addr) (w : World) : (ReflectliteValue.parts (.agg #[.pointer (some ⟨4, 77, none⟩), .pointer (some a), .int .u64 386])).run Tryz.prog w = .ok (some (77, a, 386)) w := by kernel_rfl
theorem partsE (a : Addr) (w : World) : (ReflectliteValue.parts (.agg #[.pointer (some ⟨4, 77, none⟩), .pointer (some a), .int .u64 130])).run Tryz.prog w = .ok (some (77, a, 130)) w := by kernel_rfl
theorem directE (w : World) : (Rtype.directlyAssignable 77 77).run Tryz.prog w = .ok true w := by kernel_rfl
theorem setE (ta b : Addr) (k : Int) (old : Value) (W : World) (hb : W.cell? b = some (.int .i64 k)) (ht : W.cell? ta = some old) (hf : W.frozen? ta = false) :
    (ReflectliteValue.set #[.agg #[.pointer (some ⟨4, 77, none⟩), .pointer (some ta), .int .u64 386], .agg #[.pointer (some ⟨4, 77, none⟩), .pointer (some b), .int .u64 130]]).run Tryz.prog W
      = .ok (.tuple #[]) (W.setCell ta (.int .i64 k)) := by
  rw [rls]
  simp only [Sem.run_bind, partsEa, partsE, Result.andThen]
  simp [ReflectliteValue.flagAddr, loadVar, isAgg, underlying, Tryz.underlying77, hb, Result.andThen, directE, storeVar, Value.cells, storeCells, Addr.add]
  rw [run_store Tryz.prog W ta _ _ (by rfl)]
  simp [ht, hf]
set_option maxHeartbeats 4000000 in
theorem as_hit (k : Int) (t : Addr) (old : Value) (w : World) (hg : w.cell? ⟨0, 0, none⟩ = some (.iface 114 (.agg #[.pointer (some ⟨4, 31, none⟩)]))) (ht0 : w.cell? t = some old) (hf0 : w.frozen? t = false) :
    Calls Tryz.prog 34 #[.iface 77 (.int .i64 k), .iface 79 (.pointer (some t))] w fun ev w' => ev = .returned (.bool true) ∧ w' = ((((w.alloc (.cells #[.pointer (some t)] 79)).alloc (.cells #[.pointer (some ⟨4, 79, none⟩), .pointer (some ⟨w.heap.size, 0, none⟩), .int .u64 150] 97)).alloc (.cells #[.pointer (some ⟨4, 79, none⟩), .pointer (some ⟨w.heap.size, 0, none⟩), .int .u64 150] 97)).alloc (.cells #[.int .i64 k] 77)).setCell t (.int .i64 k) := by
  have h6 := @run_callFunc_extern Tryz.prog 57 _ (fun args => ReflectliteValue.unpack (args.getD 0 (.tuple #[]))) Tryz.func57 (by kernel_rfl) (by kernel_rfl) (by kernel_rfl) (by kernel_rfl)
  have h7 := @run_callFunc_extern Tryz.prog 58 _ (ReflectliteValue.methodAny (ReflectliteValue.valueError "reflectlite.Value.Type" 0) (fun t _ _ _ => ReflectliteType.toType t)) Tryz.func58 (by kernel_rfl) (by kernel_rfl) (by kernel_rfl) (by kernel_rfl)
  have h8 := @run_callFunc_extern Tryz.prog 59 _ (ReflectliteValue.method (ReflectliteValue.valueError "reflectlite.Value.IsNil" 0) ReflectliteValue.isNil) Tryz.func59 (by kernel_rfl) (by kernel_rfl) (by kernel_rfl) (by kernel_rfl)
  have h27 := @run_callFunc_extern Tryz.prog 108 _ (ReflectliteType.abiMethod fun t => do pure (.int .u8 (← Rtype.kind t))) Tryz.func108 (by kernel_rfl) (by kernel_rfl) (by kernel_rfl) (by kernel_rfl)
  have h37 := @run_callFunc_extern Tryz.prog 118 _ (ReflectliteType.method ReflectliteType.elem) Tryz.func118 (by kernel_rfl) (by kernel_rfl) (by kernel_rfl) (by kernel_rfl)
  have h38 := @run_callFunc_extern Tryz.prog 119 _ (ReflectliteType.relation "Implements" ReflectliteType.implements_) Tryz.func119 (by kernel_rfl) (by kernel_rfl) (by kernel_rfl) (by kernel_rfl)
  have h10 := @run_callFunc_extern Tryz.prog 70 _ ReflectliteType.typeOf Tryz.func70 (by kernel_rfl) (by kernel_rfl) (by kernel_rfl) (by kernel_rfl)
  have h35 := @run_callFunc_extern Tryz.prog 116 _ (ReflectliteType.relation "AssignableTo" ReflectliteType.assignableTo) Tryz.func116 (by kernel_rfl) (by kernel_rfl) (by kernel_rfl) (by kernel_rfl)
  have h11 := @run_callFunc_extern Tryz.prog 71 _ (ReflectliteValue.method (ReflectliteValue.valueError "reflectlite.Value.Elem" 0) ReflectliteValue.elem) Tryz.func71 (by kernel_rfl) (by kernel_rfl) (by kernel_rfl) (by kernel_rfl)
  have h12 := @run_callFunc_extern Tryz.prog 72 _ ReflectliteValue.set Tryz.func72 (by kernel_rfl) (by kernel_rfl) (by kernel_rfl) (by kernel_rfl)
  have tO := typeOfE
  have mA := methodAssignableTo
  have a25 := assignableE
  have v25 := valueOfE
  have f6 := valueOfP
  have f7 := typeP
  have mK := methodKind
  have mE := methodElem
  have mI := methodImplements
  have k27 := kindP
  have k25 := kindE
  have e27 := elemP
  have i25 := implementsE
  have n8 := isNilP ⟨w.heap.size, 0, none⟩ t ((w.alloc (.cells #[.pointer (some t)] 79)).alloc (.cells #[.pointer (some ⟨4, 79, none⟩), .pointer (some ⟨w.heap.size, 0, none⟩), .int .u64 150] 97)) (by simp)
  have hlt : 0 < w.heap.size := by
    rcases Nat.lt_or_ge 0 w.heap.size with h | h
    · exact h
    · simp [World.cell?, Array.getElem?_eq_none h] at hg
  have hg2 : ((w.alloc (.cells #[.pointer (some t)] 79)).alloc (.cells #[.pointer (some ⟨4, 79, none⟩), .pointer (some ⟨w.heap.size, 0, none⟩), .int .u64 150] 97)).cell? ⟨0, 0, none⟩ = some (.iface 114 (.agg #[.pointer (some ⟨4, 31, none⟩)])) := by
    rw [World.cell?_alloc_lt _ _ ⟨0, 0, none⟩ (by simp <;> omega), World.cell?_alloc_lt _ _ ⟨0, 0, none⟩ hlt]; exact hg
  have htl : t.block < w.heap.size := by
    rcases Nat.lt_or_ge t.block w.heap.size with h | h
    · exact h
    · simp [World.cell?, Array.getElem?_eq_none h] at ht0
  have el := elemVP ⟨w.heap.size, 0, none⟩ t (((w.alloc (.cells #[.pointer (some t)] 79)).alloc (.cells #[.pointer (some ⟨4, 79, none⟩), .pointer (some ⟨w.heap.size, 0, none⟩), .int .u64 150] 97)).alloc (.cells #[.pointer (some ⟨4, 79, none⟩), .pointer (some ⟨w.heap.size, 0, none⟩), .int .u64 150] 97)) (by rw [World.cell?_alloc_lt _ _ ⟨w.heap.size, 0, none⟩ (by simp <;> omega)]; simp)
  have st := setE t ⟨w.heap.size + 1 + 1 + 1, 0, none⟩ k old ((((w.alloc (.cells #[.pointer (some t)] 79)).alloc (.cells #[.pointer (some ⟨4, 79, none⟩), .pointer (some ⟨w.heap.size, 0, none⟩), .int .u64 150] 97)).alloc (.cells #[.pointer (some ⟨4, 79, none⟩), .pointer (some ⟨w.heap.size, 0, none⟩), .int .u64 150] 97)).alloc (.cells #[.int .i64 k] 77))
    (by rw [World.cell?_alloc_at _ _ _ _ (by simp)]; rfl)
    (by rw [World.cell?_alloc_lt _ _ t (by simp; omega), World.cell?_alloc_lt _ _ t (by simp; omega), World.cell?_alloc_lt _ _ t (by simp; omega), World.cell?_alloc_lt _ _ t htl]; exact ht0)
    (by rw [World.frozen?_alloc_old _ _ t (by simp; omega), World.frozen?_alloc_old _ _ t (by simp; omega), World.frozen?_alloc_old _ _ t (by simp; omega), World.frozen?_alloc_old _ _ t (Nat.ne_of_lt htl)]; exact hf0)
  go_enter Tryz.func34, Tryz.ntmps34
  go_wp2
  refine wp_loop_rounds 1 ?_
  rw [rounds_succ]
  go_wp2
  go_ret
  exact ⟨rfl, rfl⟩
theorem Laid.lt {w : World} (h : Laid w) : 0 < w.heap.size := by
  rcases Nat.lt_or_ge 0 w.heap.size with h1 | h1
  · exact h1
  · simp [Laid, World.cell?, Array.getElem?_eq_none h1] at h
theorem Laid.below {B : Nat} {w w' : World} (h : Laid w) (hb : Below B w w') (hB : w.heap.size ≤ B) : Laid w' := by
  have := h.lt
  exact (hb.cell (p := ⟨0, 0, none⟩) (Nat.lt_of_lt_of_le this hB)).trans h
/-- Since w0 nothing that lay there has changed; the listed variable reads as laid. -/
def St (w0 w : World) : Prop := Below w0.heap.size w0 w ∧ Laid w
theorem St.start {w : World} (h : Laid w) : Hid (St w w) := Lib.hid ⟨Below.refl _ _, h⟩
theorem St.below {w0 w w' : World} (h : St w0 w) (hb : Below w.heap.size w w') : St w0 w' :=
  ⟨h.1.trans (hb.mono h.1.size), h.2.below hb (Nat.le_refl _)⟩
theorem St.drewN {w0 w : World} (h : Hid (St w0 w)) (n : Nat) : Hid (St w0 (w.drewN n)) := Lib.hid ⟨h.out.1.trans ⟨rfl, rfl, rfl, Nat.le_refl _, fun _ _ => rfl⟩, h.out.2⟩
theorem Laid.drewN {w : World} (h : Laid w) (n : Nat) : Laid (w.drewN n) := h
end ErrAs
end Go.Proofs.YtfeahgcigmoijaaGreatDoor
/- Worlds that only grow: what was there reads as before. Classes that find the way from an earlier world to a later one, so that what is known of memory is carried along. No condition. -/
namespace Go.Proofs.YtfeahgcigmoijaaGreatDoor
open Go.RowKit Go.Lib
open SlR
/-- Nothing that was in w has changed in w'. -/
class Ext (w w' : World) : Prop where
  h : Below w.heap.size w w'
/-- One call's step. -/
class Step (w : outParam World) (w' : World) : Prop where
  h : Below w.heap.size w w'
instance (priority := 2000) Ext.refl (w : World) : Ext w w := ⟨Below.refl _ _⟩
theorem Below.step {w a b : World} (h : Below w.heap.size w a) (k : Below a.heap.size a b) : Below w.heap.size w b := h.trans (k.mono h.size)
instance Ext.alloc {w a : World} [h : Ext w a] (o : Obj) : Ext w (a.alloc o) := ⟨h.h.alloc h.h.size o⟩
instance Ext.drewN {w a : World} [h : Ext w a] (n : Nat) : Ext w (a.drewN n) := ⟨h.h.trans ⟨rfl, rfl, rfl, Nat.le_refl _, fun _ _ => rfl⟩⟩
instance Ext.drew {w a : World} [h : Ext w a] : Ext w a.drew := ⟨h.h.drew⟩
instance Ext.step {w a b : World} [k : Step a b] [h : Ext w a] : Ext w b := ⟨Below.step h.h k.h⟩
theorem Ext.size {w w' : World} (h : Ext w w') : w.heap.size ≤ w'.heap.size := h.h.size
theorem Step.of {w w' : World} (h : Ext w w') : Step w w' := ⟨h.h⟩
/-- A slice's cells read as xs. -/
def Row (k : IntKind) (w : World) (A : Option Addr) (xs : List Int) : Prop := Rd k w w.heap.size A xs
theorem Row.to {k : IntKind} {w w' : World} {A : Option Addr} {xs : List Int} (h : Row k w A xs) [e : Ext w w'] : Row k w' A xs := (Rd.below h e.h).more e.h.size
theorem Row.nil {k : IntKind} {w : World} {A : Option Addr} : Row k w A [] := Rd.nil
theorem Row.of_own {k : IntKind} {w : World} {base : Nat} {e : TypeId} {n c : Nat} {A : Option Addr} {xs : List Int} (h : w.ownsRow base e 1 (.slice A n c) n (xs.map (Value.int k))) : Row k w A xs := Rd.of_own h
theorem Row.lit1 {k : IntKind} (w : World) (H : Nat) (t : TypeId) (a : Int) (h : w.heap.size = H) : Row k (w.alloc (.cells #[.int k a] t (0, 0))) (some ⟨H, 0, none⟩) [a] := by
  subst h
  intro j x hj
  match j, hj with
  | 0, hj => simp at hj; subst hj; exact ⟨_, rfl, by simp, by simp [Addr.add]⟩
theorem Row.lit2 {k : IntKind} (w : World) (H : Nat) (t : TypeId) (a b : Int) (h : w.heap.size = H) : Row k (w.alloc (.cells #[.int k a, .int k b] t (0, 0))) (some ⟨H, 0, none⟩) [a, b] := by
  subst h
  intro j x hj
  match j, hj with
  | 0, hj => simp at hj; subst hj; exact ⟨_, rfl, by simp, by simp [Addr.add]⟩
  | 1, hj => simp at hj; subst hj; exact ⟨_, rfl, by simp, by simp [Addr.add]⟩
theorem Row.litN {k : IntKind} (w : World) (H : Nat) (t : TypeId) (xs : List Int) (h : w.heap.size = H) : Row k (w.alloc (.cells (xs.map (Value.int k)).toArray t (0, 0))) (some ⟨H, 0, none⟩) xs := by
  subst h
  intro j x hj
  refine ⟨_, rfl, by simp, ?_⟩
  have hc := cell_of_row (w.alloc (.cells (xs.map (Value.int k)).toArray t (0, 0))) w.heap.size j _ t (0, 0) (heap_alloc_new w _)
  have e : (⟨w.heap.size, 0, none⟩ : Addr).add j = ⟨w.heap.size, j, none⟩ := by unfold Addr.add; split <;> simp_all
  rw [e, hc]
  simp [hj]
theorem ErrAs.Laid.to {w w' : World} (h : ErrAs.Laid w) [e : Ext w w'] : ErrAs.Laid w' := h.below e.h (Nat.le_refl _)
end Go.Proofs.YtfeahgcigmoijaaGreatDoor
/- append of a slice that reads as a list, onto a row of the call's own. Conditions: the lengths as stated. -/
namespace Go.Proofs.YtfeahgcigmoijaaGreatDoor
open Go.RowKit Go.Lib
open SlR
namespace App
variable {P : Program}
theorem runNil (w : World) (base : Nat) (t ty e : TypeId) (i : TypeInfo) (size : Nat) (ht : P.underlying t = some (.slice e)) (hi : P.info? e = some i) (v : Value) (n : Nat) (xs : List Value)
    (hown : w.ownsRow base e size v n xs) (c : Nat) : (Builtin.append_ #[t, t] ty #[v, .slice none 0 c]).run P w = .ok v w := by
  obtain ⟨_, ⟨rfl, rfl⟩ | ⟨g, cap, cur, rfl, _, _, hle, _⟩⟩ := hown
  all_goals simp [Builtin.append_, run_underlying ht, sizeOf, typeInfo, Builtin.lenOf, Builtin.firstCells, storeCells, *]
/-- The new row lies in the old row's block or in a new one. -/
theorem run (k : IntKind) (w : World) (base : Nat) (t ty e : TypeId) (i : TypeInfo) (z : Value) (bytes : Nat) (ht : P.underlying t = some (.slice e)) (hi : P.info? e = some i) (hz : i.zero = some z)
    (hsize : i.size = 1) (hby : i.bytes = bytes) (hzs : z.cells.size = 1) (v : Value) (n : Nat) (xs : List Value) (hown : w.ownsRow base e 1 v n xs)
    (A : Option Addr) (m c : Nat) (news : List Int) (hm : news.length = m) (hr : Row k w A news) (h63 : n + m ≤ maxLen) (hbytes : (n + m) * bytes ≤ 140737488355328) (hbase : base ≤ w.heap.size) :
    ∃ A' c' w', (Builtin.append_ #[t, t] ty #[v, .slice A m c]).run P w = .ok (.slice A' (n + m) c') w' ∧ w'.ownsRow base e 1 (.slice A' (n + m) c') (n + m) (xs ++ news.map (Value.int k)) ∧ w.grownBy w' v.ownBlock := by
  cases A with
  | none =>
    have hn : news = [] := by
      cases news with
      | nil => rfl
      | cons a l => obtain ⟨ad, h, _⟩ := hr 0 a rfl; cases h
    subst hn
    obtain rfl : m = 0 := hm.symm
    obtain ⟨A', c', rfl⟩ := own_form hown
    exact ⟨A', c', w, runNil w base t ty e i 1 ht hi _ n xs hown c, by simpa using hown, World.grownBy.refl w _⟩
  | some ad =>
    have hcells : ∀ j u, (news.map (Value.int k))[j]? = some u → w.cell? (ad.add j) = some u := by
      intro j u hu
      rw [List.getElem?_map] at hu
      obtain ⟨x, hx, rfl⟩ := Option.map_eq_some_iff.mp hu
      obtain ⟨ad', h, _, hc⟩ := hr j x hx
      injection h with h
      subst h
      exact hc
    obtain ⟨v', w', hrun, h2, h3, _, _⟩ := run_append_own_at (P := P) w base t ty e i z 1 bytes ht hi hz hsize hby hzs (by omega) v n xs hown ad m c (news.map (Value.int k)) (by simp [hm]) hcells
      (by intro u hu; obtain ⟨x, _, rfl⟩ := List.mem_map.mp hu; rfl) h63 hbytes hbase
    obtain ⟨A', c', rfl⟩ := own_form h2
    exact ⟨A', c', w', hrun, h2, h3⟩
theorem wp {ops : Array Oper} {rest : List Oper} {o : Oper} {a : Act} {Q : Exit → Act → World → Prop} {w : World} (k : IntKind) (hgd : o.guard = none) (s x : Operand) (t : TypeId)
    (ho : o.op = .call { callee := .builtin .append, args := #[s, x], argTypes := #[t, t] })
    (base : Nat) (e : TypeId) (i : TypeInfo) (z : Value) (bytes : Nat) (ht : P.underlying t = some (.slice e)) (hi : P.info? e = some i) (hz : i.zero = some z)
    (hsize : i.size = 1) (hby : i.bytes = bytes) (hzs : z.cells.size = 1) (v : Value) (n : Nat) (xs : List Value) (hs : a.eval s = v) (hown : w.ownsRow base e 1 v n xs)
    (A : Option Addr) (m c : Nat) (news : List Int) (hx : a.eval x = .slice A m c) (hm : news.length = m) (hr : Row k w A news) (h63 : n + m ≤ maxLen) (hbytes : (n + m) * bytes ≤ 140737488355328) (hbase : base ≤ w.heap.size)
    (h : ∀ A' c' w', w'.ownsRow base e 1 (.slice A' (n + m) c') (n + m) (xs ++ news.map (Value.int k)) → w.grownBy w' v.ownBlock → wpList P ops Q rest (a.put o.dst (.slice A' (n + m) c')) w') : wpList P ops Q (o :: rest) a w := by
  refine wpList_plain hgd fun K hK => ?_
  obtain ⟨A', c', w', hrun, h2, h3⟩ := run k w base t o.type e i z bytes ht hi hz hsize hby hzs v n xs hown A m c news hm hr h63 hbytes hbase
  unfold Oper.wp
  simp only [execOp, ho, resolve, invoke, builtin, Sem.run_bind, Sem.run_pure, Result.andThen_ok, List.map_toArray, List.map_cons, List.map_nil, hs, hx, hrun]
  exact hK _ _ (h A' c' w' h2 h3)
/-- A copy of a slice: onto an empty row that the call has just made. -/
theorem copy {ops : Array Oper} {rest : List Oper} {o : Oper} {a : Act} {Q : Exit → Act → World → Prop} {w : World} (k : IntKind) (H : Nat) (hgd : o.guard = none) (s x : Operand) (t : TypeId)
    (ho : o.op = .call { callee := .builtin .append, args := #[s, x], argTypes := #[t, t] })
    (e : TypeId) (i : TypeInfo) (z : Value) (bytes : Nat) (ht : P.underlying t = some (.slice e)) (hi : P.info? e = some i) (hz : i.zero = some z)
    (hsize : i.size = 1) (hby : i.bytes = bytes) (hzs : z.cells.size = 1) (hs : a.eval s = .slice (some ⟨H, 0, none⟩) 0 0) (hH : w.heap.size = H)
    (A : Option Addr) (m c : Nat) (news : List Int) (hx : a.eval x = .slice A m c) (hm : news.length = m) (hr : Row k w A news) (h63 : m ≤ maxLen) (hbytes : m * bytes ≤ 140737488355328)
    (h : ∀ A' c' w', Row k w' A' news → Step w w' → wpList P ops Q rest (a.put o.dst (.slice A' m c')) w') : wpList P ops Q (o :: rest) a (w.alloc (.cells #[] e (0, 0))) := by
  subst hH
  have hown : (w.alloc (.cells #[] e (0, 0))).ownsRow w.heap.size e 1 (.slice (some ⟨w.heap.size, 0, none⟩) 0 0) 0 [] := World.ownsRow_lit w #[] 0 (Nat.le_refl _) (by omega) rfl
  refine wp k hgd s x t ho w.heap.size e i z bytes ht hi hz hsize hby hzs _ 0 [] hs hown A m c news hx hm hr.to (by omega) (by rw [Nat.zero_add]; exact hbytes) (by simp) fun A' c' w' h2 h3 => ?_
  rw [Nat.zero_add, List.nil_append] at h2
  rw [Nat.zero_add]
  refine h A' c' w' (Row.of_own h2) ⟨((Below.refl _ w).alloc (Nat.le_refl _) _).grown h3 (by simp) (fun k hk => ?_)⟩
  simp only [Value.ownBlock, Option.some.injEq] at hk
  omega
/-- A copy of a slice: onto an empty row that the call has just made; the new row is the call's own. -/
theorem copyO {ops : Array Oper} {rest : List Oper} {o : Oper} {a : Act} {Q : Exit → Act → World → Prop} {w : World} (k : IntKind) (H : Nat) (hgd : o.guard = none) (s x : Operand) (t : TypeId)
    (ho : o.op = .call { callee := .builtin .append, args := #[s, x], argTypes := #[t, t] })
    (e : TypeId) (i : TypeInfo) (z : Value) (bytes : Nat) (ht : P.underlying t = some (.slice e)) (hi : P.info? e = some i) (hz : i.zero = some z)
    (hsize : i.size = 1) (hby : i.bytes = bytes) (hzs : z.cells.size = 1) (hs : a.eval s = .slice (some ⟨H, 0, none⟩) 0 0) (hH : w.heap.size = H)
    (A : Option Addr) (m c : Nat) (news : List Int) (hx : a.eval x = .slice A m c) (hm : news.length = m) (hr : Row k w A news) (h63 : m ≤ maxLen) (hbytes : m * bytes ≤ 140737488355328)
    (h : ∀ A' c' w', w'.ownsRow w.heap.size e 1 (.slice A' m c') m (news.map (Value.int k)) → Step w w' → wpList P ops Q rest (a.put o.dst (.slice A' m c')) w') : wpList P ops Q (o :: rest) a (w.alloc (.cells #[] e (0, 0))) := by
  subst hH
  have hown : (w.alloc (.cells #[] e (0, 0))).ownsRow w.heap.size e 1 (.slice (some ⟨w.heap.size, 0, none⟩) 0 0) 0 [] := World.ownsRow_lit w #[] 0 (Nat.le_refl _) (by omega) rfl
  refine wp k hgd s x t ho w.heap.size e i z bytes ht hi hz hsize hby hzs _ 0 [] hs hown A m c news hx hm hr.to (by omega) (by rw [Nat.zero_add]; exact hbytes) (by simp) fun A' c' w' h2 h3 => ?_
  rw [Nat.zero_add, List.nil_append] at h2
  rw [Nat.zero_add]
  refine h A' c' w' h2 ⟨((Below.refl _ w).alloc (Nat.le_refl _) _).grown h3 (by simp) (fun k hk => ?_)⟩
  simp only [Value.ownBlock, Option.some.injEq] at hk
  omega
theorem madeInts (k : IntKind) (n : Nat) : (madeCells (Value.int k 0).cells (n * 1)).toList = (List.replicate n (0 : Int)).map (Value.int k) := by
  rw [show (Value.int k 0).cells = #[Value.int k 0] from rfl, Nat.mul_one, toList_madeCells_one, List.map_replicate]
/-- make of so many noughts. -/
theorem make {ops : Array Oper} {rest : List Oper} {o : Oper} {a : Act} {Q : Exit → Act → World → Prop} {w : World} (k : IntKind) (hg : Region.wanted o (yielded ops a.tmps) = true) (l c : Operand) (t : TypeId) (hop : o.op = Op.makeSlice t l c)
    (e : TypeId) (i : TypeInfo) (bytes : Nat) (h1 : P.underlying t = some (.slice e)) (h2 : P.info? e = some i) (h3 : i.zero = some (.int k 0)) (h4 : i.size = 1) (hby : i.bytes = bytes)
    (kl kc : IntKind) (L C : Int) (n : Nat) (hl : a.eval l = .int kl L) (hc : a.eval c = .int kc C) (hL : L = (n : Int)) (hC : C = (n : Int)) (b2 : bytes * n ≤ 281474976710656) (b3 : n ≤ maxLen)
    (hK : ∀ w', Row k w' (some ⟨w.heap.size, 0, none⟩) (List.replicate n 0) → Step w w' → wpList P ops Q rest (a.put o.dst (.slice (some ⟨w.heap.size, 0, none⟩) n n)) w') :
    wpList P ops Q (o :: rest) a w := by
  refine wpList_step fun K hK' => ?_
  simp only [hg, if_true]
  obtain ⟨w', hrun, r1, r2⟩ := run_make_full (P := P) w w.heap.size t e i (.int k 0) 1 h1 h2 h3 h4 kl kc n (by rw [hby]; exact b2) b3 (Nat.le_refl _)
  subst hL
  subst hC
  rw [madeInts] at r1
  unfold Oper.wp
  simp [execOp, hop, hl, hc, hrun, Result.andThen]
  exact hK' _ _ (hK w' (Row.of_own r1) ⟨(Below.refl _ w).grown r2 (Nat.le_refl _) (fun k h => by cases h)⟩)
end App
end Go.Proofs.YtfeahgcigmoijaaGreatDoor
/- Slices of slices of the call's own, grown by append: the headers in a block of their own type, the rows in blocks of another. Conditions: the lengths as stated. -/
namespace Go.Proofs.YtfeahgcigmoijaaGreatDoor
open Go.RowKit Go.Lib
open SlR
namespace Hdr
variable {P : Program} {k : IntKind} {TU TS : TypeId} {w w' : World}
/-- A row whose cells lie in a block of its own type. -/
def RowU (k : IntKind) (TU : TypeId) (w : World) (A : Option Addr) (xs : List Int) : Prop :=
  ∀ j x, xs[j]? = some x → ∃ (ad : Addr) (cs : Array Value) (fr : Nat × Nat), A = some ad ∧ w.heap[ad.block]? = some (.cells cs TU fr) ∧ w.cell? (ad.add j) = some (.int k x)
/-- Blocks of type TU stay. -/
def Keeps (TU : TypeId) (w w' : World) : Prop := w.heap.size ≤ w'.heap.size ∧ ∀ (i : Nat) (cs : Array Value) (fr : Nat × Nat), w.heap[i]? = some (.cells cs TU fr) → w'.heap[i]? = w.heap[i]?
theorem lt_of_some {i : Nat} {o : Obj} (h : w.heap[i]? = some o) : i < w.heap.size := lt_of_block h
theorem RowU.of_own {base n c : Nat} {A : Option Addr} {xs : List Int} (h : w.ownsRow base TU 1 (.slice A n c) n (xs.map (Value.int k))) : RowU k TU w A xs := fun j x hj => by
  have hl : j < xs.length := (List.getElem?_eq_some_iff.mp hj).1
  have h1 := h.1
  rw [List.length_map] at h1
  rcases h.2 with ⟨_, h0⟩ | ⟨g, cap, cur, hv, _, hg, _⟩
  · omega
  · have hA : A = some ⟨g, 0, none⟩ := by injection hv
    subst hA
    exact ⟨_, cur, _, rfl, hg, h.cells (g := g) rfl j _ (by simp [hj])⟩
theorem RowU.row {A : Option Addr} {xs : List Int} (h : RowU k TU w A xs) : Row k w A xs := fun j x hj => by
  obtain ⟨ad, cs, fr, h1, h2, h3⟩ := h j x hj
  exact ⟨ad, h1, lt_of_some h2, h3⟩
theorem RowU.keep {A : Option Addr} {xs : List Int} (h : RowU k TU w A xs) (hk : Keeps TU w w') : RowU k TU w' A xs := fun j x hj => by
  obtain ⟨ad, cs, fr, h1, h2, h3⟩ := h j x hj
  have h4 := hk.2 _ _ _ h2
  exact ⟨ad, cs, fr, h1, h4.trans h2, (World.cell?_of_block (by rw [blockAdd]; exact h4)).trans h3⟩
theorem Keeps.of_ext (e : Ext w w') : Keeps TU w w' := ⟨e.size, fun i _ _ h => e.h.block i (lt_of_some h)⟩
theorem Keeps.trans {a b c : World} (h : Keeps TU a b) (g : Keeps TU b c) : Keeps TU a c :=
  ⟨Nat.le_trans h.1 g.1, fun i cs fr hi => by
    have h1 := h.2 i cs fr hi
    exact (g.2 i cs fr (h1.trans hi)).trans h1⟩
theorem Keeps.of_grown {B n : Nat} {v : Value} {H : List Value} (hne : TU ≠ TS) (ho : w.ownsRow B TS 1 v n H) (hg : w.grownBy w' v.ownBlock) : Keeps TU w w' :=
  ⟨hg.size, fun i _ _ hi => hg.block i (lt_of_some hi) (fun e => by
    rcases ho.2 with ⟨rfl, _⟩ | ⟨g, cap, cur, rfl, _, hgb, _⟩
    · simp [Value.ownBlock] at e
    · simp only [Value.ownBlock, Option.some.injEq] at e
      subst e
      rw [hgb] at hi
      injection hi with hi
      injection hi with _ ht _
      exact hne ht.symm)⟩
/-- The headers v of n rows, the rows ls; the headers lie in a block of the call's own, from block B on. -/
def HR (k : IntKind) (TU TS : TypeId) (w : World) (B : Nat) (v : Value) (n : Nat) (ls : List (List Int)) : Prop :=
  ∃ H : List Value, w.ownsRow B TS 1 v n H ∧ ls.length = n ∧ ∀ (j : Nat) (row : List Int), ls[j]? = some row → ∃ (A' : Option Addr) (c' : Nat), H[j]? = some (Value.slice A' row.length c') ∧ RowU k TU w A' row
theorem HR.nil (B : Nat) : HR k TU TS w B (.slice none 0 0) 0 [] := ⟨[], World.ownsRow_nil _ _ _ _, rfl, fun j row h => by simp at h⟩
theorem HR.form {B n : Nat} {v : Value} {ls : List (List Int)} (h : HR k TU TS w B v n ls) : ∃ (A : Option Addr) (c : Nat), v = Value.slice A n c := by
  obtain ⟨H, h1, _⟩ := h
  exact own_form h1
theorem HR.lt {B n : Nat} {v : Value} {ls : List (List Int)} (h : HR k TU TS w B v n ls) : ∀ g, v.ownBlock = some g → B ≤ g ∧ g < w.heap.size := by
  obtain ⟨H, h1, _⟩ := h
  exact h1.lt
theorem HR.cap {B n c : Nat} {A : Option Addr} {ls : List (List Int)} (h : HR k TU TS w B (.slice A n c) n ls) : n ≤ c := by
  obtain ⟨H, h1, _⟩ := h
  rcases h1.2 with ⟨_, rfl⟩ | ⟨g, cap, cur, hv, _, _, h2, _⟩
  · omega
  · injection hv with _ _ hc
    omega
theorem HR.rows {B n c : Nat} {A : Option Addr} {ls : List (List Int)} (h : HR k TU TS w B (.slice A n c) n ls) :
    ∀ (j : Nat) (row : List Int), ls[j]? = some row → ∃ (ad : Addr) (A' : Option Addr) (c' : Nat), A = some ad ∧ ad.block < w.heap.size ∧ w.cell? (ad.add j) = some (.slice A' row.length c') ∧ Row k w A' row := fun j row hj => by
  obtain ⟨H, h1, h2, h3⟩ := h
  obtain ⟨A', c', h4, h5⟩ := h3 j row hj
  have hl : j < ls.length := (List.getElem?_eq_some_iff.mp hj).1
  rcases h1.2 with ⟨_, h0⟩ | ⟨g, cap, cur, hv, _, hg, _⟩
  · omega
  · have hA : A = some ⟨g, 0, none⟩ := by injection hv
    subst hA
    exact ⟨_, A', c', rfl, lt_of_some hg, h1.cells (g := g) rfl j _ h4, h5.row⟩
theorem HR.kept {B n : Nat} {v : Value} {ls : List (List Int)} {r : Option Nat} (h : HR k TU TS w B v n ls) (hg : w.grownBy w' r) (hne : v.ownBlock = none ∨ v.ownBlock ≠ r) (hk : Keeps TU w w') : HR k TU TS w' B v n ls := by
  obtain ⟨H, h1, h2, h3⟩ := h
  exact ⟨H, h1.kept hg hne, h2, fun j row hj => by
    obtain ⟨A', c', h4, h5⟩ := h3 j row hj
    exact ⟨A', c', h4, h5.keep hk⟩⟩
theorem grown_of_ext (e : Ext w w') : w.grownBy w' none := ⟨e.h.os, e.h.tape, e.h.output, e.h.size, fun i hi _ => e.h.block i hi⟩
theorem HR.to {B n : Nat} {v : Value} {ls : List (List Int)} (h : HR k TU TS w B v n ls) [e : Ext w w'] : HR k TU TS w' B v n ls :=
  h.kept (grown_of_ext e) (by
    by_cases h0 : v.ownBlock = none
    · exact .inl h0
    · exact .inr h0) (Keeps.of_ext e)
/-- Two headers in blocks apart. -/
def Apart (u v : Value) : Prop := ∀ g, u.ownBlock = some g → v.ownBlock ≠ some g
theorem Apart.symm {u v : Value} (h : Apart u v) : Apart v u := fun g h1 h2 => h g h2 h1
theorem Apart.nil (v : Value) : Apart (.slice none 0 0) v := fun g h => by simp [Value.ownBlock] at h
/-- What an append onto the headers v does to the world: v' is the new value. -/
structure Push (w w' : World) (v v' : Value) (TU : TypeId) : Prop where
  grown : w.grownBy w' v.ownBlock
  keeps : Keeps TU w w'
  lies : v'.ownBlock = v.ownBlock ∨ v'.ownBlock = some w.heap.size
theorem HR.other {B n : Nat} {u v v' : Value} {ls : List (List Int)} (h : HR k TU TS w B u n ls) (p : Push w w' v v' TU) (ha : Apart u v) : HR k TU TS w' B u n ls ∧ Apart u v' := by
  refine ⟨h.kept p.grown ?_ p.keeps, fun g hg hv => ?_⟩
  · cases hu : u.ownBlock with
    | none => exact .inl rfl
    | some g => exact .inr (fun e => ha g hu e.symm)
  · rcases p.lies with e | e
    · rw [e] at hv; exact ha g hg hv
    · rw [e] at hv
      injection hv with hv
      have := (h.lt g hg).2
      omega
/-- append of one row onto the headers. -/
theorem push {ops : Array Oper} {rest : List Oper} {o : Oper} {a : Act} {Q : Exit → Act → World → Prop} (hne : TU ≠ TS) (H : Nat) (hgd : o.guard = none) (s x : Operand) (t : TypeId)
    (ho : o.op = .call { callee := .builtin .append, args := #[s, x], argTypes := #[t, t] })
    (i : TypeInfo) (z : Value) (bytes : Nat) (ht : P.underlying t = some (.slice TS)) (hi : P.info? TS = some i) (hz : i.zero = some z)
    (hsize : i.size = 1) (hby : i.bytes = bytes) (hzs : z.cells.size = 1) (B n : Nat) (v : Value) (ls : List (List Int)) (hs : a.eval s = v) (hv : HR k TU TS w B v n ls)
    (hx : a.eval x = .slice (some ⟨H, 0, none⟩) 1 1) (hH : w.heap.size = H) (A : Option Addr) (r c : Nat) (row : List Int) (hr : row.length = r) (hA : RowU k TU w A row)
    (h63 : n + 1 ≤ maxLen) (hbytes : (n + 1) * bytes ≤ 140737488355328) (hB : B ≤ w.heap.size)
    (h : ∀ A' c' w', HR k TU TS w' B (.slice A' (n + 1) c') (n + 1) (ls ++ [row]) → Push (w.alloc (.cells #[.slice A r c] TS (0, 0))) w' v (.slice A' (n + 1) c') TU → wpList P ops Q rest (a.put o.dst (.slice A' (n + 1) c')) w') :
    wpList P ops Q (o :: rest) a (w.alloc (.cells #[.slice A r c] TS (0, 0))) := by
  subst hH; subst hr
  have hv1 : HR k TU TS (w.alloc (.cells #[.slice A row.length c] TS (0, 0))) B v n ls := hv.to
  have hA1 : RowU k TU (w.alloc (.cells #[.slice A row.length c] TS (0, 0))) A row := hA.keep (Keeps.of_ext inferInstance)
  obtain ⟨Hs, h1, h2, h3⟩ := hv1
  obtain ⟨v', w', hrun, r1, r2, _, r4⟩ := run_append_own_at (P := P) (w.alloc (.cells #[.slice A row.length c] TS (0, 0))) B t o.type TS i z 1 bytes ht hi hz hsize hby hzs (by omega) v n Hs h1 ⟨w.heap.size, 0, none⟩ 1 1 [.slice A row.length c] rfl
    (by intro j u hj
        match j, hj with
        | 0, hj => simp at hj; subst hj; simp [Addr.add])
    (by intro u hu; simp at hu; subst hu; rfl) h63 hbytes (by simp; omega)
  obtain ⟨A', c', rfl⟩ := own_form r1
  have hk := Keeps.of_grown (TU := TU) hne h1 r2
  refine wpList_plain hgd fun K hK => ?_
  unfold Oper.wp
  simp only [execOp, ho, resolve, invoke, builtin, Sem.run_bind, Sem.run_pure, Result.andThen_ok, List.map_toArray, List.map_cons, List.map_nil, hs, hx, hrun]
  refine hK _ _ (h A' c' w' ⟨Hs ++ [.slice A row.length c], r1, by simp [h2], ?_⟩ ⟨r2, hk, r4⟩)
  intro j rw' hj
  have hHl : Hs.length = n := by have := h1.1; omega
  by_cases hjn : j < n
  · rw [List.getElem?_append_left (by omega)] at hj
    obtain ⟨A2, c2, h4, h5⟩ := h3 j rw' hj
    exact ⟨A2, c2, by rw [List.getElem?_append_left (by omega)]; exact h4, h5.keep hk⟩
  · rw [List.getElem?_append_right (by omega)] at hj
    have hj0 : j - ls.length = 0 := by
      have := (List.getElem?_eq_some_iff.mp hj).1
      simp at this; omega
    rw [hj0] at hj
    simp at hj
    subst hj
    refine ⟨A, c, ?_, hA1.keep hk⟩
    rw [List.getElem?_append_right (by omega), hHl, show j - n = 0 by omega]
    rfl
end Hdr
end Go.Proofs.YtfeahgcigmoijaaGreatDoor
/- Appends of integers inside walks of growing worlds, onto rows of the call's own. Conditions: lengths as stated. -/
namespace Go.Proofs.YtfeahgcigmoijaaGreatDoor
open Go.RowKit Go.Lib
namespace ApE
open SlR
variable {P : Program}
theorem own_ext {w w' : World} {base : Nat} {e : TypeId} {size n : Nat} {v : Value} {xs : List Value} (h : w.ownsRow base e size v n xs) (x : Ext w w') : w'.ownsRow base e size v n xs := by
  obtain ⟨h1, ⟨rfl, rfl⟩ | ⟨g, cap, cur, rfl, h2⟩⟩ := h
  · exact ⟨h1, .inl ⟨rfl, rfl⟩⟩
  · exact World.ownsRow.kept ⟨h1, .inr ⟨g, cap, cur, rfl, h2⟩⟩ (Hdr.grown_of_ext x) (by simp [Value.ownBlock])
theorem below_own {w w' : World} {base : Nat} {e : TypeId} {size n m : Nat} {v : Value} {xs : List Value} (hb : Below m w w') {w2 : World} (hg : w'.grownBy w2 v.ownBlock) (hown : w'.ownsRow base e size v n xs) (hm : m ≤ base) (hs : m ≤ w'.heap.size) : Below m w w2 :=
  hb.grown hg hs (fun g h => Nat.le_trans hm (hown.lt g h).1)
/-- A row of the call's own, from block B on. -/
abbrev Own (k : IntKind) (e : TypeId) (w : World) (B : Nat) (v : Value) (n : Nat) (xs : List Int) : Prop := w.ownsRow B e 1 v n (xs.map (Value.int k))
theorem capped {w : World} {B n c : Nat} {e : TypeId} {A : Option Addr} {xs : List Value} (h : w.ownsRow B e 1 (.slice A n c) n xs) : n ≤ c := by
  rcases h.2 with ⟨hv, h0⟩ | ⟨g, cap, cur, hv, _, _, hc, _⟩
  · omega
  · injection hv with _ _ e
    omega
theorem runE (k : IntKind) (W w1 : World) {w : World} [e1 : Ext w1 w] [e2 : Ext W w] (t ty e : TypeId) (i : TypeInfo) (z : Value) (bytes : Nat) (ht : P.underlying t = some (.slice e)) (hi : P.info? e = some i) (hz : i.zero = some z)
    (hsize : i.size = 1) (hby : i.bytes = bytes) (hzs : z.cells.size = 1) (v : Value) (n : Nat) (xs : List Int) (hown : Own k e w1 W.heap.size v n xs)
    (A : Option Addr) (m c : Nat) (news : List Int) (hm : news.length = m) (hr : Row k w A news) (h63 : n + m ≤ 1000000000) (hb : bytes ≤ 8) :
    ∃ A' c' w', (Builtin.append_ #[t, t] ty #[v, .slice A m c]).run P w = .ok (.slice A' (n + m) c') w' ∧ Own k e w' W.heap.size (.slice A' (n + m) c') (n + m) (xs ++ news) ∧ Step W w' ∧ w.grownBy w' v.ownBlock := by
  have hown2 : Own k e w W.heap.size v n xs := own_ext hown e1
  have hbb : (n + m) * bytes ≤ 140737488355328 := Nat.le_trans (Nat.mul_le_mul h63 hb) (by omega)
  obtain ⟨A', c', w', h1, h2, h3⟩ := App.run k w W.heap.size t ty e i z bytes ht hi hz hsize hby hzs v n _ hown2 A m c news hm hr (by unfold maxLen; omega) hbb e2.size
  exact ⟨A', c', w', h1, by unfold Own; rw [List.map_append]; exact h2, ⟨below_own e2.h h3 hown2 (Nat.le_refl _) e2.size⟩, h3⟩
theorem wpE {ops : Array Oper} {rest : List Oper} {o : Oper} {a : Act} {Q : Exit → Act → World → Prop} (k : IntKind) (W w1 : World) {w : World} [e1 : Ext w1 w] [e2 : Ext W w] (hgd : o.guard = none) (s x : Operand) (t : TypeId)
    (ho : o.op = .call { callee := .builtin .append, args := #[s, x], argTypes := #[t, t] }) (e : TypeId) (i : TypeInfo) (z : Value) (bytes : Nat) (ht : P.underlying t = some (.slice e)) (hi : P.info? e = some i) (hz : i.zero = some z)
    (hsize : i.size = 1) (hby : i.bytes = bytes) (hzs : z.cells.size = 1) (v : Value) (n : Nat) (xs : List Int) (hs : a.eval s = v) (hown : Own k e w1 W.heap.size v n xs)
    (A : Option Addr) (m c : Nat) (news : List Int) (hx : a.eval x = .slice A m c) (hm : news.length = m) (hr : Row k w A news) (h63 : n + m ≤ 1000000000) (hb : bytes ≤ 8)
    (h : ∀ A' c' w', Own k e w' W.heap.size (.slice A' (n + m) c') (n + m) (xs ++ news) → Step W w' → wpList P ops Q rest (a.put o.dst (.slice A' (n + m) c')) w') : wpList P ops Q (o :: rest) a w := by
  refine wpList_plain hgd fun K hK => ?_
  obtain ⟨A', c', w', hrun, h2, h3, _⟩ := runE k W w1 t o.type e i z bytes ht hi hz hsize hby hzs v n xs hown A m c news hm hr h63 hb
  unfold Oper.wp
  simp only [execOp, ho, resolve, invoke, builtin, Sem.run_bind, Sem.run_pure, Result.andThen_ok, List.map_toArray, List.map_cons, List.map_nil, hs, hx, hrun]
  exact hK _ _ (h A' c' w' h2 h3)
/-- Onto nil: what is at hand stays. -/
theorem wpN {ops : Array Oper} {rest : List Oper} {o : Oper} {a : Act} {Q : Exit → Act → World → Prop} (k : IntKind) (W : World) {w : World} [e2 : Ext W w] (hgd : o.guard = none) (s x : Operand) (t : TypeId)
    (ho : o.op = .call { callee := .builtin .append, args := #[s, x], argTypes := #[t, t] }) (e : TypeId) (i : TypeInfo) (z : Value) (bytes : Nat) (ht : P.underlying t = some (.slice e)) (hi : P.info? e = some i) (hz : i.zero = some z)
    (hsize : i.size = 1) (hby : i.bytes = bytes) (hzs : z.cells.size = 1) (hs : a.eval s = .slice none 0 0)
    (A : Option Addr) (m c : Nat) (news : List Int) (hx : a.eval x = .slice A m c) (hm : news.length = m) (hr : Row k w A news) (h63 : m ≤ 1000000000) (hb : bytes ≤ 8)
    (h : ∀ A' c' w', Own k e w' W.heap.size (.slice A' m c') m news → Step w w' → wpList P ops Q rest (a.put o.dst (.slice A' m c')) w') : wpList P ops Q (o :: rest) a w := by
  refine wpList_plain hgd fun K hK => ?_
  obtain ⟨A', c', w', hrun, h2, h3, h5⟩ := runE k W w t o.type e i z bytes ht hi hz hsize hby hzs (.slice none 0 0) 0 [] (World.ownsRow_nil _ _ _ _) A m c news hm hr (by omega) hb
  unfold Oper.wp
  simp only [execOp, ho, resolve, invoke, builtin, Sem.run_bind, Sem.run_pure, Result.andThen_ok, List.map_toArray, List.map_cons, List.map_nil, hs, hx, hrun]
  rw [Nat.zero_add, List.nil_append] at h2
  rw [Nat.zero_add]
  exact hK _ _ (h A' c' w' h2 ⟨(Below.refl _ w).grown h5 (Nat.le_refl _) (fun g h => by simp [Value.ownBlock] at h)⟩)
/-- In a region that draws its order. -/
theorem stepE {ops : Array Oper} {o : Oper} {a : Act} {K : Act → World → Prop} {Q : Exit → Act → World → Prop} {E : Prop} (k : IntKind) (W w1 : World) {w : World} [e1 : Ext w1 w] [e2 : Ext W w] (hgd : o.guard = none) (s x : Operand) (t : TypeId)
    (ho : o.op = .call { callee := .builtin .append, args := #[s, x], argTypes := #[t, t] }) (e : TypeId) (i : TypeInfo) (z : Value) (bytes : Nat) (ht : P.underlying t = some (.slice e)) (hi : P.info? e = some i) (hz : i.zero = some z)
    (hsize : i.size = 1) (hby : i.bytes = bytes) (hzs : z.cells.size = 1) (v : Value) (n : Nat) (xs : List Int) (hs : a.eval s = v) (hown : Own k e w1 W.heap.size v n xs)
    (A : Option Addr) (m c : Nat) (news : List Int) (hx : a.eval x = .slice A m c) (hm : news.length = m) (hr : Row k w A news) (h63 : n + m ≤ 1000000000) (hb : bytes ≤ 8)
    (h : ∀ A' c' w', Own k e w' W.heap.size (.slice A' (n + m) c') (n + m) (xs ++ news) → Step W w' → K (a.put o.dst (.slice A' (n + m) c')) w') :
    if Region.wanted o (yielded ops a.tmps) = true then Oper.wp P o a w K Q else E := by
  have hw : Region.wanted o (yielded ops a.tmps) = true := by simp [Region.wanted, hgd]
  rw [if_pos hw]
  obtain ⟨A', c', w', hrun, h2, h3, _⟩ := runE k W w1 t o.type e i z bytes ht hi hz hsize hby hzs v n xs hown A m c news hm hr h63 hb
  unfold Oper.wp
  simp only [execOp, ho, resolve, invoke, builtin, Sem.run_bind, Sem.run_pure, Result.andThen_ok, List.map_toArray, List.map_cons, List.map_nil, hs, hx, hrun]
  exact h A' c' w' h2 h3
theorem lit4 {k : IntKind} (w : World) (H : Nat) (t : TypeId) (a b c d : Int) (h : w.heap.size = H) : Row k (w.alloc (.cells #[.int k a, .int k b, .int k c, .int k d] t (0, 0))) (some ⟨H, 0, none⟩) [a, b, c, d] := Row.litN w H t [a, b, c, d] h
end ApE
end Go.Proofs.YtfeahgcigmoijaaGreatDoor
/- Appends of integers of any kind onto one of two rows of the call's own, in growing worlds: the other row stays. Conditions: lengths as stated. -/
namespace Go.Proofs.YtfeahgcigmoijaaGreatDoor
open Go.RowKit Go.Lib
namespace ApT
open SlR
variable {P : Program}
theorem run (k : IntKind) (W w1 : World) {w : World} [e1 : Ext w1 w] [e2 : Ext W w] (t ty e : TypeId) (i : TypeInfo) (z : Value) (bytes : Nat) (ht : P.underlying t = some (.slice e)) (hi : P.info? e = some i) (hz : i.zero = some z)
    (hsize : i.size = 1) (hby : i.bytes = bytes) (hzs : z.cells.size = 1) (v u : Value) (n m : Nat) (xs ys : List Int) (hown : ApE.Own k e w1 W.heap.size v n xs) (hu : ApE.Own k e w1 W.heap.size u m ys) (ha : Hdr.Apart u v)
    (A : Option Addr) (l c : Nat) (news : List Int) (hm : news.length = l) (hr : Row k w A news) (h63 : n + l ≤ 1000000000) (hb : bytes ≤ 8) :
    ∃ A' c' w', (Builtin.append_ #[t, t] ty #[v, .slice A l c]).run P w = .ok (.slice A' (n + l) c') w' ∧ ApE.Own k e w' W.heap.size (.slice A' (n + l) c') (n + l) (xs ++ news) ∧ ApE.Own k e w' W.heap.size u m ys ∧ Hdr.Apart u (.slice A' (n + l) c') ∧ Step W w' := by
  have hown2 : ApE.Own k e w W.heap.size v n xs := ApE.own_ext hown e1
  have hu2 : ApE.Own k e w W.heap.size u m ys := ApE.own_ext hu e1
  have hbb : (n + l) * bytes ≤ 140737488355328 := Nat.le_trans (Nat.mul_le_mul h63 hb) (by omega)
  cases A with
  | none =>
    have hn : news = [] := by
      cases news with
      | nil => rfl
      | cons a q => obtain ⟨ad, h, _⟩ := hr 0 a rfl; cases h
    subst hn
    obtain rfl : l = 0 := hm.symm
    obtain ⟨A', c', rfl⟩ := own_form hown2
    exact ⟨A', c', w, App.runNil w W.heap.size t ty e i 1 ht hi _ n _ hown2 c, by simpa using hown2, hu2, ha, ⟨e2.h⟩⟩
  | some ad =>
    obtain ⟨v', w', hrun, h2, h3, _, h5⟩ := run_append_own_at (P := P) w W.heap.size t ty e i z 1 bytes ht hi hz hsize hby hzs (by omega) v n _ hown2 ad l c (news.map (Value.int k)) (by simp [hm]) (fun j q hj => by
        rw [List.getElem?_map] at hj
        obtain ⟨x, hx, rfl⟩ := Option.map_eq_some_iff.mp hj
        obtain ⟨ad', h, _, hc⟩ := hr j x hx
        cases h
        exact hc) (by intro q hq; obtain ⟨x, _, rfl⟩ := List.mem_map.mp hq; rfl) (by unfold maxLen; omega) hbb e2.size
    obtain ⟨A', c', rfl⟩ := own_form h2
    refine ⟨A', c', w', hrun, by unfold ApE.Own; rw [List.map_append]; exact h2, hu2.kept h3 ?_, fun g hg hv => ?_, ⟨ApE.below_own e2.h h3 hown2 (Nat.le_refl _) e2.size⟩⟩
    · cases hg : u.ownBlock with
      | none => exact .inl rfl
      | some g => exact .inr (fun e => ha g hg e.symm)
    · rcases h5 with e | e
      · rw [e] at hv; exact ha g hg hv
      · rw [e] at hv
        injection hv with hv
        have := (hu2.lt g hg).2
        omega
theorem wp {ops : Array Oper} {rest : List Oper} {o : Oper} {a : Act} {Q : Exit → Act → World → Prop} (k : IntKind) (W w1 : World) {w : World} [e1 : Ext w1 w] [e2 : Ext W w] (hgd : o.guard = none) (s x : Operand) (t : TypeId)
    (ho : o.op = .call { callee := .builtin .append, args := #[s, x], argTypes := #[t, t] }) (e : TypeId) (i : TypeInfo) (z : Value) (bytes : Nat) (ht : P.underlying t = some (.slice e)) (hi : P.info? e = some i) (hz : i.zero = some z)
    (hsize : i.size = 1) (hby : i.bytes = bytes) (hzs : z.cells.size = 1) (v u : Value) (n m : Nat) (xs ys : List Int) (hs : a.eval s = v) (hown : ApE.Own k e w1 W.heap.size v n xs) (hu : ApE.Own k e w1 W.heap.size u m ys) (ha : Hdr.Apart u v)
    (A : Option Addr) (l c : Nat) (news : List Int) (hx : a.eval x = .slice A l c) (hm : news.length = l) (hr : Row k w A news) (h63 : n + l ≤ 1000000000) (hb : bytes ≤ 8)
    (h : ∀ A' c' w', ApE.Own k e w' W.heap.size (.slice A' (n + l) c') (n + l) (xs ++ news) → ApE.Own k e w' W.heap.size u m ys → Hdr.Apart u (.slice A' (n + l) c') → Step W w' → wpList P ops Q rest (a.put o.dst (.slice A' (n + l) c')) w') : wpList P ops Q (o :: rest) a w := by
  refine wpList_plain hgd fun K hK => ?_
  obtain ⟨A', c', w', hrun, h2, h3, h4, h5⟩ := run k W w1 t o.type e i z bytes ht hi hz hsize hby hzs v u n m xs ys hown hu ha A l c news hm hr h63 hb
  unfold Oper.wp
  simp only [execOp, ho, resolve, invoke, builtin, Sem.run_bind, Sem.run_pure, Result.andThen_ok, List.map_toArray, List.map_cons, List.map_nil, hs, hx, hrun]
  exact hK _ _ (h A' c' w' h2 h3 h4 h5)
end ApT
end Go.Proofs.YtfeahgcigmoijaaGreatDoor
/- Appends onto a row of the call's own that is not nil: what the old row held it holds still. Conditions: the row's own. -/
namespace Go.Proofs.YtfeahgcigmoijaaGreatDoor
open Go.RowKit Go.Lib
namespace ApE
open SlR
variable {P : Program}
theorem news_of {k : IntKind} {w : World} {ad : Addr} {news : List Int} (hr : Row k w (some ad) news) : ∀ j u, (news.map (Value.int k))[j]? = some u → w.cell? (ad.add j) = some u := fun j u hu => by
  rw [List.getElem?_map] at hu
  cases hq : news[j]? with
  | none => rw [hq] at hu; cases hu
  | some x =>
    rw [hq] at hu
    obtain ⟨_, e, _, h⟩ := hr j x hq
    cases e
    rw [h]
    exact hu
theorem one_of (k : IntKind) (news : List Int) : ∀ u ∈ news.map (Value.int k), u.oneCell' = true := fun u hu => by
  obtain ⟨a, -, rfl⟩ := List.mem_map.1 hu
  rfl
theorem runK (k : IntKind) (W w1 : World) {w : World} [e1 : Ext w1 w] [e2 : Ext W w] (t ty e : TypeId) (i : TypeInfo) (z : Value) (bytes : Nat) (ht : P.underlying t = some (.slice e)) (hi : P.info? e = some i) (hz : i.zero = some z)
    (hsize : i.size = 1) (hby : i.bytes = bytes) (hzs : z.cells.size = 1) (g n c : Nat) (xs : List Int) (hown : Own k e w1 W.heap.size (.slice (some ⟨g, 0, none⟩) n c) n xs)
    (ad : Addr) (m ca : Nat) (news : List Int) (hm : news.length = m) (hr : Row k w (some ad) news) (h63 : n + m ≤ 1000000000) (hb : bytes ≤ 8) :
    ∃ A' c' w', (Builtin.append_ #[t, t] ty #[.slice (some ⟨g, 0, none⟩) n c, .slice (some ad) m ca]).run P w = .ok (.slice A' (n + m) c') w' ∧ Own k e w' W.heap.size (.slice A' (n + m) c') (n + m) (xs ++ news) ∧ Step W w' ∧ ∀ j, j < n → w'.cell? ⟨g, j, none⟩ = w.cell? ⟨g, j, none⟩ := by
  have hown2 : Own k e w W.heap.size (.slice (some ⟨g, 0, none⟩) n c) n xs := own_ext hown e1
  have hbb : (n + m) * bytes ≤ 140737488355328 := Nat.le_trans (Nat.mul_le_mul h63 hb) (by omega)
  have hlx : xs.length = n := by have := hown2.1; simpa using this
  have lm : (news.map (Value.int k)).length = m * 1 := by simp [hm]
  have old : ∀ j, j < n → ∃ v, xs[j]? = some v ∧ w.cell? ⟨g, j, none⟩ = some (.int k v) := fun j hj => by
    refine ⟨xs[j]'(by omega), List.getElem?_eq_getElem (by omega), ?_⟩
    have := hown2.cells (g := g) rfl j (.int k (xs[j]'(by omega))) (by rw [List.getElem?_map, List.getElem?_eq_getElem (by omega)]; rfl)
    rw [Addr.add_mid, Nat.zero_add] at this
    exact this
  by_cases hroom : n + m ≤ c
  · obtain ⟨w', hrun, ho, hg⟩ := run_append_own_spare (P := P) w W.heap.size t ty e i 1 ht hi hsize g n c (xs.map (Value.int k)) hown2 ad m ca (news.map (Value.int k)) lm (news_of hr) (one_of k news) hroom
    have ho2 : Own k e w' W.heap.size (.slice (some ⟨g, 0, none⟩) (n + m) c) (n + m) (xs ++ news) := by unfold Own; rw [List.map_append]; exact ho
    refine ⟨_, _, w', hrun, ho2, ⟨below_own e2.h (v := .slice (some ⟨g, 0, none⟩) n c) hg hown2 (Nat.le_refl _) e2.size⟩, fun j hj => ?_⟩
    obtain ⟨v, hv, hc⟩ := old j hj
    have := ho2.cells (g := g) rfl j (.int k v) (by rw [List.getElem?_map, List.getElem?_append_left (by omega), hv]; rfl)
    rw [Addr.add_mid, Nat.zero_add] at this
    rw [this, hc]
  · obtain ⟨v', w', hrun, ho, hg⟩ := run_append_arg_grows (P := P) w t ty e i z 1 bytes ht hi hz hsize hby hzs (by omega) ⟨g, 0, none⟩ n c (xs.map (Value.int k)) (by simp [hlx]) (fun j u hu => by
        have hj : j < n := by have := (List.getElem?_eq_some_iff.1 hu).1; simp at this; omega
        obtain ⟨v, hv, hc⟩ := old j hj
        rw [List.getElem?_map, hv] at hu
        rw [Addr.add_mid, Nat.zero_add, hc]
        exact hu) ad m ca (news.map (Value.int k)) lm (news_of hr) (by omega) (by unfold maxLen; omega) hbb
    have ho2 : Own k e w' W.heap.size v' (n + m) (xs ++ news) := by unfold Own; rw [List.map_append]; exact Go.Joins.ownsRow_le ho e2.size
    obtain ⟨A', c', rfl⟩ := own_form ho2
    refine ⟨A', c', w', hrun, ho2, ⟨e2.h.grown hg e2.size (fun q hq => by cases hq)⟩, fun j hj => ?_⟩
    obtain ⟨v, hv, hc⟩ := old j hj
    have hl := World.block_lt_of_cell? w _ hc
    exact World.cell?_of_block (hg.block g hl (by simp))
/-- In a region that draws its order. -/
theorem stepK {ops : Array Oper} {o : Oper} {a : Act} {K : Act → World → Prop} {Q : Exit → Act → World → Prop} {E : Prop} (k : IntKind) (W w1 : World) {w : World} [e1 : Ext w1 w] [e2 : Ext W w] (hgd : o.guard = none) (s x : Operand) (t : TypeId)
    (ho : o.op = .call { callee := .builtin .append, args := #[s, x], argTypes := #[t, t] }) (e : TypeId) (i : TypeInfo) (z : Value) (bytes : Nat) (ht : P.underlying t = some (.slice e)) (hi : P.info? e = some i) (hz : i.zero = some z)
    (hsize : i.size = 1) (hby : i.bytes = bytes) (hzs : z.cells.size = 1) (g n c : Nat) (xs : List Int) (hs : a.eval s = .slice (some ⟨g, 0, none⟩) n c) (hown : Own k e w1 W.heap.size (.slice (some ⟨g, 0, none⟩) n c) n xs)
    (ad : Addr) (m ca : Nat) (news : List Int) (hx : a.eval x = .slice (some ad) m ca) (hm : news.length = m) (hr : Row k w (some ad) news) (h63 : n + m ≤ 1000000000) (hb : bytes ≤ 8)
    (h : ∀ A' c' w', Own k e w' W.heap.size (.slice A' (n + m) c') (n + m) (xs ++ news) → Step W w' → (∀ j, j < n → w'.cell? ⟨g, j, none⟩ = w.cell? ⟨g, j, none⟩) → K (a.put o.dst (.slice A' (n + m) c')) w') :
    if Region.wanted o (yielded ops a.tmps) = true then Oper.wp P o a w K Q else E := by
  have hw : Region.wanted o (yielded ops a.tmps) = true := by simp [Region.wanted, hgd]
  rw [if_pos hw]
  obtain ⟨A', c', w', hrun, h2, h3, h4⟩ := runK k W w1 t o.type e i z bytes ht hi hz hsize hby hzs g n c xs hown ad m ca news hm hr h63 hb
  unfold Oper.wp
  simp only [execOp, ho, resolve, invoke, builtin, Sem.run_bind, Sem.run_pure, Result.andThen_ok, List.map_toArray, List.map_cons, List.map_nil, hs, hx, hrun]
  exact h A' c' w' h2 h3 h4
end ApE
end Go.Proofs.YtfeahgcigmoijaaGreatDoor
/- append of so many noughts (append(s, make([]T, k)...)) onto a row of the call's own, in growing worlds. Conditions: lengths as stated. -/
namespace Go.Proofs.YtfeahgcigmoijaaGreatDoor
open Go.RowKit Go.Lib
namespace ApZ
open SlR
variable {P : Program}
theorem zeros_eq (k : IntKind) (m : Nat) : Builtin.zeroCells (Value.int k 0).cells m = (List.replicate m (Value.int k 0)).toArray := by
  have e : (Value.int k 0).cells = #[Value.int k 0] := rfl
  rw [e]
  apply Array.ext
  · simp [Builtin.zeroCells]
  · intro i h1 h2
    simp [Builtin.zeroCells, Nat.mod_one]
theorem rep_map (k : IntKind) (m : Nat) : (List.replicate m (0 : Int)).map (Value.int k) = List.replicate m (Value.int k 0) := by simp
theorem run (kk : IntKind) (W w1 : World) {w : World} [e1 : Ext w1 w] [e2 : Ext W w] (t tn ty e : TypeId) (i : TypeInfo) (kq kn : IntKind) (ht : P.underlying t = some (.slice e)) (htn : P.underlying tn = some (.int kn)) (hi : P.info? e = some i) (hz : i.zero = some (.int kk 0))
    (hsize : i.size = 1) (hby : i.bytes = 1) (v : Value) (n : Nat) (xs : List Int) (hown : ApE.Own kk e w1 W.heap.size v n xs) (k : Nat) (h63 : n + k ≤ 1000000000) :
    ∃ A' c' w', (Builtin.append_ #[t, tn] ty #[v, .int kq k]).run P w = .ok (.slice A' (n + k) c') w' ∧ ApE.Own kk e w' W.heap.size (.slice A' (n + k) c') (n + k) (xs ++ List.replicate k 0) ∧ Step W w' := by
  have hown2 : ApE.Own kk e w W.heap.size v n xs := ApE.own_ext hown e1
  have hlx : xs.length = n := by have := hown2.1; simpa using this
  have hw : IntKind.i64.wrap (k : Int) = k := by rw [IntKind.wrap_i64]; omega
  have hneg : ¬ ((k : Int) < 0) := by omega
  have h48i : ¬ (281474976710656 < (k : Int) * (i.bytes : Int)) := by rw [hby]; omega
  have hlen : ((xs ++ List.replicate k 0).map (Value.int kk)).length = (n + k) * 1 := by simp [hlx]
  have hmap : (xs ++ List.replicate k (0 : Int)).map (Value.int kk) = xs.map (Value.int kk) ++ List.replicate k (Value.int kk 0) := by rw [List.map_append, rep_map]
  have grow : ∀ (base : Option Addr) (cap : Nat), v = .slice base n cap → cap < n + k → (Builtin.firstCells i.size n (.slice base n cap)).run P w.drew = .ok (xs.map (Value.int kk)).toArray w.drew →
      ∃ A' c' w', (Builtin.append_ #[t, tn] ty #[v, .int kq k]).run P w = .ok (.slice A' (n + k) c') w' ∧ ApE.Own kk e w' W.heap.size (.slice A' (n + k) c') (n + k) (xs ++ List.replicate k 0) ∧ Step W w' := by
    intro base cap hv hcap hold
    subst hv
    have hnc : n ≤ cap := ApE.capped hown2
    have hfit : Builtin.nextslicecap (n + k) cap * i.bytes ≤ 281474976710656 := by
      have := nextslicecap_le (need := n + k) (old := cap) hcap
      rw [hby]
      omega
    have hrun := run_append_grow_zeros (P := P) w t tn ty e i (.int kk 0) kq kn ht htn hi hz base n cap _ hold k (by omega) (by omega) hcap (by omega) (by rw [hby]; omega) hfit
    refine ⟨_, _, _, hrun, ⟨hlen, .inr ⟨_, _, _, rfl, e2.size, heap_alloc_new w.drew _, grownCap_ge _ _ _ _, grownCap_le_maxLen _ _ _ _ (by unfold maxLen; omega), ?_, ?_⟩⟩, ⟨?_⟩⟩
    · have hge := grownCap_ge w (n + k) cap e
      simp only [Array.size_append, List.size_toArray, size_zeroCells, List.length_map, hlx]
      show n + k * 1 + (grownCap w (n + k) cap e - (n + k)) * 1 = _
      omega
    · rw [zeros_eq, zeros_eq, hmap]
      simp only [Array.toList_append, List.append_assoc]
      rw [← List.append_assoc, ← hlen, hmap]
      exact List.take_left
    · have X : Ext W (w.drew.alloc (.cells ((xs.map (Value.int kk)).toArray ++ Builtin.zeroCells (Value.int kk 0).cells k ++ Builtin.zeroCells (Value.int kk 0).cells (grownCap w (n + k) cap e - (n + k))) e)) := inferInstance
      exact X.h
  rcases hown2.2 with ⟨hv, h0⟩ | ⟨g, cap, cur, hv, hbg, hg, hnc, hcm, hcs, htake⟩
  · subst hv
    subst h0
    by_cases hk : k = 0
    · subst hk
      refine ⟨none, 0, w, ?_, by simpa using hown2, ⟨e2.h⟩⟩
      simp [Builtin.append_, run_underlying ht, run_underlying htn, sizeOf, typeInfo, zeroValue, hi, hz, asInt, asIntOf, IntKind.wrap_i64]
    · have hx : xs = [] := List.eq_nil_of_length_eq_zero hlx
      subst hx
      exact grow none 0 rfl (by omega) (by rw [hsize]; simp [Builtin.firstCells])
  · subst hv
    by_cases hroom : n + k ≤ cap
    · have hsz : cur.size = cap := by rw [hcs, Nat.mul_one]
      have hst := run_storeCells_at P g (n * 1) e (List.replicate k (Value.int kk 0)) 0 cur w hg (by simp [hsz]; omega) (fun u hu => by rw [List.eq_of_mem_replicate hu]; rfl)
      simp only [Nat.mul_one, Nat.add_zero, List.length_replicate] at hst
      refine ⟨some ⟨g, 0, none⟩, cap, w.setRow g (cur.toList.take n ++ List.replicate k (Value.int kk 0) ++ cur.toList.drop (n + k)).toArray, ?_, ⟨hlen, .inr ⟨g, cap, _, rfl, hbg, setRow_heap w g cur _ e _ hg, hroom, hcm, ?_, ?_⟩⟩, ⟨?_⟩⟩
      · by_cases hk : k = 0
        · subst hk
          simp only [List.replicate_zero, List.append_nil, Nat.add_zero] at hst ⊢
          simp [Builtin.append_, run_underlying ht, run_underlying htn, sizeOf, typeInfo, zeroValue, hi, hz, hsize, asInt, asIntOf, IntKind.wrap_i64, hnc, Addr.add_lit]
          simpa [storeCells] using hst
        · have hns : ¬ (k * i.size = 0) := by rw [hsize]; omega
          have hze := zeros_eq kk k
          simp [Builtin.append_, run_underlying ht, run_underlying htn, sizeOf, typeInfo, zeroValue, hi, hz, hsize, asInt, asIntOf, hw, hneg, h48i, hroom, hk, hze, Addr.add_lit, hst]
      · simp only [List.size_toArray, List.length_append, List.length_take, List.length_drop, Array.length_toList, List.length_replicate]
        omega
      · rw [Nat.mul_one] at htake
        rw [hmap, ← htake, ← hlen, hmap, ← htake]
        exact List.take_left
      · have hgr : w.grownBy (w.setRow g (cur.toList.take n ++ List.replicate k (Value.int kk 0) ++ cur.toList.drop (n + k)).toArray) (some g) := ⟨rfl, rfl, rfl, by simp, fun q _ hq => setRow_other w g q _ (fun e => hq (by simp [e]))⟩
        exact ApE.below_own e2.h (v := .slice (some ⟨g, 0, none⟩) n cap) hgr hown2 (Nat.le_refl _) e2.size
    · refine grow (some ⟨g, 0, none⟩) cap rfl (by omega) ?_
      have hf := run_firstCells_some (P := P) w.drew i.size n ⟨g, 0, none⟩ n cap (xs.map (Value.int kk)) (by simp [hlx, hsize]) (fun j u hu => hown2.cells (g := g) rfl j u hu)
      exact hf
/-- In a region that draws its order. -/
theorem step {ops : Array Oper} {o : Oper} {a : Act} {K : Act → World → Prop} {Q : Exit → Act → World → Prop} {E : Prop} (kk : IntKind) (W w1 : World) {w : World} [e1 : Ext w1 w] [e2 : Ext W w] (hgd : o.guard = none) (s x : Operand) (t tn : TypeId)
    (ho : o.op = .call { callee := .builtin .append, args := #[s, x], argTypes := #[t, tn] }) (e : TypeId) (i : TypeInfo) (kq kn : IntKind) (ht : P.underlying t = some (.slice e)) (htn : P.underlying tn = some (.int kn)) (hi : P.info? e = some i) (hz : i.zero = some (.int kk 0))
    (hsize : i.size = 1) (hby : i.bytes = 1) (v : Value) (n : Nat) (xs : List Int) (hs : a.eval s = v) (hown : ApE.Own kk e w1 W.heap.size v n xs) (k : Nat) (hx : a.eval x = .int kq k) (h63 : n + k ≤ 1000000000)
    (h : ∀ A' c' w', ApE.Own kk e w' W.heap.size (.slice A' (n + k) c') (n + k) (xs ++ List.replicate k 0) → Step W w' → K (a.put o.dst (.slice A' (n + k) c')) w') :
    if Region.wanted o (yielded ops a.tmps) = true then Oper.wp P o a w K Q else E := by
  have hw : Region.wanted o (yielded ops a.tmps) = true := by simp [Region.wanted, hgd]
  rw [if_pos hw]
  obtain ⟨A', c', w', hrun, h2, h3⟩ := run (w := w) kk W w1 t tn o.type e i kq kn ht htn hi hz hsize hby v n xs hown k h63
  unfold Oper.wp
  simp only [execOp, ho, resolve, invoke, builtin, Sem.run_bind, Sem.run_pure, Result.andThen_ok, List.map_toArray, List.map_cons, List.map_nil, hs, hx, hrun]
  exact h A' c' w' h2 h3
end ApZ
end Go.Proofs.YtfeahgcigmoijaaGreatDoor
/- What an argument that can be read holds: rows of integers, rows of rows, arrays. No condition. -/
namespace Go.Proofs.YtfeahgcigmoijaaGreatDoor
open Go.ChangeShapes Go.WideShapes Go.ChangeAt Go.RowKit Go.Lib Go.Deep
open SlR
namespace Opn
section
variable {H : Type} {enc : TypeId × Value → H} {P : Program} {w : World}
theorem wf_u32 {z : Int} (h : (Lit.int .u32 z).wf = true) : 0 ≤ z ∧ z < 4294967296 := by
  have := bounds_u32 h; omega
/-- A slice of integers. -/
theorem row {t e : TypeId} {k : IntKind} {held : Bool} {v : Value} {d : DataW H} {ps : List MemPlace} (ht : P.underlying t = some (.slice e)) (he : P.underlying e = some (.int k)) (hc : P.cellsOf e = 1)
    (hv : ∃ u, v.cells.toList = [u] ∧ v = u) (h : DataW.Trod enc P w 0 (fun _ => true) held t v d ps) :
    ∃ (A : Option Addr) (n c : Nat) (xs : List Int), v = .slice A n c ∧ xs.length = n ∧ n ≤ c ∧ c ≤ maxLen ∧ Row k w A xs ∧ ∀ z ∈ xs, (Lit.int k z).wf = true := by
  obtain ⟨u, hu, rfl⟩ := hv
  obtain ⟨fuel, hf⟩ := h
  rw [hu] at hf
  rcases open_ints ht he hc hf with ⟨hcs, _⟩ | ⟨a, len, cap, zs, hcs, _, hl, hm, hz, _, hcell, hw⟩
  · have e1 : v = .slice none 0 0 := by simpa using hcs
    exact ⟨none, 0, 0, [], e1, rfl, Nat.le_refl _, Nat.zero_le _, Row.nil, fun z h => by simp at h⟩
  · have e1 : v = .slice (some a) len cap := by simpa using hcs
    simp only [if_true] at hz
    refine ⟨some a, len, cap, zs.take len, e1, by simp [hz]; omega, hl, hm, ?_, fun z h => hw z (List.mem_of_mem_take h)⟩
    intro j x hj
    have hj2 : zs[j]? = some x := by
      rw [List.getElem?_take] at hj
      split at hj
      · exact hj
      · cases hj
    have hlt : j < zs.length := (List.getElem?_eq_some_iff.mp hj2).1
    have hc := hcell j hlt
    have hb := World.block_lt_of_cell? w _ hc
    rw [blockAdd] at hb
    refine ⟨a, rfl, hb, ?_⟩
    rw [hc, List.getD_eq_getElem?_getD, hj2]; rfl
/-- A slice of slices of integers. -/
theorem rows {t e q : TypeId} {k : IntKind} {held : Bool} {v : Value} {d : DataW H} {ps : List MemPlace} (ht : P.underlying t = some (.slice e)) (he : P.underlying e = some (.slice q)) (hq : P.underlying q = some (.int k))
    (ce : P.cellsOf e = 1) (cq : P.cellsOf q = 1) (hv : ∃ u, v.cells.toList = [u] ∧ v = u) (h : DataW.Trod enc P w 0 (fun _ => true) held t v d ps) :
    ∃ (A : Option Addr) (n c : Nat) (ls : List (List Int)), v = .slice A n c ∧ ls.length = n ∧ n ≤ c ∧ c ≤ maxLen ∧ (∀ row ∈ ls, row.length ≤ maxLen ∧ ∀ z ∈ row, (Lit.int k z).wf = true) ∧
      ∀ j row, ls[j]? = some row → ∃ (ad : Addr) (A' : Option Addr) (c' : Nat), A = some ad ∧ ad.block < w.heap.size ∧ w.cell? (ad.add j) = some (.slice A' row.length c') ∧ Row k w A' row := by
  obtain ⟨u, hu, rfl⟩ := hv
  obtain ⟨fuel, hf⟩ := h
  rw [hu] at hf
  rcases open_int_rows ht he hq ce cq hf with ⟨hcs, _⟩ | ⟨a, len, cap, A, L, C, Z, hcs, _, hl, hm, _, hr⟩
  · have e1 : v = .slice none 0 0 := by simpa using hcs
    exact ⟨none, 0, 0, [], e1, rfl, Nat.le_refl _, Nat.zero_le _, fun z h => by simp at h, fun j row h => by simp at h⟩
  · have e1 : v = .slice (some a) len cap := by simpa using hcs
    have hlen : ∀ r, r < cap → ((Z r).take (L r)).length = L r := fun r hr' => by
      obtain ⟨_, h1, _, h2, _⟩ := hr r hr'
      simp [h2]; omega
    refine ⟨some a, len, cap, (List.range len).map fun r => (Z r).take (L r), e1, by simp, hl, hm, ?_, ?_⟩
    · intro row hrow
      obtain ⟨r, hr1, rfl⟩ := List.mem_map.mp hrow
      have hr2 : r < cap := by have := List.mem_range.mp hr1; omega
      obtain ⟨_, h1, h3, h2, h4, _⟩ := hr r hr2
      exact ⟨by rw [hlen r hr2]; omega, fun z hz => h4 z (List.mem_of_mem_take hz)⟩
    · intro j row hj
      have hj1 : j < len := by have := (List.getElem?_eq_some_iff.mp hj).1; simpa using this
      have hj2 : row = (Z j).take (L j) := by
        rw [List.getElem?_map, List.getElem?_range hj1] at hj
        exact (Option.some.inj hj).symm
      obtain ⟨hcell, h1, h3, h2, h4, h5, h6⟩ := hr j (by omega)
      have hb := World.block_lt_of_cell? w _ hcell
      rw [blockAdd] at hb
      refine ⟨a, A j, C j, rfl, hb, by rw [hj2, hlen j (by omega)]; exact hcell, ?_⟩
      intro i x hx
      rw [hj2, List.getElem?_take] at hx
      split at hx
      case isFalse => cases hx
      have hi : i < (Z j).length := (List.getElem?_eq_some_iff.mp hx).1
      cases hA : A j with
      | none => have := h5 hA; omega
      | some a' =>
        obtain ⟨_, h7⟩ := h6 a' hA
        have h8 := h7 i (by omega)
        have hb := World.block_lt_of_cell? w _ h8
        rw [blockAdd] at hb
        exact ⟨a', rfl, hb, by rw [h8, List.getD_eq_getElem?_getD, hx]; rfl⟩
/-- One cell of an integer type. -/
theorem cell {e : TypeId} {k : IntKind} {base : Nat} {sp : Nat → Bool} {held : Bool} {fuel : Nat} {cs : List Value} {y : DataW H × List MemPlace} (he : P.underlying e = some (.int k)) (h : DataW.trod enc P w base sp held fuel e cs = some y) :
    ∃ z, cs = [.int k z] ∧ (Lit.int k z).wf = true := by
  cases fuel with
  | zero => simp [DataW.trod] at h
  | succ m =>
    unfold DataW.trod at h
    simp only [he] at h
    split at h
    case h_2 =>
      rename_i k1 k2 z heq
      obtain rfl : k = k1 := by injection heq with h1; injection h1
      split at h
      · rename_i hw; exact ⟨z, by rw [hw.1], hw.2⟩
      · cases h
    all_goals first
      | (rename_i heq; cases heq; done)
      | (cases h; done)
      | (exfalso; simp_all; done)
/-- An array of integers. -/
theorem arr {t e : TypeId} {k : IntKind} {n : Nat} {base : Nat} {sp : Nat → Bool} {held : Bool} {fuel : Nat} {cs : List Value} {y : DataW H × List MemPlace} (ht : P.underlying t = some (.array n e)) (he : P.underlying e = some (.int k)) (hc : P.cellsOf e = 1) (hn : P.cellsOf t = n)
    (h : DataW.trod enc P w base sp held fuel t cs = some y) : ∃ zs : List Int, zs.length = n ∧ cs = zs.map (Value.int k) ∧ ∀ z ∈ zs, (Lit.int k z).wf = true := by
  obtain ⟨xs, m, _, _, hl, hxl, hx⟩ := DataW.trod_array ht h
  rw [hn] at hl
  have each : ∀ i (hi : i < cs.length), ∃ z, cs[i] = .int k z ∧ (Lit.int k z).wf = true := by
    intro i hi
    have h1 := hx i (by omega)
    rw [hc, Nat.mul_one, List.getElem?_eq_getElem (by omega : i < xs.length)] at h1
    obtain ⟨z, hz, hw⟩ := cell he h1
    have hz2 : cs[i] = .int k z := by
      have e1 : (cs.drop i).take 1 = [cs[i]] := by rw [List.drop_eq_getElem_cons hi]; rfl
      rw [e1] at hz
      injection hz
    exact ⟨z, hz2, hw⟩
  refine ⟨cs.map intOf, by simp [hl], ?_, ?_⟩
  · apply List.ext_getElem (by simp)
    intro i h1 h2
    obtain ⟨z, hz, _⟩ := each i h1
    simp [hz, intOf]
  · intro z hz
    obtain ⟨u, hu, rfl⟩ := List.mem_map.mp hz
    obtain ⟨i, hi, rfl⟩ := List.mem_iff_getElem.mp hu
    obtain ⟨z, hz, hw⟩ := each i hi
    rw [hz]; exact hw
theorem arrV {t e : TypeId} {k : IntKind} {n : Nat} {base : Nat} {sp : Nat → Bool} {held : Bool} {v : Value} {d : DataW H} {ps : List MemPlace} {r : Reach} {b0 : Nat} (ht : P.underlying t = some (.array n e)) (he : P.underlying e = some (.int k)) (hc : P.cellsOf e = 1) (hn : P.cellsOf t = n)
    (hv : Value.okWide P w r b0 t v) (h : DataW.Trod enc P w base sp held t v d ps) : ∃ zs : List Int, zs.length = n ∧ v = .agg (zs.map (Value.int k)).toArray ∧ ∀ z ∈ zs, (Lit.int k z).wf = true := by
  simp only [Value.okWide, ht] at hv
  obtain ⟨cs, rfl, _⟩ := hv
  obtain ⟨fuel, hf⟩ := h
  obtain ⟨zs, h1, h2, h3⟩ := arr ht he hc hn hf
  refine ⟨zs, h1, ?_, h3⟩
  rw [← h2]; simp [Value.cells]
theorem sliceV {t e : TypeId} {v : Value} {r : Reach} {b0 : Nat} (ht : P.underlying t = some (.slice e)) (hv : Value.okWide P w r b0 t v) : ∃ u, v.cells.toList = [u] ∧ v = u := by
  obtain ⟨a0, len, cap, rfl⟩ := okWide_slice ht hv
  exact ⟨_, rfl, rfl⟩
/-- A slice of arrays of integers. -/
theorem arrs {t e q : TypeId} {k : IntKind} {n8 : Nat} {held : Bool} {v : Value} {d : DataW H} {ps : List MemPlace} (ht : P.underlying t = some (.slice e)) (he : P.underlying e = some (.array n8 q)) (hq : P.underlying q = some (.int k))
    (cq : P.cellsOf q = 1) (ce : P.cellsOf e = n8) (hv : ∃ u, v.cells.toList = [u] ∧ v = u) (h : DataW.Trod enc P w 0 (fun _ => true) held t v d ps) :
    ∃ (A : Option Addr) (n c : Nat) (ls : List (List Int)), v = .slice A n c ∧ ls.length = n ∧ n ≤ c ∧ c ≤ maxLen ∧ (∀ row ∈ ls, row.length = n8 ∧ ∀ z ∈ row, (Lit.int k z).wf = true) ∧
      ∀ j row, ls[j]? = some row → ∃ ad : Addr, A = some ad ∧ Row k w (some (ad.add (j * n8))) row := by
  obtain ⟨u, hu, rfl⟩ := hv
  obtain ⟨fuel, hf⟩ := h
  rw [hu] at hf
  rcases open_slice ht hf with ⟨hcs, _⟩ | ⟨a, len, cap, m, f, D, Pl, hcs, _, hl, hm, hmm, _, hx⟩
  · have e1 : v = .slice none 0 0 := by simpa using hcs
    exact ⟨none, 0, 0, [], e1, rfl, Nat.le_refl _, Nat.zero_le _, fun z h => by simp at h, fun j row h => by simp at h⟩
  · have e1 : v = .slice (some a) len cap := by simpa using hcs
    simp only [if_true] at hmm
    subst hmm
    have each : ∀ i, i < m → ∃ zs : List Int, zs.length = n8 ∧ (∀ z ∈ zs, (Lit.int k z).wf = true) ∧ Row k w (some (a.add (i * n8))) zs := by
      intro i hi
      obtain ⟨cs', hc, hd⟩ := hx i hi
      obtain ⟨zs, h1, h2, h3⟩ := arr he hq cq ce hd
      refine ⟨zs, h1, h3, ?_⟩
      rw [ce] at hc
      obtain ⟨_, hlen, hcell⟩ := World.cells?_some hc
      intro j x hj
      have hjl : j < zs.length := (List.getElem?_eq_some_iff.mp hj).1
      have h4 := hcell j (by omega)
      rw [h2, List.getElem?_map, hj] at h4
      have hb := World.block_lt_of_cell? w _ h4
      rw [blockAdd] at hb
      exact ⟨_, rfl, hb, h4⟩
    let g : Nat → List Int := fun i => if h : i < m then (each i h).choose else []
    have hg : ∀ i (h : i < m), (g i).length = n8 ∧ (∀ z ∈ g i, (Lit.int k z).wf = true) ∧ Row k w (some (a.add (i * n8))) (g i) := by
      intro i h
      have := (each i h).choose_spec
      simp only [g, h, dif_pos]
      exact this
    refine ⟨some a, len, m, (List.range len).map g, e1, by simp, hl, hm, ?_, ?_⟩
    · intro row hrow
      obtain ⟨i, hi, rfl⟩ := List.mem_map.mp hrow
      have := List.mem_range.mp hi
      exact ⟨(hg i (by omega)).1, (hg i (by omega)).2.1⟩
    · intro j row hj
      have hj1 : j < len := by have := (List.getElem?_eq_some_iff.mp hj).1; simpa using this
      rw [List.getElem?_map, List.getElem?_range hj1] at hj
      obtain rfl := Option.some.inj hj
      exact ⟨a, rfl, (hg j (by omega)).2.2⟩
end
end Opn
end Go.Proofs.YtfeahgcigmoijaaGreatDoor
/- What an argument that can be read holds: structs of two integers, by value and in slices. No condition. -/
namespace Go.Proofs.YtfeahgcigmoijaaGreatDoor
open Go.ChangeShapes Go.WideShapes Go.ChangeAt Go.RowKit Go.Lib Go.Deep Go.Joins
open SlR
namespace Opn
section
variable {H : Type} {enc : TypeId × Value → H} {P : Program} {w : World}
theorem two {e : TypeId} {f0 f1 : Field} {k0 k1 : IntKind} {base : Nat} {sp : Nat → Bool} {held : Bool} {fuel : Nat} {cs : List Value} {y : DataW H × List MemPlace} (he : P.underlying e = some (.struct #[f0, f1]))
    (h0 : P.underlying f0.type = some (.int k0)) (h1 : P.underlying f1.type = some (.int k1)) (hone : oneCellFields P #[f0, f1] = true) (ce : P.cellsOf e = 2) (h : DataW.trod enc P w base sp held fuel e cs = some y) :
    ∃ a b : Int, cs = [.int k0 a, .int k1 b] ∧ (Lit.int k0 a).wf = true ∧ (Lit.int k1 b).wf = true := by
  obtain ⟨y0, y1, n, _, hl, t0, t1⟩ := trod_struct2 he h
  obtain ⟨o0, q0⟩ := hone_of hone 0 f0 rfl
  obtain ⟨o1, q1⟩ := hone_of hone 1 f1 rfl
  rw [o0, q0] at t0
  rw [o1, q1] at t1
  obtain ⟨a, ha, wa⟩ := cell h0 t0
  obtain ⟨b, hb, wb⟩ := cell h1 t1
  rw [ce] at hl
  match cs, hl with
  | [u, v], _ =>
    simp at ha hb
    exact ⟨a, b, by rw [ha, hb], wa, wb⟩
theorem twoV {e : TypeId} {f0 f1 : Field} {k0 k1 : IntKind} {base : Nat} {sp : Nat → Bool} {held : Bool} {v : Value} {d : DataW H} {ps : List MemPlace} {r : Reach} {b0 : Nat} (he : P.underlying e = some (.struct #[f0, f1]))
    (h0 : P.underlying f0.type = some (.int k0)) (h1 : P.underlying f1.type = some (.int k1)) (hone : oneCellFields P #[f0, f1] = true) (ce : P.cellsOf e = 2) (hv : Value.okWide P w r b0 e v) (h : DataW.Trod enc P w base sp held e v d ps) :
    ∃ a b : Int, v = .agg #[.int k0 a, .int k1 b] ∧ (Lit.int k0 a).wf = true ∧ (Lit.int k1 b).wf = true := by
  obtain ⟨cs, rfl, _⟩ := okWide_struct he hv
  obtain ⟨fuel, hf⟩ := h
  obtain ⟨a, b, hc, wa, wb⟩ := two he h0 h1 hone ce hf
  refine ⟨a, b, ?_, wa, wb⟩
  have e1 : cs.toList = [.int k0 a, .int k1 b] := by simpa [Value.cells] using hc
  congr 1
  apply Array.ext'
  simpa using e1
/-- A slice of structs of two integers. -/
theorem pairs {t e : TypeId} {f0 f1 : Field} {k0 k1 : IntKind} {held : Bool} {v : Value} {d : DataW H} {ps : List MemPlace} (ht : P.underlying t = some (.slice e)) (he : P.underlying e = some (.struct #[f0, f1]))
    (h0 : P.underlying f0.type = some (.int k0)) (h1 : P.underlying f1.type = some (.int k1)) (hone : oneCellFields P #[f0, f1] = true) (ce : P.cellsOf e = 2) (hv : ∃ u, v.cells.toList = [u] ∧ v = u) (h : DataW.Trod enc P w 0 (fun _ => true) held t v d ps) :
    ∃ (A : Option Addr) (n c : Nat) (xs ys : List Int), v = .slice A n c ∧ xs.length = n ∧ ys.length = n ∧ n ≤ c ∧ c ≤ maxLen ∧ (∀ z ∈ xs, (Lit.int k0 z).wf = true) ∧ (∀ z ∈ ys, (Lit.int k1 z).wf = true) ∧
      ∀ j x y, xs[j]? = some x → ys[j]? = some y → ∃ b o, A = some ⟨b, o, none⟩ ∧ b < w.heap.size ∧ w.cell? ⟨b, o + j * 2, none⟩ = some (.int k0 x) ∧ w.cell? ⟨b, o + j * 2 + 1, none⟩ = some (.int k1 y) := by
  obtain ⟨u, hu, rfl⟩ := hv
  obtain ⟨fuel, hf⟩ := h
  rw [hu] at hf
  rcases open_slice ht hf with ⟨hcs, _⟩ | ⟨a, len, cap, m, f, D, Pl, hcs, _, hl, hm, hmm, _, hx⟩
  · have e1 : v = .slice none 0 0 := by simpa using hcs
    exact ⟨none, 0, 0, [], [], e1, rfl, rfl, Nat.le_refl _, Nat.zero_le _, fun z h => by simp at h, fun z h => by simp at h, fun j x y h => by simp at h⟩
  · have e1 : v = .slice (some a) len cap := by simpa using hcs
    simp only [if_true] at hmm
    subst hmm
    have each : ∀ i, i < m → ∃ p : Int × Int, (Lit.int k0 p.1).wf = true ∧ (Lit.int k1 p.2).wf = true ∧ w.cell? (a.add (i * 2)) = some (.int k0 p.1) ∧ w.cell? (a.add (i * 2 + 1)) = some (.int k1 p.2) := by
      intro i hi
      obtain ⟨cs', hc, hd⟩ := hx i hi
      obtain ⟨p, q, rfl, w1, w2⟩ := two he h0 h1 hone ce hd
      rw [ce] at hc
      obtain ⟨_, _, hcell⟩ := World.cells?_some hc
      have g0 := hcell 0 (by omega)
      have g1 := hcell 1 (by omega)
      rw [Addr.add_add] at g0 g1
      exact ⟨(p, q), w1, w2, g0, g1⟩
    let g : Nat → Int × Int := fun i => if h : i < m then (each i h).choose else (0, 0)
    have hg : ∀ i (h : i < m), (Lit.int k0 (g i).1).wf = true ∧ (Lit.int k1 (g i).2).wf = true ∧ w.cell? (a.add (i * 2)) = some (.int k0 (g i).1) ∧ w.cell? (a.add (i * 2 + 1)) = some (.int k1 (g i).2) := by
      intro i h
      have := (each i h).choose_spec
      simp only [g, h, dif_pos]
      exact this
    refine ⟨some a, len, m, (List.range len).map fun i => (g i).1, (List.range len).map fun i => (g i).2, e1, by simp, by simp, hl, hm, ?_, ?_, ?_⟩
    · intro z hz
      obtain ⟨i, hi, rfl⟩ := List.mem_map.mp hz
      have := List.mem_range.mp hi
      exact (hg i (by omega)).1
    · intro z hz
      obtain ⟨i, hi, rfl⟩ := List.mem_map.mp hz
      have := List.mem_range.mp hi
      exact (hg i (by omega)).2.1
    · intro j x y hjx hjy
      have hj1 : j < len := by have := (List.getElem?_eq_some_iff.mp hjx).1; simpa using this
      rw [List.getElem?_map, List.getElem?_range hj1] at hjx hjy
      obtain rfl := Option.some.inj hjx
      obtain rfl := Option.some.inj hjy
      have hs : a.spot = none := by
        have h00 := (hg 0 (by omega)).2.2.1
        rw [Nat.zero_mul] at h00
        have := World.cell?_spot h00
        simpa [Addr.add] using this
      obtain ⟨b, o, s⟩ := a
      obtain rfl : s = none := hs
      obtain ⟨_, _, c0, c1⟩ := hg j (by omega)
      have hb := World.block_lt_of_cell? w _ c0
      rw [Addr.add_lit] at c0 c1
      rw [blockAdd] at hb
      exact ⟨b, o, rfl, hb, c0, c1⟩
end
end Opn
end Go.Proofs.YtfeahgcigmoijaaGreatDoor
/- Long arrays by value whose cells are one letter: made, built of nothing, stored, loaded and answered without going through them cell by cell. No condition. -/
namespace Go.Proofs.YtfeahgcigmoijaaGreatDoor
open Go.RowKit
namespace Lg
section
variable {P : Program} {ops : Array Oper} {rest : List Oper} {op : Oper} {a : Act} {w : World} {Q : Exit → Act → World → Prop}
/-- A variable is made; its type's zero value is a letter. -/
theorem wpAlloc (hgd : op.guard = none) (ty : TypeId) (ho : op.op = .alloc ty) (Z : Array Value) (hz : ∀ w, (zeroValue ty).run P w = .ok (.agg Z) w)
    (h : wpList P ops Q rest (a.put op.dst (.pointer (some ⟨w.heap.size, 0, none⟩))) (w.alloc (.cells Z ty))) : wpList P ops Q (op :: rest) a w :=
  wpList_plain hgd fun K hK => by
    unfold Oper.wp execOp
    simp only [ho]
    have e : (Instr.alloc ty true (.tuple #[])).run P w = .ok (.pointer (some ⟨w.heap.size, 0, none⟩)) (w.alloc (.cells Z ty)) := by
      simp only [Instr.alloc, Sem.run_bind, hz, Result.andThen_ok]
      rfl
    simp [e]
    exact hK _ _ h
/-- An array is built of nothing. -/
theorem wpBuild (hgd : op.guard = none) (ty : TypeId) (ho : op.op = .build ty #[]) (Z : Array Value) (n : Nat) (e : TypeId) (hz : ∀ w, (zeroValue ty).run P w = .ok (.agg Z) w) (hu : P.underlying ty = some (.array n e)) (m : Nat) (hs : ∀ w, (sizeOf e).run P w = .ok m w)
    (h : wpList P ops Q rest (a.put op.dst (.agg Z)) w) : wpList P ops Q (op :: rest) a w :=
  wpList_plain hgd fun K hK => by
    unfold Oper.wp execOp
    simp only [ho]
    have e : (Instr.build ty #[]).run P w = .ok (.agg Z) w := by
      simp [Instr.build, Sem.run_bind, hz, run_underlying hu, hs, Instr.fill, Value.cells]
    simp [e]
    exact hK _ _ h
end
theorem below_setCells {B : Nat} {a : World} {b : Nat} (hb : B ≤ b) : ∀ (vs : List Value) (o : Nat) (w : World), Below B a w → Below B a (w.setCells b o vs)
  | [], _, _, h => h
  | v :: r, o, _, h => below_setCells hb r (o + 1) _ (h.setCell (p := ⟨b, o, none⟩) hb v)
theorem there_new (w : World) (C : Array Value) (t : TypeId) (n : Nat) (h : C.size = n) : (w.alloc (.cells C t)).there w.heap.size 0 n := fun j hj => by
  rw [World.cell?_alloc_new, World.frozen?_alloc_new]
  exact ⟨by simp; omega, rfl⟩
/-- Two results, the first of them an array that lies in a cell of its own. -/
theorem results_mid {P : Program} {fn : Func} {p u : Tmp} {ty : TypeId} (h : fn.results = #[.cell p ty, .tmp u]) (tmps : Array Value) (w : World) (b o : Nat) (cs : List Value) (d : TypeDesc)
    (hp : tmps.getD p undef = .pointer (some ⟨b, o, none⟩)) (hc : w.rangeAt b o cs) (hu : P.underlying ty = some d) (hd : d.isRow = true) (hi : (P.info? ty).map (·.size) = some cs.length) :
    (results fn tmps).run P w = .ok (.tuple #[.agg cs.toArray, tmps.getD u undef]) w := by
  rw [results_cell_tmp h, hp]
  have e : (asAddr (.pointer (some ⟨b, o, none⟩))).run P w = .ok ⟨b, o, none⟩ w := rfl
  rw [e, Result.andThen_ok, run_loadVar_mid w b o ty cs d hc hu hd hi, Result.andThen_ok]
end Lg
end Go.Proofs.YtfeahgcigmoijaaGreatDoor
/- Long arrays by value inside a fence (a round of a range over a function): made, stored, loaded without going through them cell by cell. No condition. -/
namespace Go.Proofs.YtfeahgcigmoijaaGreatDoor
open Go.RowKit
namespace Lg
section
variable {F : Fence} {n : Nat} {P : Program} {ops : Array Oper} {rest : List Oper} {op : Oper} {a : Act} {w : World} {K : Act → World → Prop} {Q : Exit → Act → World → Prop}
theorem wpIn_alloc (ty : TypeId) (ho : op.op = .alloc ty) (Z : Array Value) (hz : ∀ w, (zeroValue ty).run P w = .ok (.agg Z) w)
    (h : K (a.put op.dst (.pointer (some ⟨w.heap.size, 0, none⟩))) (w.alloc (.cells Z ty))) : op.wpIn F n P a w K Q := by
  unfold Oper.wpIn
  refine ⟨fun f hf => by simp [Oper.about, ho] at hf, ?_⟩
  rw [Oper.semAt_eq _ _ _ (fun c hc => by rw [ho] at hc; cases hc)]
  unfold execOp
  simp only [ho]
  have e : (Instr.alloc ty true (.tuple #[])).run P w = .ok (.pointer (some ⟨w.heap.size, 0, none⟩)) (w.alloc (.cells Z ty)) := by
    simp only [Instr.alloc, Sem.run_bind, hz, Result.andThen_ok]
    rfl
  simp [e]
  exact h
theorem wpIn_load (ty : TypeId) (x : Operand) (ho : op.op = .load ty x)
    (b o : Nat) (hx : a.eval x = .pointer (some ⟨b, o, none⟩)) (cs : List Value) (d : TypeDesc) (hc : w.rangeAt b o cs)
    (hu : P.underlying ty = some d) (hd : d.isRow = true) (hi : (P.info? ty).map (·.size) = some cs.length)
    (h : K (a.put op.dst (.agg cs.toArray)) w) : op.wpIn F n P a w K Q := by
  unfold Oper.wpIn
  refine ⟨fun f hf => by simp [Oper.about, ho] at hf, ?_⟩
  rw [Oper.semAt_eq _ _ _ (fun c hc => by rw [ho] at hc; cases hc)]
  unfold execOp
  simp only [ho, hx, Instr.loadAt, Instr.sureAddr, Sem.run_bind, Sem.run_pure, Result.andThen_ok, run_loadVar_mid w b o ty cs d hc hu hd hi]
  exact h
theorem wpIn_store (ty : TypeId) (x y : Operand) (ho : op.op = .store ty x y)
    (b o : Nat) (cells : Array Value) (hx : a.eval x = .pointer (some ⟨b, o, none⟩)) (hy : a.eval y = .agg cells)
    (ht : w.there b o cells.size) (hi : (P.info? ty).map (·.size) = some cells.size) (h1 : cells.all (·.oneCell') = true)
    (h : K (a.put op.dst undef) (w.setCells b o cells.toList)) : op.wpIn F n P a w K Q := by
  unfold Oper.wpIn
  refine ⟨fun f hf => by simp [Oper.about, ho] at hf, ?_⟩
  rw [Oper.semAt_eq _ _ _ (fun c hc => by rw [ho] at hc; cases hc)]
  unfold execOp
  simp only [ho, hx, hy, Instr.storeAt, Instr.sureAddr, Sem.run_bind, Sem.run_pure, Result.andThen_ok, run_storeVar_mid w b o ty cells ht hi h1]
  exact h
theorem wpListIn_alloc (hgd : op.guard = none) (ty : TypeId) (ho : op.op = .alloc ty) (Z : Array Value) (hz : ∀ w, (zeroValue ty).run P w = .ok (.agg Z) w)
    (h : wpListIn F n P ops Q rest (a.put op.dst (.pointer (some ⟨w.heap.size, 0, none⟩))) (w.alloc (.cells Z ty))) : wpListIn F n P ops Q (op :: rest) a w :=
  wpListIn_plain hgd fun _ hK => wpIn_alloc ty ho Z hz (hK _ _ h)
theorem wpListIn_store (hgd : op.guard = none) (ty : TypeId) (x y : Operand) (ho : op.op = .store ty x y)
    (b o : Nat) (cells : Array Value) (hx : a.eval x = .pointer (some ⟨b, o, none⟩)) (hy : a.eval y = .agg cells)
    (ht : w.there b o cells.size) (hi : (P.info? ty).map (·.size) = some cells.size) (h1 : cells.all (·.oneCell') = true)
    (h : wpListIn F n P ops Q rest (a.put op.dst undef) (w.setCells b o cells.toList)) : wpListIn F n P ops Q (op :: rest) a w :=
  wpListIn_plain hgd fun _ hK => wpIn_store ty x y ho b o cells hx hy ht hi h1 (hK _ _ h)
end
end Lg
end Go.Proofs.YtfeahgcigmoijaaGreatDoor
