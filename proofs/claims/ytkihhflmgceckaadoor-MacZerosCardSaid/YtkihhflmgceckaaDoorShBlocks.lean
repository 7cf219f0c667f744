/- The program's own iterator over blocks (package sha's blocks). Conditions: what is handed in reads as bytes. -/
import Derived.RangeFuncNested
import Derived.RangeFuncBound
import Derived.RangeFuncCalls
import Derived.RangeFuncLeaves
import Derived.Shelf.Abstract
import Derived.WalkKit
import Derived.OwnWalkIn
import Derived.TacticsInMore
import Derived.LoopNIn
import Derived.LoopIn
import Derived.Test.YtkihhflmgceckaaDoorShTurn
namespace Go.Proofs.YtkihhflmgceckaaDoor
open Go.RowKit Go.Lib Go.Shelf
attribute [local go_sem] Oper.semAt_some
namespace Sp
open SlR Sh
theorem b8_app {xs ys : List Nat} (hx : B8 xs) (hy : B8 ys) : B8 (xs ++ ys) := fun i => by
  rw [List.getD_eq_getElem?_getD, List.getElem?_append]
  split
  · rw [← List.getD_eq_getElem?_getD]; exact hx i
  · rw [← List.getD_eq_getElem?_getD]; exact hy _
theorem b8_mem {xs : List Nat} (h : ∀ x ∈ xs, x < 256) : B8 xs := fun i => by
  rw [List.getD_eq_getElem?_getD]
  cases hq : xs[i]? with
  | none => show (0 : Nat) < _; omega
  | some v => exact h v (List.mem_of_getElem? hq)
theorem b8_bys {xs : List Nat} (h : ∀ x ∈ xs, x < 4294967296) : B8 (bys xs) := b8_mem fun x hx => by
  unfold bys at hx
  obtain ⟨y, hy, hxy⟩ := List.mem_flatMap.1 hx
  have := h y hy
  simp only [by4, List.mem_cons, List.not_mem_nil, or_false] at hxy
  omega
theorem b8_pad {b : List Nat} (h : B8 b) (hl : b.length ≤ 100000) : B8 (pad b) := by
  unfold pad
  refine b8_app (b8_app (b8_app h (b8_mem ?_)) (b8_mem ?_)) (b8_bys ?_)
  · intro x hx
    simp at hx
    omega
  · intro x hx
    have := List.eq_of_mem_replicate hx
    omega
  · intro x hx
    simp only [List.mem_cons, List.not_mem_nil, or_false] at hx
    omega
theorem b8_part {b : List Nat} (h : B8 b) (o n : Nat) : B8 ((b.drop o).take n) := fun i => by
  rw [List.getD_eq_getElem?_getD, List.getElem?_take]
  split
  · rw [List.getElem?_drop, ← List.getD_eq_getElem?_getD]; exact h _
  · show (0 : Nat) < _; omega
theorem b32_wds {b : List Nat} (h : B8 b) (n : Nat) : B32 (wds b n) := fun i => by
  have h0 := h (4 * i)
  have h1 := h (4 * i + 1)
  have h2 := h (4 * i + 2)
  have h3 := h (4 * i + 3)
  unfold wds
  rw [List.getD_eq_getElem?_getD, List.getElem?_map]
  cases hq : (List.range n)[i]? with
  | none => show (0 : Nat) < _; omega
  | some v =>
    have hv : v = i := by
      have := (List.getElem?_eq_some_iff.1 hq).2
      simpa using this.symm
    subst hv
    show wd b v < _
    unfold wd
    omega
/-- A block's words. -/
abbrev Blk : Type := { V : List Nat // V.length = 16 ∧ B32 V }
def encB (x : Blk) : Array Value := #[.agg (vl .u32 x.1).toArray]
/-- Bytes that are few enough. -/
abbrev Byt : Type := { b : List Nat // B8 b ∧ b.length ≤ 100000 }
def bk (b : Byt) (i : Nat) : Blk := ⟨wds (((pad b.1).drop (64 * i)).take 64) 16, wds_len _ _, b32_wds (b8_part (b8_pad b.2.1 b.2.2) _ _) _⟩
def bks (b : Byt) (m : Nat) : List Blk := (List.range m).map (bk b)
theorem bks_len (b : Byt) (m : Nat) : (bks b m).length = m := by simp [bks]
theorem bks_snoc (b : Byt) (m : Nat) : bks b m ++ [bk b m] = bks b (m + 1) := by simp [bks, List.range_succ]
/-- What a round that goes on keeps: what lay below, and the box of the bytes. -/
def KpB (n₀ Bn : Nat) (W W' : World) : Prop := Below n₀ W W' ∧ ∀ v, W.cell? ⟨Bn, 0, none⟩ = some v → W'.cell? ⟨Bn, 0, none⟩ = some v
theorem KpB.t {n₀ Bn : Nat} {X Y Z : World} (h : KpB n₀ Bn X Y) (k : KpB n₀ Bn Y Z) : KpB n₀ Bn X Z := ⟨h.1.trans k.1, fun v hv => k.2 v (h.2 v hv)⟩
theorem KpB.step {n₀ Bn : Nat} {X Y : World} (h : Below X.heap.size X Y) (hn : n₀ ≤ X.heap.size) : KpB n₀ Bn X Y := ⟨h.mono hn, fun v hv => by
  have hl : Bn < X.heap.size := by
    unfold World.cell? at hv
    apply Classical.byContradiction
    intro hc
    rw [Array.getElem?_eq_none (by simpa using hc)] at hv
    cases hv
  exact (h.cell (p := ⟨Bn, 0, none⟩) hl).trans hv⟩
theorem grown_of_below {X Y : World} (h : Below X.heap.size X Y) : X.grownBy Y none := ⟨h.os, h.tape, h.output, h.size, fun k hk _ => h.block k hk⟩
theorem count_lt (nb i M : Nat) (h : M = (nb + 9 + zn nb) / 64) (h2 : (nb + 9 + zn nb) % 64 = 0) : 64 * i < nb + 9 ↔ i < M := by
  have hz : zn nb < 64 := by unfold zn; omega
  omega
set_option maxHeartbeats 3200000 in
set_option maxRecDepth 100000 in
theorem blocks1_in (n l Bn : Nat) (A : Option Addr) (c nb : Nat) (b : Byt) (w0 : World) (hn : b.1.length = nb) (hc : nb ≤ c) (hr : R8 w0 A b.1) (J Jx : List Blk → World → Prop) (W : World)
    (hJ : AbidesFrom W.heap.size J)
    (hY : ∀ pre x W, J pre W → pre.length < (pad b.1).length / 64 → YieldAt Fence.wide (n - 1) Tryd.prog l (encB x) W fun e W' =>
      (e = .returned (.bool true) ∧ J (pre ++ [x]) W' ∧ KpB w0.heap.size Bn W W') ∨ (e = .returned (.bool false) ∧ Jx (pre ++ [x]) W'))
    (hB : Below w0.heap.size w0 W) (hBn : W.cell? ⟨Bn, 0, none⟩ = some (.slice A nb c)) (h0 : J [] W) :
    CallsIn Fence.wide n Tryd.prog 33 #[.func (.yield l) #[] #[], .pointer (some ⟨Bn, 0, none⟩)] W fun e W' => (∃ v, e = .returned v) ∧
      ((∃ ys, ys = bks b ((pad b.1).length / 64) ∧ J ys W') ∨ (∃ pre, True ∧ Jx pre W')) := by
  have hn2 : nb ≤ 100000 := by have := b.2.2; omega
  obtain ⟨M, hM⟩ : ∃ M, Hid (M = (pad b.1).length / 64) := ⟨_, Lib.hid rfl⟩
  have hcount : Hid (∀ i, 64 * i < nb + 9 ↔ i < M) := Lib.hid fun i => count_lt nb i M (by rw [hM.out, pad_len, hn]) (by have := pad_mod b.1; rw [pad_len, hn] at this; exact this)
  rw [← hM.out] at hY ⊢
  refine callsIn_of_wp Tryd.func33 rfl trivial ?_ rfl
  simp only [Tryd.ntmps33, List.size_toArray, List.length_cons, List.length_nil, Nat.reduceAdd, Nat.reduceSub, Array.replicate_succ, Array.replicate_zero, List.push_toArray, List.append_toArray, List.nil_append, List.cons_append]
  gi_wp2
  gi_loopw [3] (fun p wr => ∃ i o : Nat, Hid (o = 64 * i) ∧ Hid (i ≤ M) ∧ p = .int .i64 o ∧ Below w0.heap.size w0 wr ∧ wr.cell? ⟨Bn, 0, none⟩ = some (.slice A nb c) ∧ J (bks b i) wr ∧ W.heap.size ≤ wr.heap.size)
    (fun p _ => nb + 9 + 64 - (intOf p).toNat)
  case atStart =>
    exact ⟨0, 0, Lib.hid rfl, Lib.hid (Nat.zero_le _), rfl, hB, hBn, h0, Nat.le_refl _⟩
  case round =>
    obtain ⟨i, o, ho, hi, rfl, hB1, hBn1, hJ1, hsz⟩ := hrel
    have nI : (nb : Int) ≤ 100000 := by omega
    have x2 : IntKind.i64.wrap ((nb : Int) + 9) = (nb : Int) + 9 := by simp [IntKind.wrap, IntKind.bits, IntKind.signed]; omega
    by_cases hlt : o < nb + 9
    · have oI : (o : Int) < (nb : Int) + 9 := by omega
      have E0 : Ext w0 wr := ⟨hB1⟩
      have hiM : i < M := (hcount.out i).1 (by have := ho.out; omega)
      obtain ⟨x, hx⟩ : ∃ x, Hid (x = bk b i) := ⟨_, Lib.hid rfl⟩
      have hlen : (((pad b.1).drop o).take 64).length = 64 := by
        have h1 := pad_mod b.1
        have h2 : (pad b.1).length / 64 = M := hM.out.symm
        have h3 := ho.out
        rw [List.length_take, List.length_drop]
        omega
      have cB := block_dev A c nb o b.1 wr hn hn2 hr.to hc hlt (Lib.hid (by have := ho.out; omega))
      have cW : ∀ w, Calls Tryd.prog 34 #[.agg (vl .u8 (((pad b.1).drop o).take 64)).toArray] w fun e w' => e = .returned (.agg (vl .u32 x.1).toArray) ∧ Step w w' := fun w => by
        have := words_dev (((pad b.1).drop o).take 64) w hlen (Lib.hid (b8_part (b8_pad b.2.1 b.2.2) _ _))
        rw [hx.out]
        show Calls _ _ _ _ fun e w' => e = .returned (.agg (vl .u32 (wds (((pad b.1).drop (64 * i)).take 64) 16)).toArray) ∧ Step w w'
        rw [← ho.out]
        exact this
      have hs : bks b i ++ [x] = bks b (i + 1) := by rw [hx.out, bks_snoc]
      have hYx : ∀ w, J (bks b i) w → YieldAt Fence.wide (n - 1) Tryd.prog l (encB x) w fun e W' => (e = .returned (.bool true) ∧ J (bks b (i + 1)) W' ∧ KpB w0.heap.size Bn w W') ∨ (e = .returned (.bool false) ∧ Jx (bks b (i + 1)) W') := fun w h => by
        have := hY (bks b i) x w h (by rw [bks_len]; exact hiM)
        rw [hs] at this
        exact this
      have hYh := Lib.hid hYx
      have hJh := Lib.hid hJ1
      clear hY hYx hJ1 hs
      generalize vl .u8 (((pad b.1).drop o).take 64) = T at cB cW
      gi_wp2_with (first
        | (refine ⟨trivial, (by simp [Fence.wide]), ?_⟩; gi_at_call 35; refine (callsIn_wide.2 cB).mono ?_; rintro e w2 ⟨rfl, S2⟩)
        | (refine ⟨trivial, (by simp [Fence.wide]), ?_⟩; gi_at_call 34; refine (callsIn_wide.2 (cW _)).mono ?_; rintro e w3 ⟨rfl, S3⟩; obtain ⟨fn, tmps, assign, body, hy, hR⟩ := hYh.out w3 (hJ _ _ _ none (hJ _ _ _ none hJh.out (grown_of_below S2.h) (fun _ e => by cases e)) (grown_of_below S3.h) (fun _ e => by cases e)); unfold encB at hy))
      refine ⟨(by simp [Fence.wide]), ?_⟩
      refine hR.mono ?_
      have hB3 : Below w0.heap.size w0 w3 := (hB1.trans (S2.h.mono hB1.size)).trans (S3.h.mono (Nat.le_trans hB1.size S2.h.size))
      have hBn3 : w3.cell? ⟨Bn, 0, none⟩ = some (.slice A nb c) := (KpB.step S3.h (Nat.le_refl _)).2 _ ((KpB.step S2.h (Nat.le_refl _)).2 _ hBn1)
      have oI2 : IntKind.i64.wrap ((o : Int) + 64) = (o : Int) + 64 := by simp [IntKind.wrap, IntKind.bits, IntKind.signed]; omega
      rintro e W3 (⟨rfl, hJ3, hk3⟩ | ⟨rfl, hJx3⟩)
      · gi_wp2
        go_roundw
        case rel => exact ⟨i + 1, o + 64, Lib.hid (by have := ho.out; omega), Lib.hid (by omega), by go_num, hB3.trans hk3.1, hk3.2 _ hBn3, hJ3, Nat.le_trans hsz (Nat.le_trans S2.h.size (Nat.le_trans S3.h.size hk3.1.size))⟩
        case measure => simp [intOf]; omega
      · gi_wp2
        refine bodyPost_ret (results_none rfl _ _ _) rfl ?_
        exact ⟨⟨_, rfl⟩, .inr ⟨_, trivial, hJx3⟩⟩
    · have oI : ¬ (o : Int) < (nb : Int) + 9 := by omega
      have hiM : i = M := by have := hi.out; have := (hcount.out i); have := ho.out; omega
      subst hiM
      gi_wp2
      go_end0
      exact ⟨⟨_, rfl⟩, .inl hJ1⟩
end Sp
end Go.Proofs.YtkihhflmgceckaaDoor
