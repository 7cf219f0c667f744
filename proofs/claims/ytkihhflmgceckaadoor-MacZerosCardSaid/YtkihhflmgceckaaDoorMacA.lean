/- mac's own texts: a key's block. Conditions: what is handed in reads as bytes; sha.k reads as laid. -/
import Derived.Test.YtkihhflmgceckaaDoorSure05
namespace Go.Proofs.YtkihhflmgceckaaDoor
open Go.RowKit Go.Lib
namespace Mc
open SlR Sh Sp
/-- A key, or its sum, and noughts behind it, 64 together. -/
def key (k : List Nat) : List Nat := if k.length ≤ 64 then k else Sh.sum k
def fill (s : List Nat) : List Nat := s ++ List.replicate (64 - s.length) 0
def blk (k : List Nat) : List Nat := fill (key k)
theorem key_len (k : List Nat) : (key k).length ≤ 64 := by
  unfold key
  split
  · assumption
  · rw [sum_fine]; omega
theorem fill_len {s : List Nat} (h : s.length ≤ 64) : (fill s).length = 64 := by simp [fill]; omega
theorem blk_len (k : List Nat) : (blk k).length = 64 := fill_len (key_len k)
theorem b8_rep (n : Nat) : B8 (List.replicate n 0) := b8_mem fun x hx => by rw [List.eq_of_mem_replicate hx]; omega
theorem key_b8 {k : List Nat} (h : B8 k) (hl : k.length ≤ 100000) : B8 (key k) := by
  unfold key
  split
  · exact h
  · exact sum_b8 ⟨k, h, hl⟩
theorem blk_b8 {k : List Nat} (h : B8 k) (hl : k.length ≤ 100000) : B8 (blk k) := b8_app (key_b8 h hl) (b8_rep _)
/-- Each byte xor one other. -/
def msk (m : Nat) (b : List Nat) : List Nat := b.map fun x => x ^^^ m
theorem msk_len (m : Nat) (b : List Nat) : (msk m b).length = b.length := by simp [msk]
theorem xor8 {a b : Nat} (ha : a < 256) (hb : b < 256) : a ^^^ b < 256 := Nat.xor_lt_two_pow (n := 8) ha hb
theorem msk_b8 (m : Nat) (hm : m < 256) {b : List Nat} (h : B8 b) : B8 (msk m b) := b8_mem fun x hx => by
  obtain ⟨y, hy, rfl⟩ := List.mem_map.1 hx
  obtain ⟨i, hi, rfl⟩ := List.getElem_of_mem hy
  have := h i
  rw [List.getD_eq_getElem?_getD, List.getElem?_eq_getElem hi] at this
  exact xor8 this hm
/-- The sum with a key. -/
def hm (k t : List Nat) : List Nat := Sh.sum (msk 92 (blk k) ++ Sh.sum (msk 54 (blk k) ++ t))
theorem hm_len (k t : List Nat) : (hm k t).length = 32 := sum_fine _
theorem size64 : (Tryd.prog.info? 37).map (·.size) = some 64 := by kernel_rfl
theorem splice_fill (s : List Nat) (_h : s.length ≤ 64) : splice (vl .u8 (List.replicate 64 0)) 0 (vl .u8 s) = vl .u8 (fill s) := by
  have e : splice (List.replicate 64 0) 0 s = fill s := by
    unfold splice fill
    rw [List.drop_replicate, Nat.zero_add]
    rfl
  rw [← e]
  simp [splice, vl]
theorem zero64 (w : World) : (zeroValue 37).run Tryd.prog w = .ok (.agg (vl .u8 (List.replicate 64 0)).toArray) w := zero54 w
/-- What a slice reads, cell by cell, in a world that holds it. -/
theorem src_of {w : World} {A : Option Addr} {b : List Nat} (hr : R8 w A b) (h : 0 < (vl .u8 b).length) : ∃ ad : Addr, A = some ad ∧ ∀ j v, (vl .u8 b)[j]? = some v → w.cell? (ad.add j) = some v := by
  rw [vl_len] at h
  obtain ⟨ad, hA, _, _⟩ := Row.atN hr (j := 0) h
  refine ⟨ad, hA, fun j v hv => ?_⟩
  have hj : j < b.length := by have := (List.getElem?_eq_some_iff.1 hv).1; rwa [vl_len] at this
  obtain ⟨_, e, _, hc⟩ := Row.atN hr hj
  rw [hA] at e
  cases e
  rw [hc, ← hv, vl_at _ _ _ hj]
set_option maxHeartbeats 3200000 in
set_option maxRecDepth 100000 in
/-- mac.Block of a key of at most 64 bytes. -/
theorem block_lo (A : Option Addr) (c n : Nat) (b : List Nat) (w : World) (hn : b.length = n) (hl : n ≤ 64) (hr : R8 w A b) :
    Calls Tryd.prog 17 #[.slice A n c] w fun e w' => e = .returned (.agg (vl .u8 (blk b)).toArray) ∧ Step w w' := by
  obtain ⟨Z, hZ⟩ : ∃ Z, (vl .u8 (List.replicate 64 0)) = Z := ⟨_, rfl⟩
  have hz : Hid (∀ w, (zeroValue 37).run Tryd.prog w = .ok (.agg Z.toArray) w) := Lib.hid (hZ ▸ zero64)
  have hsz : Z.length = 64 := by rw [← hZ]; rfl
  have hsz2 : Z.toArray.size = 64 := hsz
  have hSp : Hid (splice Z 0 (vl .u8 b) = vl .u8 (blk b)) := Lib.hid (by
    rw [← hZ, splice_fill b (by omega)]
    unfold blk key
    rw [if_pos (by omega)])
  clear hZ
  have lB : (vl .u8 (blk b)).length = 64 := by rw [vl_len, blk_len]
  have oB := Lib.hid (vl_one .u8 (blk b))
  have o1 : Hid (∀ v ∈ vl .u8 b, v.oneCell' = true) := Lib.hid fun v hv => (Array.all_eq_true_iff_forall_mem.1 (vl_one .u8 b)) v (by simpa using hv)
  have lb : (vl .u8 b).length = n := by rw [vl_len, hn]
  have R2 : R8 ((w.alloc (Obj.cells Z.toArray 37)).alloc (Obj.cells Z.toArray 37)) A b := Row.to hr
  have hsrc : Hid (0 < (vl .u8 b).length → ∃ ad : Addr, A = some ad ∧ ∀ j v, (vl .u8 b)[j]? = some v → ((w.alloc (Obj.cells Z.toArray 37)).alloc (Obj.cells Z.toArray 37)).cell? (ad.add j) = some v) := Lib.hid (src_of R2)
  have hg2 : Hid (((w.alloc (Obj.cells Z.toArray 37)).alloc (Obj.cells Z.toArray 37)).heap[w.heap.size + 1]? = some (.cells Z.toArray 37 (0, 0))) := Lib.hid (heap_alloc2_new w _ _)
  have T2 : Hid (((w.alloc (Obj.cells Z.toArray 37)).alloc (Obj.cells Z.toArray 37)).there w.heap.size 0 64) := Lib.hid (World.there_alloc (Lg.there_new w Z.toArray 37 64 hsz2) _)
  have B2 : Hid (Below w.heap.size w ((w.alloc (Obj.cells Z.toArray 37)).alloc (Obj.cells Z.toArray 37))) := Lib.hid (inferInstance : Ext w ((w.alloc (Obj.cells Z.toArray 37)).alloc (Obj.cells Z.toArray 37))).h
  have h1 : (n : Int) ≤ 64 := by omega
  have hK := Lib.hid hl
  generalize vl .u8 b = D at hSp lb o1 hsrc
  generalize vl .u8 (blk b) = E at hSp lB oB
  have eE : E.toArray.size = 64 := lB
  clear hr R2 hl
  go_enter Tryd.func17, Tryd.ntmps17
  go_wp2_with (first
    | refine Lg.wpAlloc (by rfl) 37 (by rfl) Z.toArray hz.out ?_
    | (refine wpList_copy_splice rfl (.tmp 13) (.tmp 14) 22 22 rfl 5 Tryd.underlying22 (by kernel_rfl) _ _ 64 64 _ _ rfl rfl (w.heap.size + 1) 0 Z 37 hg2.out D (by rw [lb]; have := hK.out; show n = min n 64; omega) (fun h => ⟨rfl, hsrc.out h⟩) (by rw [lb, hsz]; have := hK.out; omega) o1.out (w.heap.size + 1) _ (Below.refl _ _) (by omega) ?_; intro w4 hg4 hb4; rw [hSp.out] at hg4; have B4 : Below w.heap.size w w4 := B2.out.trans (hb4.mono (by omega)); have T4 : w4.there w.heap.size 0 64 := there_under T2.out hb4 (by omega); have R4 := range_block hg4.out; clear hg4 hb4)
    | refine wpList_load_mid (by rfl) 37 (.tmp 3) (by rfl) (w.heap.size + 1) 0 (by rfl) E _ R4 Tryd.underlying37 rfl (by rw [lB]; exact size64) ?_
    | refine wpList_store_mid (by rfl) 37 (.tmp 2) (.tmp 16) (by rfl) w.heap.size 0 E.toArray (by rfl) (by rfl) (by rw [eE]; exact T4) (by rw [eE]; exact size64) oB.out ?_)
  refine bodyPost_ret (results_one (by rfl) _ _ w.heap.size 0 E _ (by rfl) (World.rangeAt_setCells_same _ _ _ _ (by rw [lB]; exact T4)) Tryd.underlying37 rfl (by rw [lB]; exact size64)) (by rfl) ?_
  exact ⟨rfl, ⟨Lg.below_setCells (Nat.le_refl _) _ _ _ B4⟩⟩
end Mc
end Go.Proofs.YtkihhflmgceckaaDoor
