/- Several texts in one, each with its own word ahead. -/
import Derived.Test.YtfeahgcigmoijaaGreatDoorPkT
import Derived.Test.YtfeahgcigmoijaaGreatDoorPkA
import Derived.Deep.RegionHeld3
import Derived.Test.YtfeahgcigmoijaaGreatDoorPkS
/- mac's own texts: a key's block. Conditions: what is handed in reads as bytes; sha.k reads as laid. -/
namespace Go.Proofs.YtfeahgcigmoijaaGreatDoor
open Go.RowKit Go.Lib
namespace Mc
open SlR Sh Sp
/-- A key, or its sum, and noughts behind it, 64 together. -/
def key (k : List Nat) : List Nat := if k.length ≤ 64 then k else Sh.sum k
def fill (s : List Nat) : List Nat := s ++ List.replicate (64 - s.length) 0
def blk (k : List Nat) : List Nat := fill (key k)
theorem key_len (k : List Nat) : (key k).length ≤ 64 := by
  unfold key
  split
  · assumption
  · rw [sum_fine]; omega
theorem fill_len {s : List Nat} (h : s.length ≤ 64) : (fill s).length = 64 := by simp [fill]; omega
theorem blk_len (k : List Nat) : (blk k).length = 64 := fill_len (key_len k)
theorem b8_rep (n : Nat) : B8 (List.replicate n 0) := b8_mem fun x hx => by rw [List.eq_of_mem_replicate hx]; omega
theorem key_b8 {k : List Nat} (h : B8 k) (hl : k.length ≤ 100000) : B8 (key k) := by
  unfold key
  split
  · exact h
  · exact sum_b8 ⟨k, h, hl⟩
theorem blk_b8 {k : List Nat} (h : B8 k) (hl : k.length ≤ 100000) : B8 (blk k) := b8_app (key_b8 h hl) (b8_rep _)
/-- Each byte xor one other. -/
def msk (m : Nat) (b : List Nat) : List Nat := b.map fun x => x ^^^ m
theorem msk_len (m : Nat) (b : List Nat) : (msk m b).length = b.length := by simp [msk]
theorem xor8 {a b : Nat} (ha : a < 256) (hb : b < 256) : a ^^^ b < 256 := Nat.xor_lt_two_pow (n := 8) ha hb
theorem msk_b8 (m : Nat) (hm : m < 256) {b : List Nat} (h : B8 b) : B8 (msk m b) := b8_mem fun x hx => by
  obtain ⟨y, hy, rfl⟩ := List.mem_map.1 hx
  obtain ⟨i, hi, rfl⟩ := List.getElem_of_mem hy
  have := h i
  rw [List.getD_eq_getElem?_getD, List.getElem?_eq_getElem hi] at this
  exact xor8 this hm
/-- The sum with a key. -/
def hm (k t : List Nat) : List Nat := Sh.sum (msk 92 (blk k) ++ Sh.sum (msk 54 (blk k) ++ t))
theorem hm_len (k t : List Nat) : (hm k t).length = 32 := sum_fine _
theorem size64 : (Tryz.prog.info? 109).map (·.size) = some 64 := by kernel_rfl
theorem splice_fill (s : List Nat) (_h : s.length ≤ 64) : splice (vl .u8 (List.replicate 64 0)) 0 (vl .u8 s) = vl .u8 (fill s) := by
  have e : splice (List.replicate 64 0) 0 s = fill s := by
    unfold splice fill
    rw [List.drop_replicate, Nat.zero_add]
    rfl
  rw [← e]
  simp [splice, vl]
theorem zero64 (w : World) : (zeroValue 109).run Tryz.prog w = .ok (.agg (vl .u8 (List.replicate 64 0)).toArray) w := zero54 w
/-- What a slice reads, cell by cell, in a world that holds it. -/
theorem src_of {w : World} {A : Option Addr} {b : List Nat} (hr : R8 w A b) (h : 0 < (vl .u8 b).length) : ∃ ad : Addr, A = some ad ∧ ∀ j v, (vl .u8 b)[j]? = some v → w.cell? (ad.add j) = some v := by
  rw [vl_len] at h
  obtain ⟨ad, hA, _, _⟩ := Row.atN hr (j := 0) h
  refine ⟨ad, hA, fun j v hv => ?_⟩
  have hj : j < b.length := by have := (List.getElem?_eq_some_iff.1 hv).1; rwa [vl_len] at this
  obtain ⟨_, e, _, hc⟩ := Row.atN hr hj
  rw [hA] at e
  cases e
  rw [hc, ← hv, vl_at _ _ _ hj]
set_option maxHeartbeats 3200000 in
set_option maxRecDepth 100000 in
/-- mac.Block of a key of at most 64 bytes. -/
theorem block_lo (A : Option Addr) (c n : Nat) (b : List Nat) (w : World) (hn : b.length = n) (hl : n ≤ 64) (hr : R8 w A b) :
    Calls Tryz.prog 75 #[.slice A n c] w fun e w' => e = .returned (.agg (vl .u8 (blk b)).toArray) ∧ Step w w' := by
  obtain ⟨Z, hZ⟩ : ∃ Z, (vl .u8 (List.replicate 64 0)) = Z := ⟨_, rfl⟩
  have hz : Hid (∀ w, (zeroValue 109).run Tryz.prog w = .ok (.agg Z.toArray) w) := Lib.hid (hZ ▸ zero64)
  have hsz : Z.length = 64 := by rw [← hZ]; rfl
  have hsz2 : Z.toArray.size = 64 := hsz
  have hSp : Hid (splice Z 0 (vl .u8 b) = vl .u8 (blk b)) := Lib.hid (by
    rw [← hZ, splice_fill b (by omega)]
    unfold blk key
    rw [if_pos (by omega)])
  clear hZ
  have lB : (vl .u8 (blk b)).length = 64 := by rw [vl_len, blk_len]
  have oB := Lib.hid (vl_one .u8 (blk b))
  have o1 : Hid (∀ v ∈ vl .u8 b, v.oneCell' = true) := Lib.hid fun v hv => (Array.all_eq_true_iff_forall_mem.1 (vl_one .u8 b)) v (by simpa using hv)
  have lb : (vl .u8 b).length = n := by rw [vl_len, hn]
  have R2 : R8 ((w.alloc (Obj.cells Z.toArray 109)).alloc (Obj.cells Z.toArray 109)) A b := Row.to hr
  have hsrc : Hid (0 < (vl .u8 b).length → ∃ ad : Addr, A = some ad ∧ ∀ j v, (vl .u8 b)[j]? = some v → ((w.alloc (Obj.cells Z.toArray 109)).alloc (Obj.cells Z.toArray 109)).cell? (ad.add j) = some v) := Lib.hid (src_of R2)
  have hg2 : Hid (((w.alloc (Obj.cells Z.toArray 109)).alloc (Obj.cells Z.toArray 109)).heap[w.heap.size + 1]? = some (.cells Z.toArray 109 (0, 0))) := Lib.hid (heap_alloc2_new w _ _)
  have T2 : Hid (((w.alloc (Obj.cells Z.toArray 109)).alloc (Obj.cells Z.toArray 109)).there w.heap.size 0 64) := Lib.hid (World.there_alloc (Lg.there_new w Z.toArray 109 64 hsz2) _)
  have B2 : Hid (Below w.heap.size w ((w.alloc (Obj.cells Z.toArray 109)).alloc (Obj.cells Z.toArray 109))) := Lib.hid (inferInstance : Ext w ((w.alloc (Obj.cells Z.toArray 109)).alloc (Obj.cells Z.toArray 109))).h
  have h1 : (n : Int) ≤ 64 := by omega
  have hK := Lib.hid hl
  generalize vl .u8 b = D at hSp lb o1 hsrc
  generalize vl .u8 (blk b) = E at hSp lB oB
  have eE : E.toArray.size = 64 := lB
  clear hr R2 hl
  go_enter Tryz.func75, Tryz.ntmps75
  go_wp2_with (first
    | refine Lg.wpAlloc (by rfl) 109 (by rfl) Z.toArray hz.out ?_
    | (refine wpList_copy_splice rfl (.tmp 13) (.tmp 14) 61 61 rfl 5 Tryz.underlying61 (by kernel_rfl) _ _ 64 64 _ _ rfl rfl (w.heap.size + 1) 0 Z 109 hg2.out D (by rw [lb]; have := hK.out; show n = min n 64; omega) (fun h => ⟨rfl, hsrc.out h⟩) (by rw [lb, hsz]; have := hK.out; omega) o1.out (w.heap.size + 1) _ (Below.refl _ _) (by omega) ?_; intro w4 hg4 hb4; rw [hSp.out] at hg4; have B4 : Below w.heap.size w w4 := B2.out.trans (hb4.mono (by omega)); have T4 : w4.there w.heap.size 0 64 := there_under T2.out hb4 (by omega); have R4 := range_block hg4.out; clear hg4 hb4)
    | refine wpList_load_mid (by rfl) 109 (.tmp 3) (by rfl) (w.heap.size + 1) 0 (by rfl) E _ R4 Tryz.underlying109 rfl (by rw [lB]; exact size64) ?_
    | refine wpList_store_mid (by rfl) 109 (.tmp 2) (.tmp 16) (by rfl) w.heap.size 0 E.toArray (by rfl) (by rfl) (by rw [eE]; exact T4) (by rw [eE]; exact size64) oB.out ?_)
  refine bodyPost_ret (results_one (by rfl) _ _ w.heap.size 0 E _ (by rfl) (World.rangeAt_setCells_same _ _ _ _ (by rw [lB]; exact T4)) Tryz.underlying109 rfl (by rw [lB]; exact size64)) (by rfl) ?_
  exact ⟨rfl, ⟨Lg.below_setCells (Nat.le_refl _) _ _ _ B4⟩⟩
end Mc
end Go.Proofs.YtfeahgcigmoijaaGreatDoor
/- mac.Block of any key. Conditions: what is handed in reads as bytes; sha.k reads as laid. -/
namespace Go.Proofs.YtfeahgcigmoijaaGreatDoor
open Go.RowKit Go.Lib
namespace Mc
open SlR Sh Sp
set_option maxHeartbeats 3200000 in
set_option maxRecDepth 100000 in
/-- mac.Block of a key of more than 64 bytes. -/
theorem block_hi (A : Option Addr) (c n : Nat) (b : List Nat) (w : World) (hn : b.length = n) (hnc : n ≤ c) (hl : ¬ n ≤ 64) (hn2 : n ≤ 100000) (hr : R8 w A b) (hb : B8 b) (hL : LaidK w) :
    Calls Tryz.prog 75 #[.slice A n c] w fun e w' => e = .returned (.agg (vl .u8 (blk b)).toArray) ∧ Step w w' := by
  obtain ⟨Z, hZ⟩ : ∃ Z, (vl .u8 (List.replicate 64 0)) = Z := ⟨_, rfl⟩
  have hz : Hid (∀ w, (zeroValue 109).run Tryz.prog w = .ok (.agg Z.toArray) w) := Lib.hid (hZ ▸ zero64)
  have hsz : Z.length = 64 := by rw [← hZ]; rfl
  have hsz2 : Z.toArray.size = 64 := hsz
  have lC : (vl .u8 (Sh.sum b)).length = 32 := by rw [vl_len, sum_fine]
  have hSp : Hid (splice Z 0 (vl .u8 (Sh.sum b)) = vl .u8 (blk b)) := Lib.hid (by
    rw [← hZ, splice_fill _ (by rw [sum_fine]; omega)]
    unfold blk key
    rw [if_neg (by omega)])
  clear hZ
  obtain ⟨Z3, hZ3⟩ : ∃ Z, zs.toArray = Z := ⟨_, rfl⟩
  have hz3 : Hid (∀ w, (zeroValue 62).run Tryz.prog w = .ok (.agg Z3) w) := Lib.hid (hZ3 ▸ zero32)
  have hsz3 : Z3.size = 32 := by rw [← hZ3]; rfl
  clear hZ3
  have lB : (vl .u8 (blk b)).length = 64 := by rw [vl_len, blk_len]
  have oB := Lib.hid (vl_one .u8 (blk b))
  have oC := Lib.hid (vl_one .u8 (Sh.sum b))
  have o1 : Hid (∀ v ∈ vl .u8 (Sh.sum b), v.oneCell' = true) := Lib.hid fun v hv => (Array.all_eq_true_iff_forall_mem.1 (vl_one .u8 (Sh.sum b))) v (by simpa using hv)
  have cO := fun (w : World) (h : R8 w A b) (hL : LaidK w) => of_dev A c n ⟨b, hb, by omega⟩ w hn hnc h hL
  have hg2 : Hid (((w.alloc (Obj.cells Z.toArray 109)).alloc (Obj.cells Z.toArray 109)).heap[w.heap.size + 1]? = some (.cells Z.toArray 109 (0, 0))) := Lib.hid (heap_alloc2_new w _ _)
  have z2 : Hid (((w.alloc (Obj.cells Z.toArray 109)).alloc (Obj.cells Z.toArray 109)).heap.size = w.heap.size + 2) := Lib.hid (by simp)
  have T2 : Hid (((w.alloc (Obj.cells Z.toArray 109)).alloc (Obj.cells Z.toArray 109)).there w.heap.size 0 64) := Lib.hid (World.there_alloc (Lg.there_new w Z.toArray 109 64 hsz2) _)
  have B2 : Hid (Below w.heap.size w ((w.alloc (Obj.cells Z.toArray 109)).alloc (Obj.cells Z.toArray 109))) := Lib.hid (inferInstance : Ext w ((w.alloc (Obj.cells Z.toArray 109)).alloc (Obj.cells Z.toArray 109))).h
  have h1 : ¬ (n : Int) ≤ 64 := by omega
  change ∀ (w : World), R8 w A b → LaidK w → Calls Tryz.prog 76 #[.slice A n c] w fun e w' => e = .returned (.agg (vl .u8 (Sh.sum b)).toArray) ∧ Step w w' at cO
  generalize vl .u8 (Sh.sum b) = D at hSp lC o1 cO oC
  generalize vl .u8 (blk b) = E at hSp lB oB
  have eE : E.toArray.size = 64 := lB
  clear hl
  go_enter Tryz.func75, Tryz.ntmps75
  go_wp2_with (first
    | refine Lg.wpAlloc (by rfl) 109 (by rfl) Z.toArray hz.out ?_
    | refine Lg.wpAlloc (by rfl) 62 (by rfl) Z3 hz3.out ?_
    | (go_at_call 76; ((with_reducible refine (cO _ hr.to hL.to).mono ?_); rintro e w2 ⟨rfl, S2⟩; obtain ⟨W2, st2, X2, R2, l2⟩ := store_new w2 Z3 D hsz3 lC oC.out)))
  have X0 : Below (w.heap.size + 2) ((w.alloc (Obj.cells Z.toArray 109)).alloc (Obj.cells Z.toArray 109)) W2.drew := by
    have := (inferInstance : Ext ((w.alloc (Obj.cells Z.toArray 109)).alloc (Obj.cells Z.toArray 109)) W2.drew).h
    rwa [z2.out] at this
  have g3 : Hid (W2.drew.heap[w.heap.size + 1]? = some (.cells Z.toArray 109 (0, 0))) := Lib.hid (by rw [X0.block _ (by omega)]; exact hg2.out)
  have T3 : Hid (W2.drew.there w.heap.size 0 64) := Lib.hid (there_under T2.out X0 (by omega))
  have B3 : Hid (Below w.heap.size w W2.drew) := Lib.hid (B2.out.trans (X0.mono (by omega)))
  have hsrc : Hid (∀ j v, D[j]? = some v → W2.drew.cell? (Addr.add ⟨w2.heap.size, 0, none⟩ j) = some v) := Lib.hid fun j v hv => by
    rw [Addr.add_mid, Nat.zero_add]
    have := R2 j v hv
    rwa [Nat.zero_add] at this
  clear X0 hg2 z2 T2 B2 R2 l2 hL hr cO st2
  go_region_held3 (fun w' => Step w w')
    (exact Step.of inferInstance)
    ((refine step_copy_splice rfl (.tmp 10) (.tmp 11) 61 61 rfl 5 Tryz.underlying61 (by kernel_rfl) _ _ 64 64 _ _ rfl rfl (w.heap.size + 1) 0 Z 109 g3.out D (by rw [lC]; rfl) (fun _ => ⟨rfl, _, rfl, hsrc.out⟩) (by rw [lC, hsz]; omega) o1.out (w.heap.size + 1) _ (Below.refl _ _) (by omega) ?_; intro w4 hg4 hb4; have S4 : Step w w4 := ⟨B3.out.trans (hb4.mono (by omega))⟩))
  rw [hSp.out] at hg4
  have B4 : Below w.heap.size w w4 := B3.out.trans (hb4.mono (by omega))
  have T4 : w4.there w.heap.size 0 64 := there_under T3.out hb4 (by omega)
  have R4 := range_block hg4.out
  clear hg4 hb4 T3 g3 hsrc
  go_wp2_with (first
    | refine wpList_load_mid (by rfl) 109 (.tmp 3) (by rfl) (w.heap.size + 1) 0 (by rfl) E _ R4 Tryz.underlying109 rfl (by rw [lB]; exact size64) ?_
    | refine wpList_store_mid (by rfl) 109 (.tmp 2) (.tmp 16) (by rfl) w.heap.size 0 E.toArray (by rfl) (by rfl) (by rw [eE]; exact T4) (by rw [eE]; exact size64) oB.out ?_)
  refine bodyPost_ret (results_one (by rfl) _ _ w.heap.size 0 E _ (by rfl) (World.rangeAt_setCells_same _ _ _ _ (by rw [lB]; exact T4)) Tryz.underlying109 rfl (by rw [lB]; exact size64)) (by rfl) ?_
  exact ⟨rfl, ⟨Lg.below_setCells (Nat.le_refl _) _ _ _ B4⟩⟩
theorem block_any (A : Option Addr) (c n : Nat) (b : List Nat) (w : World) (hn : b.length = n) (hnc : n ≤ c) (hn2 : n ≤ 100000) (hr : R8 w A b) (hb : B8 b) (hL : LaidK w) :
    Calls Tryz.prog 75 #[.slice A n c] w fun e w' => e = .returned (.agg (vl .u8 (blk b)).toArray) ∧ Step w w' := by
  by_cases hl : n ≤ 64
  · exact block_lo A c n b w hn hl hr
  · exact block_hi A c n b w hn hnc hl hn2 hr hb hL
end Mc
end Go.Proofs.YtfeahgcigmoijaaGreatDoor
/- mac.behind: a text behind a key's block, each byte of which is changed by a mask. Conditions: what is handed in reads as bytes. -/
namespace Go.Proofs.YtfeahgcigmoijaaGreatDoor
open Go.RowKit Go.Lib
namespace Mc
open SlR Sh Sp
theorem of8 (a : Nat) (ha : a < 256) : (BitVec.ofInt 8 (a : Int)).toNat = a := by
  rw [BitVec.ofInt_natCast, BitVec.toNat_ofNat]
  exact Nat.mod_eq_of_lt (by omega)
theorem xor8_form (a b : Nat) (ha : a < 256) (hb : b < 256) : bits .xor .u8 (a : Int) (b : Int) = ((a ^^^ b : Nat) : Int) := by
  have hx := xor8 ha hb
  show IntKind.u8.wrap ((BitVec.ofInt 8 (a : Int) ^^^ BitVec.ofInt 8 (b : Int)).toNat : Int) = _
  rw [BitVec.toNat_xor, of8 a ha, of8 b hb, IntKind.wrap_u8']
  omega
theorem msk_snoc (m : Nat) (bs : List Nat) (k : Nat) (h : k < bs.length) : msk m (bs.take k) ++ [bs.getD k 0 ^^^ m] = msk m (bs.take (k + 1)) := by
  unfold msk
  rw [List.take_add_one, List.getElem?_eq_getElem h, List.map_append, List.getD_eq_getElem?_getD, List.getElem?_eq_getElem h]
  rfl
set_option maxHeartbeats 3200000 in
set_option maxRecDepth 100000 in
theorem behind_any (bs : List Nat) (m : Nat) (A : Option Addr) (c n : Nat) (t : List Nat) (w : World) (hbs : bs.length = 64) (hb8 : B8 bs) (hm : m < 256) (hn : t.length = n) (hn2 : n ≤ 90000) (hr : R8 w A t) :
    Calls Tryz.prog 77 #[.agg (vl .u8 bs).toArray, .int .u8 m, .slice A n c] w fun e w' => ∃ A' c', e = .returned (.slice A' (64 + n) c') ∧ 64 + n ≤ c' ∧ R8 w' A' (msk m bs ++ t) ∧ Step w w' := by
  obtain ⟨i0, hi, hz0, hz1, hz2⟩ := info_parts infoB
  have cN : Hid (∀ i, i < 64 → (vl .u8 bs)[i]? = some (.int .u8 (bs.getD i 0 : Nat))) := Lib.hid fun i hi => vl_at _ _ _ (by rw [hbs]; exact hi)
  have lE : (vl .u8 bs).length = 64 := by rw [vl_len, hbs]
  generalize vl .u8 bs = E at cN lE
  have rE := range_new w E.toArray 109
  have n1 : (n : Int) ≤ 90000 := by omega
  have n2 : IntKind.i64.wrap ((n : Int) + 64) = (n : Int) + 64 := by simp [IntKind.wrap, IntKind.bits, IntKind.signed]; omega
  have n3 : IntKind.i64.wrap (64 + (n : Int)) = 64 + (n : Int) := by simp [IntKind.wrap, IntKind.bits, IntKind.signed]; omega
  go_enter Tryz.func77, Tryz.ntmps77
  go_wp2_with (first
    | (at_make; refine wpList_make_own (w.alloc (Obj.cells E.toArray 109)) rfl _ _ 61 rfl w.heap.size 5 i0 _ 1 Tryz.underlying61 hi hz0 hz1 _ _ _ (64 + n) rfl rfl (by omega) (by rw [hz2]; omega) (by unfold maxLen; omega) (by simp) ?_; intro w1 O1 G1; have S1 : Step (w.alloc (Obj.cells E.toArray 109)) w1 := ⟨(Below.refl _ _).grown G1 (Nat.le_refl _) (fun k h => by cases h)⟩; have r1 : w1.rangeAt w.heap.size 0 E := range_under rE S1.h (by simp))
    | refine wpList_load_mid (by rfl) 109 (.tmp 3) (by rfl) w.heap.size 0 (by rfl) E _ r1 Tryz.underlying109 rfl (by rw [lE]; exact size64) ?_)
  have BW : Step w w1 := Step.of inferInstance
  have HO1 : Hid (ApE.Own .u8 5 w1 w.heap.size (.slice (some ⟨w.heap.size + 1, 0, none⟩) 0 (64 + n)) 0 (NL (msk m (bs.take 0)))) := Lib.hid (by
    rw [show (w.alloc (Obj.cells E.toArray 109)).heap.size = w.heap.size + 1 by simp] at O1
    exact O1)
  clear r1 rE O1 G1
  go_loopw [7, 15] (fun v i wr => ∃ k : Nat, k ≤ 64 ∧ i = .int .i64 k ∧ Hid (ApE.Own .u8 5 wr w.heap.size v k (NL (msk m (bs.take k)))) ∧ Step w wr) (fun _ i _ => 64 - (intOf i).toNat)
  case atStart => exact ⟨0, Nat.zero_le _, rfl, HO1, BW⟩
  case round =>
    obtain ⟨k, hk, rfl, hown, S⟩ := hrel
    obtain ⟨A', c', rfl⟩ := own_form hown.out
    by_cases hlt : k < 64
    · have hI : ∀ w, (Instr.index 109 (.agg E.toArray) (.int .i64 k)).run Tryz.prog w = .ok (.int .u8 (bs.getD k 0 : Nat)) w := run_index Tryz.underlying109 Tryz.sizeOf5 Tryz.isAgg5 k hlt (by rw [List.getElem?_toArray]; exact cN.out k hlt)
      have hX := Lib.hid (msk_snoc m bs k (by omega))
      have hx := hb8 k
      have hv := Lib.hid (xor8_form (bs.getD k 0) m hx hm)
      generalize bs.getD k 0 = x at hI hX hx hv
      have kI : (k : Int) < 64 := by omega
      go_wp2_with (at_builtin; refine ApE.wpE .u8 w wr (by rfl) _ _ 61 (by rfl) 5 i0 _ 1 Tryz.underlying61 hi hz0 hz1 hz2 rfl _ k _ (by rfl) hown.out _ 1 1 _ (by rfl) rfl (Row.lit1 _ _ _ _ (by simp)) (by omega) (by omega) ?_; intro A4 c4 w4 O4 S4)
      go_roundw
      case rel => exact ⟨k + 1, by omega, by go_num, Lib.hid (by
        rw [← hX.out, NL_app]
        rw [hv.out] at O4
        exact O4), Step.of inferInstance⟩
      case measure => simp [intOf]; omega
    · have hk64 : k = 64 := by omega
      subst hk64
      have hT : bs.take 64 = bs := List.take_of_length_le (by omega)
      rw [hT] at hown
      go_wp2_with (at_builtin; refine ApE.wpE .u8 w wr (by rfl) _ _ 61 (by rfl) 5 i0 _ 1 Tryz.underlying61 hi hz0 hz1 hz2 rfl _ 64 _ (by rfl) hown.out A n c (NL t) (by rfl) (by rw [NL_len]; exact hn) hr.to (by omega) (by omega) ?_; intro A4 c4 w4 O4 S4)
      have hcap := ApE.capped O4
      have R4 : R8 w4 A4 (msk m bs ++ t) := by
        unfold R8
        rw [NL_app]
        exact Row.of_own O4
      go_ret
      exact ⟨A4, c4, rfl, hcap, R4, Step.of inferInstance⟩
end Mc
end Go.Proofs.YtfeahgcigmoijaaGreatDoor
/- mac.Of and mac.Check: the sum with a key. Conditions: what is handed in reads as bytes; sha.k reads as laid. -/
namespace Go.Proofs.YtfeahgcigmoijaaGreatDoor
open Go.RowKit Go.Lib
namespace Mc
open SlR Sh Sp
theorem store_new64 (w : World) (Z : Array Value) (C : List Value) (hsz : Z.size = 64) (lC : C.length = 64) (oC : C.toArray.all (·.oneCell') = true) :
    ∃ W, (storeCells ⟨w.heap.size, 0, none⟩ C).run Tryz.prog (w.alloc (.cells Z 109)) = .ok () W ∧ Step w W ∧ W.rangeAt w.heap.size 0 C ∧ w.heap.size < W.heap.size := by
  have ht := Lg.there_new w Z 109 64 hsz
  have hB : Below w.heap.size w ((w.alloc (.cells Z 109)).setCells w.heap.size 0 C) := Lg.below_setCells (Nat.le_refl _) _ _ _ ((Below.refl _ w).alloc (Nat.le_refl _) _)
  have hR := World.rangeAt_setCells_same (w.alloc (.cells Z 109)) w.heap.size 0 C (by rw [lC]; exact ht)
  refine ⟨_, ?_, ⟨hB⟩, hR, ?_⟩
  · have := run_storeCells_cells (P := Tryz.prog) w.heap.size 0 C 0 (w.alloc (.cells Z 109)) (fun j hj => by simpa using (ht j (by omega)).1) (fun j hj => by have := (ht j (by omega)).2; simp at this; simp) (fun v hv => (Array.all_eq_true_iff_forall_mem.1 oC) v (by simpa using hv))
    simp at this
    exact this
  · have h := hR 0 _ (List.getElem?_eq_getElem (by omega))
    unfold World.cell? at h
    apply Classical.byContradiction
    intro hn
    rw [Array.getElem?_eq_none (by simpa using hn)] at h
    cases h
theorem step_store_mid {P : Program} {ops : Array Oper} {o : Oper} {a : Act} {w : World} {K : Act → World → Prop} {Q : Exit → Act → World → Prop} {E : Prop} (hgd : o.guard = none) (ty : TypeId) (x y : Operand) (ho : o.op = .store ty x y)
    (b p : Nat) (cells : Array Value) (hx : a.eval x = .pointer (some ⟨b, p, none⟩)) (hy : a.eval y = .agg cells) (ht : w.there b p cells.size) (hi : (P.info? ty).map (·.size) = some cells.size) (h1 : cells.all (·.oneCell') = true)
    (h : K (a.put o.dst undef) (w.setCells b p cells.toList)) : if Region.wanted o (yielded ops a.tmps) = true then Oper.wp P o a w K Q else E := by
  have hw : Region.wanted o (yielded ops a.tmps) = true := by simp [Region.wanted, hgd]
  rw [if_pos hw]
  exact wp_store_mid ty x y ho b p cells hx hy ht hi h1 h
theorem b8_inner {k t : List Nat} (hk : B8 k) (hl : k.length ≤ 100000) (ht : B8 t) : B8 (msk 54 (blk k) ++ t) := b8_app (msk_b8 54 (by omega) (blk_b8 hk hl)) ht
set_option maxHeartbeats 3200000 in
set_option maxRecDepth 100000 in
theorem of_mac (A : Option Addr) (c n : Nat) (k : List Nat) (A2 : Option Addr) (c2 m : Nat) (t : List Nat) (w : World) (hn : k.length = n) (hnc : n ≤ c) (hn2 : n ≤ 90000) (hr : R8 w A k) (hb : B8 k) (hm2 : t.length = m) (hm3 : m ≤ 90000) (hr2 : R8 w A2 t) (hb2 : B8 t) (hL : LaidK w) :
    Calls Tryz.prog 65 #[.slice A n c, .slice A2 m c2] w fun e w' => e = .returned (.agg (vl .u8 (hm k t)).toArray) ∧ Step w w' := by
  obtain ⟨Z6, hZ6⟩ : ∃ Z, (vl .u8 (List.replicate 64 0)).toArray = Z := ⟨_, rfl⟩
  have hz6 : Hid (∀ w, (zeroValue 109).run Tryz.prog w = .ok (.agg Z6) w) := Lib.hid (hZ6 ▸ zero64)
  have hsz6 : Z6.size = 64 := by rw [← hZ6]; rfl
  clear hZ6
  obtain ⟨Z3, hZ3⟩ : ∃ Z, zs.toArray = Z := ⟨_, rfl⟩
  have hz3 : Hid (∀ w, (zeroValue 62).run Tryz.prog w = .ok (.agg Z3) w) := Lib.hid (hZ3 ▸ zero32)
  have hsz3 : Z3.size = 32 := by rw [← hZ3]; rfl
  clear hZ3
  have kb := blk_b8 hb (by omega)
  have kl := blk_len k
  have b8i : B8 (msk 54 (blk k) ++ t) := b8_inner hb (by omega) hb2
  have li : (msk 54 (blk k) ++ t).length = 64 + m := by rw [List.length_append, msk_len, kl, hm2]
  have b8s : B8 (Sh.sum (msk 54 (blk k) ++ t)) := sum_b8 ⟨_, b8i, by omega⟩
  have b8o : B8 (msk 92 (blk k) ++ Sh.sum (msk 54 (blk k) ++ t)) := b8_app (msk_b8 92 (by omega) kb) b8s
  have ls : (Sh.sum (msk 54 (blk k) ++ t)).length = 32 := sum_fine _
  have lo : (msk 92 (blk k) ++ Sh.sum (msk 54 (blk k) ++ t)).length = 64 + 32 := by rw [List.length_append, msk_len, kl, ls]
  have cB := fun (w : World) (h : R8 w A k) (hL : LaidK w) => block_any A c n k w hn hnc (by omega) h hb hL
  have c1 : ∀ (w : World), R8 w A2 t → Calls Tryz.prog 77 #[.agg (vl .u8 (blk k)).toArray, .int .u8 54, .slice A2 m c2] w fun e w' => ∃ A' c', e = .returned (.slice A' (64 + m) c') ∧ 64 + m ≤ c' ∧ R8 w' A' (msk 54 (blk k) ++ t) ∧ Step w w' := fun (w : World) (h : R8 w A2 t) => behind_any (blk k) 54 A2 c2 m t w kl kb (by omega) hm2 hm3 h
  have cO1 := fun (A : Option Addr) (c : Nat) (w : World) (hc : 64 + m ≤ c) (h : R8 w A (msk 54 (blk k) ++ t)) (hL : LaidK w) => of_dev A c (64 + m) ⟨_, b8i, by omega⟩ w li hc h hL
  have d3 : ∀ (A : Option Addr) (w : World), R8 w A (Sh.sum (msk 54 (blk k) ++ t)) → Calls Tryz.prog 77 #[.agg (vl .u8 (blk k)).toArray, .int .u8 92, .slice A 32 32] w fun e w' => ∃ A' c', e = .returned (.slice A' 96 c') ∧ 96 ≤ c' ∧ R8 w' A' (msk 92 (blk k) ++ Sh.sum (msk 54 (blk k) ++ t)) ∧ Step w w' := fun (A : Option Addr) (w : World) (h : R8 w A (Sh.sum (msk 54 (blk k) ++ t))) => behind_any (blk k) 92 A 32 32 _ w kl kb (by omega) ls (by omega) h
  have cO2 := fun (A : Option Addr) (c : Nat) (w : World) (hc : 64 + 32 ≤ c) (h : R8 w A (msk 92 (blk k) ++ Sh.sum (msk 54 (blk k) ++ t))) (hL : LaidK w) => of_dev A c (64 + 32) ⟨_, b8o, by omega⟩ w lo hc h hL
  have lE : (vl .u8 (blk k)).length = 64 := by rw [vl_len, kl]
  have oE := Lib.hid (vl_one .u8 (blk k))
  have lI : (vl .u8 (Sh.sum (msk 54 (blk k) ++ t))).length = 32 := by rw [vl_len, ls]
  have oI := Lib.hid (vl_one .u8 (Sh.sum (msk 54 (blk k) ++ t)))
  have rI : ∀ (w : World) (g : Nat), g < w.heap.size → w.rangeAt g 0 (vl .u8 (Sh.sum (msk 54 (blk k) ++ t))) → R8 w (some ⟨g, 0, none⟩) (Sh.sum (msk 54 (blk k) ++ t)) := fun w g hg h j x hx => by
    refine ⟨_, rfl, hg, ?_⟩
    have := h j (.int .u8 x) (by unfold vl; rw [List.getElem?_map]; unfold NL at hx; rw [List.getElem?_map] at hx; cases hq : (Sh.sum (msk 54 (blk k) ++ t))[j]? with
      | none => rw [hq] at hx; cases hx
      | some v => rw [hq] at hx; cases hx; rfl)
    rw [Addr.add_mid]
    exact this
  change ∀ (A : Option Addr) (c : Nat) (w : World), 64 + m ≤ c → R8 w A (msk 54 (blk k) ++ t) → LaidK w → Calls Tryz.prog 76 #[.slice A (64 + m) c] w fun e w' => e = .returned (.agg (vl .u8 (Sh.sum (msk 54 (blk k) ++ t))).toArray) ∧ Step w w' at cO1
  change ∀ (A : Option Addr) (c : Nat) (w : World), 96 ≤ c → R8 w A (msk 92 (blk k) ++ Sh.sum (msk 54 (blk k) ++ t)) → LaidK w → Calls Tryz.prog 76 #[.slice A 96 c] w fun e w' => e = .returned (.agg (vl .u8 (hm k t)).toArray) ∧ Step w w' at cO2
  have lF : (vl .u8 (hm k t)).length = 32 := by rw [vl_len, hm_len]
  have oF := Lib.hid (vl_one .u8 (hm k t))
  generalize vl .u8 (hm k t) = F at cO2 lF oF
  generalize vl .u8 (Sh.sum (msk 54 (blk k) ++ t)) = I at cO1 lI oI rI
  generalize vl .u8 (blk k) = E at cB c1 d3 lE oE
  have eF : F.toArray.size = 32 := lF
  have T0 := Lg.there_new w Z3 62 32 hsz3
  clear kb b8i li b8s b8o ls lo
  go_enter Tryz.func65, Tryz.ntmps65
  go_wp2_with (first
    | refine Lg.wpAlloc (by rfl) 109 (by rfl) Z6 hz6.out ?_
    | refine Lg.wpAlloc (by rfl) 62 (by rfl) Z3 hz3.out ?_
    | (go_at_call 75; ((with_reducible refine (cB _ hr.to hL.to).mono ?_); rintro e w2 ⟨rfl, S2⟩; obtain ⟨W2, st2, X2, R2, l2⟩ := store_new64 w2 Z6 E hsz6 lE oE.out))
    | refine wpList_load_mid (by rfl) 109 (.tmp 5) (by rfl) w2.heap.size 0 (by rfl) E _ R2 Tryz.underlying109 rfl (by rw [lE]; exact size64) ?_
    | (go_at_call 77; ((with_reducible refine (c1 _ hr2.to).mono ?_); rintro e w3 ⟨A3, c3, rfl, k3, R3, S3⟩))
    | (go_at_call 76; ((with_reducible refine (cO1 _ _ _ k3 R3 hL.to).mono ?_); rintro e w4 ⟨rfl, S4⟩; obtain ⟨W4, st4, X4, R4, l4⟩ := store_new w4 Z3 I hsz3 lI oI.out)))
  have hne : w.heap.size < w2.heap.size := by
    have := (inferInstance : Ext (w.alloc (Obj.cells Z3 62)) w2).h.size
    simp at this
    omega
  have u37 := Tryz.underlying109
  have u24 := Tryz.underlying62
  have i37 : (Tryz.prog.info? 109).map (·.size) = some E.length := by rw [lE]; exact size64
  have i24 : (Tryz.prog.info? 62).map (·.size) = some F.length := by rw [lF]; exact size32
  have o24 : ∀ v ∈ F, v.oneCell' = true := fun v hv => (Array.all_eq_true_iff_forall_mem.1 oF.out) v (by simpa using hv)
  go_region_held3 (fun w' => w'.rangeAt w2.heap.size 0 E ∧ w'.there w.heap.size 0 32 ∧ Step w w')
    (first | exact ⟨range_under R2 (inferInstance : Ext W2 _).h l2, there_under T0 (inferInstance : Ext (w.alloc (Obj.cells Z3 62)) _).h (by simp), Step.of inferInstance⟩ | exact ⟨World.rangeAt_setCells_apart R6 _ _ _ (.inl (by omega)), World.there_setCells T6 _ _ _, ⟨Lg.below_setCells (Nat.le_refl _) _ _ _ B6⟩⟩)
    (first
    | (go_at_call 77; ((with_reducible refine (d3 _ _ (rI _ _ l4 R4).to).mono ?_); rintro e w5 ⟨A5, c5, rfl, k5, R5, S5⟩))
    | (go_at_call 76; ((with_reducible refine (cO2 _ _ _ k5 R5 hL.to).mono ?_); rintro e w6 ⟨rfl, S6⟩; have T6 : w6.there w.heap.size 0 32 := there_under T0 (inferInstance : Ext (w.alloc (Obj.cells Z3 62)) w6).h (by simp); have B6 : Below w.heap.size w w6 := (inferInstance : Ext w w6).h; have R6 : w6.rangeAt w2.heap.size 0 E := range_under R2 (inferInstance : Ext W2 w6).h l2))
    | (refine step_store_mid rfl 62 (.tmp 4) (.tmp 16) rfl w.heap.size 0 F.toArray rfl rfl (by rw [eF]; exact T6) (by rw [eF]; exact size32) oF.out ?_))
  go_wp2
  refine bodyPost_ret (results_one (by rfl) _ _ w.heap.size 0 F _ (by rfl) (World.rangeAt_setCells_same _ _ _ _ (by rw [lF]; exact T6)) u24 rfl i24) (by rfl) ?_
  exact ⟨rfl, ⟨Lg.below_setCells (Nat.le_refl _) _ _ _ B6⟩⟩
end Mc
end Go.Proofs.YtfeahgcigmoijaaGreatDoor
/- The document's example of layer 6, and the sum with no key of no text, reckoned out. No condition. -/
namespace Go.Proofs.YtfeahgcigmoijaaGreatDoor
open Go.RowKit Go.Lib
namespace Mc
open SlR Sh Sp
def jefe : List Nat := [74, 101, 102, 101]
def what : List Nat := [119, 104, 97, 116, 32, 100, 111, 32, 121, 97, 32, 119, 97, 110, 116, 32, 102, 111, 114, 32, 110, 111, 116, 104, 105, 110, 103, 63]
set_option maxRecDepth 100000 in
theorem hm_in : Sh.sum (msk 54 (fill jefe) ++ what) = [162, 228, 133, 134, 61, 39, 249, 216, 100, 172, 141, 128, 36, 50, 161, 237, 71, 125, 140, 76, 111, 52, 157, 22, 212, 231, 233, 23, 198, 41, 202, 215] := by
  rw [← Ev.sumF_eq]
  decide +kernel
set_option maxRecDepth 100000 in
theorem hm_jefe : hm jefe what = [91, 220, 193, 70, 191, 96, 117, 78, 106, 4, 36, 38, 8, 149, 117, 199, 90, 0, 63, 8, 157, 39, 57, 131, 157, 236, 88, 185, 100, 236, 56, 67] := by
  have e : blk jefe = fill jefe := rfl
  unfold hm
  rw [e, hm_in, ← Ev.sumF_eq]
  decide +kernel
set_option maxRecDepth 100000 in
theorem hm_nil : Sh.sum (msk 54 (fill []) ++ []) = Ev.sumF (msk 54 (fill [])) := by rw [Ev.sumF_eq, List.append_nil]
set_option maxRecDepth 100000 in
theorem hm_none : hm [] [] ≠ List.replicate 32 0 := by
  have e : blk [] = fill [] := rfl
  unfold hm
  rw [e, hm_nil, ← Ev.sumF_eq]
  decide +kernel
theorem jefe_b8 : B8 jefe := b8_mem (by decide)
theorem what_b8 : B8 what := b8_mem (by decide)
theorem text6 : strOfNums (NL (txt (hm jefe what))) = ByteArray.mk #[53, 98, 100, 99, 99, 49, 52, 54, 98, 102, 54, 48, 55, 53, 52, 101, 54, 97, 48, 52, 50, 52, 50, 54, 48, 56, 57, 53, 55, 53, 99, 55, 53, 97, 48, 48, 51, 102, 48, 56, 57, 100, 50, 55, 51, 57, 56, 51, 57, 100, 101, 99, 53, 56, 98, 57, 54, 52, 101, 99, 51, 56, 52, 51] := by
  rw [hm_jefe]
  rfl
end Mc
end Go.Proofs.YtfeahgcigmoijaaGreatDoor
/- Arrays of 64 bytes compared. No condition but the lengths. -/
namespace Go.Proofs.YtfeahgcigmoijaaGreatDoor
open Go.RowKit Go.Lib
namespace Mc
open SlR Sh Sp
theorem eq64 (xs ys : List Nat) (hx : xs.length = 64) (hy : ys.length = 64) (w : World) : (Op.equalIn 10000 109 (.agg (vl .u8 xs).toArray) (.agg (vl .u8 ys).toArray)).run Tryz.prog w = .ok (decide (xs = ys)) w := by
  obtain ⟨i0, hi, -, -, -⟩ := info_parts infoB
  rw [run_equalIn_array w 9999 _ _ Tryz.underlying109 hi, cells5, items5 9998 xs ys (List.range 64) (fun i hi => by have := List.mem_range.1 hi; omega), all_eq xs ys 64 hx hy]
end Mc
end Go.Proofs.YtfeahgcigmoijaaGreatDoor
