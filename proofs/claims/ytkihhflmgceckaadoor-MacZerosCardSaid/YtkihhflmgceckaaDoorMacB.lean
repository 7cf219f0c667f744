/- mac.Block of any key. Conditions: what is handed in reads as bytes; sha.k reads as laid. -/
import Derived.Test.YtkihhflmgceckaaDoorMacA
namespace Go.Proofs.YtkihhflmgceckaaDoor
open Go.RowKit Go.Lib
namespace Mc
open SlR Sh Sp
set_option maxHeartbeats 3200000 in
set_option maxRecDepth 100000 in
/-- mac.Block of a key of more than 64 bytes. -/
theorem block_hi (A : Option Addr) (c n : Nat) (b : List Nat) (w : World) (hn : b.length = n) (hnc : n ≤ c) (hl : ¬ n ≤ 64) (hn2 : n ≤ 100000) (hr : R8 w A b) (hb : B8 b) (hL : LaidK w) :
    Calls Tryd.prog 17 #[.slice A n c] w fun e w' => e = .returned (.agg (vl .u8 (blk b)).toArray) ∧ Step w w' := by
  obtain ⟨Z, hZ⟩ : ∃ Z, (vl .u8 (List.replicate 64 0)) = Z := ⟨_, rfl⟩
  have hz : Hid (∀ w, (zeroValue 37).run Tryd.prog w = .ok (.agg Z.toArray) w) := Lib.hid (hZ ▸ zero64)
  have hsz : Z.length = 64 := by rw [← hZ]; rfl
  have hsz2 : Z.toArray.size = 64 := hsz
  have lC : (vl .u8 (Sh.sum b)).length = 32 := by rw [vl_len, sum_fine]
  have hSp : Hid (splice Z 0 (vl .u8 (Sh.sum b)) = vl .u8 (blk b)) := Lib.hid (by
    rw [← hZ, splice_fill _ (by rw [sum_fine]; omega)]
    unfold blk key
    rw [if_neg (by omega)])
  clear hZ
  obtain ⟨Z3, hZ3⟩ : ∃ Z, zs.toArray = Z := ⟨_, rfl⟩
  have hz3 : Hid (∀ w, (zeroValue 24).run Tryd.prog w = .ok (.agg Z3) w) := Lib.hid (hZ3 ▸ zero32)
  have hsz3 : Z3.size = 32 := by rw [← hZ3]; rfl
  clear hZ3
  have lB : (vl .u8 (blk b)).length = 64 := by rw [vl_len, blk_len]
  have oB := Lib.hid (vl_one .u8 (blk b))
  have oC := Lib.hid (vl_one .u8 (Sh.sum b))
  have o1 : Hid (∀ v ∈ vl .u8 (Sh.sum b), v.oneCell' = true) := Lib.hid fun v hv => (Array.all_eq_true_iff_forall_mem.1 (vl_one .u8 (Sh.sum b))) v (by simpa using hv)
  have cO := fun (w : World) (h : R8 w A b) (hL : LaidK w) => of_dev A c n ⟨b, hb, by omega⟩ w hn hnc h hL
  have hg2 : Hid (((w.alloc (Obj.cells Z.toArray 37)).alloc (Obj.cells Z.toArray 37)).heap[w.heap.size + 1]? = some (.cells Z.toArray 37 (0, 0))) := Lib.hid (heap_alloc2_new w _ _)
  have z2 : Hid (((w.alloc (Obj.cells Z.toArray 37)).alloc (Obj.cells Z.toArray 37)).heap.size = w.heap.size + 2) := Lib.hid (by simp)
  have T2 : Hid (((w.alloc (Obj.cells Z.toArray 37)).alloc (Obj.cells Z.toArray 37)).there w.heap.size 0 64) := Lib.hid (World.there_alloc (Lg.there_new w Z.toArray 37 64 hsz2) _)
  have B2 : Hid (Below w.heap.size w ((w.alloc (Obj.cells Z.toArray 37)).alloc (Obj.cells Z.toArray 37))) := Lib.hid (inferInstance : Ext w ((w.alloc (Obj.cells Z.toArray 37)).alloc (Obj.cells Z.toArray 37))).h
  have h1 : ¬ (n : Int) ≤ 64 := by omega
  change ∀ (w : World), R8 w A b → LaidK w → Calls Tryd.prog 8 #[.slice A n c] w fun e w' => e = .returned (.agg (vl .u8 (Sh.sum b)).toArray) ∧ Step w w' at cO
  generalize vl .u8 (Sh.sum b) = D at hSp lC o1 cO oC
  generalize vl .u8 (blk b) = E at hSp lB oB
  have eE : E.toArray.size = 64 := lB
  clear hl
  go_enter Tryd.func17, Tryd.ntmps17
  go_wp2_with (first
    | refine Lg.wpAlloc (by rfl) 37 (by rfl) Z.toArray hz.out ?_
    | refine Lg.wpAlloc (by rfl) 24 (by rfl) Z3 hz3.out ?_
    | (go_at_call 8; ((with_reducible refine (cO _ hr.to hL.to).mono ?_); rintro e w2 ⟨rfl, S2⟩; obtain ⟨W2, st2, X2, R2, l2⟩ := store_new w2 Z3 D hsz3 lC oC.out)))
  have X0 : Below (w.heap.size + 2) ((w.alloc (Obj.cells Z.toArray 37)).alloc (Obj.cells Z.toArray 37)) W2.drew := by
    have := (inferInstance : Ext ((w.alloc (Obj.cells Z.toArray 37)).alloc (Obj.cells Z.toArray 37)) W2.drew).h
    rwa [z2.out] at this
  have g3 : Hid (W2.drew.heap[w.heap.size + 1]? = some (.cells Z.toArray 37 (0, 0))) := Lib.hid (by rw [X0.block _ (by omega)]; exact hg2.out)
  have T3 : Hid (W2.drew.there w.heap.size 0 64) := Lib.hid (there_under T2.out X0 (by omega))
  have B3 : Hid (Below w.heap.size w W2.drew) := Lib.hid (B2.out.trans (X0.mono (by omega)))
  have hsrc : Hid (∀ j v, D[j]? = some v → W2.drew.cell? (Addr.add ⟨w2.heap.size, 0, none⟩ j) = some v) := Lib.hid fun j v hv => by
    rw [Addr.add_mid, Nat.zero_add]
    have := R2 j v hv
    rwa [Nat.zero_add] at this
  clear X0 hg2 z2 T2 B2 R2 l2 hL hr cO st2
  go_region_held3 (fun w' => Step w w')
    (exact Step.of inferInstance)
    ((refine step_copy_splice rfl (.tmp 10) (.tmp 11) 22 22 rfl 5 Tryd.underlying22 (by kernel_rfl) _ _ 64 64 _ _ rfl rfl (w.heap.size + 1) 0 Z 37 g3.out D (by rw [lC]; rfl) (fun _ => ⟨rfl, _, rfl, hsrc.out⟩) (by rw [lC, hsz]; omega) o1.out (w.heap.size + 1) _ (Below.refl _ _) (by omega) ?_; intro w4 hg4 hb4; have S4 : Step w w4 := ⟨B3.out.trans (hb4.mono (by omega))⟩))
  rw [hSp.out] at hg4
  have B4 : Below w.heap.size w w4 := B3.out.trans (hb4.mono (by omega))
  have T4 : w4.there w.heap.size 0 64 := there_under T3.out hb4 (by omega)
  have R4 := range_block hg4.out
  clear hg4 hb4 T3 g3 hsrc
  go_wp2_with (first
    | refine wpList_load_mid (by rfl) 37 (.tmp 3) (by rfl) (w.heap.size + 1) 0 (by rfl) E _ R4 Tryd.underlying37 rfl (by rw [lB]; exact size64) ?_
    | refine wpList_store_mid (by rfl) 37 (.tmp 2) (.tmp 16) (by rfl) w.heap.size 0 E.toArray (by rfl) (by rfl) (by rw [eE]; exact T4) (by rw [eE]; exact size64) oB.out ?_)
  refine bodyPost_ret (results_one (by rfl) _ _ w.heap.size 0 E _ (by rfl) (World.rangeAt_setCells_same _ _ _ _ (by rw [lB]; exact T4)) Tryd.underlying37 rfl (by rw [lB]; exact size64)) (by rfl) ?_
  exact ⟨rfl, ⟨Lg.below_setCells (Nat.le_refl _) _ _ _ B4⟩⟩
theorem block_any (A : Option Addr) (c n : Nat) (b : List Nat) (w : World) (hn : b.length = n) (hnc : n ≤ c) (hn2 : n ≤ 100000) (hr : R8 w A b) (hb : B8 b) (hL : LaidK w) :
    Calls Tryd.prog 17 #[.slice A n c] w fun e w' => e = .returned (.agg (vl .u8 (blk b)).toArray) ∧ Step w w' := by
  by_cases hl : n ≤ 64
  · exact block_lo A c n b w hn hl hr
  · exact block_hi A c n b w hn hnc hl hn2 hr hb hL
end Mc
end Go.Proofs.YtkihhflmgceckaaDoor
