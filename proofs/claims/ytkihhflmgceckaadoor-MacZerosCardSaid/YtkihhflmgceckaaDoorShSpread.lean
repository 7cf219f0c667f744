/- The program's own spread of a block's words (package sha's spread). Conditions: sixteen words. -/
import Derived.Test.YtkihhflmgceckaaDoorShBlock
import Derived.Test.YtkihhflmgceckaaDoorRef05f
import Derived.BigQuiet
namespace Go.Proofs.YtkihhflmgceckaaDoor
open Go.RowKit Go.Lib
namespace Sp
open SlR Sh
theorem e1_form (y : Nat) (h : y < 4294967296) : bits .xor .u32 (bits .xor .u32 (rot y 17 : Nat) (rot y 19 : Nat)) ((y : Int) / 1024) = ((e1 y : Nat) : Int) := by
  have h1 := rot_lt h (show 17 ≤ 31 by omega)
  have h2 := rot_lt h (show 19 ≤ 31 by omega)
  rw [B3.xor32 _ _ h1 h2, show (y : Int) / 1024 = ((y / 1024 : Nat) : Int) by omega, B3.xor32 _ _ (B3.xor_lt h1 h2) (by omega)]
  rfl
theorem e0_form (y : Nat) (h : y < 4294967296) : bits .xor .u32 (bits .xor .u32 (rot y 7 : Nat) (rot y 18 : Nat)) ((y : Int) / 8) = ((e0 y : Nat) : Int) := by
  have h1 := rot_lt h (show 7 ≤ 31 by omega)
  have h2 := rot_lt h (show 18 ≤ 31 by omega)
  rw [B3.xor32 _ _ h1 h2, show (y : Int) / 8 = ((y / 8 : Nat) : Int) by omega, B3.xor32 _ _ (B3.xor_lt h1 h2) (by omega)]
  rfl
theorem zero43 (w : World) : (zeroValue 48).run Tryd.prog w = .ok (.agg (vl .u32 (List.replicate 64 0)).toArray) w := Tryd.zeroValue48 w
theorem size43 : (Tryd.prog.info? 48).map (·.size) = some 64 := by kernel_rfl
/-- The words so far, and zeros behind them. -/
def sl (V : List Nat) (k : Nat) : List Nat := ext V k ++ List.replicate (48 - k) 0
theorem sl_len (V : List Nat) (k : Nat) (hV : V.length = 16) (hk : k ≤ 48) : (vl .u32 (sl V k)).length = 64 := by
  rw [vl_len, sl, List.length_append, ext_len, List.length_replicate]
  omega
theorem sl_zero (V : List Nat) (hV : V.length = 16) : splice (vl .u32 (List.replicate 64 0)) 0 (vl .u32 V) = vl .u32 (sl V 0) := by
  unfold splice sl vl
  rw [List.take_zero, List.nil_append, List.length_map, hV, List.map_append, ← List.map_drop, List.drop_replicate]
  rfl
theorem sl_step (V : List Nat) (k : Nat) (hV : V.length = 16) (hk : k < 48) : (sl V k).set (16 + k) (nx (ext V k)) = sl V (k + 1) := by
  have l : (ext V k).length = 16 + k := by rw [ext_len, hV]
  unfold sl
  rw [List.set_append_right _ _ (by omega), l, Nat.sub_self, show 48 - k = (48 - (k + 1)) + 1 by omega, List.replicate_succ, List.set_cons_zero, ext]
  simp
theorem sl_at (V : List Nat) (k j : Nat) (hj : j < (ext V k).length) : (sl V k).getD j 0 = (ext V k).getD j 0 := by
  unfold sl
  rw [List.getD_eq_getElem?_getD, List.getD_eq_getElem?_getD, List.getElem?_append_left hj]
theorem sl_end (V : List Nat) : sl V 48 = ext V 48 := by simp [sl]
set_option maxHeartbeats 3200000 in
set_option maxRecDepth 100000 in
theorem spread_dev (V : List Nat) (w : World) (hV : V.length = 16) (hb : Hid (B32 V)) :
    Calls Tryd.prog 23 #[.agg (vl .u32 V).toArray] w fun e w' => e = .returned (.agg (vl .u32 (ext V 48)).toArray) ∧ Step w w' := by
  obtain ⟨Z, hZ⟩ : ∃ Z, (vl .u32 (List.replicate 64 0)) = Z := ⟨_, rfl⟩
  have hz : Hid (∀ w, (zeroValue 48).run Tryd.prog w = .ok (.agg Z.toArray) w) := Lib.hid (hZ ▸ zero43)
  have hsz : Z.length = 64 := by rw [← hZ]; rfl
  have hsz2 : Z.toArray.size = 64 := hsz
  have hzz : Hid (Z = vl .u32 (List.replicate 64 0)) := Lib.hid hZ.symm
  clear hZ
  obtain ⟨C, hC⟩ : ∃ C, Hid (C = vl .u32 V) := ⟨_, Lib.hid rfl⟩
  have lC : C.length = 16 := by rw [hC.out, vl_len, hV]
  have hC1 : Hid (∀ v ∈ C, v.oneCell' = true) := Lib.hid fun v hv => by
    rw [hC.out] at hv
    unfold vl at hv
    obtain ⟨a, -, rfl⟩ := List.mem_map.1 hv
    rfl
  have hSp : Hid (splice Z 0 C = vl .u32 (sl V 0)) := Lib.hid (by rw [hzz.out, hC.out, sl_zero V hV])
  rw [← hC.out]
  obtain ⟨w3, h3⟩ : ∃ w3, w3 = ((((w.alloc (Obj.cells C.toArray 46)).alloc (Obj.cells Z.toArray 48)).alloc (Obj.cells Z.toArray 48)).drew) := ⟨_, rfl⟩
  have hg3 : Hid (w3.heap[w.heap.size + 2]? = some (.cells Z.toArray 48 (0, 0))) := Lib.hid (by
    rw [h3]
    have := heap_alloc2_new (w.alloc (Obj.cells C.toArray 46)) (Obj.cells Z.toArray 48) (Obj.cells Z.toArray 48)
    have e : (w.alloc (Obj.cells C.toArray 46)).heap.size + 1 = w.heap.size + 2 := by simp
    rw [e] at this
    exact this)
  have hg1 : Hid (∀ j v, C[j]? = some v → w3.cell? ((⟨w.heap.size, 0, none⟩ : Addr).add j) = some v) := Lib.hid fun j v hv => by
    have R := World.rangeAt_alloc (World.rangeAt_alloc (range_new w C.toArray 46) (Obj.cells Z.toArray 48)) (Obj.cells Z.toArray 48)
    have := (World.rangeAt_drew _ _ _ _).2 R
    rw [h3, Addr.add_mid]
    exact this j v hv
  have T3 : Hid (w3.there (w.heap.size + 1) 0 64) := Lib.hid (by
    rw [h3]
    refine (World.there_drew _ _ _ _).2 (World.there_alloc ?_ _)
    have := Lg.there_new (w.alloc (Obj.cells C.toArray 46)) Z.toArray 48 64 hsz2
    simpa using this)
  have B3' : Hid (Below w.heap.size w w3) := Lib.hid (by
    rw [h3]
    exact (inferInstance : Ext w ((((w.alloc (Obj.cells C.toArray 46)).alloc (Obj.cells Z.toArray 48)).alloc (Obj.cells Z.toArray 48)).drew)).h)
  have hh3 := Lib.hid h3.symm
  clear h3
  go_enter Tryd.func23, Tryd.ntmps23
  go_wp2_with (first
    | refine Lg.wpAlloc (by rfl) 48 (by rfl) Z.toArray hz.out ?_)
  go_region_held3 (fun w' => Step w w')
    (exact Step.of inferInstance)
    ((rw [hh3.out]; refine step_copy_splice rfl (.tmp 7) (.tmp 8) 50 50 rfl 41 Tryd.underlying50 (by kernel_rfl) _ _ 64 64 _ _ rfl rfl (w.heap.size + 2) 0 Z 48 hg3.out C (by rw [lC]; rfl) (fun h => ⟨rfl, ⟨_, rfl, hg1.out⟩⟩) (by rw [lC, hsz]; omega) hC1.out (w.heap.size + 2) _ (Below.refl _ _) (by omega) ?_; intro w4 hg4 hb4; have S4 : Step w w4 := ⟨B3'.out.trans (hb4.mono (by omega))⟩))
  have T4 : w4.there (w.heap.size + 1) 0 64 := there_under T3.out hb4 (by omega)
  have lS : (splice Z 0 C).length = 64 := by rw [hSp.out, sl_len V 0 hV (by omega)]
  have T5 : w4.there (w.heap.size + 2) 0 64 := there_block hg4.out lS
  have R5 := range_block hg4.out
  rw [hSp.out] at R5
  clear hg4 hb4 hg3 hg1 T3 hSp lS B3' hh3 hC1
  have e2 : w.heap.size + 1 + 1 = w.heap.size + 2 := rfl
  generalize hG : w.heap.size = G at T4 T5 R5 ⊢
  have B4 := S4.h
  go_wp2
  go_loopw [4, 5, 6] (fun i _ _ wr => ∃ k t : Nat, Hid (t = 16 + k) ∧ Hid (k ≤ 48) ∧ i = .int .i64 t ∧ wr.there (G + 1) 0 64 ∧ wr.there (G + 2) 0 64 ∧ wr.rangeAt (G + 2) 0 (vl .u32 (sl V k)) ∧ Below w.heap.size w wr) (fun i _ _ _ => 64 - (intOf i).toNat)
  case atStart => exact ⟨0, 16, Lib.hid rfl, Lib.hid (Nat.zero_le _), rfl, T4, T5, R5, B4⟩
  case round =>
    obtain ⟨k, t, ht, hk, rfl, t1, t2, r2, B⟩ := hrel
    by_cases hlt : t < 64
    · have lX : (ext V k).length = t := by rw [ext_len, hV, ht.out]
      have lX2 : (sl V k).length = 64 := by rw [← vl_len .u32, sl_len V k hV hk.out]
      have t16 : 16 ≤ t := by have := ht.out; omega
      have cel : ∀ j, j < t → wr.cell? ⟨G + 2, j, none⟩ = some (.int .u32 ((ext V k).getD j 0 : Nat)) := fun j hj => by
        have := r2 j _ (vl_at .u32 (sl V k) j (by omega))
        rw [Nat.zero_add, sl_at V k j (by omega)] at this
        exact this
      have bX := ext_B32 hb.out k
      have hX : Hid (nx (ext V k) = md [e1 ((ext V k).getD (t - 2) 0), (ext V k).getD (t - 7) 0, e0 ((ext V k).getD (t - 15) 0), (ext V k).getD (t - 16) 0]) := Lib.hid (by unfold nx; rw [lX]; rfl)
      have c15 := cel (t - 15) (by omega)
      have c2' := cel (t - 2) (by omega)
      have c7 := cel (t - 7) (by omega)
      have c16 := cel (t - 16) (by omega)
      have b15 := bX (t - 15)
      have b2 := bX (t - 2)
      have b7 := bX (t - 7)
      have b16 := bX (t - 16)
      clear cel bX
      generalize (ext V k).getD (t - 15) 0 = x at hX c15 b15
      generalize (ext V k).getD (t - 2) 0 = y at hX c2' b2
      generalize (ext V k).getD (t - 7) 0 = x7 at hX c7 b7
      generalize (ext V k).getD (t - 16) 0 = x16 at hX c16 b16
      obtain ⟨u, ec⟩ := Option.isSome_iff_exists.1 (t2 t hlt).1
      have hf := (t2 t hlt).2
      rw [Nat.zero_add] at ec hf
      have q15 : ((t : Int) - 15).toNat = t - 15 := by omega
      have q2 : ((t : Int) - 2).toNat = t - 2 := by omega
      have q7 : ((t : Int) - 7).toNat = t - 7 := by omega
      have q16 : ((t : Int) - 16).toNat = t - 16 := by omega
      generalize t - 15 = j15 at q15 c15
      generalize t - 2 = j2 at q2 c2'
      generalize t - 7 = j7 at q7 c7
      generalize t - 16 = j16 at q16 c16
      have tI : (t : Int) < 64 := by omega
      have tI2 : (16 : Int) ≤ (t : Int) := by omega
      have p15 : (0 : Int) ≤ (t : Int) - 15 := by omega
      have p2 : (0 : Int) ≤ (t : Int) - 2 := by omega
      have p7 : (0 : Int) ≤ (t : Int) - 7 := by omega
      have p16 : (0 : Int) ≤ (t : Int) - 16 := by omega
      have l15 : (t : Int) - 15 < 64 := by omega
      have l2 : (t : Int) - 2 < 64 := by omega
      have l7 : (t : Int) - 7 < 64 := by omega
      have l16 : (t : Int) - 16 < 64 := by omega
      have n7 : (7 : Int) ≤ (t : Int) := by omega
      have n15 : (15 : Int) ≤ (t : Int) := by omega
      have n2 : (2 : Int) ≤ (t : Int) := by omega
      have w7 : IntKind.i64.wrap ((t : Int) - 7) = (t : Int) - 7 := by simp [IntKind.wrap, IntKind.bits, IntKind.signed]; omega
      have w16 : IntKind.i64.wrap ((t : Int) - 16) = (t : Int) - 16 := by simp [IntKind.wrap, IntKind.bits, IntKind.signed]; omega
      have w15 : IntKind.i64.wrap ((t : Int) - 15) = (t : Int) - 15 := by simp [IntKind.wrap, IntKind.bits, IntKind.signed]; omega
      have w2 : IntKind.i64.wrap ((t : Int) - 2) = (t : Int) - 2 := by simp [IntKind.wrap, IntKind.bits, IntKind.signed]; omega
      clear hlt t16
      have r17 : ∀ w, Calls Tryd.prog 36 #[.int .u32 y, .int .i64 17] w fun e w' => e = .returned (.int .u32 (rot y 17 : Nat)) ∧ w' = w := fun w => rotr_any y 17 w b2 (by omega)
      have r19 : ∀ w, Calls Tryd.prog 36 #[.int .u32 y, .int .i64 19] w fun e w' => e = .returned (.int .u32 (rot y 19 : Nat)) ∧ w' = w := fun w => rotr_any y 19 w b2 (by omega)
      have r7 : ∀ w, Calls Tryd.prog 36 #[.int .u32 x, .int .i64 7] w fun e w' => e = .returned (.int .u32 (rot x 7 : Nat)) ∧ w' = w := fun w => rotr_any x 7 w b15 (by omega)
      have r18 : ∀ w, Calls Tryd.prog 36 #[.int .u32 x, .int .i64 18] w fun e w' => e = .returned (.int .u32 (rot x 18 : Nat)) ∧ w' = w := fun w => rotr_any x 18 w b15 (by omega)
      have h2g : G + 2 < wr.heap.size := by
        have h := c2'
        unfold World.cell? at h
        apply Classical.byContradiction
        intro hn
        rw [Array.getElem?_eq_none (by simpa using hn)] at h
        cases h
      have hv : Hid ((bits .xor .u32 (bits .xor .u32 (rot y 17 : Nat) (rot y 19 : Nat)) ((y : Int) / 1024) + (x7 : Int) + bits .xor .u32 (bits .xor .u32 (rot x 7 : Nat) (rot x 18 : Nat)) ((x : Int) / 8) + (x16 : Int)) % 4294967296 = ((nx (ext V k) : Nat) : Int)) := Lib.hid (by
        rw [hX.out, e1_form y b2, e0_form x b15]
        unfold md
        simp only [sm]
        omega)
      go_wp2
      go_region_held3 (fun w' => w'.cell? ⟨G + 2, j15, none⟩ = some (.int .u32 x) ∧ Step wr w')
        (exact ⟨((Step.of (w := wr) inferInstance).h.cell (p := ⟨G + 2, j15, none⟩) h2g).trans c15, Step.of inferInstance⟩)
        (first
          | ((with_reducible refine (r7 _).mono ?_); rintro e w' ⟨rfl, rfl⟩)
          | ((with_reducible refine (r18 _).mono ?_); rintro e w' ⟨rfl, rfl⟩))
      go_wp2
      go_region_held3 (fun w' => w'.cell? ⟨G + 2, j2, none⟩ = some (.int .u32 y) ∧ Step wr w')
        (exact ⟨((Step.of (w := wr) inferInstance).h.cell (p := ⟨G + 2, j2, none⟩) h2g).trans c2', Step.of inferInstance⟩)
        (first
          | ((with_reducible refine (r17 _).mono ?_); rintro e w' ⟨rfl, rfl⟩)
          | ((with_reducible refine (r19 _).mono ?_); rintro e w' ⟨rfl, rfl⟩))
      go_wp2
      go_region
      go_wp2
      go_roundw
      case rel => exact ⟨k + 1, t + 1, Lib.hid (by have := ht.out; omega), Lib.hid (by have := ht.out; omega), by go_num, by simp only [World.there_drew]; exact there_setCell t1 _ _, by simp only [World.there_drew]; exact there_setCell t2 _ _, by
        simp only [World.rangeAt_drew]
        rw [hv.out, ← sl_step V k hV (by have := ht.out; omega), ← vl_set, ← ht.out]
        exact rangeAt_set r2 t _ (by rw [sl_len V k hV hk.out]; omega), (((B.setCell (by show w.heap.size ≤ G + 1 + 1; omega) _).drew).drew).drew⟩
      case measure => simp [intOf]; omega
    · have hk48 : k = 48 := by have := ht.out; have := hk.out; omega
      subst hk48
      have r6 := sl_len V 48 hV (by omega)
      have e6 : Hid (vl .u32 (sl V 48) = vl .u32 (ext V 48)) := Lib.hid (by rw [sl_end])
      have o6 := Lib.hid (vl_one .u32 (sl V 48))
      generalize vl .u32 (sl V 48) = F at r2 r6 e6 o6
      have ht64 : t = 64 := by have := ht.out; omega
      subst ht64
      go_wp2_with (first
        | refine wpList_load_mid (by rfl) 48 (.tmp 3) (by rfl) (G + 2) 0 (by rfl) F _ r2 Tryd.underlying48 rfl (by rw [r6]; exact size43) ?_
        | refine wpList_store_mid (by rfl) 48 (.tmp 2) (.tmp 63) (by rfl) (G + 1) 0 F.toArray (by rfl) (by rfl) (by rw [List.size_toArray, r6]; exact t1) (by rw [List.size_toArray, r6]; exact size43) o6.out ?_)
      refine bodyPost_ret (results_one (by rfl) _ _ (G + 1) 0 F _ (by rfl) (World.rangeAt_setCells_same _ _ _ _ (by rw [r6]; exact t1)) Tryd.underlying48 rfl (by rw [r6]; exact size43)) (by rfl) ?_
      exact ⟨by rw [e6.out], ⟨Lg.below_setCells (by omega) _ _ _ B⟩⟩
end Sp
end Go.Proofs.YtkihhflmgceckaaDoor
