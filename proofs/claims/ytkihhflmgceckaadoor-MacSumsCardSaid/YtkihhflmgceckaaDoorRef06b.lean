/- caucusref06.Block of any key. Conditions: what is handed in reads as bytes; the document's sum as a contract. -/
import Derived.Test.YtkihhflmgceckaaDoorRef06
namespace Go.Proofs.YtkihhflmgceckaaDoor
open Go.RowKit Go.Lib
namespace Mc
open SlR Sh Sp
set_option maxHeartbeats 3200000 in
set_option maxRecDepth 100000 in
/-- caucusref06.Block of a key of more than 64 bytes. -/
theorem rblock_hi (hOf : OfC) (A : Option Addr) (c n : Nat) (b : List Nat) (w : World) (hn : b.length = n) (hl : ¬ n ≤ 64) (hn2 : n ≤ 90000) (hr : R8 w A b) (hb : B8 b) :
    Calls Tryd.prog 18 #[.slice A n c] w fun e w' => e = .returned (.agg (vl .u8 (blk b)).toArray) ∧ Step w w' := by
  obtain ⟨Z, hZ⟩ : ∃ Z, (vl .u8 (List.replicate 64 0)).toArray = Z := ⟨_, rfl⟩
  have hz : Hid (∀ w, (zeroValue 37).run Tryd.prog w = .ok (.agg Z) w) := Lib.hid (hZ ▸ zero64)
  have hsz : Z.size = 64 := by rw [← hZ]; rfl
  have hZl : Hid (vl .u8 (List.replicate 64 0) = Z.toList) := Lib.hid (by rw [← hZ])
  clear hZ
  obtain ⟨Z3, hZ3⟩ : ∃ Z, zs.toArray = Z := ⟨_, rfl⟩
  have hz3 : Hid (∀ w, (zeroValue 24).run Tryd.prog w = .ok (.agg Z3) w) := Lib.hid (hZ3 ▸ zero32)
  have hsz3 : Z3.size = 32 := by rw [← hZ3]; rfl
  clear hZ3
  have h1 : ¬ (n : Int) ≤ 64 := by omega
  have ls : (Sh.sum b).length = 32 := sum_fine b
  have eB : Hid (vl .u8 (part64 (Sh.sum b) 32) = vl .u8 (blk b)) := Lib.hid (by
    rw [← ls, part64_end]
    unfold blk key
    rw [if_neg (by omega)])
  have cO := fun (w : World) (h : R8 w A b) => hOf A c n b w hn hn2 h hb
  have lC : (vl .u8 (Sh.sum b)).length = 32 := by rw [vl_len, ls]
  have oC := Lib.hid (vl_one .u8 (Sh.sum b))
  have rO : ∀ (w : World) (g : Nat), g < w.heap.size → w.rangeAt g 0 (vl .u8 (Sh.sum b)) → R8 w (some ⟨g, 0, none⟩) (Sh.sum b) := fun w g => row_range
  generalize hD : vl .u8 (Sh.sum b) = D at cO lC oC rO
  clear hD
  have T0 := World.there_alloc (Lg.there_new w Z 37 64 hsz) (Obj.cells Z 37)
  have T1 := Lg.there_new (w.alloc (Obj.cells Z 37)) Z 37 64 hsz
  have R1 : ((w.alloc (Obj.cells Z 37)).alloc (Obj.cells Z 37)).rangeAt (w.alloc (Obj.cells Z 37)).heap.size 0 (vl .u8 (part64 (Sh.sum b) 0)) := by
    rw [part64_zero, hZl.out]
    exact range_new _ Z 37
  have z1 : (w.alloc (Obj.cells Z 37)).heap.size = w.heap.size + 1 := by simp
  have z2 : ((w.alloc (Obj.cells Z 37)).alloc (Obj.cells Z 37)).heap.size = w.heap.size + 2 := by simp
  rw [z1] at T1 R1
  clear z1
  go_enter Tryd.func18, Tryd.ntmps18
  go_wp2_with (first
    | refine Lg.wpAlloc (by rfl) 37 (by rfl) Z hz.out ?_
    | refine Lg.wpAlloc (by rfl) 24 (by rfl) Z3 hz3.out ?_
    | (go_at_call 9; ((with_reducible refine (cO _ hr.to).mono ?_); rintro e w2 ⟨rfl, S2⟩; obtain ⟨W2, st2, X2, R2, l2⟩ := store_new w2 Z3 D hsz3 lC oC.out)))
  have E2 : Below (w.heap.size + 2) ((w.alloc (Obj.cells Z 37)).alloc (Obj.cells Z 37)) W2 := by
    have := (inferInstance : Ext ((w.alloc (Obj.cells Z 37)).alloc (Obj.cells Z 37)) W2).h
    rwa [z2] at this
  have g2 : w.heap.size + 2 ≤ w2.heap.size := by
    have := S2.h.size
    omega
  have T02 : W2.there w.heap.size 0 64 := there_under T0 E2 (by omega)
  have T12 : W2.there (w.heap.size + 1) 0 64 := there_under T1 E2 (by omega)
  have R12 : W2.rangeAt (w.heap.size + 1) 0 (vl .u8 (part64 (Sh.sum b) 0)) := range_under R1 E2 (by omega)
  have RS : R8 W2 (some ⟨w2.heap.size, 0, none⟩) (Sh.sum b) := rO _ _ l2 R2
  have BW : Below w.heap.size w W2 := (inferInstance : Ext w W2).h
  obtain ⟨g, hg⟩ : ∃ g, w2.heap.size = g := ⟨_, rfl⟩
  rw [hg] at RS g2 ⊢
  obtain ⟨G, hG⟩ : ∃ G, w.heap.size = G := ⟨_, rfl⟩
  rw [hG] at T02 T12 R12 g2 ⊢
  have hg2 := Lib.hid g2
  clear hl hZl hsz st2 R2 l2 hg g2 E2 T0 T1 R1 z2 rO cO hr
  generalize Sh.sum b = s at R12 RS ls eB
  go_loopw [6] (fun i wr => ∃ j : Nat, Hid (j ≤ 32) ∧ i = .int .i64 j ∧ wr.there G 0 64 ∧ wr.there (G + 1) 0 64 ∧ wr.rangeAt (G + 1) 0 (vl .u8 (part64 s j)) ∧ R8 wr (some ⟨g, 0, none⟩) s ∧ Below w.heap.size w wr) (fun i _ => 32 - (intOf i).toNat)
  case atStart => exact ⟨0, Lib.hid (Nat.zero_le _), rfl, T02, T12, R12, RS, BW⟩
  case round =>
    obtain ⟨j, hj, rfl, t0, t1, r1, rs, B⟩ := hrel
    by_cases hlt : j < 32
    · have hc : wr.cell? ⟨g, j, none⟩ = some (.int .u8 (s.getD j 0 : Nat)) := by
        obtain ⟨_, e, _, h⟩ := Row.atN rs (j := j) (by rw [ls]; exact hlt)
        cases e
        rw [Addr.add_mid, Nat.zero_add] at h
        exact h
      generalize hx : s.getD j 0 = x at hc
      have hx2 := Lib.hid hx
      clear hx
      obtain ⟨u, ec⟩ := Option.isSome_iff_exists.1 (t1 j (by omega)).1
      have hf := (t1 j (by omega)).2
      rw [Nat.zero_add] at ec hf
      have jI : (j : Int) < 32 := by omega
      have jI2 : (j : Int) < 64 := by omega
      have hlt2 := Lib.hid hlt
      clear hlt
      go_wp2
      go_roundw
      case rel =>
        obtain ⟨q1, q2, q3, q4⟩ := copy_round w wr G j x s hG (by rw [ls]; exact hlt2.out) (by omega) hx2.out t0 t1 r1 B
        exact ⟨j + 1, Lib.hid (by have := hlt2.out; omega), by go_num, q1, q2, q3, row_set' rs _ _ (by have := hg2.out; show G + 1 ≠ g; omega), q4⟩
      case measure => have := hlt2.out; simp [intOf]; omega
    · have hjn : j = 32 := by have := hj.out; omega
      subst hjn
      have oB := Lib.hid (vl_one .u8 (blk b))
      have lB : (vl .u8 (blk b)).length = 64 := by rw [vl_len, blk_len]
      rw [eB.out] at r1
      clear eB
      generalize hE : vl .u8 (blk b) = E at r1 oB lB
      have hE2 := Lib.hid hE
      clear hE
      have eE : E.toArray.size = 64 := lB
      go_wp2_with (first
        | refine wpList_load_mid (by rfl) 37 (.tmp 3) (by rfl) (G + 1) 0 (by rfl) E _ r1 Tryd.underlying37 rfl (by rw [lB]; exact size64) ?_
        | refine wpList_store_mid (by rfl) 37 (.tmp 2) (.tmp 26) (by rfl) G 0 E.toArray (by rfl) (by rfl) (by rw [eE]; exact t0) (by rw [eE]; exact size64) oB.out ?_)
      refine bodyPost_ret (results_one (by rfl) _ _ G 0 E _ (by rfl) (World.rangeAt_setCells_same _ _ _ _ (by rw [lB]; exact t0)) Tryd.underlying37 rfl (by rw [lB]; exact size64)) (by rfl) ?_
      exact ⟨by rw [hE2.out], ⟨Lg.below_setCells (by omega) _ _ _ B⟩⟩
theorem rblock_any (hOf : OfC) (A : Option Addr) (c n : Nat) (b : List Nat) (w : World) (hn : b.length = n) (hn2 : n ≤ 90000) (hr : R8 w A b) (hb : B8 b) :
    Calls Tryd.prog 18 #[.slice A n c] w fun e w' => e = .returned (.agg (vl .u8 (blk b)).toArray) ∧ Step w w' := by
  by_cases hl : n ≤ 64
  · exact rblock_lo A c n b w hn hl hr
  · exact rblock_hi hOf A c n b w hn hl hn2 hr hb
end Mc
end Go.Proofs.YtkihhflmgceckaaDoor
