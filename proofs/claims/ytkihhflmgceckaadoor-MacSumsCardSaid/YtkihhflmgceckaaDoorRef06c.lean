/- caucusref06.Of: the document's sum with a key. Conditions: what is handed in reads as bytes; the document's sum as a contract. -/
import Derived.Test.YtkihhflmgceckaaDoorRef06b
import Derived.Test.YtkihhflmgceckaaDoorApT
namespace Go.Proofs.YtkihhflmgceckaaDoor
open Go.RowKit Go.Lib
namespace Mc
open SlR Sh Sp
set_option maxHeartbeats 3200000 in
set_option maxRecDepth 100000 in
theorem rof_any (hOf : OfC) (A : Option Addr) (c n : Nat) (k : List Nat) (A2 : Option Addr) (c2 m : Nat) (t : List Nat) (w : World) (hn : k.length = n) (hn2 : n ≤ 80000) (hr : R8 w A k) (hb : B8 k) (hm2 : t.length = m) (hm3 : m ≤ 80000) (hr2 : R8 w A2 t) (hb2 : B8 t) :
    Calls Tryd.prog 16 #[.slice A n c, .slice A2 m c2] w fun e w' => e = .returned (.agg (vl .u8 (hm k t)).toArray) ∧ Step w w' := by
  obtain ⟨i0, hi, hz0, hz1, hz2⟩ := info_parts infoB
  obtain ⟨Z6, hZ6⟩ : ∃ Z, (vl .u8 (List.replicate 64 0)).toArray = Z := ⟨_, rfl⟩
  have hz6 : Hid (∀ w, (zeroValue 37).run Tryd.prog w = .ok (.agg Z6) w) := Lib.hid (hZ6 ▸ zero64)
  have hsz6 : Z6.size = 64 := by rw [← hZ6]; rfl
  clear hZ6
  obtain ⟨Z3, hZ3⟩ : ∃ Z, zs.toArray = Z := ⟨_, rfl⟩
  have hz3 : Hid (∀ w, (zeroValue 24).run Tryd.prog w = .ok (.agg Z3) w) := Lib.hid (hZ3 ▸ zero32)
  have hsz3 : Z3.size = 32 := by rw [← hZ3]; rfl
  clear hZ3
  have kb := blk_b8 hb (by omega)
  have kl := blk_len k
  have b8i : B8 (msk 54 (blk k) ++ t) := b8_inner hb (by omega) hb2
  have li : (msk 54 (blk k) ++ t).length = 64 + m := by rw [List.length_append, msk_len, kl, hm2]
  have b8s : B8 (Sh.sum (msk 54 (blk k) ++ t)) := sum_b8 ⟨_, b8i, by omega⟩
  have b8o : B8 (msk 92 (blk k) ++ Sh.sum (msk 54 (blk k) ++ t)) := b8_app (msk_b8 92 (by omega) kb) b8s
  have ls : (Sh.sum (msk 54 (blk k) ++ t)).length = 32 := sum_fine _
  have lo : (msk 92 (blk k) ++ Sh.sum (msk 54 (blk k) ++ t)).length = 64 + 32 := by rw [List.length_append, msk_len, kl, ls]
  have cB := fun (w : World) (h : R8 w A k) => rblock_any hOf A c n k w hn (by omega) h hb
  have cO1 := fun (A : Option Addr) (c : Nat) (w : World) (h : R8 w A (msk 54 (blk k) ++ t)) => hOf A c (64 + m) _ w li (by omega) h b8i
  have cO2 : ∀ (A : Option Addr) (c : Nat) (w : World), R8 w A (msk 92 (blk k) ++ Sh.sum (msk 54 (blk k) ++ t)) → Calls Tryd.prog 9 #[.slice A 96 c] w fun e w' => e = .returned (.agg (vl .u8 (hm k t)).toArray) ∧ Step w w' := fun (A : Option Addr) (c : Nat) (w : World) h => hOf A c (64 + 32) _ w lo (by omega) h b8o
  have lE : (vl .u8 (blk k)).length = 64 := by rw [vl_len, kl]
  have oE := Lib.hid (vl_one .u8 (blk k))
  have cE : Hid (∀ j, j < 64 → (vl .u8 (blk k))[j]? = some (.int .u8 ((blk k).getD j 0 : Nat))) := Lib.hid fun j hj => vl_at _ _ _ (by rw [kl]; exact hj)
  have lI : (vl .u8 (Sh.sum (msk 54 (blk k) ++ t))).length = 32 := by rw [vl_len, ls]
  have oI := Lib.hid (vl_one .u8 (Sh.sum (msk 54 (blk k) ++ t)))
  have rI : ∀ (w : World) (g : Nat), g < w.heap.size → w.rangeAt g 0 (vl .u8 (Sh.sum (msk 54 (blk k) ++ t))) → R8 w (some ⟨g, 0, none⟩) (Sh.sum (msk 54 (blk k) ++ t)) := fun w g => row_range
  have lF : (vl .u8 (hm k t)).length = 32 := by rw [vl_len, hm_len]
  have oF := Lib.hid (vl_one .u8 (hm k t))
  generalize vl .u8 (hm k t) = F at cO2 lF oF ⊢
  generalize vl .u8 (Sh.sum (msk 54 (blk k) ++ t)) = I at cO1 lI oI rI
  generalize vl .u8 (blk k) = E at cB lE oE cE
  generalize hsI : Sh.sum (msk 54 (blk k) ++ t) = sI at cO2 rI ls
  have eF : F.toArray.size = 32 := lF
  have T0 := Lg.there_new w Z3 24 32 hsz3
  clear b8i li b8s b8o lo hsI hOf
  generalize blk k = bs at *
  go_enter Tryd.func16, Tryd.ntmps16
  go_wp2_with (first
    | refine Lg.wpAlloc (by rfl) 37 (by rfl) Z6 hz6.out ?_
    | refine Lg.wpAlloc (by rfl) 24 (by rfl) Z3 hz3.out ?_
    | (go_at_call 18; ((with_reducible refine (cB _ hr.to).mono ?_); rintro e w2 ⟨rfl, S2⟩; obtain ⟨W2, st2, X2, R2, l2⟩ := store_new64 w2 Z6 E hsz6 lE oE.out)))
  have BW : Step w W2 := Step.of inferInstance
  have T2 : W2.there w.heap.size 0 32 := there_under T0 (inferInstance : Ext (w.alloc (Obj.cells Z3 24)) W2).h (by simp)
  have g0 : w.heap.size < W2.heap.size := by
    have := (inferInstance : Ext (w.alloc (Obj.cells Z3 24)) W2).h.size
    simp at this
    omega
  generalize hg : w2.heap.size = g at R2 l2 st2 ⊢
  generalize hG : w.heap.size = G at T2 g0 ⊢
  clear hg st2 X2 S2 T0 oE cB hr
  go_loopw [6, 7, 8] (fun u v i wr => ∃ j : Nat, Hid (j ≤ 64) ∧ i = .int .i64 j ∧ Hid (ApE.Own .u8 5 wr W2.heap.size u j (NL (msk 54 (bs.take j)))) ∧ Hid (ApE.Own .u8 5 wr W2.heap.size v j (NL (msk 92 (bs.take j)))) ∧ Hid (Hdr.Apart u v) ∧ Step W2 wr) (fun _ _ i _ => 64 - (intOf i).toNat)
  case atStart => exact ⟨0, Lib.hid (Nat.zero_le _), rfl, Lib.hid (World.ownsRow_nil _ _ _ _), Lib.hid (World.ownsRow_nil _ _ _ _), Lib.hid (Hdr.Apart.nil _), Step.of inferInstance⟩
  case round =>
    obtain ⟨j, hj, rfl, hu, hv, ha, S⟩ := hrel
    obtain ⟨A5, c5, rfl⟩ := own_form hu.out
    obtain ⟨A6, c6, rfl⟩ := own_form hv.out
    by_cases hlt : j < 64
    · have hx1 := Lib.hid (msk_snoc 54 bs j (by omega))
      have hx2 := Lib.hid (msk_snoc 92 bs j (by omega))
      have hxl := kb j
      have f1 : Hid (bits .xor .u8 ((bs.getD j 0 : Nat) : Int) 54 = ((bs.getD j 0 ^^^ 54 : Nat) : Int)) := Lib.hid (xor8_form (bs.getD j 0) 54 hxl (by omega))
      have f2 : Hid (bits .xor .u8 ((bs.getD j 0 : Nat) : Int) 92 = ((bs.getD j 0 ^^^ 92 : Nat) : Int)) := Lib.hid (xor8_form (bs.getD j 0) 92 hxl (by omega))
      have hc : ∀ w', Ext W2 w' → w'.cell? ⟨g, j, none⟩ = some (.int .u8 (bs.getD j 0 : Nat)) := fun w' X => by
        have := range_under R2 X.h l2 j _ (cE.out j hlt)
        rwa [Nat.zero_add] at this
      generalize bs.getD j 0 = x at hx1 hx2 hxl f1 f2 hc
      have hc1 := hc wr inferInstance
      have jI : (j : Int) < 64 := by omega
      have hlt2 := Lib.hid hlt
      clear hlt
      go_wp2_with (first
        | (at_builtin; refine ApT.wp .u8 W2 wr (by rfl) (.tmp 16) (.tmp 21) 22 (by rfl) 5 i0 _ 1 Tryd.underlying22 hi hz0 hz1 hz2 rfl _ _ j j _ _ (by rfl) hu.out hv.out ha.out.symm _ 1 1 _ (by rfl) rfl (Row.lit1 _ _ _ _ (by simp)) (by have := hlt2.out; omega) (by omega) ?_; intro A7 c7 w7 O7 P7 a7 S7; have hc2 := hc w7 inferInstance)
        | (at_builtin; refine ApT.wp .u8 W2 w7 (by rfl) (.tmp 23) (.tmp 28) 22 (by rfl) 5 i0 _ 1 Tryd.underlying22 hi hz0 hz1 hz2 rfl _ _ j (j + 1) _ _ (by rfl) P7 O7 a7.symm _ 1 1 _ (by rfl) rfl (Row.lit1 _ _ _ _ (by simp)) (by have := hlt2.out; omega) (by omega) ?_; intro A8 c8 w8 O8 P8 a8 S8))
      go_roundw
      case rel => exact ⟨j + 1, Lib.hid (by have := hlt2.out; omega), by go_num, Lib.hid (by
        rw [← hx1.out, NL_app]
        rw [f1.out] at P8
        exact P8), Lib.hid (by
        rw [← hx2.out, NL_app]
        rw [f2.out] at O8
        exact O8), Lib.hid a8, Step.of inferInstance⟩
      case measure => have := hlt2.out; simp [intOf]; omega
    · have hj64 : j = 64 := by have := hj.out; omega
      subst hj64
      have hT : bs.take 64 = bs := List.take_of_length_le (by omega)
      rw [hT] at hu hv
      clear hT cE kb
      go_wp2_with (first
        | (at_builtin; refine ApT.wp .u8 W2 wr (by rfl) (.tmp 30) (.tmp 31) 22 (by rfl) 5 i0 _ 1 Tryd.underlying22 hi hz0 hz1 hz2 rfl _ _ 64 64 _ _ (by rfl) hu.out hv.out ha.out.symm A2 m c2 (NL t) (by rfl) (by rw [NL_len]; exact hm2) hr2.to (by omega) (by omega) ?_; intro A7 c7 w7 O7 P7 a7 S7; have R7 : R8 w7 A7 (msk 54 bs ++ t) := by (unfold R8; rw [NL_app]; exact Row.of_own O7))
        | (go_at_call 9; ((with_reducible refine (cO1 _ _ _ R7).mono ?_); rintro e w8 ⟨rfl, S8⟩; obtain ⟨W8, st8, X8, R8', l8⟩ := store_new w8 Z3 I hsz3 lI oI.out; have RI := rI _ _ l8 R8'))
        | refine Lg.wpAlloc (by rfl) 24 (by rfl) Z3 hz3.out ?_
        | (at_builtin; refine ApT.wp .u8 W2 w7 (by rfl) (.tmp 34) (.tmp 35) 22 (by rfl) 5 i0 _ 1 Tryd.underlying22 hi hz0 hz1 hz2 rfl _ _ 64 (64 + m) _ _ (by rfl) P7 O7 a7.symm _ 32 32 (NL sI) (by rfl) (by rw [NL_len]; exact ls) RI.to (by omega) (by omega) ?_; intro A9 c9 w9 O9 P9 a9 S9; have R9 : R8 w9 A9 (msk 92 bs ++ sI) := by (unfold R8; rw [NL_app]; exact Row.of_own O9))
        | (go_at_call 9; ((with_reducible refine (cO2 _ _ _ R9).mono ?_); rintro e w10 ⟨rfl, S10⟩; have T10 : w10.there G 0 32 := there_under T2 (inferInstance : Ext W2 w10).h g0; have B10 : Below w.heap.size w w10 := (inferInstance : Ext w w10).h))
        | refine wpList_store_mid (by rfl) 24 (.tmp 4) (.tmp 37) (by rfl) G 0 F.toArray (by rfl) (by rfl) (by rw [eF]; exact T10) (by rw [eF]; exact size32) oF.out ?_)
      refine bodyPost_ret (results_one (by rfl) _ _ G 0 F _ (by rfl) (World.rangeAt_setCells_same _ _ _ _ (by rw [lF]; exact T10)) Tryd.underlying24 rfl (by rw [lF]; exact size32)) (by rfl) ?_
      exact ⟨rfl, ⟨Lg.below_setCells (by omega) _ _ _ B10⟩⟩
end Mc
end Go.Proofs.YtkihhflmgceckaaDoor
