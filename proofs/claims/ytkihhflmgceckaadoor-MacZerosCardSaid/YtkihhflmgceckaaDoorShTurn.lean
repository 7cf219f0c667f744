/- The program's own round of a block (package sha's turn). Conditions: eight words, sixty-four words, and the listed variable sha.k reads as laid. -/
import Derived.Test.YtkihhflmgceckaaDoorShSpread
namespace Go.Proofs.YtkihhflmgceckaaDoor
open Go.RowKit Go.Lib
namespace Sp
open SlR Sh
/-- What the listed variable holds. -/
def LaidK (w : World) : Prop := R32 w (some ⟨0, 0, none⟩) KL
theorem LaidK.to {w w' : World} (h : LaidK w) [e : Ext w w'] : LaidK w' := Row.to h
theorem x3_form {p q r : Nat} (hp : p < 4294967296) (hq : q < 4294967296) (hr : r < 4294967296) : bits .xor .u32 (bits .xor .u32 (p : Nat) (q : Nat)) (r : Nat) = (((p ^^^ q) ^^^ r : Nat) : Int) := by
  rw [B3.xor32 _ _ hp hq, B3.xor32 _ _ (B3.xor_lt hp hq) hr]
theorem E1_lt {e : Nat} (h : e < 4294967296) : E1 e < 4294967296 := B3.xor_lt (B3.xor_lt (rot_lt h (by omega)) (rot_lt h (by omega))) (rot_lt h (by omega))
theorem E0_lt {e : Nat} (h : e < 4294967296) : E0 e < 4294967296 := B3.xor_lt (B3.xor_lt (rot_lt h (by omega)) (rot_lt h (by omega))) (rot_lt h (by omega))
theorem E1_form {e : Nat} (h : e < 4294967296) : bits .xor .u32 (bits .xor .u32 (rot e 6 : Nat) (rot e 11 : Nat)) (rot e 25 : Nat) = ((E1 e : Nat) : Int) := x3_form (rot_lt h (by omega)) (rot_lt h (by omega)) (rot_lt h (by omega))
theorem E0_form {e : Nat} (h : e < 4294967296) : bits .xor .u32 (bits .xor .u32 (rot e 2 : Nat) (rot e 13 : Nat)) (rot e 22 : Nat) = ((E0 e : Nat) : Int) := x3_form (rot_lt h (by omega)) (rot_lt h (by omega)) (rot_lt h (by omega))
theorem chf_lt {e f g : Nat} (he : e < 4294967296) (hf : f < 4294967296) (hg : g < 4294967296) : chf e f g < 4294967296 := B3.or_lt (B3.and_lt he hf) (B3.and_lt (by omega) hg)
theorem mjf_form (a b c : Nat) (ha : a < 4294967296) (hb : b < 4294967296) (hc : c < 4294967296) : bits .or .u32 (bits .or .u32 (bits .and .u32 (a : Nat) (b : Nat)) (bits .and .u32 (a : Nat) (c : Nat))) (bits .and .u32 (b : Nat) (c : Nat)) = ((mjf a b c : Nat) : Int) := by
  rw [B3.and32 _ _ ha hb, B3.and32 _ _ ha hc, B3.and32 _ _ hb hc, B3.or32 _ _ (B3.and_lt ha hb) (B3.and_lt ha hc), B3.or32 _ _ (B3.or_lt (B3.and_lt ha hb) (B3.and_lt ha hc)) (B3.and_lt hb hc)]
  rfl
theorem not_form (e : Nat) (he : e < 4294967296) : bits .xor .u32 (if IntKind.u32.signed = true then -1 else IntKind.u32.max) (e : Nat) = ((4294967295 - e : Nat) : Int) := by
  have h1 : (if IntKind.u32.signed = true then (-1 : Int) else IntKind.u32.max) = ((4294967295 : Nat) : Int) := by decide
  have h2 : (4294967295 : Nat) ^^^ e = 4294967295 - e := by
    have h3 : ((BitVec.allOnes 32) ^^^ (BitVec.ofNat 32 e)).toNat = 4294967295 - e := by
      rw [BitVec.allOnes_xor, BitVec.toNat_not, BitVec.toNat_ofNat, Nat.mod_eq_of_lt (by omega)]
    rw [BitVec.toNat_xor, BitVec.toNat_ofNat, Nat.mod_eq_of_lt (by omega : e < 2 ^ 32)] at h3
    exact h3
  rw [h1, B3.xor32 _ _ (by omega) he, h2]
theorem ch_form (e f g : Nat) (he : e < 4294967296) (hf : f < 4294967296) (hg : g < 4294967296) : bits .or .u32 (bits .and .u32 (e : Nat) (f : Nat)) (bits .and .u32 (bits .xor .u32 (if IntKind.u32.signed = true then -1 else IntKind.u32.max) (e : Nat)) (g : Nat)) = ((chf e f g : Nat) : Int) := by
  rw [not_form e he, B3.and32 _ _ he hf, B3.and32 _ _ (by omega) hg, B3.or32 _ _ (B3.and_lt he hf) (B3.and_lt (by omega) hg)]
  rfl
theorem md5 (p q r s u : Nat) : ((p : Int) + (q : Nat) + (r : Nat) + (s : Nat) + (u : Nat)) % 4294967296 = ((md [p, q, r, s, u] : Nat) : Int) := by
  unfold md
  simp only [sm]
  omega
theorem md2 (p q : Nat) : ((p : Int) + (q : Nat)) % 4294967296 = ((md [p, q] : Nat) : Int) := by
  unfold md
  simp only [sm]
  omega
theorem md_lt (xs : List Nat) : md xs < 4294967296 := Nat.mod_lt _ (by omega)
theorem size37 : (Tryd.prog.info? 42).map (·.size) = some 8 := by kernel_rfl
theorem zero37 (w : World) : (zeroValue 42).run Tryd.prog w = .ok (.agg (vl .u32 (List.replicate 8 0)).toArray) w := Tryd.zeroValue42 w
/-- Eight words and what a block has made of them, as far as place i. -/
def ad8 (S R : List Nat) (i : Nat) : List Nat := (List.range 8).map fun j => if j < i then md [S.getD j 0, R.getD j 0] else S.getD j 0
theorem ad8_len (S R : List Nat) (i : Nat) : (vl .u32 (ad8 S R i)).length = 8 := by simp [vl, ad8]
theorem ad8_zero (S R : List Nat) (h : S.length = 8) : ad8 S R 0 = S := by
  refine List.ext_getElem (by simp [ad8, h]) fun i h1 h2 => ?_
  simp [ad8, List.getElem?_eq_getElem h2]
theorem ad8_step (S R : List Nat) (i : Nat) : (ad8 S R i).set i (md [S.getD i 0, R.getD i 0]) = ad8 S R (i + 1) := by
  refine List.ext_getElem (by simp [ad8]) fun j h1 h2 => ?_
  rw [List.getElem_set]
  by_cases e : i = j
  · subst e
    simp [ad8]
  · have e2 : j < i + 1 ↔ j < i := by omega
    simp [ad8, e, e2]
theorem ad8_at (S R : List Nat) (i : Nat) (h : i < 8) : (ad8 S R i).getD i 0 = S.getD i 0 := by
  rw [List.getD_eq_getElem?_getD]
  simp [ad8, h]
theorem ad8_end (S R : List Nat) : ad8 S R 8 = (List.range 8).map fun i => md [S.getD i 0, R.getD i 0] := by
  unfold ad8
  refine List.map_congr_left fun j hj => ?_
  rw [if_pos (List.mem_range.1 hj)]
theorem range_under {w w' : World} {B g : Nat} {cs : List Value} (h : w.rangeAt g 0 cs) (hb : Below B w w') (hg : g < B) : w'.rangeAt g 0 cs := fun j v hv => by
  rw [hb.cell (p := ⟨g, 0 + j, none⟩) hg]
  exact h j v hv
theorem b32_8 {a b c d e f g h : Nat} (ha : a < 4294967296) (hb : b < 4294967296) (hc : c < 4294967296) (hd : d < 4294967296) (he : e < 4294967296) (hf : f < 4294967296) (hg : g < 4294967296) (hh : h < 4294967296) : B32 [a, b, c, d, e, f, g, h] := fun i => by
  match i with
  | 0 => exact ha
  | 1 => exact hb
  | 2 => exact hc
  | 3 => exact hd
  | 4 => exact he
  | 5 => exact hf
  | 6 => exact hg
  | 7 => exact hh
  | i + 8 => show (0 : Nat) < _; omega
theorem rnd_fine (w v : List Nat) (t : Nat) (h : B32 v) : (rnd w v t).length = 8 ∧ B32 (rnd w v t) := by
  unfold rnd
  dsimp only
  exact ⟨rfl, b32_8 (md_lt _) (h 0) (h 1) (h 2) (md_lt _) (h 4) (h 5) (h 6)⟩
theorem run_fine (S W : List Nat) (hS : S.length = 8) (bS : B32 S) (t : Nat) : (run W S t).length = 8 ∧ B32 (run W S t) := by
  induction t with
  | zero => exact ⟨hS, bS⟩
  | succ t ih => exact rnd_fine W (run W S t) t ih.2
set_option maxHeartbeats 3200000 in
set_option maxRecDepth 100000 in
theorem turn_dev (S W : List Nat) (w : World) (hS : S.length = 8) (hW : W.length = 64) (bS : Hid (B32 S)) (bW : Hid (B32 W)) (hL : LaidK w) :
    Calls Tryd.prog 22 #[.agg (vl .u32 S).toArray, .agg (vl .u32 W).toArray] w fun e w' => e = .returned (.agg (vl .u32 (ad8 S (run W S 64) 8)).toArray) ∧ Step w w' := by
  obtain ⟨Z, hZ⟩ : ∃ Z, (vl .u32 (List.replicate 8 0)) = Z := ⟨_, rfl⟩
  have hz : Hid (∀ w, (zeroValue 42).run Tryd.prog w = .ok (.agg Z.toArray) w) := Lib.hid (hZ ▸ zero37)
  have hsz : Z.toArray.size = 8 := by rw [← hZ]; rfl
  clear hZ
  obtain ⟨C, hC⟩ : ∃ C, Hid (C = vl .u32 S) := ⟨_, Lib.hid rfl⟩
  have lC : C.length = 8 := by rw [hC.out, vl_len, hS]
  obtain ⟨D, hD⟩ : ∃ D, Hid (D = vl .u32 W) := ⟨_, Lib.hid rfl⟩
  have lD : D.length = 64 := by rw [hD.out, vl_len, hW]
  rw [← hC.out, ← hD.out]
  obtain ⟨w1, h1⟩ : ∃ w1, w1 = (((w.alloc (Obj.cells C.toArray 42)).alloc (Obj.cells D.toArray 48)).alloc (Obj.cells Z.toArray 42)) := ⟨_, rfl⟩
  have R1 : w1.rangeAt w.heap.size 0 C := by
    rw [h1]
    exact World.rangeAt_alloc (World.rangeAt_alloc (range_new w C.toArray 42) _) _
  have T1 : w1.there w.heap.size 0 8 := by
    rw [h1]
    exact World.there_alloc (World.there_alloc (Lg.there_new w C.toArray 42 8 lC) _) _
  have R2 : w1.rangeAt (w.heap.size + 1) 0 D := by
    rw [h1]
    refine World.rangeAt_alloc ?_ _
    have := range_new (w.alloc (Obj.cells C.toArray 42)) D.toArray 48
    simpa using this
  have T3 : w1.there (w.heap.size + 2) 0 8 := by
    rw [h1]
    have := Lg.there_new ((w.alloc (Obj.cells C.toArray 42)).alloc (Obj.cells D.toArray 48)) Z.toArray 42 8 hsz
    simpa using this
  have S1 : Step w w1 := by
    rw [h1]
    exact Step.of inferInstance
  have hL1 : LaidK w1 := hL.to
  have s1 : w.heap.size + 3 ≤ w1.heap.size := by rw [h1]; simp
  have hh1 := Lib.hid h1.symm
  clear h1 hL
  have cS : ∀ j, j < 8 → w1.cell? ⟨w.heap.size, j, none⟩ = some (.int .u32 (S.getD j 0 : Nat)) := fun j hj => by
    have := R1 j (.int .u32 (S.getD j 0 : Nat)) (by rw [hC.out]; exact vl_at _ _ _ (by omega))
    rw [Nat.zero_add] at this
    exact this
  obtain ⟨a0, ha0⟩ : ∃ x, Hid (x = S.getD 0 0) := ⟨_, Lib.hid rfl⟩
  have c0 := cS 0 (by omega)
  rw [← ha0.out] at c0
  obtain ⟨a1, ha1⟩ : ∃ x, Hid (x = S.getD 1 0) := ⟨_, Lib.hid rfl⟩
  have c1 := cS 1 (by omega)
  rw [← ha1.out] at c1
  obtain ⟨a2, ha2⟩ : ∃ x, Hid (x = S.getD 2 0) := ⟨_, Lib.hid rfl⟩
  have c2 := cS 2 (by omega)
  rw [← ha2.out] at c2
  obtain ⟨a3, ha3⟩ : ∃ x, Hid (x = S.getD 3 0) := ⟨_, Lib.hid rfl⟩
  have c3 := cS 3 (by omega)
  rw [← ha3.out] at c3
  obtain ⟨a4, ha4⟩ : ∃ x, Hid (x = S.getD 4 0) := ⟨_, Lib.hid rfl⟩
  have c4 := cS 4 (by omega)
  rw [← ha4.out] at c4
  obtain ⟨a5, ha5⟩ : ∃ x, Hid (x = S.getD 5 0) := ⟨_, Lib.hid rfl⟩
  have c5 := cS 5 (by omega)
  rw [← ha5.out] at c5
  obtain ⟨a6, ha6⟩ : ∃ x, Hid (x = S.getD 6 0) := ⟨_, Lib.hid rfl⟩
  have c6 := cS 6 (by omega)
  rw [← ha6.out] at c6
  obtain ⟨a7, ha7⟩ : ∃ x, Hid (x = S.getD 7 0) := ⟨_, Lib.hid rfl⟩
  have c7 := cS 7 (by omega)
  rw [← ha7.out] at c7
  go_enter Tryd.func22, Tryd.ntmps22
  go_wp2_with (first
    | refine Lg.wpAlloc (by rfl) 42 (by rfl) Z.toArray hz.out ?_)
  rw [hh1.out]
  generalize hG : w.heap.size = G at R1 T1 R2 T3 c0 c1 c2 c3 c4 c5 c6 c7 ⊢
  go_quiet (fail)
  go_wp2
  go_quiet (fail)
  go_wp2_with (first
    | refine wpList_load_mid (by rfl) 48 (.tmp 3) (by rfl) (G + 1) 0 (by rfl) D _ R2 Tryd.underlying48 rfl (by rw [lD]; exact size43) ?_)
  have RF := Lib.hid (run_fine S W hS bS.out)
  go_loopw [5, 6, 7, 8, 9, 10, 11, 12, 40] (fun p5 p6 p7 p8 p9 p10 p11 p12 i wr => ∃ t : Nat, Hid (t ≤ 64) ∧ i = .int .i64 t ∧ p5 = .int .u32 ((run W S t).getD 0 0 : Nat) ∧ p6 = .int .u32 ((run W S t).getD 1 0 : Nat) ∧ p7 = .int .u32 ((run W S t).getD 2 0 : Nat) ∧ p8 = .int .u32 ((run W S t).getD 3 0 : Nat) ∧ p9 = .int .u32 ((run W S t).getD 4 0 : Nat) ∧ p10 = .int .u32 ((run W S t).getD 5 0 : Nat) ∧ p11 = .int .u32 ((run W S t).getD 6 0 : Nat) ∧ p12 = .int .u32 ((run W S t).getD 7 0 : Nat) ∧ wr.there G 0 8 ∧ wr.rangeAt G 0 C ∧ wr.there (G + 2) 0 8 ∧ LaidK wr ∧ Below w.heap.size w wr) (fun _ _ _ _ _ _ _ _ i _ => 64 - (intOf i).toNat)
  case atStart =>
    rw [ha0.out, ha1.out, ha2.out, ha3.out, ha4.out, ha5.out, ha6.out, ha7.out]
    exact ⟨0, Lib.hid (Nat.zero_le _), rfl, rfl, rfl, rfl, rfl, rfl, rfl, rfl, rfl, there_under T1 (inferInstance : Ext w1 _).h (by omega), range_under R1 (inferInstance : Ext w1 _).h (by omega), there_under T3 (inferInstance : Ext w1 _).h (by omega), hL1.to, (inferInstance : Ext w _).h⟩
  case round =>
    obtain ⟨t, ht, rfl, rfl, rfl, rfl, rfl, rfl, rfl, rfl, rfl, t1, r1, t3, hLr, B⟩ := hrel
    by_cases hlt : t < 64
    · obtain ⟨lb1, lb2⟩ := RF.out t
      have hR : Hid (run W S (t + 1) = rnd W (run W S t) t) := Lib.hid rfl
      have hx : D[t]? = some (.int .u32 (W.getD t 0 : Nat)) := by rw [hD.out]; exact vl_at _ _ _ (by omega)
      have ck : wr.cell? ⟨0, t, none⟩ = some (.int .u32 (KL.getD t 0 : Nat)) := by
        obtain ⟨_, e, _, h⟩ := Row.atN hLr (j := t) hlt
        cases e
        rw [Addr.add_mid, Nat.zero_add] at h
        exact h
      have b0 := lb2 0
      have b1 := lb2 1
      have b2 := lb2 2
      have b3 := lb2 3
      have b4 := lb2 4
      have b5 := lb2 5
      have b6 := lb2 6
      have b7 := lb2 7
      have bx := bW.out t
      clear lb1 lb2
      unfold rnd at hR
      generalize (run W S t).getD 0 0 = v0 at hR b0 ⊢
      generalize (run W S t).getD 1 0 = v1 at hR b1 ⊢
      generalize (run W S t).getD 2 0 = v2 at hR b2 ⊢
      generalize (run W S t).getD 3 0 = v3 at hR b3 ⊢
      generalize (run W S t).getD 4 0 = v4 at hR b4 ⊢
      generalize (run W S t).getD 5 0 = v5 at hR b5 ⊢
      generalize (run W S t).getD 6 0 = v6 at hR b6 ⊢
      generalize (run W S t).getD 7 0 = v7 at hR b7 ⊢
      generalize W.getD t 0 = xt at hR hx bx
      generalize KL.getD t 0 = kt at hR ck
      have hI : ∀ w, (Instr.index 48 (.agg D.toArray) (.int .i64 t)).run Tryd.prog w = .ok (.int .u32 (xt : Nat)) w := run_index Tryd.underlying48 Tryd.sizeOf41 Tryd.isAgg41 t hlt (by rw [List.getElem?_toArray]; exact hx)
      have r6 : ∀ w, Calls Tryd.prog 36 #[.int .u32 v4, .int .i64 6] w fun e w' => e = .returned (.int .u32 (rot v4 6 : Nat)) ∧ w' = w := fun w => rotr_any v4 6 w b4 (by omega)
      have r11 : ∀ w, Calls Tryd.prog 36 #[.int .u32 v4, .int .i64 11] w fun e w' => e = .returned (.int .u32 (rot v4 11 : Nat)) ∧ w' = w := fun w => rotr_any v4 11 w b4 (by omega)
      have r25 : ∀ w, Calls Tryd.prog 36 #[.int .u32 v4, .int .i64 25] w fun e w' => e = .returned (.int .u32 (rot v4 25 : Nat)) ∧ w' = w := fun w => rotr_any v4 25 w b4 (by omega)
      have r2 : ∀ w, Calls Tryd.prog 36 #[.int .u32 v0, .int .i64 2] w fun e w' => e = .returned (.int .u32 (rot v0 2 : Nat)) ∧ w' = w := fun w => rotr_any v0 2 w b0 (by omega)
      have r13 : ∀ w, Calls Tryd.prog 36 #[.int .u32 v0, .int .i64 13] w fun e w' => e = .returned (.int .u32 (rot v0 13 : Nat)) ∧ w' = w := fun w => rotr_any v0 13 w b0 (by omega)
      have r22 : ∀ w, Calls Tryd.prog 36 #[.int .u32 v0, .int .i64 22] w fun e w' => e = .returned (.int .u32 (rot v0 22 : Nat)) ∧ w' = w := fun w => rotr_any v0 22 w b0 (by omega)
      have tI : (t : Int) < 64 := by omega
      go_wp2_with (first
        | ((with_reducible refine (r6 _).mono ?_); rintro e w' ⟨rfl, rfl⟩)
        | ((with_reducible refine (r11 _).mono ?_); rintro e w' ⟨rfl, rfl⟩)
        | ((with_reducible refine (r25 _).mono ?_); rintro e w' ⟨rfl, rfl⟩)
        | ((with_reducible refine (r2 _).mono ?_); rintro e w' ⟨rfl, rfl⟩)
        | ((with_reducible refine (r13 _).mono ?_); rintro e w' ⟨rfl, rfl⟩)
        | ((with_reducible refine (r22 _).mono ?_); rintro e w' ⟨rfl, rfl⟩))
      go_roundw
      case rel =>
        rw [E1_form b4, ch_form v4 v5 v6 b4 b5 b6, E0_form b0, mjf_form v0 v1 v2 b0 b1 b2, md5, md2, md2, md2]
        refine ⟨t + 1, Lib.hid (by omega), by go_num, ?_⟩
        rw [hR.out]
        simp only [List.getD_cons_zero, List.getD_cons_succ]
        exact ⟨trivial, trivial, trivial, trivial, trivial, trivial, trivial, trivial, t1, r1, t3, hLr, B⟩
      case measure => simp [intOf]; omega
    · have ht64 : t = 64 := by have := ht.out; omega
      subst ht64
      obtain ⟨R, hR⟩ : ∃ R, Hid (R = run W S 64) := ⟨_, Lib.hid rfl⟩
      rw [← hR.out]
      obtain ⟨x0, hx0⟩ : ∃ x, Hid (x = R.getD 0 0) := ⟨_, Lib.hid rfl⟩
      obtain ⟨x1, hx1⟩ : ∃ x, Hid (x = R.getD 1 0) := ⟨_, Lib.hid rfl⟩
      obtain ⟨x2, hx2⟩ : ∃ x, Hid (x = R.getD 2 0) := ⟨_, Lib.hid rfl⟩
      obtain ⟨x3, hx3⟩ : ∃ x, Hid (x = R.getD 3 0) := ⟨_, Lib.hid rfl⟩
      obtain ⟨x4, hx4⟩ : ∃ x, Hid (x = R.getD 4 0) := ⟨_, Lib.hid rfl⟩
      obtain ⟨x5, hx5⟩ : ∃ x, Hid (x = R.getD 5 0) := ⟨_, Lib.hid rfl⟩
      obtain ⟨x6, hx6⟩ : ∃ x, Hid (x = R.getD 6 0) := ⟨_, Lib.hid rfl⟩
      obtain ⟨x7, hx7⟩ : ∃ x, Hid (x = R.getD 7 0) := ⟨_, Lib.hid rfl⟩
      rw [← hx0.out, ← hx1.out, ← hx2.out, ← hx3.out, ← hx4.out, ← hx5.out, ← hx6.out, ← hx7.out]
      have hE : Hid (∀ i, i < 8 → (#[Value.int .u32 (x0 : Nat), Value.int .u32 (x1 : Nat), Value.int .u32 (x2 : Nat), Value.int .u32 (x3 : Nat), Value.int .u32 (x4 : Nat), Value.int .u32 (x5 : Nat), Value.int .u32 (x6 : Nat), Value.int .u32 (x7 : Nat)] : Array Value)[i]? = some (.int .u32 (R.getD i 0 : Nat))) := Lib.hid fun i hi => by
        rcases (by omega : i = 0 ∨ i = 1 ∨ i = 2 ∨ i = 3 ∨ i = 4 ∨ i = 5 ∨ i = 6 ∨ i = 7) with rfl | rfl | rfl | rfl | rfl | rfl | rfl | rfl
        · rw [← hx0.out]; rfl
        · rw [← hx1.out]; rfl
        · rw [← hx2.out]; rfl
        · rw [← hx3.out]; rfl
        · rw [← hx4.out]; rfl
        · rw [← hx5.out]; rfl
        · rw [← hx6.out]; rfl
        · rw [← hx7.out]; rfl
      clear hx0 hx1 hx2 hx3 hx4 hx5 hx6 hx7 hLr RF hL1 R2 T1 R1 T3
      rw [hC.out, ← ad8_zero S R hS] at r1
      obtain ⟨w9, h9⟩ : ∃ w9, w9 = wr := ⟨_, rfl⟩
      subst h9
      go_wp2
      obtain ⟨AR, hAR⟩ : ∃ AR, (#[Value.int .u32 (x0 : Nat), Value.int .u32 (x1 : Nat), Value.int .u32 (x2 : Nat), Value.int .u32 (x3 : Nat), Value.int .u32 (x4 : Nat), Value.int .u32 (x5 : Nat), Value.int .u32 (x6 : Nat), Value.int .u32 (x7 : Nat)] : Array Value) = AR := ⟨_, rfl⟩
      rw [hAR] at hE
      rw [hAR]
      clear hAR
      go_loopw [21, 22, 115] (fun _ _ i wr => ∃ n : Nat, Hid (n ≤ 8) ∧ i = .int .i64 n ∧ wr.there G 0 8 ∧ wr.rangeAt G 0 (vl .u32 (ad8 S R n)) ∧ wr.there (G + 2) 0 8 ∧ Below w.heap.size w wr) (fun _ _ i _ => 8 - (intOf i).toNat)
      case atStart => exact ⟨0, Lib.hid (Nat.zero_le _), rfl, t1, r1, t3, B⟩
      case round =>
        obtain ⟨n, hn, rfl, t1, r1, t3, B⟩ := hrel
        by_cases hlt2 : n < 8
        · have hI : ∀ w, (Instr.index 42 (.agg AR) (.int .i64 n)).run Tryd.prog w = .ok (.int .u32 (R.getD n 0 : Nat)) w := run_index Tryd.underlying42 Tryd.sizeOf41 Tryd.isAgg41 n hlt2 (hE.out n hlt2)
          have hc : wr.cell? ⟨G, n, none⟩ = some (.int .u32 (S.getD n 0 : Nat)) := by
            have := r1 n _ (vl_at .u32 (ad8 S R n) n (by rw [← vl_len .u32, ad8_len]; exact hlt2))
            rw [Nat.zero_add, ad8_at S R n hlt2] at this
            exact this
          have hf := (t1 n hlt2).2
          rw [Nat.zero_add] at hf
          have hst := Lib.hid (ad8_step S R n)
          generalize S.getD n 0 = sn at hc hst
          generalize R.getD n 0 = rn at hI hst
          have nI : (n : Int) < 8 := by omega
          go_wp2
          go_roundw
          case rel => exact ⟨n + 1, Lib.hid (by omega), by go_num, there_setCell t1 _ _, by
            rw [md2, ← hst.out, ← vl_set]
            exact rangeAt_set r1 n _ (by rw [ad8_len]; exact hlt2), there_setCell t3 _ _, B.setCell (by show w.heap.size ≤ G; omega) _⟩
          case measure => simp [intOf]; omega
        · have hn8 : n = 8 := by have := hn.out; omega
          subst hn8
          have r6 := ad8_len S R 8
          have e6 : Hid (vl .u32 (ad8 S R 8) = vl .u32 (ad8 S (run W S 64) 8)) := Lib.hid (by rw [hR.out])
          have o6 := Lib.hid (vl_one .u32 (ad8 S R 8))
          generalize vl .u32 (ad8 S R 8) = F at r1 r6 e6 o6
          go_wp2_with (first
            | refine wpList_load_mid (by rfl) 42 (.tmp 2) (by rfl) G 0 (by rfl) F _ r1 Tryd.underlying42 rfl (by rw [r6]; exact size37) ?_
            | refine wpList_store_mid (by rfl) 42 (.tmp 4) (.tmp 126) (by rfl) (G + 2) 0 F.toArray (by rfl) (by rfl) (by rw [List.size_toArray, r6]; exact t3) (by rw [List.size_toArray, r6]; exact size37) o6.out ?_)
          refine bodyPost_ret (results_one (by rfl) _ _ (G + 2) 0 F _ (by rfl) (World.rangeAt_setCells_same _ _ _ _ (by rw [r6]; exact t3)) Tryd.underlying42 rfl (by rw [r6]; exact size37)) (by rfl) ?_
          exact ⟨by rw [e6.out], ⟨Lg.below_setCells (by omega) _ _ _ B⟩⟩
end Sp
end Go.Proofs.YtkihhflmgceckaaDoor
