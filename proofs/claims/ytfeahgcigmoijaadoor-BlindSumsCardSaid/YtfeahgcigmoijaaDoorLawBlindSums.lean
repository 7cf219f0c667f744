/- The walk of the law BlindSums: true whatever comes. Conditions: errors.errorType and sha.k read as laid. -/
import Derived.Test.YtfeahgcigmoijaaDoorBlSum
import Derived.Test.YtfeahgcigmoijaaDoorKeep
import Derived.Test.YtfeahgcigmoijaaDoorPushR
import Derived.Test.YtfeahgcigmoijaaDoorSure10
import Derived.Test.YtfeahgcigmoijaaDoorLaidS
import Derived.Test.YtfeahgcigmoijaaDoorOpenE
import Derived.Deep.RegionHeld3
import Derived.OpenShut
namespace Go.Proofs.YtfeahgcigmoijaaDoor
open Go.RowKit Go.Lib
namespace LawBlindSums
open SlR Sh Sp Mc Pg VecC VecE Pe Bl Mp MayP Kpn Hdr
theorem infoS : (Tryd.prog.info? 33).map (fun i => (i.zero, i.size, i.bytes)) = some (some (.slice none 0 0), 1, 24) := by kernel_rfl
theorem infoI : (Tryd.prog.info? 3).map (fun i => (i.zero, i.size, i.bytes)) = some (some (.int .i64 0), 1, 8) := by kernel_rfl
theorem infoW : (Tryd.prog.info? 34).map (fun i => (i.zero, i.size, i.bytes)) = some (some (.int .u32 0), 1, 4) := by kernel_rfl
/-- What the peers had. -/
def HadR (w : World) (A : Option Addr) (m : Nat) (k s : Nat → Nat) (b : Nat → Bool) (x : Nat → List Int) : Prop :=
  ∀ j, j < m → ∃ B O, A = some ⟨B, O, none⟩ ∧ B < w.heap.size ∧ w.cell? ⟨B, O + j * 7, none⟩ = some (.int .u64 (k j : Nat)) ∧ w.cell? ⟨B, O + j * 7 + 1, none⟩ = some (.int .u64 (s j : Nat)) ∧ w.cell? ⟨B, O + j * 7 + 6, none⟩ = some (.bool (b j)) ∧ Row .u32 w (some ⟨B, O + j * 7 + 2, none⟩) (x j)
theorem HadR.to {w w' : World} {A : Option Addr} {m : Nat} {k s : Nat → Nat} {b : Nat → Bool} {x : Nat → List Int} (h : HadR w A m k s b x) [e : Ext w w'] : HadR w' A m k s b x := fun j hj => by
  obtain ⟨B, O, h1, h2, h3, h4, h5, h6⟩ := h j hj
  have := e.size
  exact ⟨B, O, h1, by omega, (e.h.cell h2).trans h3, (e.h.cell h2).trans h4, (e.h.cell h2).trans h5, h6.to⟩
set_option maxHeartbeats 6400000 in
set_option maxRecDepth 1000000 in
theorem far (A : Option Addr) (m c : Nat) (W : World) (h : 8 < m) (hA : ErrAs.Laid W) (hL : LaidK W) :
    Calls Tryd.prog 10 #[.slice A m c] W fun e w' => e = .returned (.bool true) ∧ Step W w' := by
  have h1 : (8 : Int) < m := by omega
  clear h
  go_enter Tryd.func10, Tryd.ntmps10
  go_wp2_with (go_at_call 65; ((with_reducible refine (sure_any _ hA.to hL.to).mono ?_); rintro e w7 ⟨rfl, S7⟩))
  go_ret
  exact ⟨rfl, Step.of inferInstance⟩
/-- How many came. -/
def cnt (b : Nat → Bool) (m : Nat) : Nat := ((List.range m).filter b).length
theorem cnt_le (b : Nat → Bool) (m : Nat) : cnt b m ≤ m := Nat.le_trans (List.length_filter_le _ _) (by simp)
theorem cms_len (b : Nat → Bool) (m : Nat) : (cms b m).length = cnt b m := by simp [cms, cnt]
theorem cnt_yes {b : Nat → Bool} {m : Nat} (h : b m = true) : cnt b (m + 1) = cnt b m + 1 := by
  unfold cnt
  rw [List.range_succ, List.filter_append, List.length_append, List.filter_cons, if_pos h]; rfl
theorem cnt_no {b : Nat → Bool} {m : Nat} (h : b m = false) : cnt b (m + 1) = cnt b m := by
  unfold cnt
  rw [List.range_succ, List.filter_append, List.length_append, List.filter_cons, if_neg (by rw [h]; simp)]; rfl
/-- The rows, and what they had. -/
def rws (f : Nat → List Int) (b : Nat → Bool) (m : Nat) : List (List Int) := ((List.range m).filter b).map f
theorem rws_yes {f : Nat → List Int} {b : Nat → Bool} {m : Nat} (h : b m = true) : rws f b (m + 1) = rws f b m ++ [f m] := by
  unfold rws
  rw [List.range_succ, List.filter_append, List.map_append, List.filter_cons, if_pos h]; rfl
theorem rws_no {f : Nat → List Int} {b : Nat → Bool} {m : Nat} (h : b m = false) : rws f b (m + 1) = rws f b m := by
  unfold rws
  rw [List.range_succ, List.filter_append, List.map_append, List.filter_cons, if_neg (by rw [h]; simp)]; simp
theorem rws_len (f : Nat → List Int) (b : Nat → Bool) (m : Nat) : (rws f b m).length = cnt b m := by simp [rws, cnt]
theorem rws_all {f : Nat → List Int} {b : Nat → Bool} {m n : Nat} (h : ∀ i, (f i).length = n) : ∀ row ∈ rws f b m, row.length = n := fun row hr => by
  unfold rws at hr
  obtain ⟨i, _, rfl⟩ := List.mem_map.mp hr
  exact h i
theorem vSum_R {n : Nat} (ls : List (List Int)) (h : ∀ row ∈ ls, row.length = n) : R n (vSum n ls) := by
  unfold vSum
  have : ∀ (ls : List (List Int)) (row : List Int), (∀ r ∈ ls, r.length = n) → R n row → R n (ls.foldl vAdd row) := by
    intro ls
    induction ls with
    | nil => exact fun _ _ hr => hr
    | cons a ls ih => exact fun row h hr => ih _ (fun r hr => h r (List.mem_cons_of_mem _ hr)) (R.add hr.1 (h a List.mem_cons_self))
  exact this ls _ h (R.zero n)
theorem cellT2 {w w' : World} {p : Addr} {v : Value} (h : w.cell? p = some v) [e : Ext w w'] : w'.cell? p = some v := (e.h.cell (World.block_lt_of_cell? w _ h)).trans h
abbrev R3 (w : World) (B : Nat) (v : Value) (n : Nat) (ls : List (List Int)) : Prop := HR .u32 34 33 w B v n ls
/-- Behind the first loop. -/
def Mid (w : World) (m : Nat) (k s : Nat → Nat) (b : Nat → Bool) (vp vc sv kv : Value) : Prop := (∃ P p, vp = .slice P m p ∧ RowQ w P (pls k m)) ∧ (∃ C c, vc = .slice C (cnt b m) c ∧ Row .i64 w C (cms b m)) ∧ MapF w sv (sFn s b m) ∧ MapF w kv (kFn k b m)
set_option maxHeartbeats 25600000 in
set_option maxRecDepth 1000000 in
theorem core (A : Option Addr) (m c : Nat) (k s : Nat → Nat) (b : Nat → Bool) (x : Nat → List Int) (W : World) (hm : m ≤ 8) (hr : HadR W A m k s b x) (hx : Hid (∀ i, R 4 (x i))) (hk : Hid (∀ i, k i < 18446744073709551616)) (hs : Hid (∀ i, s i < 18446744073709551616)) (hA : ErrAs.Laid W) (hL : LaidK W) :
    Calls Tryd.prog 10 #[.slice A m c] W fun e w' => e = .returned (.bool true) ∧ Step W w' := by
  obtain ⟨i0, hi, hz0, hz1, hz2⟩ := info_parts infoQ
  obtain ⟨i1, hi1, hy0, hy1, hy2⟩ := info_parts infoS
  obtain ⟨i2, hi2, hv0, hv1, hv2⟩ := info_parts infoI
  obtain ⟨i3, hi3, hu0, hu1, hu2⟩ := info_parts infoW
  have hmm := @run_makeMap Tryd.prog
  have g1 : ¬ (8 : Int) < m := by omega
  have K0 : Kp W.heap.size ((W.alloc (.map #[] 0)).alloc (.map #[] 0)) (.slice none 0 0) (.slice none 0 0) W.heap.size (W.heap.size + 1) 0 0 0 0 (pls k 0) (cms b 0) (sFn s b 0) (kFn k b 0) :=
    ⟨World.ownsRow_nil _ _ _ _, World.ownsRow_nil _ _ _ _, (OwnM.made2 W _ (Nat.le_refl _) rfl).to, OwnM.made2 (W.alloc (.map #[] 0)) (W.heap.size + 1) (by simp) (by simp), fun g h => by simp [Value.ownBlock] at h, by simp [Value.ownBlock], by simp [Value.ownBlock], by simp [Value.ownBlock], by simp [Value.ownBlock], by omega⟩
  go_enter Tryd.func10, Tryd.ntmps10
  go_wp2_with (fail)
  go_loopw [3, 4, 7] (fun vp vc i wr => ∃ (j n1 n2 : Nat), j ≤ m ∧ n1 ≤ j ∧ n2 ≤ j ∧ i = .int .i64 j ∧ Kp W.heap.size wr vp vc W.heap.size (W.heap.size + 1) j (cnt b j) n1 n2 (pls k j) (cms b j) (sFn s b j) (kFn k b j) ∧ Step W wr) (fun _ _ i _ => m - (intOf i).toNat)
  case atStart => exact ⟨0, 0, 0, Nat.zero_le _, Nat.le_refl _, Nat.le_refl _, rfl, K0, Step.of inferInstance⟩
  case round =>
    clear K0
    obtain ⟨j, n1, n2, hj, hn1, hn2, rfl, hK, hS⟩ := hrel
    obtain ⟨Ap, cp, rfl, _⟩ := own_form2 hK.p
    obtain ⟨Ac, cc, rfl⟩ := own_form hK.c
    by_cases hlt : j < m
    · obtain ⟨B, O, rfl, hB, c0, c1, c6, _⟩ := hr j hlt
      have hcl := cnt_le b j
      have cP := fun w : World => public_any (k j) (Lib.hid (hk.out j)) w
      have h3 : IntKind.i64.wrap (3 * (j : Int)) = pid j := by unfold pid; rw [IntKind.wrap_i64] <;> omega
      have hI : I64 (pid j) := by unfold I64 pid; omega
      have HP : Hid (pls k (j + 1) = pls k j ++ [(pid j, FpM.fPow 3 (k j))]) := Lib.hid (pls_succ k j)
      generalize hq : FpM.fPow 3 (k j) = q at cP HP
      have H3 := Lib.hid h3
      clear hr hq h3
      cases hb : b j
      · rw [hb] at c6
        have HC : Hid (cms b (j + 1) = cms b j) := Lib.hid (by rw [cms_succ, hb]; simp)
        have HF : Hid (sFn s b (j + 1) = sFn s b j) := Lib.hid (by rw [sFn, if_neg (by rw [hb]; simp)])
        have HG : Hid (kFn k b (j + 1) = upd (kFn k b j) (pid j) (k j)) := Lib.hid (by rw [kFn, if_neg (by rw [hb]; simp)])
        have HN : Hid (cnt b (j + 1) = cnt b j) := Lib.hid (cnt_no hb)
        have hkj := hk.out j
        have h3 := H3.out
        clear hb hk hs hx
        generalize k j = kj at c0 cP HG hkj
        generalize s j = sj at c1
        generalize pid j = pj at h3 hI HP HG
        have r0 := cellT2 c0 (w' := wr)
        go_wp2_with (first
          | (go_at_call 61; ((with_reducible refine (cP _).mono ?_); rintro e w1 ⟨rfl, S1⟩))
          | (at_builtin; refine addP W wr hK rfl _ _ rfl i0 _ hi hz0 hz1 hz2 rfl rfl w1.heap.size (pj, q) rfl (RowQ.lit1 w1 _ _ (pj, q) rfl) (by omega) ?_; intro A2 c2 w2 K2 S2; have d0 := cellT2 c0 (w' := w2); have d6 := cellT2 c6 (w' := w2))
          | (at_mapUpdate; refine addK W w2 K2 rfl _ _ _ rfl rfl (by omega) pj hI rfl kj hkj rfl ?_; intro w3 K3 S3))
        go_roundw
        case rel => exact ⟨j + 1, n1, n2 + 1, by omega, by omega, by omega, by go_num, by rw [HP.out, HC.out, HF.out, HG.out, HN.out]; exact K3, Step.of inferInstance⟩
        case measure => simp [intOf]; omega
      · rw [hb] at c6
        have HC : Hid (cms b (j + 1) = cms b j ++ [pid j]) := Lib.hid (by rw [cms_succ, hb]; simp)
        have HF : Hid (sFn s b (j + 1) = upd (sFn s b j) (pid j) (s j)) := Lib.hid (by rw [sFn, if_pos hb])
        have HG : Hid (kFn k b (j + 1) = kFn k b j) := Lib.hid (by rw [kFn, if_pos hb])
        have HN : Hid (cnt b (j + 1) = cnt b j + 1) := Lib.hid (cnt_yes hb)
        have hsj := hs.out j
        have h3 := H3.out
        clear hb hk hs hx
        generalize k j = kj at c0 cP
        generalize s j = sj at c1 HF hsj
        generalize pid j = pj at h3 hI HP HC HF
        have r0 := cellT2 c0 (w' := wr)
        go_wp2_with (first
          | (go_at_call 61; ((with_reducible refine (cP _).mono ?_); rintro e w1 ⟨rfl, S1⟩))
          | (at_builtin; refine addP W wr hK rfl _ _ rfl i0 _ hi hz0 hz1 hz2 rfl rfl w1.heap.size (pj, q) rfl (RowQ.lit1 w1 _ _ (pj, q) rfl) (by omega) ?_; intro A2 c2 w2 K2 S2; have d0 := cellT2 c0 (w' := w2); have d6 := cellT2 c6 (w' := w2))
          | (at_builtin; refine addC W w2 K2 rfl _ _ rfl i2 _ hi2 hv0 hv1 hv2 rfl rfl w2.heap.size pj rfl (Row.lit1 w2 _ _ pj rfl) (by omega) ?_; intro A3 c3 w3 K3 S3; have e1 := cellT2 c1 (w' := w3))
          | (at_mapUpdate; refine addS W w3 K3 rfl _ _ _ rfl rfl (by omega) pj hI rfl sj hsj rfl ?_; intro w4 K4 S4))
        go_roundw
        case rel => exact ⟨j + 1, n1 + 1, n2, by omega, by omega, by omega, by go_num, by rw [HP.out, HC.out, HF.out, HG.out, HN.out]; exact K4, Step.of inferInstance⟩
        case measure => simp [intOf]; omega
    · have hjm : m = j := by omega
      subst hjm
      have hMid : Mid wr m k s b (.slice Ap m cp) (.slice Ac (cnt b m) cc) (.map (some W.heap.size)) (.map (some (W.heap.size + 1))) :=
        ⟨⟨Ap, cp, rfl, RowQ.of_own hK.p (pls_len _ _)⟩, ⟨Ac, cc, rfl, Row.of_own hK.c⟩, hK.s.mapF, hK.k.mapF⟩
      obtain ⟨⟨P0, p0, e1, RP⟩, ⟨C0, c0, e2, RC⟩, FS, FK⟩ := hMid
      cases e1
      cases e2
      obtain ⟨wL, hwL⟩ : ∃ y, y = wr := ⟨_, rfl⟩
      subst hwL
      clear hK hlt hj hn1 hn2
      have hmay := Lib.hid (pls_may k m (by omega))
      have h64 := Lib.hid (q64_may hmay.out)
      have hpl := Lib.hid (pls_len k m)
      obtain ⟨f, hf⟩ : ∃ f : Nat → List Int, Hid (f = fun i => rowB 4 (x i) (pid i) (s i) (k i) (pls k m)) := ⟨_, Lib.hid rfl⟩
      have hfl : Hid (∀ i, (f i).length = 4) := Lib.hid (fun i => by
        rw [hf.out]
        exact (vSum_R (n := 4) [x i, oN 4 (s i), rowP (wN 4) (pid i) (k i) (pls k m) 4] (by
          intro row hr
          simp only [List.mem_cons, List.not_mem_nil, or_false] at hr
          rcases hr with rfl | rfl | rfl
          · exact (hx.out i).1
          · exact (oN_R 4 _).1
          · exact (rowP_R (fun s => (wN_R 4 s).1) _ _ _).1)).1)
      go_wp2_with (fail)
      go_loopw [8, 9, 10] (fun rows had i wz => ∃ q : Nat, q ≤ m ∧ i = .int .i64 q ∧ R3 wz wL.heap.size rows (cnt b q) (rws f b q) ∧ R3 wz wL.heap.size had (cnt b q) (rws x b q) ∧ Hdr.Apart rows had ∧ Step wL wz) (fun _ _ i _ => m - (intOf i).toNat)
      case atStart => exact ⟨0, Nat.zero_le _, rfl, HR.nil _, HR.nil _, Hdr.Apart.nil _, Step.of inferInstance⟩
      case round =>
        obtain ⟨q, hq, rfl, hU, hV, hap, hS2⟩ := hrel
        obtain ⟨Au, cu, rfl⟩ := hU.form
        obtain ⟨Av, cv, rfl⟩ := hV.form
        by_cases hlt : q < m
        · obtain ⟨B, O, rfl, hB, d0, d1, d6, dX⟩ := hr q hlt
          have r6 := cellT2 d6 (w' := wr)
          have hcl := cnt_le b q
          cases hb : b q
          · rw [hb] at r6
            have HN : Hid (cnt b (q + 1) = cnt b q) := Lib.hid (cnt_no hb)
            have HU : Hid (rws f b (q + 1) = rws f b q) := Lib.hid (rws_no hb)
            have HV : Hid (rws x b (q + 1) = rws x b q) := Lib.hid (rws_no hb)
            clear hb hk hs hx hr
            go_wp2
            go_roundw
            case rel => exact ⟨q + 1, by omega, by go_num, by rw [HN.out, HU.out]; exact hU.to, by rw [HN.out, HV.out]; exact hV.to, hap, Step.of inferInstance⟩
            case measure => simp [intOf]; omega
          · rw [hb] at r6
            have HN : Hid (cnt b (q + 1) = cnt b q + 1) := Lib.hid (cnt_yes hb)
            have HU : Hid (rws f b (q + 1) = rws f b q ++ [f q]) := Lib.hid (rws_yes hb)
            have HV : Hid (rws x b (q + 1) = rws x b q ++ [x q]) := Lib.hid (rws_yes hb)
            have hin : Hid (isIn (pid q) (pls k m) = true) := Lib.hid (by
              unfold isIn
              rw [List.any_eq_true]
              exact ⟨(pid q, FpM.fPow 3 (k q)), List.mem_map.mpr ⟨q, List.mem_range.mpr hlt, rfl⟩, by simp⟩)
            have dR : ∀ w : World, Row .u32 w (some ⟨B, O + q * 7 + 2, none⟩) (x q) → RowQ w Ap (pls k m) → LaidK w → Calls Tryd.prog 66 #[.slice (some ⟨B, O + q * 7 + 2, none⟩) 4 4, .int .i64 (pid q), .int .u64 (s q : Nat), .int .u64 (k q : Nat), .slice Ap m cp] w (YesU w 4 (f q)) := fun w h1 h2 h3 => by
              have h := brow_yes (some ⟨B, O + q * 7 + 2, none⟩) Ap 4 cp 4 m (x q) (pid q) (s q) (k q) (pls k m) w (hx.out q).1 (by omega) (Lib.hid (hs.out q)) (Lib.hid (hk.out q)) hpl.out (by omega) h1 h2 h64 hmay hin h3
              rw [hf.out]
              exact h
            have h3 : IntKind.i64.wrap (3 * (q : Int)) = pid q := by unfold pid; rw [IntKind.wrap_i64] <;> omega
            have hxl := Lib.hid (hx.out q).1
            have hfl2 := Lib.hid (hfl.out q)
            have hU' := Lib.hid hU
            have hV' := Lib.hid hV
            have hap' := Lib.hid hap
            have r0 := cellT2 d0 (w' := wr)
            have r1 := cellT2 d1 (w' := wr)
            have rX : Row .u32 wr (some ⟨B, O + q * 7 + 2, none⟩) (x q) := dX.to
            generalize f q = X at dR HU hfl2
            generalize x q = Y at dR HV hxl dX rX
            generalize k q = kq at d0 r0 dR
            generalize s q = sq at d1 r1 dR
            generalize pid q = pq at dR h3
            clear hb hk hs hx hr hin hU hV hap d6
            go_wp2_with (fail)
            go_region_held3 (fun w' => w'.cell? ⟨B, O + q * 7, none⟩ = some (.int .u64 kq) ∧ w'.cell? ⟨B, O + q * 7 + 1, none⟩ = some (.int .u64 sq) ∧ Step wr w')
              (exact ⟨cellT2 r0, cellT2 r1, Step.of inferInstance⟩)
              ((go_at_call 66; ((with_reducible refine (dR _ rX.to RP.to hL.to).mono ?_); rintro e w3 ⟨A3, c3, rfl, U3, S3⟩)))
            rename_i hH
            clear hH
            have hU3 : R3 w3 wL.heap.size (.slice Au (cnt b q) cu) (cnt b q) (rws f b q) := hU'.out.to
            have hV3 : R3 w3 wL.heap.size (.slice Av (cnt b q) cv) (cnt b q) (rws x b q) := hV'.out.to
            have hcl8 : cnt b q ≤ 1000 := by omega
            have hKU := Lib.hid hU3
            have hKV := Lib.hid hV3
            clear hU3 hV3 r0 r1 d0 d1 dR
            go_wp2_with (fail)
            go_region_held3 (fun w' => Step wL w')
              (exact Step.of inferInstance)
              (first
                | (refine PsR.push (k := .u32) (TU := 34) (TS := 33) wL w3 (by decide) (by rfl) _ _ 44 (by rfl) i1 _ 24 Tryd.underlying44 hi1 hy0 hy1 hy2 rfl (cnt b q) (cnt b q) (.slice Au (cnt b q) cu) (.slice Av (cnt b q) cv) (rws f b q) (rws x b q) (by rfl) hKU.out hKV.out hap'.out.symm _ (by rfl) A3 4 c3 X (by first | exact PsR.lit0 _ _ _ _ (by simp) | exact PsR.lit1 _ _ _ _ _ (by simp) | exact PsR.lit2 _ _ _ _ _ (by simp)) hfl2.out U3 (by omega) (by omega) ?_; intro A4 c4 w4 H4 V4 P4 S4)
                | (refine PsR.copy .u32 (by rfl) _ _ 33 (by rfl) 34 i3 _ 4 Tryd.underlying33 hi3 hu0 hu1 hu2 (by omega) _ (by rfl) _ 4 4 Y (by rfl) hxl.out dX.to (by omega) (by omega) ?_; intro A5 c5 w5 U5 S5)
                | (refine PsR.push (k := .u32) (TU := 34) (TS := 33) wL w5 (by decide) (by rfl) _ _ 44 (by rfl) i1 _ 24 Tryd.underlying44 hi1 hy0 hy1 hy2 rfl (cnt b q) (cnt b q + 1) (.slice Av (cnt b q) cv) (.slice A4 (cnt b q + 1) c4) (rws x b q) (rws f b q ++ [X]) (by rfl) V4.to H4.to P4.symm _ (by rfl) A5 4 c5 Y (by first | exact PsR.lit0 _ _ _ _ (by simp) | exact PsR.lit1 _ _ _ _ _ (by simp) | exact PsR.lit2 _ _ _ _ _ (by simp)) hxl.out U5 (by omega) (by omega) ?_; intro A6 c6 w6 H6 V6 P6 S6))
            all_goals (rename_i hH; clear hH)
            all_goals go_wp2
            all_goals go_roundw
            all_goals (try exact ⟨q + 1, by omega, by go_num, by rw [HN.out, HU.out]; exact V6, by rw [HN.out, HV.out]; exact H6, P6, Step.of inferInstance⟩)
            all_goals (simp [intOf]; omega)
        · have hqm : m = q := by omega
          subst hqm
          have Ru : Rows2 wr Au (rws f b m) := hU.rows
          have Rv : Rows2 wr Av (rws x b m) := hV.rows
          have hcl := cnt_le b m
          have cS : ∀ w : World, Rows2 w Au (rws f b m) → Calls Tryd.prog 35 #[.slice Au (cnt b m) cu, .int .i64 4] w (Yes w 4 (vSum 4 (rws f b m))) := fun w h => VecE.sum Au cu 4 (cnt b m) (rws f b m) w (rws_len _ _ _) (by omega) h (by omega) (rws_all hfl.out)
          have cT : ∀ w : World, Rows2 w Av (rws x b m) → Calls Tryd.prog 35 #[.slice Av (cnt b m) cv, .int .i64 4] w (Yes w 4 (vSum 4 (rws x b m))) := fun w h => VecE.sum Av cv 4 (cnt b m) (rws x b m) w (rws_len _ _ _) (by omega) h (by omega) (rws_all fun i => (hx.out i).1)
          have cO : ∀ w : World, Row .i64 w Ac (cms b m) → RowQ w Ap (pls k m) → MapF w (.map (some W.heap.size)) (sFn s b m) → MapF w (.map (some (W.heap.size + 1))) (kFn k b m) → LaidK w → Calls Tryd.prog 67 #[.slice Ac (cnt b m) cc, .slice Ap m cp, .map (some W.heap.size), .map (some (W.heap.size + 1)), .int .i64 4] w (Yes w 4 (openF (oN 4) (wN 4) (sFn s b m) (kFn k b m) (cms b m) (pls k m) 4 (pls k m))) := fun w h1 h2 h3 h4 h5 =>
            open_yes Ac Ap cc cp (cnt b m) m 4 (cms b m) (pls k m) (.map (some W.heap.size)) (.map (some (W.heap.size + 1))) (sFn s b m) (kFn k b m) w (cms_len _ _) (by omega) hpl.out (by omega) h1 h2 hmay (Lib.hid (cms_came k b m)) h3 h4 (by omega) h5 (Lib.hid (all_pls k s b m))
          have hT := Lib.hid (sums (n := 4) k s b x (o := oN 4) (w := wN 4) (oN_R 4) (wN_R 4) hx.out m)
          have hS0 : rws f b m = (((List.range m).filter b).map fun i => vSum 4 [x i, oN 4 (s i), rowP (wN 4) (pid i) (k i) (pls k m) 4]) := by rw [hf.out]; rfl
          rw [← hS0] at hT
          have l1 := Lib.hid (vSum_R (n := 4) (rws f b m) (rws_all hfl.out)).1
          have l2 := Lib.hid (openF_R (n := 4) (sFn s b m) (kFn k b m) (cms b m) (pls k m) (oN_R 4) (wN_R 4) (pls k m)).1
          have l3 := Lib.hid (vSum_R (n := 4) (rws x b m) (rws_all fun i => (hx.out i).1)).1
          have hT2 : Hid (vSub (vSum 4 (rws f b m)) (openF (oN 4) (wN 4) (sFn s b m) (kFn k b m) (cms b m) (pls k m) 4 (pls k m)) = vSum 4 (rws x b m)) := hT
          generalize openF (oN 4) (wN 4) (sFn s b m) (kFn k b m) (cms b m) (pls k m) 4 (pls k m) = OP at cO hT2 l2
          generalize vSum 4 (rws f b m) = SU at cS hT2 l1
          generalize vSum 4 (rws x b m) = SV at cT hT2 l3
          have cD : ∀ (A D : Option Addr) (c d : Nat) (w : World), Row .u32 w A SU → Row .u32 w D OP → Calls Tryd.prog 29 #[.slice A 4 c, .slice D 4 d] w (Yes w 4 SV) := fun A D c d w h1 h2 => by
            have h := VecE.sub A D c d 4 SU OP w l1.out l2.out h1 h2 (by omega)
            rwa [hT2.out] at h
          have mS := fun (A D : Option Addr) (c d : Nat) (w : World) h1 h2 => VecE.same A D c d 4 4 SV SV w l3.out l3.out h1 h2 (by omega) (by omega) true (by simp)
          have dU := fun (w : World) h1 h2 => sure_any w h1 h2
          clear hT hT2 l1 l2 l3 hS0 hU hV hap hr hx hk hs hf hfl hmay h64 hpl
          go_wp2_with (first
            | (go_at_call 35; ((with_reducible refine (cS _ Ru.to).mono ?_); rintro e w5 ⟨A5, c5, rfl, Q5, S5⟩))
            | (go_at_call 67; ((with_reducible refine (cO _ RC.to RP.to FS.to FK.to hL.to).mono ?_); rintro e w6 ⟨A6, c6, rfl, Q6, S6⟩))
            | (go_at_call 29; ((with_reducible refine (cD _ _ _ _ _ Q5.to Q6.to).mono ?_); rintro e w7 ⟨A7, c7, rfl, Q7, S7⟩))
            | (go_at_call 35; ((with_reducible refine (cT _ Rv.to).mono ?_); rintro e w8 ⟨A8, c8, rfl, Q8, S8⟩))
            | (go_at_call 34; ((with_reducible refine (mS _ _ _ _ _ Q7.to Q8.to).mono ?_); rintro e w' ⟨rfl, t1, rfl⟩))
            | (go_at_call 65; ((with_reducible refine (dU _ hA.to hL.to).mono ?_); rintro e w9 ⟨rfl, S9⟩)))
          go_ret
          exact ⟨rfl, Step.of inferInstance⟩
theorem walk (A : Option Addr) (n c : Nat) (k s : Nat → Int) (b : Nat → Bool) (x : Nat → List Int) (W : World) (h : ∀ j, j < n → Opn.HadAt W A j (k j) (s j) (b j) (x j)) (hL : LaidX.LaidS W) :
    Calls Tryd.prog 10 #[.slice A n c] W fun e w' => e = .returned (.bool true) ∧ Step W w' := by
  by_cases hn : n ≤ 8
  · have hb : ∀ j, j < n → (0 ≤ k j ∧ k j < 18446744073709551616) ∧ (0 ≤ s j ∧ s j < 18446744073709551616) := fun j hj => by
      obtain ⟨_, _, _, _, _, wk, _, ws, _⟩ := h j hj
      have := bounds_u64 wk
      have := bounds_u64 ws
      omega
    refine core A n c (fun i => if i < n then (k i).toNat else 0) (fun i => if i < n then (s i).toNat else 0) b (fun i => if i < n then x i else List.replicate 4 0) W hn (fun j hj => ?_) (Lib.hid fun i => ?_) (Lib.hid fun i => ?_) (Lib.hid fun i => ?_) hL.1 hL.2
    · obtain ⟨B, O, h1, h2, h3, _, h4, _, h5, h6, _, h8⟩ := h j hj
      have hb := hb j hj
      refine ⟨B, O, h1, h2, ?_, ?_, h5, ?_⟩
      · simp only [if_pos hj]
        rw [Int.toNat_of_nonneg hb.1.1]; exact h3
      · simp only [if_pos hj]
        rw [Int.toNat_of_nonneg hb.2.1]; exact h4
      · simp only [if_pos hj]
        exact fun q z hq => ⟨_, rfl, h2, by rw [Addr.add_lit]; exact h8 q z hq⟩
    · split
      · rename_i hi
        obtain ⟨_, _, _, _, _, _, _, _, _, h6, h7, _⟩ := h i hi
        exact ⟨h6, fun z hz => by have := bounds_u32 (h7 z hz); omega⟩
      · exact R.zero 4
    · split
      · rename_i hi; have := hb i hi; omega
      · omega
    · split
      · rename_i hi; have := hb i hi; omega
      · omega
  · exact far A n c W (by omega) hL.1 hL.2
end LawBlindSums
end Go.Proofs.YtfeahgcigmoijaaDoor
