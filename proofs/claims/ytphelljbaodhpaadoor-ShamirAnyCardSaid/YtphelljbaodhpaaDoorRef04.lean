/- The document's own Sorted (caucusref04). Conditions: what is handed in reads as a row of points. -/
import Derived.Test.YtphelljbaodhpaaDoorPairsB
import Derived.Test.YtphelljbaodhpaaDoorRefL03
namespace Go.Proofs.YtphelljbaodhpaaDoor
open Go.RowKit Go.Lib Go.Maps
namespace ShM
open SlR FpM FpC PoM PoC
theorem infoR : (Tryd.prog.info? 54).map (fun i => (i.zero, i.size, i.bytes)) = some (some (.agg #[.int .u64 0, .int .u64 0]), 2, 16) := by kernel_rfl
theorem outB_eq (x y : Nat) : outB (x, y) = (((x : Int) == 0) || decide ((2305843009213693951 : Int) ≤ x) || decide ((2305843009213693951 : Int) ≤ y)) := by
  unfold outB
  congr 1
  · congr 1
    · by_cases h : x = 0
      · simp [h]
      · rw [decide_eq_false h]; symm; simpa using h
    · exact decide_eq_decide.mpr (by omega)
  · exact decide_eq_decide.mpr (by omega)
theorem outB_no {x y : Nat} (h : outB (x, y) = false) : ((x : Int) == 0) = false ∧ decide ((2305843009213693951 : Int) ≤ x) = false ∧ decide ((2305843009213693951 : Int) ≤ y) = false := by
  rw [outB_eq] at h
  simpa [and_assoc] using h
/-- None is outside. -/
def Fit (ps : List (Nat × Nat)) : Prop := ∀ k, k < ps.length → outB (ps.getD k (0, 0)) = false
theorem refSorted_big (A : Option Addr) (c n : Nat) (w : World) (hn : 64 < n) :
    Calls Tryd.prog 10 #[.slice A n c] w fun e w' => e = .returned (.tuple #[.slice none 0 0, .int .i64 1]) ∧ Step w w' := by
  have h : (64 : Int) < n := by omega
  go_enter Tryd.func10, Tryd.ntmps10
  go_wp2
  exact bodyPost_ret (v := .tuple #[.slice none 0 0, .int .i64 1]) (by simp [results, Tryd.results10, go_sem]) rfl ⟨rfl, Step.of inferInstance⟩
set_option maxHeartbeats 800000 in
set_option maxRecDepth 100000 in
theorem refSorted_bad (A : Option Addr) (c n : Nat) (ps : List (Nat × Nat)) (w : World) (hn : ps.length = n) (hn2 : n ≤ 64) (hr : RowP w A ps) (hf : Hid (¬ Fit ps)) :
    Calls Tryd.prog 10 #[.slice A n c] w fun e w' => e = .returned (.tuple #[.slice none 0 0, .int .i64 1]) ∧ Step w w' := by
  have h64 : ¬ (64 : Int) < n := by omega
  go_enter Tryd.func10, Tryd.ntmps10
  go_wp2
  go_loopw [4] (fun i wr => ∃ (k : Nat), k ≤ n ∧ i = .int .i64 k ∧ Hid (∀ j, j < k → outB (ps.getD j (0, 0)) = false) ∧ wr = w) (fun i _ => n - (intOf i).toNat)
  case atStart => exact ⟨0, Nat.zero_le _, rfl, Lib.hid fun j h => absurd h (Nat.not_lt_zero _), rfl⟩
  case round =>
    obtain ⟨k, hk, rfl, hok, rfl⟩ := hrel
    by_cases hlt : k < n
    · obtain ⟨B, O, rfl, hab, hc1, hc2⟩ := hr.at (k := k) (by omega)
      obtain ⟨p, hp⟩ : ∃ p : Nat × Nat, Hid (p = ps.getD k (0, 0)) := ⟨_, Lib.hid rfl⟩
      rw [← hp.out] at hc1 hc2
      obtain ⟨x, y⟩ := p
      obtain ⟨q, hq⟩ : ∃ q, Hid (q = outB (x, y)) := ⟨_, Lib.hid rfl⟩
      have ho : Hid _ := Lib.hid (outB_eq x y)
      dsimp only at hc1 hc2
      generalize h1 : ((x : Int) == 0) = b1 at ho
      generalize h2 : decide ((2305843009213693951 : Int) ≤ x) = b2 at ho
      generalize h3 : decide ((2305843009213693951 : Int) ≤ y) = b3 at ho
      clear hr
      cases b1
      · cases b2
        · cases b3
          · go_wp2
            go_roundw
            case rel => exact ⟨k + 1, by omega, by go_num, Lib.hid fun j hj => by
              rcases Nat.lt_or_ge j k with h | h
              · exact hok.out j h
              · have e : j = k := by omega
                subst e
                rw [← hp.out]; exact ho.out, trivial⟩
            case measure => simp [intOf]; omega
          · go_wp2
            exact bodyPost_ret (v := .tuple #[.slice none 0 0, .int .i64 1]) (by simp [results, Tryd.results10, go_sem]) rfl ⟨rfl, Step.of inferInstance⟩
        · go_wp2
          exact bodyPost_ret (v := .tuple #[.slice none 0 0, .int .i64 1]) (by simp [results, Tryd.results10, go_sem]) rfl ⟨rfl, Step.of inferInstance⟩
      · go_wp2
        exact bodyPost_ret (v := .tuple #[.slice none 0 0, .int .i64 1]) (by simp [results, Tryd.results10, go_sem]) rfl ⟨rfl, Step.of inferInstance⟩
    · have hkn : k = n := by omega
      subst hkn
      exact absurd (by rw [← hn] at hok; exact hok.out) hf.out
set_option maxHeartbeats 1600000 in
set_option maxRecDepth 100000 in
theorem refSorted_any (A : Option Addr) (c n : Nat) (ps : List (Nat × Nat)) (w : World) (hn : ps.length = n) (hn2 : n ≤ 64) (hr : RowP w A ps) (hf : Hid (Fit ps)) :
    Calls Tryd.prog 10 #[.slice A n c] w fun e w' => (Hid (fs ps).Nodup ∧ (∃ A' c', e = .returned (.tuple #[.slice A' n c', .int .i64 0]) ∧ RowP w' A' (srt ps) ∧ n ≤ c') ∨ Hid (¬ (fs ps).Nodup) ∧ e = .returned (.tuple #[.slice none 0 0, .int .i64 8])) ∧ Step w w' := by
  obtain ⟨i0, hi, hz0, hz1, hz2⟩ := info_parts infoR
  have h64 : ¬ (64 : Int) < n := by omega
  go_enter Tryd.func10, Tryd.ntmps10
  go_wp2
  go_loopw [4] (fun i wr => ∃ (k : Nat), k ≤ n ∧ i = .int .i64 k ∧ wr = w) (fun i _ => n - (intOf i).toNat)
  case atStart => exact ⟨0, Nat.zero_le _, rfl, rfl⟩
  case round =>
    obtain ⟨k, hk, rfl, rfl⟩ := hrel
    by_cases hlt : k < n
    · obtain ⟨B, O, rfl, hab, hc1, hc2⟩ := hr.at (k := k) (by omega)
      have hfk := hf.out k (by omega)
      obtain ⟨p, hp⟩ : ∃ p : Nat × Nat, Hid (p = ps.getD k (0, 0)) := ⟨_, Lib.hid rfl⟩
      rw [← hp.out] at hc1 hc2 hfk
      obtain ⟨x, y⟩ := p
      obtain ⟨h1, h2, h3⟩ := outB_no hfk
      dsimp only at hc1 hc2
      clear hr hfk
      go_wp2
      go_roundw
      case rel => exact ⟨k + 1, by omega, by go_num, trivial⟩
      case measure => simp [intOf]; omega
    · have hkn : k = n := by omega
      subst hkn
      clear hlt hk
      obtain ⟨w0, hw0⟩ : ∃ w0, w0 = wr := ⟨_, rfl⟩
      subst hw0
      go_wp2
      go_loopw [5, 6] (fun v i wq => ∃ (m : Nat) (out : List (Nat × Nat)), m ≤ k ∧ i = .int .i64 m ∧ (m = 0 ∧ v = .slice none 0 0 ∧ out = [] ∨ ∃ g c', v = .slice (some ⟨g, 0, none⟩) m c' ∧ m ≤ c' ∧ RowP wq (some ⟨g, 0, none⟩) out) ∧ Hid (out.Perm (ps.take m)) ∧ Hid (Up out) ∧ Step w0 wq) (fun _ i _ => k - (intOf i).toNat)
      case atStart => exact ⟨0, [], Nat.zero_le _, rfl, .inl ⟨rfl, rfl, rfl⟩, Lib.hid (List.Perm.refl _), Lib.hid List.Pairwise.nil, Step.of inferInstance⟩
      case round =>
        obtain ⟨w1, hw1⟩ : ∃ w1, w1 = wr := ⟨_, rfl⟩
        subst hw1
        obtain ⟨m, out, hm, rfl, hv, hperm, hup, S⟩ := hrel
        have hol : out.length = m := by have := hperm.out.length_eq; simp at this; omega
        by_cases hlt : m < k
        · have hrw : RowP w1 A ps := hr.to
          obtain ⟨B, O, rfl, hab, hc1, hc2⟩ := hrw.at (k := m) (by omega)
          obtain ⟨p, hp⟩ : ∃ p : Nat × Nat, Hid (p = ps.getD m (0, 0)) := ⟨_, Lib.hid rfl⟩
          rw [← hp.out] at hc1 hc2
          obtain ⟨x, y⟩ := p
          dsimp only at hc1 hc2
          have hpm := fun j => Lib.hid (perm_ins (j := j) hperm.out (by omega))
          rw [← hp.out] at hpm
          rcases hv with ⟨hm0, rfl, rfl⟩ | ⟨g, c', rfl, hcc, hro⟩
          · have HM := Lib.hid hm0
            clear hm0
            have hu1 : Hid (Up (ins [] 0 (x, y))) := Lib.hid (up_ins hup.out (fun i h => absurd h (Nat.not_lt_zero _)) (fun h => absurd h (Nat.not_lt_zero _)))
            clear hr hrw hol
            go_wp2
            go_loopw [7] (fun j wz => j = .int .i64 0 ∧ ∃ t, wz = w1.drewN t) (fun _ _ => 0)
            case atStart => exact ⟨rfl, 0, rfl⟩
            case round =>
              obtain ⟨rfl, t, rfl⟩ := hrel
              go_wp2
              go_quiet (fail)
              go_wp2
              go_quiet (fail)
              go_wp2
              go_region_held3 (fun w' => w'.cell? ⟨B, O + m * 2, none⟩ = some (.int .u64 x) ∧ w'.cell? ⟨B, O + m * 2 + 1, none⟩ = some (.int .u64 y) ∧ Step w1 w')
                (exact ⟨((Step.of (w := w1) inferInstance).h.cell hab).trans hc1, ((Step.of (w := w1) inferInstance).h.cell hab).trans hc2, Step.of inferInstance⟩)
                ((first
                  | (refine App2.stepN w1 (by rfl) _ _ 26 (by rfl) 54 i0 _ Tryd.underlying26 hi hz0 hz1 hz2 rfl (by rfl) none 0 _ ([]) (by rfl) (by first | rfl | (rw [List.length_take]; omega) | (rw [List.length_drop]; omega)) (RowP.nil) (by omega) ?_; intro A2 c2 w2 O2 S2 hc2')
                  | (refine App2.stepE w1 w2 (by rfl) _ _ 26 (by rfl) 54 i0 _ Tryd.underlying26 hi hz0 hz1 hz2 rfl _ 0 ([]) (by rfl) O2 _ 1 1 [(x, y)] (by rfl) rfl (RowP.lit1 w2 _ _ (x, y) (by simp)) (by omega) ?_; intro A3 c3 w3 O3 S3 hc3')
                  | (refine App2.stepE w1 w2 (by rfl) _ _ 26 (by rfl) 54 i0 _ Tryd.underlying26 hi hz0 hz1 hz2 rfl _ 0 ([]) (by rfl) O2 _ 1 1 [(x, y)] (by rfl) rfl (RowP.step S2 (RowP.lit1 _ _ _ (x, y) (by simp))) (by omega) ?_; intro A3 c3 w3 O3 S3 hc3')
                  | (refine App2.stepE w1 w3 (by rfl) _ _ 26 (by rfl) 54 i0 _ Tryd.underlying26 hi hz0 hz1 hz2 rfl _ (0 + 1) ([] ++ [(x, y)]) (by rfl) O3 none 0 _ ([]) (by rfl) (by first | rfl | (rw [List.length_take]; omega) | (rw [List.length_drop]; omega)) (RowP.nil) (by omega) ?_; intro A4 c4 w4 O4 S4 hc4')))
              all_goals (go_wp2)

              all_goals (obtain ⟨g4, rfl, R4⟩ := own_some O4 (by omega) (by first | (simp; done) | (simp; omega)); go_roundw)
              all_goals (try exact ⟨m + 1, ins [] 0 (x, y), by omega, by go_num, .inr ⟨g4, c4, (by first | rfl | rw [show m + 1 = 0 + 1 + 0 by have := HM.out; omega]), (by have := HM.out; omega), R4⟩, hpm 0, hu1, Step.of inferInstance⟩)
              all_goals (simp [intOf]; omega)
          · have HM : Hid (m = m) := Lib.hid rfl
            have hcI : (m : Int) ≤ (c' : Int) := by omega
            have hfr := fun j => hro.take j
            have hbk := fun j => RowP.drop hro j
            have HUP := Lib.hid hup.out
            clear hr hrw
            go_wp2
            go_loopw [7] (fun jv wz => ∃ (j t : Nat), j ≤ m ∧ jv = .int .i64 j ∧ Hid (∀ i, i < j → (out.getD i (0, 0)).1 < x) ∧ wz = w1.drewN t) (fun jv _ => m - (intOf jv).toNat)
            case atStart => exact ⟨0, 0, Nat.zero_le _, rfl, Lib.hid fun i h => absurd h (Nat.not_lt_zero _), rfl⟩
            case round =>
              obtain ⟨j, t, hj, rfl, hlo, rfl⟩ := hrel
              by_cases hjm : j < m
              · obtain ⟨b', o', e', hg, hd1, hd2⟩ := hro.at (k := j) (by omega)
                cases e'
                obtain ⟨a, ha⟩ : ∃ a : Nat, Hid (a = (out.getD j (0, 0)).1) := ⟨_, Lib.hid rfl⟩
                rw [← ha.out, Nat.zero_add] at hd1
                clear hd2
                by_cases hax : a < x
                · have T : ((a : Int) < (x : Int)) = True := by simp; omega
                  have T2 : decide ((a : Int) < (x : Int)) = true := by simp; omega
                  go_wp2
                  go_quiet (fail)
                  go_wp2
                  go_roundw
                  case rel => exact ⟨j + 1, _, by omega, by go_num, Lib.hid fun i hi => by
                    rcases Nat.lt_or_ge i j with h | h
                    · exact hlo.out i h
                    · have e : i = j := by omega
                      subst e
                      rw [← ha.out]; exact hax, rfl⟩
                  case measure => simp [intOf]; omega
                · have T2 : decide ((a : Int) < (x : Int)) = false := by simp; omega
                  by_cases hae : a = x
                  · subst hae
                    have hdup : Hid (¬ (fs ps).Nodup) := Lib.hid (dup_of hperm.out (by omega) (by omega : j < out.length) (by rw [← ha.out, ← hp.out]))
                    go_wp2
                    go_quiet (fail)
                    go_wp2
                    go_quiet (fail)
                    go_wp2
                    exact bodyPost_ret (v := .tuple #[.slice none 0 0, .int .i64 8]) (by simp [results, Tryd.results10, go_sem]) rfl ⟨.inr ⟨hdup, rfl⟩, Step.of inferInstance⟩
                  · have T3 : ((a : Int) == (x : Int)) = false := by simp; omega
                    have hu1 : Hid (Up (ins out j (x, y))) := Lib.hid (up_ins hup.out hlo.out (fun _ => by rw [← ha.out]; omega))
                    have hi1 : (0 : Int) ≤ (j : Int) := by omega
                    have hi2 : (j : Int) ≤ (c' : Int) := by omega
                    have hi3 : (j : Int) ≤ (m : Int) := by omega
                    have hi4 : ¬ c' = j := by omega
                    go_wp2
                    go_quiet (fail)
                    go_wp2
                    go_quiet (fail)
                    go_wp2
                    go_region_held3 (fun w' => w'.cell? ⟨B, O + m * 2, none⟩ = some (.int .u64 x) ∧ w'.cell? ⟨B, O + m * 2 + 1, none⟩ = some (.int .u64 y) ∧ Step w1 w')
                      (exact ⟨((Step.of (w := w1) inferInstance).h.cell hab).trans hc1, ((Step.of (w := w1) inferInstance).h.cell hab).trans hc2, Step.of inferInstance⟩)
                      ((first
                        | (refine App2.stepN w1 (by rfl) _ _ 26 (by rfl) 54 i0 _ Tryd.underlying26 hi hz0 hz1 hz2 rfl (by rfl) _ j _ (out.take j) (by rfl) (by first | rfl | (rw [List.length_take]; omega) | (rw [List.length_drop]; omega)) (RowS.to (hfr j)) (by omega) ?_; intro A2 c2 w2 O2 S2 hc2')
                        | (refine App2.stepE w1 w2 (by rfl) _ _ 26 (by rfl) 54 i0 _ Tryd.underlying26 hi hz0 hz1 hz2 rfl _ j (out.take j) (by rfl) O2 _ 1 1 [(x, y)] (by rfl) rfl (RowP.lit1 w2 _ _ (x, y) (by simp)) (by omega) ?_; intro A3 c3 w3 O3 S3 hc3')
                        | (refine App2.stepE w1 w2 (by rfl) _ _ 26 (by rfl) 54 i0 _ Tryd.underlying26 hi hz0 hz1 hz2 rfl _ j (out.take j) (by rfl) O2 _ 1 1 [(x, y)] (by rfl) rfl (RowP.step S2 (RowP.lit1 _ _ _ (x, y) (by simp))) (by omega) ?_; intro A3 c3 w3 O3 S3 hc3')
                        | (refine App2.stepE w1 w3 (by rfl) _ _ 26 (by rfl) 54 i0 _ Tryd.underlying26 hi hz0 hz1 hz2 rfl _ (j + 1) (out.take j ++ [(x, y)]) (by rfl) O3 _ (m - j) _ (out.drop j) (by rfl) (by first | rfl | (rw [List.length_take]; omega) | (rw [List.length_drop]; omega)) (RowS.to (by first | exact hbk j | (have h := hbk j; rw [Nat.zero_add] at h; exact h))) (by omega) ?_; intro A4 c4 w4 O4 S4 hc4')))
                    all_goals (go_wp2)
                    all_goals (obtain ⟨g4, rfl, R4⟩ := own_some O4 (by omega) (by first | (simp; done) | (simp; omega)); go_roundw)
                    all_goals (try exact ⟨m + 1, ins out j (x, y), by omega, by go_num, .inr ⟨g4, c4, (by first | rfl | rw [show m + 1 = j + 1 + (m - j) by have := HM.out; omega]), (by have := HM.out; omega), R4⟩, hpm j, hu1, Step.of inferInstance⟩)
                    all_goals (simp [intOf]; omega)

              · have hjm' : m = j := by omega
                subst hjm'
                have hu1 : Hid (Up (ins out m (x, y))) := Lib.hid (up_ins hup.out hlo.out (fun h => absurd h (by omega)))
                have hi1 : (0 : Int) ≤ (m : Int) := by omega
                by_cases hcm : m = c'
                · subst hcm
                  go_wp2
                  go_quiet (fail)
                  go_wp2
                  go_quiet (fail)
                  go_wp2
                  go_region_held3 (fun w' => w'.cell? ⟨B, O + m * 2, none⟩ = some (.int .u64 x) ∧ w'.cell? ⟨B, O + m * 2 + 1, none⟩ = some (.int .u64 y) ∧ Step w1 w')
                    (exact ⟨((Step.of (w := w1) inferInstance).h.cell hab).trans hc1, ((Step.of (w := w1) inferInstance).h.cell hab).trans hc2, Step.of inferInstance⟩)
                    ((first
                      | (refine App2.stepN w1 (by rfl) _ _ 26 (by rfl) 54 i0 _ Tryd.underlying26 hi hz0 hz1 hz2 rfl (by rfl) _ _ _ (out.take m) (by rfl) (by first | rfl | (rw [List.length_take]; omega) | (rw [List.length_drop]; omega)) (RowS.to (hfr m)) (by omega) ?_; intro A2 c2 w2 O2 S2 hc2')
                      | (refine App2.stepE w1 w2 (by rfl) _ _ 26 (by rfl) 54 i0 _ Tryd.underlying26 hi hz0 hz1 hz2 rfl _ _ (out.take m) (by rfl) O2 _ 1 1 [(x, y)] (by rfl) rfl (RowP.lit1 w2 _ _ (x, y) (by simp)) (by omega) ?_; intro A3 c3 w3 O3 S3 hc3')
                      | (refine App2.stepE w1 w2 (by rfl) _ _ 26 (by rfl) 54 i0 _ Tryd.underlying26 hi hz0 hz1 hz2 rfl _ _ (out.take m) (by rfl) O2 _ 1 1 [(x, y)] (by rfl) rfl (RowP.step S2 (RowP.lit1 _ _ _ (x, y) (by simp))) (by omega) ?_; intro A3 c3 w3 O3 S3 hc3')
                      | (refine App2.stepE w1 w3 (by rfl) _ _ 26 (by rfl) 54 i0 _ Tryd.underlying26 hi hz0 hz1 hz2 rfl _ (_ + 1) (out.take m ++ [(x, y)]) (by rfl) O3 _ _ _ (out.drop m) (by rfl) (by first | rfl | (rw [List.length_take]; omega) | (rw [List.length_drop]; omega)) (by rw [List.drop_of_length_le (by omega)]; exact RowP.nil) (by omega) ?_; intro A4 c4 w4 O4 S4 hc4')))
                  all_goals (go_wp2)
                  all_goals (obtain ⟨g4, rfl, R4⟩ := own_some O4 (by omega) (by first | (simp; done) | (simp; omega)); go_roundw)
                  all_goals (try exact ⟨m + 1, ins out m (x, y), by omega, by go_num, .inr ⟨g4, c4, (by first | rfl | rw [show m + 1 = m + 1 + (m - m) by have := HM.out; omega]), (by have := HM.out; omega), R4⟩, hpm m, hu1, Step.of inferInstance⟩)
                  all_goals (simp [intOf]; omega)

                · have hi4 : ¬ c' = m := by omega
                  go_wp2
                  go_quiet (fail)
                  go_wp2
                  go_quiet (fail)
                  go_wp2
                  go_region_held3 (fun w' => w'.cell? ⟨B, O + m * 2, none⟩ = some (.int .u64 x) ∧ w'.cell? ⟨B, O + m * 2 + 1, none⟩ = some (.int .u64 y) ∧ Step w1 w')
                    (exact ⟨((Step.of (w := w1) inferInstance).h.cell hab).trans hc1, ((Step.of (w := w1) inferInstance).h.cell hab).trans hc2, Step.of inferInstance⟩)
                    ((first
                      | (refine App2.stepN w1 (by rfl) _ _ 26 (by rfl) 54 i0 _ Tryd.underlying26 hi hz0 hz1 hz2 rfl (by rfl) _ _ _ (out.take m) (by rfl) (by first | rfl | (rw [List.length_take]; omega) | (rw [List.length_drop]; omega)) (RowS.to (hfr m)) (by omega) ?_; intro A2 c2 w2 O2 S2 hc2')
                      | (refine App2.stepE w1 w2 (by rfl) _ _ 26 (by rfl) 54 i0 _ Tryd.underlying26 hi hz0 hz1 hz2 rfl _ _ (out.take m) (by rfl) O2 _ 1 1 [(x, y)] (by rfl) rfl (RowP.lit1 w2 _ _ (x, y) (by simp)) (by omega) ?_; intro A3 c3 w3 O3 S3 hc3')
                      | (refine App2.stepE w1 w2 (by rfl) _ _ 26 (by rfl) 54 i0 _ Tryd.underlying26 hi hz0 hz1 hz2 rfl _ _ (out.take m) (by rfl) O2 _ 1 1 [(x, y)] (by rfl) rfl (RowP.step S2 (RowP.lit1 _ _ _ (x, y) (by simp))) (by omega) ?_; intro A3 c3 w3 O3 S3 hc3')
                      | (refine App2.stepE w1 w3 (by rfl) _ _ 26 (by rfl) 54 i0 _ Tryd.underlying26 hi hz0 hz1 hz2 rfl _ (_ + 1) (out.take m ++ [(x, y)]) (by rfl) O3 _ _ _ (out.drop m) (by rfl) (by first | rfl | (rw [List.length_take]; omega) | (rw [List.length_drop]; omega)) (by rw [List.drop_of_length_le (by omega)]; exact RowP.nil) (by omega) ?_; intro A4 c4 w4 O4 S4 hc4')))
                  all_goals (go_wp2)
                  all_goals (obtain ⟨g4, rfl, R4⟩ := own_some O4 (by omega) (by first | (simp; done) | (simp; omega)); go_roundw)
                  all_goals (try exact ⟨m + 1, ins out m (x, y), by omega, by go_num, .inr ⟨g4, c4, (by first | rfl | rw [show m + 1 = m + 1 + (m - m) by have := HM.out; omega]), (by have := HM.out; omega), R4⟩, hpm m, hu1, Step.of inferInstance⟩)
                  all_goals (simp [intOf]; omega)

        · have hmk : m = k := by omega
          subst hmk
          have hpp : out.Perm ps := by have := hperm.out; rwa [List.take_of_length_le (by omega)] at this
          have hso := up_unique hpp hup.out
          have hnd : Hid (fs ps).Nodup := Lib.hid ((hpp.map Prod.fst).nodup_iff.mp (up_nodup hup.out))
          rcases hv with ⟨hm0, rfl, rfl⟩ | ⟨g, c', rfl, hcc, hro⟩
          · subst hm0
            clear hr
            go_wp2
            exact bodyPost_ret (v := .tuple #[.slice none 0 0, .int .i64 0]) (by simp [results, Tryd.results10, go_sem]) rfl ⟨.inl ⟨hnd, none, 0, rfl, by rw [← hso]; exact RowP.nil, Nat.le_refl _⟩, Step.of inferInstance⟩
          · clear hr
            go_wp2
            exact bodyPost_ret (v := .tuple #[.slice (some ⟨g, 0, none⟩) m c', .int .i64 0]) (by simp [results, Tryd.results10, go_sem]) rfl ⟨.inl ⟨hnd, _, c', rfl, by rw [← hso]; exact hro, hcc⟩, Step.of inferInstance⟩
theorem refSorted_ok (A : Option Addr) (c n : Nat) (ps : List (Nat × Nat)) (w : World) (hn : ps.length = n) (hn2 : n ≤ 64) (hr : RowP w A ps) (hf : Hid (Fit ps)) (hd : Hid (fs ps).Nodup) :
    Calls Tryd.prog 10 #[.slice A n c] w fun e w' => ∃ A' c', e = .returned (.tuple #[.slice A' n c', .int .i64 0]) ∧ RowP w' A' (srt ps) ∧ n ≤ c' ∧ Step w w' :=
  (refSorted_any A c n ps w hn hn2 hr hf).mono fun _ _ ⟨h, s⟩ => by
    rcases h with ⟨_, A', c', h1, h2, h3⟩ | ⟨h, _⟩
    · exact ⟨A', c', h1, h2, h3, s⟩
    · exact absurd hd.out h.out
theorem refSorted_dup (A : Option Addr) (c n : Nat) (ps : List (Nat × Nat)) (w : World) (hn : ps.length = n) (hn2 : n ≤ 64) (hr : RowP w A ps) (hf : Hid (Fit ps)) (hd : Hid (¬ (fs ps).Nodup)) :
    Calls Tryd.prog 10 #[.slice A n c] w fun e w' => e = .returned (.tuple #[.slice none 0 0, .int .i64 8]) ∧ Step w w' :=
  (refSorted_any A c n ps w hn hn2 hr hf).mono fun _ _ ⟨h, s⟩ => by
    rcases h with ⟨h, _⟩ | ⟨_, h⟩
    · exact absurd h.out hd.out
    · exact ⟨h, s⟩
end ShM
end Go.Proofs.YtphelljbaodhpaaDoor
