/- Split of shamir and of the document, and areShares. Conditions: what is handed in reads as rows. -/
import Derived.Test.YtphelljbaodhpaaDoorShamS
namespace Go.Proofs.YtphelljbaodhpaaDoor
open Go.RowKit Go.Lib Go.Maps
namespace ShM
open SlR FpM FpC PoM PoC
theorem pc_cons (q : Nat × Nat) (t : List (Nat × Nat)) : pc (q :: t) = .int .u64 (q.1 : Nat) :: .int .u64 (q.2 : Nat) :: pc t := rfl
theorem pc_set : ∀ (qs : List (Nat × Nat)) (k : Nat) (p : Nat × Nat), ((pc qs).set (k * 2) (.int .u64 (p.1 : Nat))).set (k * 2 + 1) (.int .u64 (p.2 : Nat)) = pc (qs.set k p)
  | [], k, p => rfl
  | q :: t, 0, p => rfl
  | q :: t, k + 1, p => by
    rw [pc_cons, List.set_cons_succ, pc_cons, show (k + 1) * 2 = k * 2 + 1 + 1 by omega, List.set_cons_succ, List.set_cons_succ, List.set_cons_succ, List.set_cons_succ, pc_set t k p]
theorem pc_setY : ∀ (qs : List (Nat × Nat)) (k z : Nat), (pc qs).set (k * 2 + 1) (.int .u64 (z : Nat)) = pc (qs.set k ((qs.getD k (0, 0)).1, z))
  | [], k, z => rfl
  | q :: t, 0, z => rfl
  | q :: t, k + 1, z => by
    rw [pc_cons, show (k + 1) * 2 + 1 = k * 2 + 1 + 1 + 1 by omega, List.set_cons_succ, List.set_cons_succ, pc_setY t k z]; rfl
theorem pc_rep (n : Nat) : pc (List.replicate n (0, 0)) = List.replicate (n * 2) (.int .u64 0) := by
  induction n with
  | zero => rfl
  | succ n ih => rw [List.replicate_succ, pc_cons, ih, show (n + 1) * 2 = n * 2 + 1 + 1 by omega, List.replicate_succ, List.replicate_succ]; rfl
theorem made2 (n : Nat) : (madeCells (Value.agg #[.int .u64 0, .int .u64 0]).cells (n * 2)).toList = pc (List.replicate n (0, 0)) := by
  rw [pc_rep]
  apply List.ext_getElem?
  intro j
  by_cases hj : j < n * 2
  · rw [List.getElem?_replicate, if_pos hj, Array.getElem?_toList]
    have h2 : j % 2 = 0 ∨ j % 2 = 1 := by omega
    have e : (Value.agg #[.int .u64 0, .int .u64 0]).cells = #[.int .u64 0, .int .u64 0] := by simp [Value.cells]
    rw [e]
    rcases h2 with h | h <;> simp [madeCells, hj, h]
  · rw [List.getElem?_eq_none (by simp [madeCells]; omega), List.getElem?_eq_none (by simp; omega)]
theorem mixP (zs : List (Nat × Nat)) (k n : Nat) (h1 : zs.length = n) (hk : k < n) : (zs.take k ++ List.replicate (n - k) (0, 0)).set k (zs.getD k (0, 0)) = zs.take (k + 1) ++ List.replicate (n - (k + 1)) (0, 0) := by
  rw [take_snocP zs k (by omega), show n - k = (n - (k + 1)) + 1 by omega, List.replicate_succ, List.set_append_right _ _ (by simp; omega), List.append_assoc]
  have e : k - (zs.take k).length = 0 := by simp; omega
  rw [e]; rfl
/-- The shares of a secret. -/
def shs (s : Nat) (cs : List Nat) (m : Nat) : List (Nat × Nat) := (List.range m).map fun i => (i + 1, hor (i + 1) (s :: cs))
theorem shs_len (s : Nat) (cs : List Nat) (m : Nat) : (shs s cs m).length = m := by simp [shs]
theorem shs_at (s : Nat) (cs : List Nat) (m k : Nat) (h : k < m) : (shs s cs m).getD k (0, 0) = (k + 1, hor (k + 1) (s :: cs)) := by
  rw [getD_ofP (by rw [shs_len]; exact h)]; simp [shs]
theorem bad_split (q : Int) (nc : Nat) : (q < 1 ∨ 64 < q ∨ q ≤ nc) ↔ ¬ (¬ q < 1 ∧ ¬ 64 < q ∧ ¬ q ≤ nc) := by omega
theorem split_bad (s : Int) (A : Option Addr) (nc c : Nat) (q : Int) (w : World) (hq : q < 1 ∨ 64 < q ∨ q ≤ nc) :
    Calls Tryd.prog 7 #[.int .u64 s, .slice A nc c, .int .i64 q] w fun e w' => e = .returned (.tuple #[.slice none 0 0, .iface 55 (.int .i64 1)]) ∧ Step w w' := by
  by_cases h1 : q < 1
  · go_enter Tryd.func7, Tryd.ntmps7
    go_wp2
    exact bodyPost_ret (v := .tuple #[.slice none 0 0, .iface 55 (.int .i64 1)]) (by simp [results, Tryd.results7, go_sem]) rfl ⟨rfl, Step.of inferInstance⟩
  · by_cases h2 : 64 < q
    · go_enter Tryd.func7, Tryd.ntmps7
      go_wp2
      exact bodyPost_ret (v := .tuple #[.slice none 0 0, .iface 55 (.int .i64 1)]) (by simp [results, Tryd.results7, go_sem]) rfl ⟨rfl, Step.of inferInstance⟩
    · have h3 : q ≤ nc := by omega
      go_enter Tryd.func7, Tryd.ntmps7
      go_wp2
      exact bodyPost_ret (v := .tuple #[.slice none 0 0, .iface 55 (.int .i64 1)]) (by simp [results, Tryd.results7, go_sem]) rfl ⟨rfl, Step.of inferInstance⟩
theorem refSplit_bad (s : Int) (A : Option Addr) (nc c : Nat) (q : Int) (w : World) (hq : q < 1 ∨ 64 < q ∨ q ≤ nc) :
    Calls Tryd.prog 8 #[.int .u64 s, .slice A nc c, .int .i64 q] w fun e w' => e = .returned (.tuple #[.slice none 0 0, .int .i64 1]) ∧ Step w w' := by
  by_cases h1 : q < 1
  · go_enter Tryd.func8, Tryd.ntmps8
    go_wp2
    exact bodyPost_ret (v := .tuple #[.slice none 0 0, .int .i64 1]) (by simp [results, Tryd.results8, go_sem]) rfl ⟨rfl, Step.of inferInstance⟩
  · by_cases h2 : 64 < q
    · go_enter Tryd.func8, Tryd.ntmps8
      go_wp2
      exact bodyPost_ret (v := .tuple #[.slice none 0 0, .int .i64 1]) (by simp [results, Tryd.results8, go_sem]) rfl ⟨rfl, Step.of inferInstance⟩
    · have h3 : q ≤ nc := by omega
      go_enter Tryd.func8, Tryd.ntmps8
      go_wp2
      exact bodyPost_ret (v := .tuple #[.slice none 0 0, .int .i64 1]) (by simp [results, Tryd.results8, go_sem]) rfl ⟨rfl, Step.of inferInstance⟩
theorem nl_cons (s : Nat) (cs : List Nat) : [Value.int .u64 (s : Nat)] ++ (NL cs).map (Value.int .u64) = (NL (s :: cs)).map (Value.int .u64) := rfl
set_option maxHeartbeats 1600000 in
set_option maxRecDepth 100000 in
theorem split_ok (s : Nat) (A : Option Addr) (nc c m : Nat) (cs : List Nat) (w : World) (hnc : cs.length = nc) (hm : nc < m) (hm2 : m ≤ 64) (hr : RowN w A cs) :
    Calls Tryd.prog 7 #[.int .u64 s, .slice A nc c, .int .i64 m] w fun e w' => ∃ A' c', e = .returned (.tuple #[.slice A' m c', .nilIface]) ∧ w'.ownsRow w.heap.size 51 2 (.slice A' m c') m (pc (shs s cs m)) ∧ m ≤ c' ∧ Step w w' := by
  obtain ⟨i0, hi, hz0, hz1, hz2⟩ := info_parts infoS
  obtain ⟨j0, hj, hy0, hy1, hy2⟩ := info_parts infoN
  have h1 : ¬ (m : Int) < 1 := by omega
  have h2 : ¬ (64 : Int) < m := by omega
  have h3 : ¬ (m : Int) ≤ nc := by omega
  have h4 : ¬ (m : Int) < 0 := by omega
  have O1 : (w.alloc (.cells #[.int .u64 s] 22 (0, 0))).ownsRow w.heap.size 22 1 (.slice (some ⟨w.heap.size, 0, none⟩) 1 1) 1 [.int .u64 (s : Nat)] := World.ownsRow_lit w #[.int .u64 s] 1 (Nat.le_refl _) (by unfold maxLen; omega) rfl
  have hst : ∀ w1 w2 : World, w1.ownsRow w.heap.size 51 2 (.slice (some ⟨w2.heap.size, 0, none⟩) m m) m (madeCells (Value.agg #[.int .u64 0, .int .u64 0]).cells (m * 2)).toList → w1.ownsRow w.heap.size 51 2 (.slice (some ⟨w2.heap.size, 0, none⟩) m m) m (pc ((shs s cs m).take 0 ++ List.replicate (m - 0) (0, 0))) := fun w1 w2 h => by rw [made2] at h; exact h
  go_enter Tryd.func7, Tryd.ntmps7
  go_wp2_with (first
    | (at_builtin; refine App.wp .u64 rfl _ _ 23 rfl w.heap.size 22 j0 (.int .u64 0) 8 Tryd.underlying23 hj hy0 hy1 hy2 rfl _ 1 [.int .u64 s] rfl O1 A nc c (NL cs) rfl (by unfold NL; simp [hnc]) (RowN.to hr) (by unfold maxLen; omega) (by omega) (by simp) ?_; intro A2 c2 w2 O2 hg2; have S2 : Step w w2 := ⟨below_own ((Below.refl _ w).alloc (Nat.le_refl _) _) hg2 O1 (Nat.le_refl _) (by simp)⟩)
    | (at_make; refine wpList_make_full _ rfl _ _ 28 rfl w.heap.size 51 i0 _ 2 Tryd.underlying28 hi hz0 hz1 _ _ _ _ m rfl rfl rfl rfl (by rw [hz2]; omega) (by unfold maxLen; omega) S2.h.size ?_; intro w3 O3 hg3))
  have R2 : RowN w2 A2 (s :: cs) := Row.of_own (by rw [← nl_cons]; exact O2)
  have S3 : Step w2 w3 := ⟨(Below.refl _ w2).grown hg3 (Nat.le_refl _) (fun k h => by cases h)⟩
  have O4 := Lib.hid (hst w3 w2 O3)
  have R3 : Rd .u64 w3 w2.heap.size A2 (NL (s :: cs)) := Rd.below R2 S3.h
  have hgl : Hid (w.heap.size ≤ w2.heap.size) := Lib.hid S2.h.size
  have SW : Step w w3 := Step.of inferInstance
  obtain ⟨H, hH⟩ : ∃ H, H = w2.heap.size := ⟨_, rfl⟩
  rw [← hH] at O4 hgl R3
  rw [← hH]
  clear hst O1 O3 O2 R2 S2 S3 hg2 hg3 hr hH
  go_loopw [33, 10, 11] (fun i _ _ wr => ∃ (k : Nat), k ≤ m ∧ i = .int .i64 k ∧ wr.ownsRow w.heap.size 51 2 (.slice (some ⟨H, 0, none⟩) m m) m (pc ((shs s cs m).take k ++ List.replicate (m - k) (0, 0))) ∧ Rd .u64 wr H A2 (NL (s :: cs)) ∧ Below w.heap.size w wr) (fun i _ _ _ => m - (intOf i).toNat)
  case atStart => exact ⟨0, Nat.zero_le _, rfl, O4.out, R3, SW.h⟩
  case round =>
    clear O4 R3 SW
    obtain ⟨k, hk, rfl, hown, hrow, hb⟩ := hrel
    by_cases hlt : k < m
    · have hw1 : IntKind.u64.wrap (k : Int) = (k : Int) := by simp [IntKind.wrap, IntKind.bits, IntKind.signed]; omega
      have hw2 : IntKind.u64.wrap ((k : Int) + 1) = (k : Int) + 1 := by simp [IntKind.wrap, IntKind.bits, IntKind.signed]; omega
      have hHl : H < wr.heap.size := by
        obtain ⟨g, cap, hv, _, hlt⟩ := hown.form (by omega)
        injection hv with h1 _ _
        injection h1 with h1
        injection h1 with h1
        omega
      obtain ⟨y, hy⟩ : ∃ y, Hid (y = hor (k + 1) (s :: cs)) := ⟨_, Lib.hid rfl⟩
      have cE : ∀ w, RowN w A2 (s :: cs) → Calls Tryd.prog 18 #[.slice A2 (1 + nc) c2, .int .u64 ((k : Int) + 1)] w (Qt (.int .u64 (y : Nat)) w) := fun w h => by
        have := eval_any A2 c2 (1 + nc) (k + 1) (s :: cs) w (by simp; omega) (by omega) h (Lib.hid (by omega))
        rw [← hy.out] at this
        exact this
      have hR : RowN wr A2 (s :: cs) := Rd.more hrow (by omega)
      have hq := pc_at ((shs s cs m).take k ++ List.replicate (m - k) (0, 0)) k (by simp [shs_len]; omega)
      have hc0 := (hown.cellAt (k * 2) (by omega)).trans hq.1
      have hc1 := (hown.cellAt (k * 2 + 1) (by omega)).trans hq.2
      have hf0 := hown.frozenAt (k * 2)
      have hf1 := hown.frozenAt (k * 2 + 1)
      have HO := Lib.hid hown
      have HR := Lib.hid hrow
      have HB := Lib.hid hb
      have HX : Hid (((pc ((shs s cs m).take k ++ List.replicate (m - k) (0, 0))).set (k * 2) (.int .u64 ((k : Int) + 1))).set (k * 2 + 1) (.int .u64 (y : Nat)) = pc ((shs s cs m).take (k + 1) ++ List.replicate (m - (k + 1)) (0, 0))) := Lib.hid (by
        have h1 := pc_set ((shs s cs m).take k ++ List.replicate (m - k) (0, 0)) k (k + 1, y)
        have h2 := mixP (shs s cs m) k m (shs_len _ _ _) hlt
        rw [shs_at _ _ _ _ hlt, ← hy.out] at h2
        rw [h2] at h1
        exact h1)
      clear hown hrow hb hq
      go_wp2_with (go_at_call 18; (refine (cE _ hR.to).mono ?_); rintro e w' ⟨rfl, n1, rfl⟩)
      go_roundw
      case rel => exact ⟨k + 1, by omega, by go_num, by rw [← HX.out]; exact ((HO.out.stored (k * 2) _).1.stored (k * 2 + 1) _).1, (HR.out.setCell (Nat.le_refl _) _).setCell (Nat.le_refl _) _, ((below_drewN HB.out n1).setCell hgl.out _).setCell hgl.out _⟩
      case measure => simp [intOf]; omega
    · have hkm : k = m := by omega
      subst hkm
      have HT : Hid ((shs s cs k).take k ++ List.replicate (k - k) (0, 0) = shs s cs k) := Lib.hid (by rw [List.take_of_length_le (by rw [shs_len]; omega), Nat.sub_self]; simp)
      rw [HT.out] at hown
      have S : Step w wr := ⟨hb⟩
      clear hrow
      go_wp2
      exact bodyPost_ret (v := .tuple #[.slice (some ⟨H, 0, none⟩) k k, .nilIface]) (by simp [results, Tryd.results7, go_sem]) rfl ⟨_, _, rfl, hown, Nat.le_refl _, S⟩
set_option maxHeartbeats 1600000 in
set_option maxRecDepth 100000 in
theorem refSplit_ok (s : Nat) (A : Option Addr) (nc c m : Nat) (cs : List Nat) (w : World) (hnc : cs.length = nc) (hm : nc < m) (hm2 : m ≤ 64) (hr : RowN w A cs) :
    Calls Tryd.prog 8 #[.int .u64 s, .slice A nc c, .int .i64 m] w fun e w' => ∃ A' c', e = .returned (.tuple #[.slice A' m c', .int .i64 0]) ∧ RowP w' A' (shs s cs m) ∧ m ≤ c' ∧ Step w w' := by
  obtain ⟨i0, hi, hz0, hz1, hz2⟩ := info_parts infoR
  obtain ⟨j0, hj, hy0, hy1, hy2⟩ := info_parts infoN
  have h1 : ¬ (m : Int) < 1 := by omega
  have h2 : ¬ (64 : Int) < m := by omega
  have h3 : ¬ (m : Int) ≤ nc := by omega
  have O1 : (w.alloc (.cells #[.int .u64 s] 22 (0, 0))).ownsRow w.heap.size 22 1 (.slice (some ⟨w.heap.size, 0, none⟩) 1 1) 1 [.int .u64 (s : Nat)] := World.ownsRow_lit w #[.int .u64 s] 1 (Nat.le_refl _) (by unfold maxLen; omega) rfl
  go_enter Tryd.func8, Tryd.ntmps8
  go_wp2_with (first
    | (at_builtin; refine App.wp .u64 rfl _ _ 23 rfl w.heap.size 22 j0 (.int .u64 0) 8 Tryd.underlying23 hj hy0 hy1 hy2 rfl _ 1 [.int .u64 s] rfl O1 A nc c (NL cs) rfl (by unfold NL; simp [hnc]) (RowN.to hr) (by unfold maxLen; omega) (by omega) (by simp) ?_; intro A2 c2 w2 O2 hg2; have S2 : Step w w2 := ⟨below_own ((Below.refl _ w).alloc (Nat.le_refl _) _) hg2 O1 (Nat.le_refl _) (by simp)⟩))
  have R2 : RowN w2 A2 (s :: cs) := Row.of_own (by rw [← nl_cons]; exact O2)
  clear O1 O2 hg2 hr
  go_loopw [9, 10] (fun v i wr => ∃ (k : Nat), k ≤ m ∧ i = .int .i64 ((k : Int) + 1) ∧ wr.ownsRow w2.heap.size 54 2 v k (pc ((shs s cs m).take k)) ∧ Step w2 wr) (fun _ i _ => m + 1 - (intOf i).toNat)
  case atStart => exact ⟨0, Nat.zero_le _, rfl, World.ownsRow_nil _ _ _ _, Step.of inferInstance⟩
  case round =>
    obtain ⟨k, hk, rfl, hown, S⟩ := hrel
    obtain ⟨A', c', rfl, hcc⟩ := own_form2 hown
    by_cases hlt : k < m
    · have hlI : (k : Int) + 1 ≤ (m : Int) := by omega
      have hw2 : IntKind.u64.wrap ((k : Int) + 1) = (k : Int) + 1 := by simp [IntKind.wrap, IntKind.bits, IntKind.signed]; omega
      obtain ⟨y, hy⟩ : ∃ y, Hid (y = hor (k + 1) (s :: cs)) := ⟨_, Lib.hid rfl⟩
      have cE : ∀ w, RowN w A2 (s :: cs) → Calls Tryd.prog 19 #[.slice A2 (1 + nc) c2, .int .u64 ((k : Int) + 1)] w (Qt (.int .u64 (y : Nat)) w) := fun w h => by
        have := refEval_any A2 c2 (1 + nc) (k + 1) (s :: cs) w (by simp; omega) (by omega) h
        rw [← hy.out] at this
        exact this
      have HX : Hid ((shs s cs m).take k ++ [(k + 1, y)] = (shs s cs m).take (k + 1)) := Lib.hid (by rw [take_snocP _ k (by rw [shs_len]; exact hlt), shs_at _ _ _ _ hlt, hy.out])
      have HO := Lib.hid hown
      clear hown
      go_wp2_with (first
        | (go_at_call 19; (refine (cE _ R2.to).mono ?_); rintro e w' ⟨rfl, n1, rfl⟩)
        | (at_builtin; refine App2.wpE w2 wr rfl _ _ 26 rfl 54 i0 _ Tryd.underlying26 hi hz0 hz1 hz2 rfl _ k ((shs s cs m).take k) rfl HO.out _ 1 1 [(k + 1, y)] rfl rfl (RowP.lit1 _ _ _ (k + 1, y) (by simp)) (by omega) ?_; intro A4 c4 w4 O4 S4 hc4))
      go_roundw
      case rel => exact ⟨k + 1, by omega, by go_num, by rw [← HX.out]; exact O4, Step.of inferInstance⟩
      case measure => simp [intOf]; omega
    · have hkm : k = m := by omega
      subst hkm
      have HT : (shs s cs k).take k = shs s cs k := List.take_of_length_le (by rw [shs_len]; omega)
      rw [HT] at hown
      have hlI : ¬ (k : Int) + 1 ≤ (k : Int) := by omega
      go_wp2
      exact bodyPost_ret (v := .tuple #[.slice A' k c', .int .i64 0]) (by simp [results, Tryd.results8, go_sem]) rfl ⟨_, _, rfl, RowP.of_own hown (shs_len _ _ _), hcc, Step.of inferInstance⟩
set_option maxHeartbeats 800000 in
set_option maxRecDepth 100000 in
theorem are_yes (A D : Option Addr) (c d n : Nat) (ps : List (Nat × Nat)) (w : World) (hn : ps.length = n) (hn2 : n ≤ 100000) (hr : RowP w A ps) (hs : RowP w D ps) :
    Calls Tryd.prog 15 #[.slice A n c, .slice D n d] w fun e w' => e = .returned (.bool true) ∧ Step w w' := by
  go_enter Tryd.func15, Tryd.ntmps15
  go_wp2
  go_loopw [5] (fun i wr => ∃ (k : Nat), k ≤ n ∧ i = .int .i64 k ∧ Step w wr) (fun i _ => n - (intOf i).toNat)
  case atStart => exact ⟨0, Nat.zero_le _, rfl, Step.of inferInstance⟩
  case round =>
    obtain ⟨k, hk, rfl, S⟩ := hrel
    by_cases hlt : k < n
    · obtain ⟨b, o, rfl, hb, hc1, hc2⟩ := (show RowP wr A ps from hr.to).at (k := k) (by omega)
      obtain ⟨b', o', rfl, hb', hd1, hd2⟩ := (show RowP wr D ps from hs.to).at (k := k) (by omega)
      obtain ⟨p, hp⟩ : ∃ p : Nat × Nat, Hid (p = ps.getD k (0, 0)) := ⟨_, Lib.hid rfl⟩
      rw [← hp.out] at hc1 hc2 hd1 hd2
      obtain ⟨x, y⟩ := p
      dsimp only at hc1 hc2 hd1 hd2
      clear hr hs
      go_wp2
      go_quiet (fail)
      go_wp2
      go_roundw
      case rel => exact ⟨k + 1, by omega, by go_num, Step.of inferInstance⟩
      case measure => simp [intOf]; omega
    · have hkn : k = n := by omega
      subst hkn
      clear hr hs
      go_wp2
      go_ret
      exact ⟨rfl, S⟩
end ShM
end Go.Proofs.YtphelljbaodhpaaDoor
