/- Sum of shamir and of the document. Conditions: what is handed in reads as rows of points. -/
import Derived.Test.YtphelljbaodhpaaDoorShamJ
namespace Go.Proofs.YtphelljbaodhpaaDoor
open Go.RowKit Go.Lib Go.Maps
namespace ShM
open SlR FpM FpC PoM PoC
/-- The sum of two lists of points of the same places. -/
def sumL (ps qs : List (Nat × Nat)) : List (Nat × Nat) := List.zipWith (fun p q => (p.1, fAdd p.2 q.2)) (srt ps) (srt qs)
theorem sumL_len (ps qs : List (Nat × Nat)) (n : Nat) (h1 : ps.length = n) (h2 : qs.length = n) : (sumL ps qs).length = n := by unfold sumL; rw [List.length_zipWith, srt_len, srt_len]; omega
theorem sumL_at (ps qs : List (Nat × Nat)) (n k : Nat) (h1 : ps.length = n) (h2 : qs.length = n) (hk : k < n) : (sumL ps qs).getD k (0, 0) = (((srt ps).getD k (0, 0)).1, fAdd ((srt ps).getD k (0, 0)).2 ((srt qs).getD k (0, 0)).2) := by
  rw [getD_ofP (by rw [sumL_len ps qs n h1 h2]; exact hk), getD_ofP (by rw [srt_len]; omega), getD_ofP (by rw [srt_len]; omega)]
  simp [sumL]
theorem fs_ext {ps qs : List (Nat × Nat)} {n : Nat} (h1 : ps.length = n) (h2 : qs.length = n) (h : ∀ k, k < n → (ps.getD k (0, 0)).1 = (qs.getD k (0, 0)).1) : fs ps = fs qs := by
  apply List.ext_getElem (by simp [h1, h2])
  intro k hk1 hk2
  have hk : k < n := by rw [fs_len] at hk1; omega
  have := h k hk
  rw [getD_ofP (by omega), getD_ofP (by omega)] at this
  simpa using this
theorem fs_ne {ps qs : List (Nat × Nat)} {k : Nat} (h : (ps.getD k (0, 0)).1 ≠ (qs.getD k (0, 0)).1) : fs ps ≠ fs qs := fun e => by
  rw [← fs_at, ← fs_at, e] at h
  exact h rfl
theorem RowP.setOther {w : World} {g h o j : Nat} {ps : List (Nat × Nat)} (hr : RowP w (some ⟨h, o, none⟩) ps) (hne : h ≠ g) (u : Value) : RowP (w.setCell ⟨g, j, none⟩ u) (some ⟨h, o, none⟩) ps := fun i hi => by
  obtain ⟨b, o', e, h1, h2, h3⟩ := hr i hi
  cases e
  refine ⟨h, o, rfl, by simpa using h1, ?_, ?_⟩
  · rw [World.cell?_setCell_other w ⟨g, j, none⟩ _ u (fun e => by injection e with e; exact hne e.symm)]; exact h2
  · rw [World.cell?_setCell_other w ⟨g, j, none⟩ _ u (fun e => by injection e with e; exact hne e.symm)]; exact h3
theorem mix2 (zs ps : List (Nat × Nat)) (k n : Nat) (h1 : zs.length = n) (h2 : ps.length = n) (hk : k < n) (z : Nat × Nat) (hz : zs.getD k (0, 0) = z) : (zs.take k ++ ps.drop k).set k z = zs.take (k + 1) ++ ps.drop (k + 1) := by
  rw [take_snocP zs k (by omega), hz, List.set_append_right _ _ (by simp; omega), List.append_assoc]
  have e : k - (zs.take k).length = 0 := by simp; omega
  rw [e, List.drop_eq_getElem_cons (by omega : k < ps.length)]; rfl
theorem mix2_at (zs ps : List (Nat × Nat)) (k n : Nat) (h1 : zs.length = n) (h2 : ps.length = n) (hk : k < n) : (zs.take k ++ ps.drop k).getD k (0, 0) = ps.getD k (0, 0) := by
  rw [List.getD_eq_getElem?_getD, List.getElem?_append_right (by simp; omega), List.getElem?_drop, List.getD_eq_getElem?_getD]
  congr 2
  simp; omega
theorem sum_err1 (A B : Option Addr) (c d n m : Nat) (ps : List (Nat × Nat)) (w : World) (hr : RowP w A ps) (er : Int)
    (cS : ∀ w, RowP w A ps → Calls Tryd.prog 9 #[.slice A n c] w fun e w' => e = .returned (.tuple #[.slice none 0 0, .iface 55 (.int .i64 er)]) ∧ Step w w') :
    Calls Tryd.prog 13 #[.slice A n c, .slice B m d] w fun e w' => e = .returned (.tuple #[.slice none 0 0, .iface 55 (.int .i64 er)]) ∧ Step w w' := by
  go_enter Tryd.func13, Tryd.ntmps13
  go_wp2_with (go_at_call 9; (refine (cS _ hr.to).mono ?_); rintro e w1 ⟨rfl, S1⟩)
  exact bodyPost_ret (v := .tuple #[.slice none 0 0, .iface 55 (.int .i64 er)]) (by simp [results, Tryd.results13, go_sem]) rfl ⟨rfl, Step.of inferInstance⟩
theorem refSum_err1 (A B : Option Addr) (c d n m : Nat) (ps : List (Nat × Nat)) (w : World) (hr : RowP w A ps) (er : Int) (he : er ≠ 0)
    (cS : ∀ w, RowP w A ps → Calls Tryd.prog 10 #[.slice A n c] w fun e w' => e = .returned (.tuple #[.slice none 0 0, .int .i64 er]) ∧ Step w w') :
    Calls Tryd.prog 14 #[.slice A n c, .slice B m d] w fun e w' => e = .returned (.tuple #[.slice none 0 0, .int .i64 er]) ∧ Step w w' := by
  have h2 : (er != 0) = true := by simpa using he
  go_enter Tryd.func14, Tryd.ntmps14
  go_wp2_with (go_at_call 10; (refine (cS _ hr.to).mono ?_); rintro e w1 ⟨rfl, S1⟩)
  exact bodyPost_ret (v := .tuple #[.slice none 0 0, .int .i64 er]) (by simp [results, Tryd.results14, go_sem]) rfl ⟨rfl, Step.of inferInstance⟩
theorem sum_err2 (A B : Option Addr) (c d n m : Nat) (ps qs : List (Nat × Nat)) (w : World) (hn : ps.length = n) (hn2 : n ≤ 64) (hr : RowP w A ps) (hf : Hid (Fit ps)) (hd : Hid (fs ps).Nodup) (hq : RowP w B qs) (er : Int)
    (cS : ∀ w, RowP w B qs → Calls Tryd.prog 9 #[.slice B m d] w fun e w' => e = .returned (.tuple #[.slice none 0 0, .iface 55 (.int .i64 er)]) ∧ Step w w') :
    Calls Tryd.prog 13 #[.slice A n c, .slice B m d] w fun e w' => e = .returned (.tuple #[.slice none 0 0, .iface 55 (.int .i64 er)]) ∧ Step w w' := by
  have cA := fun w h => sorted_ok A c n ps w hn hn2 h hf hd
  go_enter Tryd.func13, Tryd.ntmps13
  go_wp2_with (first
    | (go_at_call 9; (with_reducible refine (cA _ hr.to).mono ?_); rintro e w1 ⟨A1, c1, rfl, O1, hc1, S1⟩)
    | (go_at_call 9; (with_reducible refine (cS _ hq.to).mono ?_); rintro e w2 ⟨rfl, S2⟩))
  exact bodyPost_ret (v := .tuple #[.slice none 0 0, .iface 55 (.int .i64 er)]) (by simp [results, Tryd.results13, go_sem]) rfl ⟨rfl, Step.of inferInstance⟩
theorem refSum_err2 (A B : Option Addr) (c d n m : Nat) (ps qs : List (Nat × Nat)) (w : World) (hn : ps.length = n) (hn2 : n ≤ 64) (hr : RowP w A ps) (hf : Hid (Fit ps)) (hd : Hid (fs ps).Nodup) (hq : RowP w B qs) (er : Int) (he : er ≠ 0)
    (cS : ∀ w, RowP w B qs → Calls Tryd.prog 10 #[.slice B m d] w fun e w' => e = .returned (.tuple #[.slice none 0 0, .int .i64 er]) ∧ Step w w') :
    Calls Tryd.prog 14 #[.slice A n c, .slice B m d] w fun e w' => e = .returned (.tuple #[.slice none 0 0, .int .i64 er]) ∧ Step w w' := by
  have h2 : (er != 0) = true := by simpa using he
  have cA := fun w h => refSorted_ok A c n ps w hn hn2 h hf hd
  go_enter Tryd.func14, Tryd.ntmps14
  go_wp2_with (first
    | (go_at_call 10; (with_reducible refine (cA _ hr.to).mono ?_); rintro e w1 ⟨A1, c1, rfl, R1, hc1, S1⟩)
    | (go_at_call 10; (with_reducible refine (cS _ hq.to).mono ?_); rintro e w2 ⟨rfl, S2⟩))
  exact bodyPost_ret (v := .tuple #[.slice none 0 0, .int .i64 er]) (by simp [results, Tryd.results14, go_sem]) rfl ⟨rfl, Step.of inferInstance⟩
theorem sum_len (A B : Option Addr) (c d n m : Nat) (ps qs : List (Nat × Nat)) (w : World) (hn : ps.length = n) (hn2 : n ≤ 64) (hr : RowP w A ps) (hf : Hid (Fit ps)) (hd : Hid (fs ps).Nodup) (hm : qs.length = m) (hm2 : m ≤ 64) (hq : RowP w B qs) (hg : Hid (Fit qs)) (he : Hid (fs qs).Nodup) (hnm : n ≠ m) :
    Calls Tryd.prog 13 #[.slice A n c, .slice B m d] w fun e w' => e = .returned (.tuple #[.slice none 0 0, .iface 55 (.int .i64 1)]) ∧ Step w w' := by
  have T : ((n : Int) != (m : Int)) = true := by simp; omega
  have cA := fun w h => sorted_ok A c n ps w hn hn2 h hf hd
  have cB := fun w h => sorted_ok B d m qs w hm hm2 h hg he
  go_enter Tryd.func13, Tryd.ntmps13
  go_wp2_with (first
    | (go_at_call 9; (with_reducible refine (cA _ hr.to).mono ?_); rintro e w1 ⟨A1, c1, rfl, O1, hc1, S1⟩)
    | (go_at_call 9; (with_reducible refine (cB _ hq.to).mono ?_); rintro e w2 ⟨A2, c2, rfl, O2, hc2, S2⟩))
  exact bodyPost_ret (v := .tuple #[.slice none 0 0, .iface 55 (.int .i64 1)]) (by simp [results, Tryd.results13, go_sem]) rfl ⟨rfl, Step.of inferInstance⟩
theorem refSum_len (A B : Option Addr) (c d n m : Nat) (ps qs : List (Nat × Nat)) (w : World) (hn : ps.length = n) (hn2 : n ≤ 64) (hr : RowP w A ps) (hf : Hid (Fit ps)) (hd : Hid (fs ps).Nodup) (hm : qs.length = m) (hm2 : m ≤ 64) (hq : RowP w B qs) (hg : Hid (Fit qs)) (he : Hid (fs qs).Nodup) (hnm : n ≠ m) :
    Calls Tryd.prog 14 #[.slice A n c, .slice B m d] w fun e w' => e = .returned (.tuple #[.slice none 0 0, .int .i64 1]) ∧ Step w w' := by
  have T : ((n : Int) != (m : Int)) = true := by simp; omega
  have cA := fun w h => refSorted_ok A c n ps w hn hn2 h hf hd
  have cB := fun w h => refSorted_ok B d m qs w hm hm2 h hg he
  go_enter Tryd.func14, Tryd.ntmps14
  go_wp2_with (first
    | (go_at_call 10; (with_reducible refine (cA _ hr.to).mono ?_); rintro e w1 ⟨A1, c1, rfl, R1, hc1, S1⟩)
    | (go_at_call 10; (with_reducible refine (cB _ hq.to).mono ?_); rintro e w2 ⟨A2, c2, rfl, R2, hc2, S2⟩))
  exact bodyPost_ret (v := .tuple #[.slice none 0 0, .int .i64 1]) (by simp [results, Tryd.results14, go_sem]) rfl ⟨rfl, Step.of inferInstance⟩
set_option maxHeartbeats 1600000 in
set_option maxRecDepth 100000 in
theorem sum_any (A B : Option Addr) (c d n : Nat) (ps qs : List (Nat × Nat)) (w : World) (hn : ps.length = n) (hn2 : n ≤ 64) (hr : RowP w A ps) (hf : Hid (Fit ps)) (hd : Hid (fs ps).Nodup) (hm : qs.length = n) (hq : RowP w B qs) (hg : Hid (Fit qs)) (he : Hid (fs qs).Nodup) :
    Calls Tryd.prog 13 #[.slice A n c, .slice B n d] w fun e w' => (Hid (fs (srt ps) = fs (srt qs)) ∧ (∃ A' c', e = .returned (.tuple #[.slice A' n c', .nilIface]) ∧ w'.ownsRow w.heap.size 51 2 (.slice A' n c') n (pc (sumL ps qs)) ∧ n ≤ c') ∨ Hid (fs (srt ps) ≠ fs (srt qs)) ∧ e = .returned (.tuple #[.slice none 0 0, .iface 55 (.int .i64 1)])) ∧ Step w w' := by
  have cA := fun w h => sorted_ok A c n ps w hn hn2 h hf hd
  have cB := fun w h => sorted_ok B d n qs w hm hn2 h hg he
  go_enter Tryd.func13, Tryd.ntmps13
  go_wp2_with (first
    | (go_at_call 9; (with_reducible refine (cA _ hr.to).mono ?_); rintro e w1 ⟨A1, c1, rfl, O1, hc1, S1⟩)
    | (go_at_call 9; (with_reducible refine (cB _ hq.to).mono ?_); rintro e w2 ⟨A2, c2, rfl, O2, hc2, S2⟩))
  have hz := Lib.hid (sumL_len ps qs n hn hm)
  have hls : (srt ps).length = n := (srt_len ps).trans hn
  have hlq : (srt qs).length = n := (srt_len qs).trans hm
  have hgh : Hid (∀ g h o, A1 = some ⟨g, 0, none⟩ → A2 = some ⟨h, o, none⟩ → h ≠ g) := Lib.hid fun g h o e1 e2 => by
    subst e1 e2
    have h1 := (O1.lt g rfl).2
    have h2 := (O2.lt h rfl).1
    omega
  have hst : Hid (w2.ownsRow w.heap.size 51 2 (.slice A1 n c1) n (pc ((sumL ps qs).take 0 ++ (srt ps).drop 0))) := Lib.hid (own_ext O1 inferInstance)
  have R2 : RowP w2 A2 (srt qs) := RowP.of_own O2 hlq
  have SW : Step w w2 := Step.of inferInstance
  clear cA cB hr hq O1 O2 S1 S2
  go_loopw [35, 9, 10] (fun i _ _ wr => ∃ (k : Nat), k ≤ n ∧ i = .int .i64 k ∧ wr.ownsRow w.heap.size 51 2 (.slice A1 n c1) n (pc ((sumL ps qs).take k ++ (srt ps).drop k)) ∧ RowP wr A2 (srt qs) ∧ Below w.heap.size w wr ∧ Hid (∀ j, j < k → ((srt ps).getD j (0, 0)).1 = ((srt qs).getD j (0, 0)).1)) (fun i _ _ _ => n - (intOf i).toNat)
  case atStart => exact ⟨0, Nat.zero_le _, rfl, hst.out, R2, SW.h, Lib.hid fun j h => absurd h (Nat.not_lt_zero _)⟩
  case round =>
    clear hst R2 SW
    obtain ⟨k, hk, rfl, hown, hrow, hb, heq⟩ := hrel
    by_cases hlt : k < n
    · obtain ⟨h, o', rfl, hhl, hd1, hd2⟩ := hrow.at (k := k) (by omega)
      obtain ⟨g, cap, hv, hgb, hgl⟩ := hown.form (by omega)
      injection hv with hA _ hcc
      subst hA hcc
      have hne := hgh.out g h o' rfl rfl
      have hq := pc_at ((sumL ps qs).take k ++ (srt ps).drop k) k (by simp [hz.out, hls]; omega)
      rw [mix2_at _ _ k n hz.out hls hlt] at hq
      have hfr := hown.frozenAt (k * 2 + 1)
      have hc0 := (hown.cellAt (k * 2) (by omega)).trans hq.1
      have hc1 := (hown.cellAt (k * 2 + 1) (by omega)).trans hq.2
      have HX := Lib.hid (pc_setY ((sumL ps qs).take k ++ (srt ps).drop k) k (fAdd ((srt ps).getD k (0, 0)).2 ((srt qs).getD k (0, 0)).2))
      rw [mix2_at _ _ k n hz.out hls hlt, mix2 _ _ k n hz.out hls hlt _ (sumL_at ps qs n k hn hm hlt)] at HX
      have HE : Hid (((srt ps).getD k (0, 0)).1 = ((srt qs).getD k (0, 0)).1 → ∀ j, j < k + 1 → ((srt ps).getD j (0, 0)).1 = ((srt qs).getD j (0, 0)).1) := Lib.hid fun e j hj => by
        rcases Nat.lt_or_ge j k with h | h
        · exact heq.out j h
        · have e2 : j = k := by omega
          subst e2
          exact e
      have HN : Hid (((srt ps).getD k (0, 0)).1 ≠ ((srt qs).getD k (0, 0)).1 → fs (srt ps) ≠ fs (srt qs)) := Lib.hid fs_ne
      generalize (srt ps).getD k (0, 0) = p at hc0 hc1 HX HE HN
      generalize (srt qs).getD k (0, 0) = q at hd1 hd2 HX HE HN
      obtain ⟨x1, y1⟩ := p
      obtain ⟨x2, y2⟩ := q
      dsimp only at hc0 hc1 hd1 hd2 HX HE HN
      have hca0 : ∀ o, (wr.alloc o).cell? ⟨g, k * 2, none⟩ = some (.int .u64 x1) := fun o => (World.cell?_alloc_lt wr o _ hgl).trans hc0
      have hca1 : ∀ o, (wr.alloc o).cell? ⟨g, k * 2 + 1, none⟩ = some (.int .u64 y1) := fun o => (World.cell?_alloc_lt wr o _ hgl).trans hc1
      have hfa := fun o => (hown.alloc o).frozenAt (k * 2 + 1)
      have HO := Lib.hid hown
      have HR := Lib.hid hrow
      have HB := Lib.hid hb
      clear hown hrow hb hq heq hc0 hc1 hfr
      by_cases hx : x1 = x2
      · subst hx
        go_wp2
        go_quiet (fail)
        go_wp2
        go_region_with ((go_at_call 29; (refine (qadd _ _ _).mono ?_); rintro e w' ⟨rfl, n1, rfl⟩))
        all_goals (go_wp2)
        all_goals (go_roundw)
        all_goals (try exact ⟨k + 1, by omega, by go_num, by rw [← HX.out]; exact (World.ownsRow.stored (World.ownsRow.alloc HO.out _) (k * 2 + 1) _).1, RowP.setOther (RowS.to HR.out) hne _, ((below_drewN (HB.out.alloc HB.out.size _) _).setCell hgb _), Lib.hid (HE.out (by trivial))⟩)
        all_goals (try exact ⟨k + 1, by omega, by go_num, by rw [← HX.out]; exact (World.ownsRow.stored (w := World.drewN _ _) (World.ownsRow.alloc HO.out _) (k * 2 + 1) _).1, RowP.setOther (RowS.to HR.out) hne _, ((below_drewN (HB.out.alloc HB.out.size _) _).setCell hgb _), Lib.hid (HE.out (by trivial))⟩)
        all_goals (simp [intOf]; omega)
      · have T : ((x2 : Int) != (x1 : Int)) = true := by simp; omega
        go_wp2
        go_quiet (fail)
        go_wp2
        exact bodyPost_ret (v := .tuple #[.slice none 0 0, .iface 55 (.int .i64 1)]) (by simp [results, Tryd.results13, go_sem]) rfl ⟨.inr ⟨Lib.hid (HN.out hx), rfl⟩, ⟨below_drewN (HB.out.alloc HB.out.size _) _⟩⟩
    · have hkn : k = n := by omega
      subst hkn
      have hT : (sumL ps qs).take k ++ (srt ps).drop k = sumL ps qs := by rw [List.take_of_length_le (by rw [hz.out]; omega), List.drop_of_length_le (by omega), List.append_nil]
      rw [hT] at hown
      have hfe : Hid (fs (srt ps) = fs (srt qs)) := Lib.hid (fs_ext hls hlq heq.out)
      have HO := Lib.hid hown
      have S : Step w wr := ⟨hb⟩
      clear hrow hown hb
      go_wp2
      exact bodyPost_ret (v := .tuple #[.slice A1 k c1, .nilIface]) (by simp [results, Tryd.results13, go_sem]) rfl ⟨.inl ⟨hfe, A1, c1, rfl, HO.out, hc1⟩, S⟩
set_option maxHeartbeats 1600000 in
set_option maxRecDepth 100000 in
theorem refSum_any (A B : Option Addr) (c d n : Nat) (ps qs : List (Nat × Nat)) (w : World) (hn : ps.length = n) (hn2 : n ≤ 64) (hr : RowP w A ps) (hf : Hid (Fit ps)) (hd : Hid (fs ps).Nodup) (hm : qs.length = n) (hq : RowP w B qs) (hg : Hid (Fit qs)) (he : Hid (fs qs).Nodup) :
    Calls Tryd.prog 14 #[.slice A n c, .slice B n d] w fun e w' => (Hid (fs (srt ps) = fs (srt qs)) ∧ (∃ A' c', e = .returned (.tuple #[.slice A' n c', .int .i64 0]) ∧ RowP w' A' (sumL ps qs) ∧ n ≤ c') ∨ Hid (fs (srt ps) ≠ fs (srt qs)) ∧ e = .returned (.tuple #[.slice none 0 0, .int .i64 1])) ∧ Step w w' := by
  obtain ⟨i0, hi, hz0, hz1, hz2⟩ := info_parts infoR
  have cA := fun w h => refSorted_ok A c n ps w hn hn2 h hf hd
  have cB := fun w h => refSorted_ok B d n qs w hm hn2 h hg he
  go_enter Tryd.func14, Tryd.ntmps14
  go_wp2_with (first
    | (go_at_call 10; (with_reducible refine (cA _ hr.to).mono ?_); rintro e w1 ⟨A1, c1, rfl, R1, hc1, S1⟩)
    | (go_at_call 10; (with_reducible refine (cB _ hq.to).mono ?_); rintro e w2 ⟨A2, c2, rfl, R2, hc2, S2⟩))
  have hz := Lib.hid (sumL_len ps qs n hn hm)
  have hls : (srt ps).length = n := (srt_len ps).trans hn
  have hlq : (srt qs).length = n := (srt_len qs).trans hm
  have R1' : RowP w2 A1 (srt ps) := R1.to
  clear cA cB hr hq R1
  go_loopw [10, 11] (fun v i wr => ∃ (k : Nat), k ≤ n ∧ i = .int .i64 k ∧ wr.ownsRow w2.heap.size 54 2 v k (pc ((sumL ps qs).take k)) ∧ Step w2 wr ∧ Hid (∀ j, j < k → ((srt ps).getD j (0, 0)).1 = ((srt qs).getD j (0, 0)).1)) (fun _ i _ => n - (intOf i).toNat)
  case atStart => exact ⟨0, Nat.zero_le _, rfl, World.ownsRow_nil _ _ _ _, Step.of inferInstance, Lib.hid fun j h => absurd h (Nat.not_lt_zero _)⟩
  case round =>
    obtain ⟨k, hk, rfl, hown, S, heq⟩ := hrel
    obtain ⟨A', c', rfl, hcc⟩ := own_form2 hown
    by_cases hlt : k < n
    · obtain ⟨g, o, rfl, hgl, hc0, hc1'⟩ := R1'.at (k := k) (by omega)
      obtain ⟨h, o', rfl, hhl, hd0, hd1⟩ := R2.at (k := k) (by omega)
      have HX : Hid ((sumL ps qs).take k ++ [(sumL ps qs).getD k (0, 0)] = (sumL ps qs).take (k + 1)) := Lib.hid (take_snocP _ k (by rw [hz.out]; exact hlt)).symm
      rw [sumL_at ps qs n k hn hm hlt] at HX
      have HE : Hid (((srt ps).getD k (0, 0)).1 = ((srt qs).getD k (0, 0)).1 → ∀ j, j < k + 1 → ((srt ps).getD j (0, 0)).1 = ((srt qs).getD j (0, 0)).1) := Lib.hid fun e j hj => by
        rcases Nat.lt_or_ge j k with h | h
        · exact heq.out j h
        · have e2 : j = k := by omega
          subst e2
          exact e
      have HN : Hid (((srt ps).getD k (0, 0)).1 ≠ ((srt qs).getD k (0, 0)).1 → fs (srt ps) ≠ fs (srt qs)) := Lib.hid fs_ne
      generalize (srt ps).getD k (0, 0) = p at hc0 hc1' HX HE HN
      generalize (srt qs).getD k (0, 0) = q at hd0 hd1 HX HE HN
      obtain ⟨x1, y1⟩ := p
      obtain ⟨x2, y2⟩ := q
      dsimp only at hc0 hc1' hd0 hd1 HX HE HN
      have HO := Lib.hid hown
      have hr0 : wr.cell? ⟨g, o + k * 2, none⟩ = some (.int .u64 x1) := (S.h.cell hgl).trans hc0
      have hr1 : wr.cell? ⟨g, o + k * 2 + 1, none⟩ = some (.int .u64 y1) := (S.h.cell hgl).trans hc1'
      have hs0 : wr.cell? ⟨h, o' + k * 2, none⟩ = some (.int .u64 x2) := (S.h.cell hhl).trans hd0
      have hs1 : wr.cell? ⟨h, o' + k * 2 + 1, none⟩ = some (.int .u64 y2) := (S.h.cell hhl).trans hd1
      clear hown heq
      by_cases hx : x1 = x2
      · subst hx
        go_wp2
        go_quiet (fail)
        go_wp2
        go_region_held3 (fun w' => w'.cell? ⟨g, o + k * 2, none⟩ = some (.int .u64 x1) ∧ w'.cell? ⟨g, o + k * 2 + 1, none⟩ = some (.int .u64 y1) ∧ w'.cell? ⟨h, o' + k * 2 + 1, none⟩ = some (.int .u64 y2) ∧ Step w2 w')
          (exact ⟨((Step.of (w := w2) inferInstance).h.cell hgl).trans hc0, ((Step.of (w := w2) inferInstance).h.cell hgl).trans hc1', ((Step.of (w := w2) inferInstance).h.cell hhl).trans hd1, Step.of inferInstance⟩)
          ((first
            | (go_at_call 17; (refine (radd _ _ _).mono ?_); rintro e w' ⟨rfl, n1, rfl⟩)
            | (refine App2.stepE w2 wr (by rfl) _ _ 26 (by rfl) 54 i0 _ Tryd.underlying26 hi hz0 hz1 hz2 rfl _ k ((sumL ps qs).take k) (by rfl) HO.out _ 1 1 [(x1, fAdd y1 y2)] (by rfl) rfl (RowP.lit1 _ _ _ (x1, fAdd y1 y2) (by simp)) (by omega) ?_; intro A4 c4 w4 O4 S4 hc4)))
        all_goals (go_wp2)
        all_goals (go_roundw)
        all_goals (try exact ⟨k + 1, by omega, by go_num, by rw [← HX.out]; exact O4, Step.of inferInstance, Lib.hid (HE.out (by trivial))⟩)
        all_goals (simp [intOf]; omega)
      · have T : ((x1 : Int) != (x2 : Int)) = true := by simp; omega
        go_wp2
        go_quiet (fail)
        go_wp2
        exact bodyPost_ret (v := .tuple #[.slice none 0 0, .int .i64 1]) (by simp [results, Tryd.results14, go_sem]) rfl ⟨.inr ⟨Lib.hid (HN.out hx), rfl⟩, Step.of inferInstance⟩
    · have hkn : k = n := by omega
      subst hkn
      have hT : (sumL ps qs).take k = sumL ps qs := List.take_of_length_le (by rw [hz.out]; omega)
      rw [hT] at hown
      have hfe : Hid (fs (srt ps) = fs (srt qs)) := Lib.hid (fs_ext hls hlq heq.out)
      have HO := Lib.hid hown
      clear hown R1' R2
      go_wp2
      exact bodyPost_ret (v := .tuple #[.slice A' k c', .int .i64 0]) (by simp [results, Tryd.results14, go_sem]) rfl ⟨.inl ⟨hfe, A', c', rfl, RowP.of_own HO.out hz.out, hcc⟩, Step.of inferInstance⟩
theorem sum_ok (A B : Option Addr) (c d n : Nat) (ps qs : List (Nat × Nat)) (w : World) (hn : ps.length = n) (hn2 : n ≤ 64) (hr : RowP w A ps) (hf : Hid (Fit ps)) (hd : Hid (fs ps).Nodup) (hm : qs.length = n) (hq : RowP w B qs) (hg : Hid (Fit qs)) (he : Hid (fs qs).Nodup) (hx : Hid (fs (srt ps) = fs (srt qs))) :
    Calls Tryd.prog 13 #[.slice A n c, .slice B n d] w fun e w' => ∃ A' c', e = .returned (.tuple #[.slice A' n c', .nilIface]) ∧ w'.ownsRow w.heap.size 51 2 (.slice A' n c') n (pc (sumL ps qs)) ∧ n ≤ c' ∧ Step w w' :=
  (sum_any A B c d n ps qs w hn hn2 hr hf hd hm hq hg he).mono fun _ _ ⟨h, s⟩ => by
    rcases h with ⟨_, A', c', h1, h2, h3⟩ | ⟨h, _⟩
    · exact ⟨A', c', h1, h2, h3, s⟩
    · exact absurd hx.out h.out
theorem sum_no (A B : Option Addr) (c d n : Nat) (ps qs : List (Nat × Nat)) (w : World) (hn : ps.length = n) (hn2 : n ≤ 64) (hr : RowP w A ps) (hf : Hid (Fit ps)) (hd : Hid (fs ps).Nodup) (hm : qs.length = n) (hq : RowP w B qs) (hg : Hid (Fit qs)) (he : Hid (fs qs).Nodup) (hx : Hid (fs (srt ps) ≠ fs (srt qs))) :
    Calls Tryd.prog 13 #[.slice A n c, .slice B n d] w fun e w' => e = .returned (.tuple #[.slice none 0 0, .iface 55 (.int .i64 1)]) ∧ Step w w' :=
  (sum_any A B c d n ps qs w hn hn2 hr hf hd hm hq hg he).mono fun _ _ ⟨h, s⟩ => by
    rcases h with ⟨h, _⟩ | ⟨_, h⟩
    · exact absurd h.out hx.out
    · exact ⟨h, s⟩
theorem refSum_ok (A B : Option Addr) (c d n : Nat) (ps qs : List (Nat × Nat)) (w : World) (hn : ps.length = n) (hn2 : n ≤ 64) (hr : RowP w A ps) (hf : Hid (Fit ps)) (hd : Hid (fs ps).Nodup) (hm : qs.length = n) (hq : RowP w B qs) (hg : Hid (Fit qs)) (he : Hid (fs qs).Nodup) (hx : Hid (fs (srt ps) = fs (srt qs))) :
    Calls Tryd.prog 14 #[.slice A n c, .slice B n d] w fun e w' => ∃ A' c', e = .returned (.tuple #[.slice A' n c', .int .i64 0]) ∧ RowP w' A' (sumL ps qs) ∧ n ≤ c' ∧ Step w w' :=
  (refSum_any A B c d n ps qs w hn hn2 hr hf hd hm hq hg he).mono fun _ _ ⟨h, s⟩ => by
    rcases h with ⟨_, A', c', h1, h2, h3⟩ | ⟨h, _⟩
    · exact ⟨A', c', h1, h2, h3, s⟩
    · exact absurd hx.out h.out
theorem refSum_no (A B : Option Addr) (c d n : Nat) (ps qs : List (Nat × Nat)) (w : World) (hn : ps.length = n) (hn2 : n ≤ 64) (hr : RowP w A ps) (hf : Hid (Fit ps)) (hd : Hid (fs ps).Nodup) (hm : qs.length = n) (hq : RowP w B qs) (hg : Hid (Fit qs)) (he : Hid (fs qs).Nodup) (hx : Hid (fs (srt ps) ≠ fs (srt qs))) :
    Calls Tryd.prog 14 #[.slice A n c, .slice B n d] w fun e w' => e = .returned (.tuple #[.slice none 0 0, .int .i64 1]) ∧ Step w w' :=
  (refSum_any A B c d n ps qs w hn hn2 hr hf hd hm hq hg he).mono fun _ _ ⟨h, s⟩ => by
    rcases h with ⟨h, _⟩ | ⟨_, h⟩
    · exact absurd h.out hx.out
    · exact ⟨h, s⟩
end ShM
end Go.Proofs.YtphelljbaodhpaaDoor
