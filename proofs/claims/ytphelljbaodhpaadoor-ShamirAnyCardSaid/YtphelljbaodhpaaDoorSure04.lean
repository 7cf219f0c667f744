/- sure of law 04: true whatever comes. Condition: errors.errorType reads as laid. -/
import Derived.Test.YtphelljbaodhpaaDoorShamU
import Derived.Test.YtphelljbaodhpaaDoorNumE04
namespace Go.Proofs.YtphelljbaodhpaaDoor
open Go.RowKit Go.Lib Go.Maps
namespace ShM
open SlR FpM FpC PoM PoC ErrAs
theorem srt_self {ps : List (Nat × Nat)} (h : Up ps) : srt ps = ps := (up_unique (List.Perm.refl _) h).symm
theorem shs5 : shs 5 [2] 3 = [(1, 7), (2, 9), (3, 11)] := by decide
theorem up3 : Up [(1, 7), (2, 9), (3, 11)] := by unfold Up; decide
theorem up2 : Up [(2, 9), (3, 11)] := by unfold Up; decide
theorem up12 : Up [(1, 7), (2, 9), (3, 12)] := by unfold Up; decide
theorem sum5 : sumL [(1, 7), (2, 9), (3, 11)] [(1, 7), (2, 9), (3, 11)] = [(1, 14), (2, 18), (3, 22)] := by
  unfold sumL
  rw [srt_self up3]
  decide
theorem fit3 : Fit [(1, 7), (2, 9), (3, 11)] := fit_any.mp (by decide)
theorem fit2 : Fit [(2, 9), (3, 11)] := fit_any.mp (by decide)
theorem fit1 : Fit [(1, 7)] := fit_any.mp (by decide)
theorem fit12 : Fit [(1, 7), (2, 9), (3, 12)] := fit_any.mp (by decide)
theorem fit00 : Fit [(1, 0), (1, 0)] := fit_any.mp (by decide)
theorem jn5 : jn [(2, 9), (3, 11)] 2 = 5 := by
  unfold jn
  rw [srt_self up2]
  show thr [2, 3] [9, 11] 0 2 = 5
  have h := thr_curve (xs := [2, 3]) (ys := [9, 11]) (c := [5, 2]) (by decide) (by decide) (fun j hj => by
    match j, hj with
    | 0, _ => decide
    | 1, _ => decide) 0
  exact h.trans (by decide)
theorem ok2 : okB [(2, 9), (3, 11)] 2 = true := lineB_ge _ _ _ (by rw [fs_len, srt_len]; decide)
theorem ok12 : okB [(1, 7), (2, 9), (3, 12)] 2 = false := by
  unfold okB
  rw [srt_self up12]
  refine line_no (j := 2) (by decide) (by decide) ?_
  show thr [1, 2] [7, 9] 3 2 ≠ fOf 12
  have h := thr_curve (xs := [1, 2]) (ys := [7, 9]) (c := [5, 2]) (by decide) (by decide) (fun j hj => by
    match j, hj with
    | 0, _ => decide
    | 1, _ => decide) 3
  have e : thr [1, 2] [7, 9] 3 2 = hor 3 [5, 2] := h
  rw [e]
  decide
theorem s_split (w : World) (H : Nat) (hH : w.heap.size = H) : Calls Tryd.prog 7 #[.int .u64 5, .slice (some ⟨H, 0, none⟩) 1 1, .int .i64 3] (w.alloc (.cells #[.int .u64 2] 22 (0, 0))) fun e w' => ∃ g c', e = .returned (.tuple #[.slice (some ⟨g, 0, none⟩) 3 c', .nilIface]) ∧ RowP w' (some ⟨g, 0, none⟩) [(1, 7), (2, 9), (3, 11)] ∧ Hid (3 ≤ c') ∧ Step w w' :=
  (split_ok 5 (some ⟨H, 0, none⟩) 1 1 3 [2] _ rfl (by omega) (by omega) (Row.lit1 w H _ 2 hH)).mono fun e w' ⟨A', c', h1, h2, h3, h4⟩ => by
    rw [shs5] at h2
    obtain ⟨g, rfl, h5⟩ := own_some h2 (by omega) rfl
    exact ⟨g, c', h1, h5, Lib.hid h3, Step.of inferInstance⟩
theorem s_join (w : World) (g c : Nat) (hr : RowP w (some ⟨g, 0, none⟩) [(1, 7), (2, 9), (3, 11)]) : Calls Tryd.prog 11 #[.slice (some ⟨g, 2, none⟩) 2 c, .int .i64 2] w fun e w' => e = .returned (.tuple #[.int .u64 5, .nilIface]) ∧ Step w w' := by
  have h := join_ok (some ⟨g, 2, none⟩) c 2 2 [(2, 9), (3, 11)] w rfl (by omega) (hr.drop 1) (Lib.hid fit2) (Lib.hid (by decide)) (by omega) (by omega) ok2
  rw [jn5] at h
  exact h
theorem s_few (w : World) (g c : Nat) (hr : RowP w (some ⟨g, 0, none⟩) [(1, 7), (2, 9), (3, 11)]) : Calls Tryd.prog 11 #[.slice (some ⟨g, 0, none⟩) 1 c, .int .i64 2] w fun e w' => e = .returned (.tuple #[.int .u64 0, .iface 55 (.int .i64 7)]) ∧ Step w w' :=
  join_few (some ⟨g, 0, none⟩) c 1 2 [(1, 7)] w rfl (by omega) (hr.take 1) (Lib.hid fit1) (Lib.hid (by decide)) (by omega) (by omega)
theorem s_sum (w : World) (g c : Nat) (hr : RowP w (some ⟨g, 0, none⟩) [(1, 7), (2, 9), (3, 11)]) : Calls Tryd.prog 13 #[.slice (some ⟨g, 0, none⟩) 3 c, .slice (some ⟨g, 0, none⟩) 3 c] w fun e w' => ∃ g' c', e = .returned (.tuple #[.slice (some ⟨g', 0, none⟩) 3 c', .nilIface]) ∧ (∀ z, Ext w' z → z.cell? ⟨g', 5, none⟩ = some (.int .u64 22)) ∧ Step w w' :=
  (sum_ok _ _ c c 3 _ _ w rfl (by omega) hr (Lib.hid fit3) (Lib.hid (by decide)) rfl hr (Lib.hid fit3) (Lib.hid (by decide)) (Lib.hid rfl)).mono fun e w' ⟨A', c', h1, h2, h3, h4⟩ => by
    rw [sum5] at h2
    obtain ⟨g', rfl, h5⟩ := own_some h2 (by omega) rfl
    refine ⟨g', c', h1, fun z hz => ?_, h4⟩
    obtain ⟨b, o, e', _, _, h6⟩ := (show RowP z _ _ from h5.to).at (k := 2) (by decide)
    cases e'
    exact h6
theorem RowP.lit2 (w : World) (H : Nat) (t : TypeId) (a b c d : Nat) (h : w.heap.size = H) : RowP (w.alloc (.cells #[.int .u64 a, .int .u64 b, .int .u64 c, .int .u64 d] t (0, 0))) (some ⟨H, 0, none⟩) [(a, b), (c, d)] := by
  subst h
  intro j hj
  match j, hj with
  | 0, hj => exact ⟨_, 0, rfl, by simp, by simp, by simp⟩
  | 1, hj => exact ⟨_, 0, rfl, by simp, by simp, by simp⟩
theorem RowP.lit3 (w : World) (H : Nat) (t : TypeId) (a b c d e f : Nat) (h : w.heap.size = H) : RowP (w.alloc (.cells #[.int .u64 a, .int .u64 b, .int .u64 c, .int .u64 d, .int .u64 e, .int .u64 f] t (0, 0))) (some ⟨H, 0, none⟩) [(a, b), (c, d), (e, f)] := by
  subst h
  intro j hj
  match j, hj with
  | 0, hj => exact ⟨_, 0, rfl, by simp, by simp, by simp⟩
  | 1, hj => exact ⟨_, 0, rfl, by simp, by simp, by simp⟩
  | 2, hj => exact ⟨_, 0, rfl, by simp, by simp, by simp⟩
theorem s_dup (w : World) (H : Nat) (hH : w.heap.size = H) : Calls Tryd.prog 9 #[.slice (some ⟨H, 0, none⟩) 2 2] (w.alloc (.cells #[.int .u64 1, .int .u64 0, .int .u64 1, .int .u64 0] 51 (0, 0))) fun e w' => e = .returned (.tuple #[.slice none 0 0, .iface 55 (.int .i64 8)]) ∧ Step w w' :=
  (sorted_dup _ 2 2 [(1, 0), (1, 0)] _ rfl (by omega) (RowP.lit2 w H _ 1 0 1 0 hH) (Lib.hid fit00) (Lib.hid (by decide))).mono fun _ _ ⟨h1, h2⟩ => ⟨h1, Step.of inferInstance⟩
theorem s_no (w : World) (H : Nat) (hH : w.heap.size = H) : Calls Tryd.prog 11 #[.slice (some ⟨H, 0, none⟩) 3 3, .int .i64 2] (w.alloc (.cells #[.int .u64 1, .int .u64 7, .int .u64 2, .int .u64 9, .int .u64 3, .int .u64 12] 51 (0, 0))) fun e w' => e = .returned (.tuple #[.int .u64 0, .iface 55 (.int .i64 4)]) ∧ Step w w' :=
  (join_no _ 3 3 2 [(1, 7), (2, 9), (3, 12)] _ rfl (by omega) (RowP.lit3 w H _ 1 7 2 9 3 12 hH) (Lib.hid fit12) (Lib.hid (by decide)) (by omega) (by omega) ok12).mono fun _ _ ⟨h1, h2⟩ => ⟨h1, Step.of inferInstance⟩
theorem s_are (w : World) (g c H : Nat) (hr : RowP w (some ⟨g, 0, none⟩) [(1, 7), (2, 9), (3, 11)]) (hH : w.heap.size = H) : Calls Tryd.prog 15 #[.slice (some ⟨g, 0, none⟩) 3 c, .slice (some ⟨H, 0, none⟩) 3 3] (w.alloc (.cells #[.int .u64 1, .int .u64 7, .int .u64 2, .int .u64 9, .int .u64 3, .int .u64 11] 54 (0, 0))) fun e w' => e = .returned (.bool true) ∧ Step w w' :=
  (are_yes _ _ c 3 3 [(1, 7), (2, 9), (3, 11)] _ rfl (by omega) hr.to (RowP.lit3 w H _ 1 7 2 9 3 11 hH)).mono fun _ _ ⟨h1, h2⟩ => ⟨h1, Step.of inferInstance⟩
set_option maxHeartbeats 1600000 in
set_option maxRecDepth 100000 in
theorem sure_any (w : World) (hL : Laid w) : Calls Tryd.prog 5 #[] w fun e w' => e = .returned (.bool true) ∧ Step w w' := by
  have hmin : min (1 : Int) 3 = 1 := by decide
  go_enter Tryd.func5, Tryd.ntmps5
  go_wp2_with (first
    | (go_at_call 7; ((with_reducible refine (s_split _ _ (by simp)).mono ?_); rintro e w1 ⟨g, c1, rfl, R1, hc1, S1⟩; have hc2 : ¬ c1 = 1 := (by have := hc1.out; omega); have hc3 : (1 : Int) ≤ (c1 : Int) := (by have := hc1.out; omega)))
    | (go_at_call 11; ((with_reducible refine (s_join _ _ _ R1.to).mono ?_); rintro e w2 ⟨rfl, S2⟩))
    | (go_at_call 11; ((with_reducible refine (s_few _ _ _ R1.to).mono ?_); rintro e w3 ⟨rfl, S3⟩))
    | (go_at_call 13; ((with_reducible refine (s_sum _ _ _ R1.to).mono ?_); rintro e w4 ⟨g4, c4, rfl, R4, S4⟩))
    | (go_at_call 9; ((with_reducible refine (s_dup _ _ (by simp)).mono ?_); rintro e w5 ⟨rfl, S5⟩))
    | (go_at_call 11; ((with_reducible refine (s_no _ _ (by simp)).mono ?_); rintro e w6 ⟨rfl, S6⟩))
    | (go_at_call 15; ((with_reducible refine (s_are _ _ _ _ R1.to (by simp)).mono ?_); rintro e w7 ⟨rfl, S7⟩))
    | (go_at_call 16; ((with_reducible refine (Num04.some_ 7 _ hL.to).mono ?_); rintro e w8 ⟨rfl, S8⟩; have hW := R4 w8 inferInstance))
    | (go_at_call 16; ((with_reducible refine (Num04.some_ 8 _ hL.to).mono ?_); rintro e w9 ⟨rfl, S9⟩))
    | (go_at_call 16; ((with_reducible refine (Num04.some_ 4 _ hL.to).mono ?_); rintro e w10 ⟨rfl, S10⟩)))
  go_ret
  exact ⟨rfl, Step.of inferInstance⟩
end ShM
end Go.Proofs.YtphelljbaodhpaaDoor
