/- The document's own Line (caucusref03). Conditions: what is handed in reads as a row of points. -/
import Derived.Test.YtphelljbaodhpaaDoorRef03
import Derived.Deep.RegionHeld3
namespace Go.Proofs.YtphelljbaodhpaaDoor
open Go.RowKit Go.Lib Go.Maps
namespace PoC
open SlR FpM FpC PoM
theorem v_eq (v y : Nat) : ((v : Int) == (y : Int) % 2305843009213693951) = decide (v = fOf y) := by
  have e2 : (y : Int) % 2305843009213693951 = ((fOf y : Nat) : Int) := by rw [fOf, P_lit]; omega
  rw [e2]
  by_cases h : v = fOf y
  · rw [h]; simp
  · rw [decide_eq_false h]; simp; omega
theorem refLine_neg (A : Option Addr) (c n : Nat) (q : Int) (w : World) (hq : q < 0 ∨ 64 < n) :
    Calls Tryd.prog 27 #[.slice A n c, .int .i64 q] w fun e w' => e = .returned (.tuple #[.bool false, .int .i64 1]) ∧ Step w w' := by
  by_cases h : q < 0
  · go_enter Tryd.func27, Tryd.ntmps27
    go_wp2
    exact bodyPost_ret (v := .tuple #[.bool false, .int .i64 1]) (by simp [results, Tryd.results27, go_sem]) rfl ⟨rfl, Step.of inferInstance⟩
  · have h2 : (64 : Int) < n := by omega
    go_enter Tryd.func27, Tryd.ntmps27
    go_wp2
    exact bodyPost_ret (v := .tuple #[.bool false, .int .i64 1]) (by simp [results, Tryd.results27, go_sem]) rfl ⟨rfl, Step.of inferInstance⟩
theorem refLine_twice (A : Option Addr) (c n : Nat) (q : Int) (xs ys : List Nat) (w : World) (hq : 0 ≤ q) (hn : xs.length = n) (hn2 : n ≤ 64) (hr : RowS w A xs ys) (ha : Hid (¬ Ap xs)) :
    Calls Tryd.prog 27 #[.slice A n c, .int .i64 q] w fun e w' => e = .returned (.tuple #[.bool false, .int .i64 8]) ∧ Step w w' := by
  have hq1 : ¬ q < 0 := by omega
  have hn3 : ¬ (64 : Int) < n := by omega
  have cP := fun w h => refXs A c n xs ys w hn (by omega) h
  have cA := fun A c w h => refApart_no A c n xs w hn hn2 h ha
  go_enter Tryd.func27, Tryd.ntmps27
  go_wp2_with (first
    | (go_at_call 42; (refine (cP _ hr.to).mono ?_); rintro e w0 ⟨A0, c0, rfl, R0, S0⟩)
    | (go_at_call 41; (refine (cA _ _ _ R0.to).mono ?_); rintro e w1 ⟨rfl, t0, rfl⟩))
  exact bodyPost_ret (v := .tuple #[.bool false, .int .i64 8]) (by simp [results, Tryd.results27, go_sem]) rfl ⟨rfl, Step.of inferInstance⟩
set_option maxRecDepth 100000 in
theorem refLine_ge (A : Option Addr) (c n : Nat) (q : Int) (xs ys : List Nat) (w : World) (hq : (n : Int) ≤ q) (hn : xs.length = n) (hn2 : n ≤ 64) (hr : RowS w A xs ys) (ha : Hid (Ap xs)) :
    Calls Tryd.prog 27 #[.slice A n c, .int .i64 q] w fun e w' => e = .returned (.tuple #[.bool true, .int .i64 0]) ∧ Step w w' := by
  have hq1 : ¬ q < 0 := by omega
  have hn3 : ¬ (64 : Int) < n := by omega
  have cP := fun w h => refXs A c n xs ys w hn (by omega) h
  have cA := fun A c w h => refApart_yes A c n xs w hn hn2 h ha
  by_cases hlt : (n : Int) < q
  · go_enter Tryd.func27, Tryd.ntmps27
    go_wp2_with (first
      | (go_at_call 42; (refine (cP _ hr.to).mono ?_); rintro e w0 ⟨A0, c0, rfl, R0, S0⟩)
      | (go_at_call 41; (refine (cA _ _ _ R0.to).mono ?_); rintro e w1 ⟨rfl, t0, rfl⟩))
    go_loopw [8] (fun i wr => i = .int .i64 n ∧ Step w wr) (fun i _ => 0)
    case atStart => exact ⟨rfl, Step.of inferInstance⟩
    case round =>
      obtain ⟨rfl, S⟩ := hrel
      go_wp2
      exact bodyPost_ret (v := .tuple #[.bool true, .int .i64 0]) (by simp [results, Tryd.results27, go_sem]) rfl ⟨rfl, S⟩
  · have e : q = n := by omega
    subst e
    clear hq
    go_enter Tryd.func27, Tryd.ntmps27
    go_wp2_with (first
      | (go_at_call 42; (refine (cP _ hr.to).mono ?_); rintro e w0 ⟨A0, c0, rfl, R0, S0⟩)
      | (go_at_call 41; (refine (cA _ _ _ R0.to).mono ?_); rintro e w1 ⟨rfl, t0, rfl⟩))
    go_loopw [8] (fun i wr => i = .int .i64 n ∧ Step w wr) (fun i _ => 0)
    case atStart => exact ⟨rfl, Step.of inferInstance⟩
    case round =>
      obtain ⟨rfl, S⟩ := hrel
      go_wp2
      exact bodyPost_ret (v := .tuple #[.bool true, .int .i64 0]) (by simp [results, Tryd.results27, go_sem]) rfl ⟨rfl, S⟩
set_option maxHeartbeats 800000 in
set_option maxRecDepth 100000 in
theorem refLine_lo (A : Option Addr) (c n m : Nat) (xs ys : List Nat) (w : World) (hm : m < n) (hn : xs.length = n) (hn2 : n ≤ 64) (hc : n ≤ c) (hr : RowS w A xs ys) (ha : Hid (Ap xs)) :
    Calls Tryd.prog 27 #[.slice A n c, .int .i64 m] w fun e w' => e = .returned (.tuple #[.bool (lineB xs ys m), .int .i64 0]) ∧ Step w w' := by
  have hq1 : ¬ (m : Int) < 0 := by omega
  have hmn : ¬ (n : Int) < (m : Int) := by omega
  have hn3 : ¬ (64 : Int) < n := by omega
  have cP := fun w h => refXs A c n xs ys w hn (by omega) h
  have cA := fun A c w h => refApart_yes A c n xs w hn hn2 h ha
  obtain ⟨B, O, rfl, _⟩ := hr 0 (by omega)
  have cT := fun y w h => refThrough_ok (some ⟨B, O, none⟩) c m y (xs.take m) (ys.take m) w (by rw [List.length_take]; omega) (by omega) h (Lib.hid (ap_front ha.out m))
  go_enter Tryd.func27, Tryd.ntmps27
  go_wp2_with (first
    | (go_at_call 42; (refine (cP _ hr.to).mono ?_); rintro e w0 ⟨A0, c0, rfl, R0, S0⟩)
    | (go_at_call 41; (refine (cA _ _ _ R0.to).mono ?_); rintro e w1 ⟨rfl, t0, rfl⟩))
  have hrm := hr.front m
  go_loopw [8] (fun i wr => ∃ (k : Nat), m ≤ k ∧ k ≤ n ∧ i = .int .i64 k ∧ On xs ys m k ∧ Step w wr) (fun i _ => n - (intOf i).toNat)
  case atStart => exact ⟨m, Nat.le_refl _, by omega, rfl, fun j h1 h2 => absurd h1 (by omega), Step.of inferInstance⟩
  case round =>
    obtain ⟨k, hmk, hk, rfl, hon, S⟩ := hrel
    have HON := Lib.hid hon
    clear hon
    by_cases hlt : k < n
    · obtain ⟨B', O', e', hab, hc1, hc2⟩ := (show RowS wr _ xs ys from hr.to) k (by omega)
      cases e'
      obtain ⟨x, hx⟩ : ∃ x : Nat, Hid (x = xs.getD k 0) := ⟨_, Lib.hid rfl⟩
      obtain ⟨y, hy⟩ : ∃ y : Nat, Hid (y = ys.getD k 0) := ⟨_, Lib.hid rfl⟩
      rw [← hx.out] at hc1
      rw [← hy.out] at hc2
      have hrm2 : RowS wr (some ⟨B, O, none⟩) (xs.take m) (ys.take m) := hrm.to
      obtain ⟨v, hv⟩ : ∃ v : Nat, Hid (v = thr (xs.take m) (ys.take m) x m) := ⟨_, Lib.hid rfl⟩
      have cTk := cT x
      rw [← hv.out] at cTk
      clear cT hr hrm cP cA R0
      have hvl : Hid (v < P) := Lib.hid (by rw [hv.out]; exact thr_lt _ _ _ _)
      have hi1 : (0 : Int) ≤ (m : Int) := by omega
      have hi2 : (m : Int) ≤ (c : Int) := by omega
      have hi3 : m ≤ c := by omega
      go_wp2
      go_region_held3 (fun w' => w'.cell? ⟨B, O + k * 2, none⟩ = some (.int .u64 x) ∧ Step wr w')
        (exact ⟨((Step.of (w := wr) inferInstance).h.cell hab).trans hc1, Step.of inferInstance⟩)
        ((go_at_call 28; (refine (cTk _ hrm2.to).mono ?_); rintro e w2 ⟨rfl, S2⟩))
      have hY : w2.cell? ⟨B, O + k * 2 + 1, none⟩ = some (.int .u64 y) := ((Step.of (w := wr) inferInstance).h.cell hab).trans hc2
      by_cases hvy : v = fOf y
      · have T := (v_eq v y).trans (decide_eq_true hvy)
        go_wp2
        go_roundw
        case rel => exact ⟨k + 1, by omega, by omega, by go_num, fun j h1 h2 => by
          rcases Nat.lt_or_ge j k with h | h
          · exact HON.out j h1 h
          · have e : j = k := by omega
            subst e
            rw [← hx.out, ← hy.out, ← hv.out]; exact hvy, Step.of inferInstance⟩
        case measure => simp [intOf]; omega
      · have T := (v_eq v y).trans (decide_eq_false hvy)
        have hno : Hid (lineB xs ys m = false) := Lib.hid (line_no (j := k) (by omega) (by omega) (by rw [← hx.out, ← hy.out, ← hv.out]; exact hvy))
        go_wp2
        rw [hno.out]
        exact bodyPost_ret (v := .tuple #[.bool false, .int .i64 0]) (by simp [results, Tryd.results27, go_sem]) rfl ⟨rfl, Step.of inferInstance⟩
    · have hkn : k = n := by omega
      subst hkn
      have hy : Hid (lineB xs ys m = true) := Lib.hid (line_yes (by rw [hn]; exact HON.out))
      clear cP cA cT
      go_wp2
      rw [hy.out]
      exact bodyPost_ret (v := .tuple #[.bool true, .int .i64 0]) (by simp [results, Tryd.results27, go_sem]) rfl ⟨rfl, S⟩
end PoC
end Go.Proofs.YtphelljbaodhpaaDoor
