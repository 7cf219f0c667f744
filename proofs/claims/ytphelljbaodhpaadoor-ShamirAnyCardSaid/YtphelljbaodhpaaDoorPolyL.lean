/- poly.Line. Conditions: what is handed in reads as a row of points. -/
import Derived.Test.YtphelljbaodhpaaDoorPolyN
namespace Go.Proofs.YtphelljbaodhpaaDoor
open Go.RowKit Go.Lib Go.Maps
namespace PoC
open SlR FpM FpC PoM
theorem through_no (A : Option Addr) (c n y : Nat) (xs ys : List Nat) (w : World) (hn : xs.length = n) (hn2 : n ≤ 64) (hr : RowS w A xs ys) (ha : Hid (¬ Ap xs)) :
    Calls Tryd.prog 26 #[.slice A n c, .int .u64 y] w fun e w' => e = .returned (.tuple #[.int .u64 0, .iface 55 (.int .i64 8)]) ∧ Step w w' := by
  have cP := fun w h => places_any A c n xs ys w hn (by omega) h
  have cW := fun A c w h => weights_no A c n y xs w hn hn2 h ha
  go_enter Tryd.func26, Tryd.ntmps26
  go_wp2_with (first
    | (go_at_call 38; (refine (cP _ hr.to).mono ?_); rintro e w0 ⟨A0, c0, rfl, R0, S0⟩)
    | (go_at_call 40; (refine (cW _ _ _ R0.to).mono ?_); rintro e w1 ⟨rfl, S1⟩))
  exact bodyPost_ret (v := .tuple #[.int .u64 0, .iface 55 (.int .i64 8)]) (by simp [results, Tryd.results26, go_sem]) rfl ⟨rfl, Step.of inferInstance⟩
theorem through_big (A : Option Addr) (c n y : Nat) (xs ys : List Nat) (w : World) (hn : xs.length = n) (hn2 : n ≤ 100000) (hn3 : 64 < n) (hr : RowS w A xs ys) :
    Calls Tryd.prog 26 #[.slice A n c, .int .u64 y] w fun e w' => e = .returned (.tuple #[.int .u64 0, .iface 55 (.int .i64 1)]) ∧ Step w w' := by
  have cP := fun w h => places_any A c n xs ys w hn (by omega) h
  have cW := fun A c w => weights_big A c n y w hn3
  go_enter Tryd.func26, Tryd.ntmps26
  go_wp2_with (first
    | (go_at_call 38; (refine (cP _ hr.to).mono ?_); rintro e w0 ⟨A0, c0, rfl, R0, S0⟩)
    | (go_at_call 40; (refine (cW _ _ _).mono ?_); rintro e w1 ⟨rfl, S1⟩))
  exact bodyPost_ret (v := .tuple #[.int .u64 0, .iface 55 (.int .i64 1)]) (by simp [results, Tryd.results26, go_sem]) rfl ⟨rfl, Step.of inferInstance⟩
/-- The rest of the points lie on the curve through the first m ones. -/
def On (xs ys : List Nat) (m k : Nat) : Prop := ∀ j, m ≤ j → j < k → thr (xs.take m) (ys.take m) (xs.getD j 0) m = fOf (ys.getD j 0)
def lineB (xs ys : List Nat) (m : Nat) : Bool := (List.range xs.length).all fun j => decide (m ≤ j → thr (xs.take m) (ys.take m) (xs.getD j 0) m = fOf (ys.getD j 0))
theorem line_yes {xs ys : List Nat} {m : Nat} (h : On xs ys m xs.length) : lineB xs ys m = true := by
  unfold lineB
  rw [List.all_eq_true]
  intro j hj
  exact decide_eq_true fun hm => h j hm (List.mem_range.mp hj)
theorem line_no {xs ys : List Nat} {m j : Nat} (hm : m ≤ j) (hj : j < xs.length) (h : thr (xs.take m) (ys.take m) (xs.getD j 0) m ≠ fOf (ys.getD j 0)) : lineB xs ys m = false := by
  rw [Bool.eq_false_iff]
  intro hl
  unfold lineB at hl
  rw [List.all_eq_true] at hl
  exact h (of_decide_eq_true (hl j (List.mem_range.mpr hj)) hm)
theorem getD_take {xs : List Nat} {m j : Nat} (h : j < m) : (xs.take m).getD j 0 = xs.getD j 0 := by
  rw [List.getD_eq_getElem?_getD, List.getD_eq_getElem?_getD, List.getElem?_take, if_pos h]
theorem RowS.front {w : World} {A : Option Addr} {xs ys : List Nat} (h : RowS w A xs ys) (m : Nat) : RowS w A (xs.take m) (ys.take m) := fun j hj => by
  rw [List.length_take] at hj
  rw [getD_take (by omega), getD_take (by omega)]
  exact h j (by omega)
theorem ap_front {xs : List Nat} (h : Ap xs) (m : Nat) : Ap (xs.take m) := by
  unfold Ap at *
  rw [List.map_take]
  exact h.sublist (List.take_sublist ..)
theorem B64.front {xs : List Nat} (h : B64 xs) (m : Nat) : B64 (xs.take m) := fun i => by
  by_cases hi : i < m
  · rw [getD_take hi]; exact h i
  · rw [List.getD_eq_getElem?_getD, List.getElem?_take, if_neg hi]; decide
theorem cell_new2 (w : World) (H : Nat) (t : TypeId) (a b : Value) (h : w.heap.size = H) : (w.alloc (.cells #[a, b] t (0, 0))).cell? ⟨H, 1, none⟩ = some b := by
  subst h
  simp
theorem line_neg (A : Option Addr) (c n : Nat) (q : Int) (w : World) (hq : q < 0) :
    Calls Tryd.prog 25 #[.slice A n c, .int .i64 q] w fun e w' => e = .returned (.tuple #[.bool false, .iface 55 (.int .i64 1)]) ∧ Step w w' := by
  go_enter Tryd.func25, Tryd.ntmps25
  go_wp2
  exact bodyPost_ret (v := .tuple #[.bool false, .iface 55 (.int .i64 1)]) (by simp [results, Tryd.results25, go_sem]) rfl ⟨rfl, Step.of inferInstance⟩
theorem line_big (A : Option Addr) (c n : Nat) (q : Int) (xs ys : List Nat) (w : World) (hq : 0 ≤ q) (hn : xs.length = n) (hn2 : n ≤ 100000) (hn3 : 64 < n) (hr : RowS w A xs ys) :
    Calls Tryd.prog 25 #[.slice A n c, .int .i64 q] w fun e w' => e = .returned (.tuple #[.bool false, .iface 55 (.int .i64 1)]) ∧ Step w w' := by
  have hq1 : ¬ q < 0 := by omega
  have cP := fun w h => places_any A c n xs ys w hn (by omega) h
  have cW := fun A c w => apart_big A c n w hn3
  go_enter Tryd.func25, Tryd.ntmps25
  go_wp2_with (first
    | (go_at_call 38; (refine (cP _ hr.to).mono ?_); rintro e w0 ⟨A0, c0, rfl, R0, S0⟩)
    | (go_at_call 37; (refine (cW _ _ _).mono ?_); rintro e w1 ⟨rfl, S1⟩))
  exact bodyPost_ret (v := .tuple #[.bool false, .iface 55 (.int .i64 1)]) (by simp [results, Tryd.results25, go_sem]) rfl ⟨rfl, Step.of inferInstance⟩
theorem line_twice (A : Option Addr) (c n : Nat) (q : Int) (xs ys : List Nat) (w : World) (hq : 0 ≤ q) (hn : xs.length = n) (hn2 : n ≤ 64) (hr : RowS w A xs ys) (ha : Hid (¬ Ap xs)) :
    Calls Tryd.prog 25 #[.slice A n c, .int .i64 q] w fun e w' => e = .returned (.tuple #[.bool false, .iface 55 (.int .i64 8)]) ∧ Step w w' := by
  have hq1 : ¬ q < 0 := by omega
  have cP := fun w h => places_any A c n xs ys w hn (by omega) h
  have cW := fun A c w h => apart_no A c n xs w hn hn2 h ha
  go_enter Tryd.func25, Tryd.ntmps25
  go_wp2_with (first
    | (go_at_call 38; (refine (cP _ hr.to).mono ?_); rintro e w0 ⟨A0, c0, rfl, R0, S0⟩)
    | (go_at_call 37; (refine (cW _ _ _ R0.to).mono ?_); rintro e w1 ⟨rfl, S1⟩))
  exact bodyPost_ret (v := .tuple #[.bool false, .iface 55 (.int .i64 8)]) (by simp [results, Tryd.results25, go_sem]) rfl ⟨rfl, Step.of inferInstance⟩
set_option maxHeartbeats 800000 in
set_option maxRecDepth 100000 in
theorem line_gt (A : Option Addr) (c n : Nat) (q : Int) (xs ys : List Nat) (w : World) (hq : (n : Int) < q) (hn : xs.length = n) (hn2 : n ≤ 64) (hc : n ≤ c) (hr : RowS w A xs ys) (ha : Hid (Ap xs)) :
    Calls Tryd.prog 25 #[.slice A n c, .int .i64 q] w fun e w' => e = .returned (.tuple #[.bool true, .nilIface]) ∧ Step w w' := by
  have hq1 : ¬ q < 0 := by omega
  have cP := fun w h => places_any A c n xs ys w hn (by omega) h
  have cA := fun A c w h => apart_yes A c n xs w hn hn2 h ha
  have hnn : ¬ (0 : Int) < ((n - n : Nat) : Int) := by omega
  by_cases hcn : c = n
  · subst hcn
    go_enter Tryd.func25, Tryd.ntmps25
    go_wp2_with (first
      | (go_at_call 38; (refine (cP _ hr.to).mono ?_); rintro e w0 ⟨A0, c0, rfl, R0, S0⟩)
      | (go_at_call 37; (refine (cA _ _ _ R0.to).mono ?_); rintro e w1 ⟨rfl, S1⟩))
    go_loopw [32] (fun i wr => i = .int .i64 0 ∧ Step w wr) (fun i _ => 0)
    case atStart => exact ⟨rfl, Step.of inferInstance⟩
    case round =>
      obtain ⟨rfl, S⟩ := hrel
      go_wp2
      exact bodyPost_ret (v := .tuple #[.bool true, .nilIface]) (by simp [results, Tryd.results25, go_sem]) rfl ⟨rfl, S⟩
  · go_enter Tryd.func25, Tryd.ntmps25
    go_wp2_with (first
      | (go_at_call 38; (refine (cP _ hr.to).mono ?_); rintro e w0 ⟨A0, c0, rfl, R0, S0⟩)
      | (go_at_call 37; (refine (cA _ _ _ R0.to).mono ?_); rintro e w1 ⟨rfl, S1⟩))
    go_loopw [32] (fun i wr => i = .int .i64 0 ∧ Step w wr) (fun i _ => 0)
    case atStart => exact ⟨rfl, Step.of inferInstance⟩
    case round =>
      obtain ⟨rfl, S⟩ := hrel
      go_wp2
      exact bodyPost_ret (v := .tuple #[.bool true, .nilIface]) (by simp [results, Tryd.results25, go_sem]) rfl ⟨rfl, S⟩
set_option maxHeartbeats 800000 in
set_option maxRecDepth 100000 in
theorem line_eq (A : Option Addr) (c n : Nat) (xs ys : List Nat) (w : World) (hn : xs.length = n) (hn2 : n ≤ 64) (hc : n ≤ c) (hr : RowS w A xs ys) (ha : Hid (Ap xs)) :
    Calls Tryd.prog 25 #[.slice A n c, .int .i64 n] w fun e w' => e = .returned (.tuple #[.bool true, .nilIface]) ∧ Step w w' := by
  have hq1 : ¬ (n : Int) < 0 := by omega
  have cP := fun w h => places_any A c n xs ys w hn (by omega) h
  have cA := fun A c w h => apart_yes A c n xs w hn hn2 h ha
  have hnn : ¬ (0 : Int) < ((n - n : Nat) : Int) := by omega
  by_cases hcn : c = n
  · subst hcn
    go_enter Tryd.func25, Tryd.ntmps25
    go_wp2_with (first
      | (go_at_call 38; (refine (cP _ hr.to).mono ?_); rintro e w0 ⟨A0, c0, rfl, R0, S0⟩)
      | (go_at_call 37; (refine (cA _ _ _ R0.to).mono ?_); rintro e w1 ⟨rfl, S1⟩))
    go_loopw [32] (fun i wr => i = .int .i64 0 ∧ Step w wr) (fun i _ => 0)
    case atStart => exact ⟨rfl, Step.of inferInstance⟩
    case round =>
      obtain ⟨rfl, S⟩ := hrel
      go_wp2
      exact bodyPost_ret (v := .tuple #[.bool true, .nilIface]) (by simp [results, Tryd.results25, go_sem]) rfl ⟨rfl, S⟩
  · go_enter Tryd.func25, Tryd.ntmps25
    go_wp2_with (first
      | (go_at_call 38; (refine (cP _ hr.to).mono ?_); rintro e w0 ⟨A0, c0, rfl, R0, S0⟩)
      | (go_at_call 37; (refine (cA _ _ _ R0.to).mono ?_); rintro e w1 ⟨rfl, S1⟩))
    go_loopw [32] (fun i wr => i = .int .i64 0 ∧ Step w wr) (fun i _ => 0)
    case atStart => exact ⟨rfl, Step.of inferInstance⟩
    case round =>
      obtain ⟨rfl, S⟩ := hrel
      go_wp2
      exact bodyPost_ret (v := .tuple #[.bool true, .nilIface]) (by simp [results, Tryd.results25, go_sem]) rfl ⟨rfl, S⟩
set_option maxHeartbeats 800000 in
set_option maxHeartbeats 800000 in
set_option maxRecDepth 100000 in
theorem line_lo (A : Option Addr) (c n m : Nat) (xs ys : List Nat) (w : World) (hm : m < n) (hn : xs.length = n) (hn2 : n ≤ 64) (hc : n ≤ c) (hr : RowS w A xs ys) (hb : Hid (B64 ys)) (ha : Hid (Ap xs)) :
    Calls Tryd.prog 25 #[.slice A n c, .int .i64 m] w fun e w' => e = .returned (.tuple #[.bool (lineB xs ys m), .nilIface]) ∧ Step w w' := by
  have hq1 : ¬ (m : Int) < 0 := by omega
  have hmn : ¬ (n : Int) < (m : Int) := by omega
  have hcm : ¬ c = m := by omega
  have cP := fun w h => places_any A c n xs ys w hn (by omega) h
  have cA := fun A c w h => apart_yes A c n xs w hn hn2 h ha
  obtain ⟨B, O, rfl, _⟩ := hr 0 (by omega)
  have cT := fun y w h => through_ok (some ⟨B, O, none⟩) c m y (xs.take m) (ys.take m) w (by rw [List.length_take]; omega) (by omega) h (Lib.hid (hb.out.front m)) (Lib.hid (ap_front ha.out m))
  go_enter Tryd.func25, Tryd.ntmps25
  go_wp2_with (first
    | (go_at_call 38; (refine (cP _ hr.to).mono ?_); rintro e w0 ⟨A0, c0, rfl, R0, S0⟩)
    | (go_at_call 37; (refine (cA _ _ _ R0.to).mono ?_); rintro e w1 ⟨rfl, S1⟩))
  have hrm := hr.front m
  go_loopw [32] (fun i wr => ∃ (k : Nat), k ≤ n - m ∧ i = .int .i64 k ∧ On xs ys m (m + k) ∧ Step w wr) (fun i _ => n - m - (intOf i).toNat)
  case atStart => exact ⟨0, Nat.zero_le _, rfl, fun j h1 h2 => absurd h1 (by omega), Step.of inferInstance⟩
  case round =>
    obtain ⟨k, hk, rfl, hon, S⟩ := hrel
    have HON := Lib.hid hon
    clear hon
    by_cases hlt : k < n - m
    · have hltI : (k : Int) < ((n - m : Nat) : Int) := by omega
      obtain ⟨B', O', e', hab, hc1, hc2⟩ := (show RowS wr _ xs ys from hr.to) (m + k) (by omega)
      cases e'
      rw [show O + (m + k) * 2 = O + m * 2 + k * 2 by omega] at hc1 hc2
      obtain ⟨x, hx⟩ : ∃ x : Nat, Hid (x = xs.getD (m + k) 0) := ⟨_, Lib.hid rfl⟩
      obtain ⟨y, hy⟩ : ∃ y : Nat, Hid (y = ys.getD (m + k) 0) := ⟨_, Lib.hid rfl⟩
      rw [← hx.out] at hc1
      rw [← hy.out] at hc2
      have hrm2 : RowS wr (some ⟨B, O, none⟩) (xs.take m) (ys.take m) := hrm.to
      obtain ⟨v, hv⟩ : ∃ v : Nat, Hid (v = thr (xs.take m) (ys.take m) x m) := ⟨_, Lib.hid rfl⟩
      have cTk := cT x
      rw [← hv.out] at cTk
      clear cT hr hrm
      by_cases hvy : v = fOf y
      · subst hvy
        go_wp2_with (first
          | (go_at_call 26; (refine (cTk _ hrm2.to).mono ?_); rintro e w2 ⟨rfl, S2⟩; have hY : w2.cell? ⟨wr.heap.size, 1, none⟩ = some (.int .u64 y) := (S2.h.cell (by simp)).trans (cell_new2 _ _ _ _ _ rfl))
          | (go_at_call 39; (refine (of_any _ _).mono ?_); rintro e w' ⟨rfl, rfl⟩))
        go_roundw
        case rel => exact ⟨k + 1, by omega, by go_num, fun j h1 h2 => by
          rcases Nat.lt_or_ge j (m + k) with h | h
          · exact HON.out j h1 h
          · have e : j = m + k := by omega
            subst e
            rw [← hx.out, ← hy.out, ← hv.out], Step.of inferInstance⟩
        case measure => simp [intOf]; omega
      · have T : ((v : Int) == (fOf y : Int)) = false := by simp; omega
        have hno : Hid (lineB xs ys m = false) := Lib.hid (line_no (j := m + k) (by omega) (by omega) (by rw [← hx.out, ← hy.out, ← hv.out]; exact hvy))
        go_wp2_with (first
          | (go_at_call 26; (refine (cTk _ hrm2.to).mono ?_); rintro e w2 ⟨rfl, S2⟩; have hY : w2.cell? ⟨wr.heap.size, 1, none⟩ = some (.int .u64 y) := (S2.h.cell (by simp)).trans (cell_new2 _ _ _ _ _ rfl))
          | (go_at_call 39; (refine (of_any _ _).mono ?_); rintro e w' ⟨rfl, rfl⟩))
        rw [hno.out]
        exact bodyPost_ret (v := .tuple #[.bool false, .nilIface]) (by simp [results, Tryd.results25, go_sem]) rfl ⟨rfl, Step.of inferInstance⟩
    · have hkn : k = n - m := by omega
      subst hkn
      have hltI : ¬ ((n - m : Nat) : Int) < ((n - m : Nat) : Int) := by omega
      have hy : Hid (lineB xs ys m = true) := Lib.hid (line_yes (by have := HON.out; rwa [show m + (n - m) = xs.length by omega] at this))
      go_wp2
      rw [hy.out]
      exact bodyPost_ret (v := .tuple #[.bool true, .nilIface]) (by simp [results, Tryd.results25, go_sem]) rfl ⟨rfl, S⟩
end PoC
end Go.Proofs.YtphelljbaodhpaaDoor
