/- poly.Weights and poly.Through. Conditions: what is handed in reads as rows of 64 bits. -/
import Derived.Test.YtphelljbaodhpaaDoorPolyM
namespace Go.Proofs.YtphelljbaodhpaaDoor
open Go.RowKit Go.Lib Go.Maps
namespace PoC
open SlR FpM FpC PoM
def wts (xs : List Nat) (y : Nat) : List Nat := (List.range xs.length).map fun i => wt xs i y
theorem wts_len (xs : List Nat) (y : Nat) : (wts xs y).length = xs.length := by simp [wts]
theorem wts_at (xs : List Nat) (y : Nat) {i : Nat} (hi : i < xs.length) : (wts xs y).getD i 0 = wt xs i y := by
  rw [getD_of (by rw [wts_len]; exact hi)]
  simp [wts]
set_option maxHeartbeats 800000 in
set_option maxRecDepth 100000 in
theorem weights_ok (A : Option Addr) (c n y : Nat) (xs : List Nat) (w : World) (hn : xs.length = n) (hn2 : n ≤ 64) (hr : RowN w A xs) (ha : Hid (Ap xs)) :
    Calls Tryd.prog 40 #[.slice A n c, .int .u64 y] w fun e w' => ∃ A' c', e = .returned (.tuple #[.slice A' n c', .nilIface]) ∧ RowN w' A' (wts xs y) ∧ Step w w' := by
  obtain ⟨i0, hi, hz0, hz1, hz2⟩ := info_parts infoN
  have h1 : ¬ ((n : Int) < 0) := by omega
  have cA := fun w h => apart_yes A c n xs w hn hn2 h ha
  have cW := fun i w (h : i < n) hr => weight_ok A c n i y xs w hn (by omega) h hr (Lib.hid (ab_ne ha.out (by omega)))
  go_enter Tryd.func40, Tryd.ntmps40
  go_wp2_with (first
    | (go_at_call 37; (refine (cA _ hr.to).mono ?_); rintro e w0 ⟨rfl, S0⟩)
    | (at_make; refine wpList_make_full _ rfl _ _ 23 rfl w0.heap.size 22 i0 (.int .u64 0) 1 Tryd.underlying23 hi hz0 hz1 _ _ _ _ n rfl rfl rfl rfl (by rw [hz2]; omega) (by unfold maxLen; omega) (Nat.le_refl _) ?_; intro w1 hown hgrow))
  have hr0 : RowN w0 A xs := hr.to
  have hst : Hid (w1.ownsRow w0.heap.size 22 1 (.slice (some ⟨w0.heap.size, 0, none⟩) n n) n ((NL ((wts xs y).take 0 ++ List.replicate (n - 0) 0)).map (Value.int .u64))) := Lib.hid (by
    rw [show (Value.int .u64 0).cells = #[Value.int .u64 0] from rfl, Nat.mul_one, toList_madeCells_one] at hown
    simpa [NL] using hown)
  have HB := Lib.hid ((Below.refl w0.heap.size w0).grown hgrow (Nat.le_refl _) (fun k h => by cases h))
  clear hown hgrow hr
  go_loopw [21] (fun i wr => ∃ (k : Nat), k ≤ n ∧ i = .int .i64 k ∧ wr.ownsRow w0.heap.size 22 1 (.slice (some ⟨w0.heap.size, 0, none⟩) n n) n ((NL ((wts xs y).take k ++ List.replicate (n - k) 0)).map (Value.int .u64)) ∧ Below w0.heap.size w0 wr) (fun i _ => n - (intOf i).toNat)
  case atStart => exact ⟨0, Nat.zero_le _, rfl, hst.out, HB.out⟩
  case round =>
    clear hst HB
    obtain ⟨k, hk, rfl, hown, hb⟩ := hrel
    by_cases hlt : k < n
    · have hrk : RowN wr A xs := have : Step w0 wr := ⟨hb⟩; hr0.to
      obtain ⟨z, hz⟩ : ∃ z : Nat, Hid (z = wt xs k y) := ⟨_, Lib.hid rfl⟩
      have cWk : Calls Tryd.prog 61 #[.slice A n c, .int .i64 k, .int .u64 y] wr (Qt (.tuple #[.int .u64 (z : Nat), .nilIface]) wr) := by rw [hz.out]; exact cW k wr hlt hrk
      have hoc : ∀ t, (wr.drewN t).cell? ⟨w0.heap.size, k, none⟩ = some (.int .u64 0) := fun t => by
        show wr.cell? _ = _
        rw [hown.cellAt k (by omega)]; exact mixAt (wts xs y) k n (by rw [wts_len]; exact hn) hlt
      have hof : ∀ t, (wr.drewN t).frozen? ⟨w0.heap.size, k, none⟩ = false := fun t => hown.frozenAt k
      have HT := Lib.hid (mixN (wts xs y) k n z (by rw [wts_len]; exact hn) hlt (by rw [wts_at xs y (by omega)]; exact hz.out.symm))
      have HB := Lib.hid hb
      have HO := Lib.hid hown
      clear hr0 hb hown hrk
      go_wp2_with (go_at_call 61; (refine cWk.mono ?_); rintro e w' ⟨rfl, n1, rfl⟩)
      go_roundw
      case rel => exact ⟨k + 1, by omega, by go_num, by rw [← HT.out]; exact ((show (wr.drewN n1).ownsRow _ _ _ _ _ _ from HO.out).stored k _).1, (show Below w0.heap.size w0 (wr.drewN n1) from HB.out.trans ⟨rfl, rfl, rfl, Nat.le_refl _, fun _ _ => rfl⟩).setCell (Nat.le_refl _) _⟩
      case measure => simp [intOf]; omega
    · have hkn : k = n := by omega
      subst hkn
      have HT : Hid ((wts xs y).take k ++ List.replicate (k - k) 0 = wts xs y) := Lib.hid (by rw [List.take_of_length_le (by rw [wts_len]; omega), Nat.sub_self]; simp)
      rw [HT.out] at hown
      have S1 : Step w0 wr := ⟨hb⟩
      have S : Step w wr := Step.of inferInstance
      clear hr0
      go_wp2
      exact bodyPost_ret (v := .tuple #[.slice (some ⟨w0.heap.size, 0, none⟩) k k, .nilIface]) (by simp [results, Tryd.results40, go_sem]) rfl ⟨_, _, rfl, Row.of_own hown, S⟩
theorem weights_no (A : Option Addr) (c n y : Nat) (xs : List Nat) (w : World) (hn : xs.length = n) (hn2 : n ≤ 64) (hr : RowN w A xs) (ha : Hid (¬ Ap xs)) :
    Calls Tryd.prog 40 #[.slice A n c, .int .u64 y] w fun e w' => e = .returned (.tuple #[.slice none 0 0, .iface 55 (.int .i64 8)]) ∧ Step w w' := by
  have cA := fun w h => apart_no A c n xs w hn hn2 h ha
  go_enter Tryd.func40, Tryd.ntmps40
  go_wp2_with (go_at_call 37; (refine (cA _ hr.to).mono ?_); rintro e w0 ⟨rfl, S0⟩)
  exact bodyPost_ret (v := .tuple #[.slice none 0 0, .iface 55 (.int .i64 8)]) (by simp [results, Tryd.results40, go_sem]) rfl ⟨rfl, S0⟩
theorem weights_big (A : Option Addr) (c n y : Nat) (w : World) (hn : 64 < n) :
    Calls Tryd.prog 40 #[.slice A n c, .int .u64 y] w fun e w' => e = .returned (.tuple #[.slice none 0 0, .iface 55 (.int .i64 1)]) ∧ Step w w' := by
  have cA := fun w => apart_big A c n w hn
  go_enter Tryd.func40, Tryd.ntmps40
  go_wp2_with (go_at_call 37; (refine (cA _).mono ?_); rintro e w0 ⟨rfl, S0⟩)
  exact bodyPost_ret (v := .tuple #[.slice none 0 0, .iface 55 (.int .i64 1)]) (by simp [results, Tryd.results40, go_sem]) rfl ⟨rfl, S0⟩
set_option maxHeartbeats 800000 in
set_option maxRecDepth 100000 in
theorem through_ok (A : Option Addr) (c n y : Nat) (xs ys : List Nat) (w : World) (hn : xs.length = n) (hn2 : n ≤ 64) (hr : RowS w A xs ys) (hb : Hid (B64 ys)) (ha : Hid (Ap xs)) :
    Calls Tryd.prog 26 #[.slice A n c, .int .u64 y] w fun e w' => e = .returned (.tuple #[.int .u64 (thr xs ys y n : Nat), .nilIface]) ∧ Step w w' := by
  have cP := fun w h => places_any A c n xs ys w hn (by omega) h
  have cW := fun A c w h => weights_ok A c n y xs w hn hn2 h ha
  go_enter Tryd.func26, Tryd.ntmps26
  go_wp2_with (first
    | (go_at_call 38; (refine (cP _ hr.to).mono ?_); rintro e w0 ⟨A0, c0, rfl, R0, S0⟩)
    | (go_at_call 40; (refine (cW _ _ _ R0.to).mono ?_); rintro e w1 ⟨A1, c1, rfl, R1, S1⟩))
  have hr1 : RowS w1 A xs ys := hr.to
  clear hr
  go_loopw [8, 23] (fun v i wr => ∃ (k t : Nat), k ≤ n ∧ i = .int .i64 k ∧ v = .int .u64 (thr xs ys y k : Nat) ∧ wr = w1.drewN t) (fun _ i _ => n - (intOf i).toNat)
  case atStart => exact ⟨0, 0, Nat.zero_le _, rfl, rfl, rfl⟩
  case round =>
    obtain ⟨k, t, hk, rfl, rfl, rfl⟩ := hrel
    by_cases hlt : k < n
    · obtain ⟨ad, rfl, hc⟩ := R1.at (j := k) (by rw [wts_len]; omega)
      obtain ⟨B, O, rfl, hab, hc1, hc2⟩ := hr1 k (by omega)
      rw [wts_at xs y (by omega)] at hc
      obtain ⟨u, hu⟩ : ∃ u : Nat, Hid (u = ys.getD k 0) := ⟨_, Lib.hid rfl⟩
      obtain ⟨z, hz⟩ : ∃ z : Nat, Hid (z = wt xs k y) := ⟨_, Lib.hid rfl⟩
      obtain ⟨v, hv⟩ : ∃ v : Nat, Hid (v = thr xs ys y k) := ⟨_, Lib.hid rfl⟩
      rw [← hu.out] at hc2
      rw [← hz.out] at hc
      rw [← hv.out]
      have hu2 : Hid (u < 18446744073709551616) := Lib.hid (by rw [hu.out]; exact hb.out k)
      have hz2 : Hid (z < 18446744073709551616) := Lib.hid (by rw [hz.out]; exact lt64 (wt_lt _ _ _))
      clear hr1 R1 hc1
      go_wp2_with (first
        | (go_at_call 31; (refine (mul_any _ _ hz2 hu2 _).mono ?_); rintro e w' ⟨rfl, n1, rfl⟩)
        | (go_at_call 29; (refine (qadd _ _ _).mono ?_); rintro e w' ⟨rfl, n1, rfl⟩))
      go_roundw
      case rel => exact ⟨k + 1, _, by omega, by go_num, by rw [thr, ← hv.out, ← hz.out, ← hu.out], rfl⟩
      case measure => simp [intOf]; omega
    · have hkn : k = n := by omega
      subst hkn
      have S : Step w (w1.drewN t) := Step.of inferInstance
      clear hr1 R1
      go_wp2
      exact bodyPost_ret (v := .tuple #[.int .u64 (thr xs ys y k : Nat), .nilIface]) (by simp [results, Tryd.results26, go_sem]) rfl ⟨rfl, S⟩
end PoC
end Go.Proofs.YtphelljbaodhpaaDoor
