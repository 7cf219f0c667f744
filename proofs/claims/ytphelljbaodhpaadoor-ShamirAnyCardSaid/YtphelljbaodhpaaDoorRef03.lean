/- The document's own answers of layer 3 (package caucusref03). Conditions: what is handed in reads as rows of points. -/
import Derived.Test.YtphelljbaodhpaaDoorPolyL
import Derived.Test.YtphelljbaodhpaaDoorApp
namespace Go.Proofs.YtphelljbaodhpaaDoor
open Go.RowKit Go.Lib Go.Maps
namespace PoC
open SlR FpM FpC PoM
theorem nl_snoc {xs : List Nat} {k : Nat} (h : k < xs.length) : (NL (xs.take (k + 1))).map (Value.int .u64) = (NL (xs.take k)).map (Value.int .u64) ++ [.int .u64 (xs.getD k 0 : Nat)] := by
  unfold NL; rw [take_snocN xs k h]; simp
set_option maxHeartbeats 800000 in
set_option maxRecDepth 100000 in
theorem refXs (A : Option Addr) (c n : Nat) (xs ys : List Nat) (w : World) (hn : xs.length = n) (hn2 : n ≤ 100000) (hr : RowS w A xs ys) :
    Calls Tryd.prog 42 #[.slice A n c] w fun e w' => ∃ A' c', e = .returned (.slice A' n c') ∧ RowN w' A' xs ∧ Step w w' := by
  obtain ⟨i0, hi, hz0, hz1, hz2⟩ := info_parts infoN
  go_enter Tryd.func42, Tryd.ntmps42
  go_wp2
  go_loopw [3, 4] (fun v i wr => ∃ (k : Nat), k ≤ n ∧ i = .int .i64 k ∧ wr.ownsRow w.heap.size 22 1 v k ((NL (xs.take k)).map (Value.int .u64)) ∧ Below w.heap.size w wr) (fun _ i _ => n - (intOf i).toNat)
  case atStart => exact ⟨0, Nat.zero_le _, rfl, World.ownsRow_nil _ _ _ _, Below.refl _ _⟩
  case round =>
    obtain ⟨k, hk, rfl, hown, hb⟩ := hrel
    by_cases hlt : k < n
    · obtain ⟨B, O, rfl, hab, hc1, hc2⟩ := (show RowS wr A xs ys from have : Step w wr := ⟨hb⟩; hr.to) k (by omega)
      have HT := Lib.hid (nl_snoc (xs := xs) (k := k) (by omega))
      obtain ⟨x, hx⟩ : ∃ x : Nat, Hid (x = xs.getD k 0) := ⟨_, Lib.hid rfl⟩
      rw [← hx.out] at hc1 HT
      obtain ⟨A', c', rfl⟩ := own_form hown
      have HB := Lib.hid hb
      have HO := Lib.hid hown
      clear hr hb hown hc2
      go_wp2_with (at_builtin; refine wpList_append_own _ rfl _ _ 23 rfl w.heap.size 22 i0 (.int .u64 0) 1 8 Tryd.underlying23 hi hz0 hz1 hz2 rfl (by decide) _ _ _ rfl (HO.out.alloc _) ⟨wr.heap.size, 0, none⟩ 1 1 [.int .u64 x] rfl rfl (cell_one_new _ _ _) (ints_oneCell .u64 [(x : Int)]) (by unfold maxLen; omega) (by omega) (by have := HB.out.size; simp; omega) ?_; intro v' w1 hown1 hgrow1 hnil)
      go_roundw
      case rel => exact ⟨k + 1, by omega, by go_num, by rw [HT.out]; exact hown1, (HB.out.alloc HB.out.size _).grown hgrow1 (by have := HB.out.size; simp; omega) (fun g hg => (HO.out.lt g hg).1)⟩
      case measure => simp [intOf]; omega
    · have hkn : k = n := by omega
      subst hkn
      have HT : Hid (xs.take k = xs) := Lib.hid (List.take_of_length_le (by omega))
      rw [HT.out] at hown
      obtain ⟨A', c', rfl⟩ := own_form hown
      clear hr
      go_wp2
      go_ret
      exact ⟨_, _, rfl, Row.of_own hown, ⟨hb⟩⟩
theorem below_drewN {B : Nat} {w a : World} (h : Below B w a) (n : Nat) : Below B w (a.drewN n) := h.trans ⟨rfl, rfl, rfl, Nat.le_refl _, fun _ _ => rfl⟩
/-- Points as cells. -/
def pl (xs ys : List Nat) : Nat → List Value
  | 0 => []
  | k + 1 => pl xs ys k ++ [.int .u64 (xs.getD k 0 : Nat), .int .u64 (ys.getD k 0 : Nat)]
theorem pl_len (xs ys : List Nat) : ∀ k, (pl xs ys k).length = k * 2
  | 0 => rfl
  | k + 1 => by rw [pl, List.length_append, pl_len xs ys k]; simp; omega
theorem pl_at (xs ys : List Nat) (j : Nat) : ∀ k, j < k → (pl xs ys k)[j * 2]? = some (.int .u64 (xs.getD j 0 : Nat)) ∧ (pl xs ys k)[j * 2 + 1]? = some (.int .u64 (ys.getD j 0 : Nat))
  | 0, h => absurd h (Nat.not_lt_zero _)
  | k + 1, h => by
    have hl := pl_len xs ys k
    by_cases hjk : j = k
    · subst hjk
      rw [pl, List.getElem?_append_right (by omega), List.getElem?_append_right (by omega), hl, Nat.sub_self, show j * 2 + 1 - j * 2 = 1 by omega]
      exact ⟨rfl, rfl⟩
    · have ih := pl_at xs ys j k (by omega)
      rw [pl, List.getElem?_append_left (by omega), List.getElem?_append_left (by omega)]
      exact ih
theorem own_form2 {w : World} {base : Nat} {e : TypeId} {size n : Nat} {v : Value} {vs : List Value} (h : w.ownsRow base e size v n vs) : ∃ A c, v = .slice A n c ∧ n ≤ c := by
  rcases h.2 with ⟨rfl, rfl⟩ | ⟨g, cap, cur, rfl, _, _, hc, _⟩
  · exact ⟨_, _, rfl, Nat.le_refl _⟩
  · exact ⟨_, _, rfl, hc⟩
theorem RowS.of_own {w : World} {base : Nat} {e : TypeId} {n c : Nat} {A : Option Addr} {xs ys : List Nat} (h : w.ownsRow base e 2 (.slice A n c) n (pl xs ys n)) (hn : xs.length = n) : RowS w A xs ys := fun j hj => by
  obtain ⟨g, cap, hv, _, hlt⟩ := h.form (by omega)
  have hA : A = some ⟨g, 0, none⟩ := by injection hv
  subst hA
  have hp := pl_at xs ys j n (by omega)
  refine ⟨g, 0, rfl, hlt, ?_, ?_⟩
  · rw [Nat.zero_add, ← hp.1]; exact h.cellAt _ (by omega)
  · rw [Nat.zero_add, ← hp.2]; exact h.cellAt _ (by omega)
theorem infoS : (Tryd.prog.info? 51).map (fun i => (i.zero, i.size, i.bytes)) = some (some (.agg #[.int .u64 0, .int .u64 0]), 2, 16) := by kernel_rfl
theorem two_new (w : World) (t : TypeId) (u v : Value) : ∀ j z, ([u, v] : List Value)[j]? = some z → (w.alloc (.cells #[u, v] t (0, 0))).cell? ((⟨w.heap.size, 0, none⟩ : Addr).add j) = some z := fun j z hj => by
  match j, hj with
  | 0, hj => simp at hj; subst hj; simp [Addr.add]
  | 1, hj => simp at hj; subst hj; simp [Addr.add]
theorem refApart_yes (A : Option Addr) (c n : Nat) (xs : List Nat) (w : World) (hn : xs.length = n) (hn2 : n ≤ 64) (hr : RowN w A xs) (ha : Hid (Ap xs)) :
    Calls Tryd.prog 41 #[.slice A n c] w (Qt (.int .i64 0) w) := by
  have h := refApart_any A c n xs w hn hn2 hr
  rwa [show apE xs = 0 from if_pos ha.out] at h
theorem refApart_no (A : Option Addr) (c n : Nat) (xs : List Nat) (w : World) (hn : xs.length = n) (hn2 : n ≤ 64) (hr : RowN w A xs) (ha : Hid (¬ Ap xs)) :
    Calls Tryd.prog 41 #[.slice A n c] w (Qt (.int .i64 8) w) := by
  have h := refApart_any A c n xs w hn hn2 hr
  rwa [show apE xs = 8 from if_neg ha.out] at h
theorem nlv_snoc (xs : List Nat) (z : Nat) : (NL (xs ++ [z])).map (Value.int .u64) = (NL xs).map (Value.int .u64) ++ [.int .u64 (z : Nat)] := by
  unfold NL; simp
set_option maxHeartbeats 1600000 in
set_option maxRecDepth 100000 in
theorem refThrough_ok (A : Option Addr) (c n y : Nat) (xs ys : List Nat) (w : World) (hn : xs.length = n) (hn2 : n ≤ 64) (hr : RowS w A xs ys) (ha : Hid (Ap xs)) :
    Calls Tryd.prog 28 #[.slice A n c, .int .u64 y] w fun e w' => e = .returned (.tuple #[.int .u64 (thr xs ys y n : Nat), .int .i64 0]) ∧ Step w w' := by
  obtain ⟨i0, hi, hz0, hz1, hz2⟩ := info_parts infoN
  have cP := fun w h => refXs A c n xs ys w hn (by omega) h
  have cA := fun A c w h => refApart_yes A c n xs w hn hn2 h ha
  have hend : Hid (nv (nws xs ys n) xs y n = thr xs ys y n) := Lib.hid (by have := newton (ys := ys) ha.out y; rwa [hn] at this)
  go_enter Tryd.func28, Tryd.ntmps28
  go_wp2_with (first
    | (go_at_call 42; (refine (cP _ hr.to).mono ?_); rintro e w0 ⟨A0, c0, rfl, R0, S0⟩)
    | (go_at_call 41; (refine (cA _ _ _ R0.to).mono ?_); rintro e w1 ⟨rfl, t0, rfl⟩))
  obtain ⟨w1, hw1⟩ : ∃ w1, w1 = w0.drewN t0 := ⟨_, rfl⟩
  have S1 : Step w w1 := by rw [hw1]; exact Step.of inferInstance
  rw [← hw1]
  have hr1 : RowS w1 A xs ys := hr.to
  clear hw1 R0 hr cP cA
  go_loopw [7, 8] (fun v i wr => ∃ (k : Nat), k ≤ n ∧ i = .int .i64 k ∧ wr.ownsRow w1.heap.size 22 1 v k ((NL (nws xs ys k)).map (Value.int .u64)) ∧ Below w1.heap.size w1 wr) (fun _ i _ => n + 1 - (intOf i).toNat)
  case atStart => exact ⟨0, Nat.zero_le _, rfl, World.ownsRow_nil _ _ _ _, Below.refl _ _⟩
  case round =>
    obtain ⟨k, hk, rfl, hown, hb⟩ := hrel
    have Sr : Step w1 wr := ⟨hb⟩
    have HS : Hid (RowS wr A xs ys) := Lib.hid hr1.to
    obtain ⟨A', c', rfl⟩ := own_form hown
    have HR : Hid (RowN wr A' (nws xs ys k)) := Lib.hid (Row.of_own hown)
    have HB := Lib.hid hb
    have HO := Lib.hid hown
    clear hown hb
    by_cases hlt : k < n
    · obtain ⟨B, O, rfl, hab, hc1, hc2⟩ := HS.out k (by omega)
      obtain ⟨x, hx⟩ : ∃ x : Nat, Hid (x = xs.getD k 0) := ⟨_, Lib.hid rfl⟩
      obtain ⟨q, hq⟩ : ∃ q : Nat, Hid (q = ys.getD k 0) := ⟨_, Lib.hid rfl⟩
      rw [← hx.out] at hc1
      rw [← hq.out] at hc2
      clear hr1
      go_wp2
      go_loopw [10, 11, 12] (fun a b j wq => ∃ (j' t : Nat), j' ≤ k ∧ j = .int .i64 j' ∧ a = .int .u64 (nv (nws xs ys k) xs x j' : Nat) ∧ b = .int .u64 (np xs x j' : Nat) ∧ wq = wr.drewN t) (fun _ _ j _ => k - (intOf j).toNat)
      case atStart => exact ⟨0, 0, Nat.zero_le _, rfl, rfl, rfl, rfl⟩
      case round =>
        obtain ⟨j, t, hj, rfl, rfl, rfl, rfl⟩ := hrel
        by_cases hjk : j < k
        · obtain ⟨a1, rfl, hcn⟩ := HR.out.at (j := j) (by rw [nws_len]; exact hjk)
          obtain ⟨B', O', e', hab', hd1, hd2⟩ := HS.out j (by omega)
          cases e'
          obtain ⟨z, hz⟩ : ∃ z : Nat, Hid (z = (nws xs ys k).getD j 0) := ⟨_, Lib.hid rfl⟩
          obtain ⟨u, hu⟩ : ∃ u : Nat, Hid (u = xs.getD j 0) := ⟨_, Lib.hid rfl⟩
          obtain ⟨v, hv⟩ : ∃ v : Nat, Hid (v = nv (nws xs ys k) xs x j) := ⟨_, Lib.hid rfl⟩
          obtain ⟨p, hp⟩ : ∃ p : Nat, Hid (p = np xs x j) := ⟨_, Lib.hid rfl⟩
          rw [← hz.out] at hcn
          rw [← hu.out] at hd1
          rw [← hv.out, ← hp.out]
          clear hd2
          go_wp2_with (first
            | (go_at_call 32; (refine (rmul _ _ _).mono ?_); rintro e w' ⟨rfl, n1, rfl⟩)
            | (go_at_call 17; (refine (radd _ _ _).mono ?_); rintro e w' ⟨rfl, n1, rfl⟩)
            | (go_at_call 43; (refine (rsub _ _ _).mono ?_); rintro e w' ⟨rfl, n1, rfl⟩))
          go_roundw
          case rel => exact ⟨j + 1, _, by omega, by go_num, by rw [nv, ← hv.out, ← hz.out, ← hp.out], by rw [np, ← hp.out, ← hu.out], rfl⟩
          case measure => simp [intOf]; omega
        · have hjn : j = k := by omega
          subst hjn
          obtain ⟨v, hv⟩ : ∃ v : Nat, Hid (v = nv (nws xs ys j) xs x j) := ⟨_, Lib.hid rfl⟩
          obtain ⟨p, hp⟩ : ∃ p : Nat, Hid (p = np xs x j) := ⟨_, Lib.hid rfl⟩
          rw [← hv.out, ← hp.out]
          have hkn : ((j : Int) == (n : Int)) = false := by simp; omega
          have HT := Lib.hid (nlv_snoc (nws xs ys j) (nn (nws xs ys j) xs ys j))
          have HN : Hid (nn (nws xs ys j) xs ys j = fMul (fSub q v) (fInv p)) := Lib.hid (by rw [nn, ← hx.out, ← hq.out, ← hv.out, ← hp.out])
          clear hc1 HR HS
          go_wp2_with (first
            | (go_at_call 32; (refine (rmul _ _ _).mono ?_); rintro e w' ⟨rfl, n1, rfl⟩)
            | (go_at_call 44; (refine (rinv _ _).mono ?_); rintro e w' ⟨rfl, n1, rfl⟩)
            | (go_at_call 43; (refine (rsub _ _ _).mono ?_); rintro e w' ⟨rfl, n1, rfl⟩)
            | (at_builtin; refine wpList_append_own _ rfl _ _ 23 rfl w1.heap.size 22 i0 (.int .u64 0) 1 8 Tryd.underlying23 hi hz0 hz1 hz2 rfl (by decide) _ _ _ rfl (World.ownsRow.alloc (w := wr.drewN _) HO.out _) ⟨wr.heap.size, 0, none⟩ 1 1 [.int .u64 (fMul (fSub q v) (fInv p) : Nat)] rfl rfl (cell_one_new (wr.drewN _) _ _) (ints_oneCell .u64 [((fMul (fSub q v) (fInv p) : Nat) : Int)]) (by unfold maxLen; omega) (by omega) (by have := HB.out.size; simp; omega) ?_; intro v' w4 hown1 hgrow1 hnil))
          go_roundw
          case rel => exact ⟨j + 1, by omega, by go_num, by rw [nws_succ, HT.out, HN.out]; exact hown1, ((below_drewN HB.out _).alloc HB.out.size _).grown hgrow1 (by have := HB.out.size; simp; omega) (fun g hg => (HO.out.lt g hg).1)⟩
          case measure => simp [intOf]; omega
    · have hkn : k = n := by omega
      subst hkn
      clear hr1
      go_wp2
      go_loopw [10, 11, 12] (fun a b j wq => ∃ (j' t : Nat), j' ≤ k ∧ j = .int .i64 j' ∧ a = .int .u64 (nv (nws xs ys k) xs y j' : Nat) ∧ b = .int .u64 (np xs y j' : Nat) ∧ wq = wr.drewN t) (fun _ _ j _ => k - (intOf j).toNat)
      case atStart => exact ⟨0, 0, Nat.zero_le _, rfl, rfl, rfl, rfl⟩
      case round =>
        obtain ⟨j, t, hj, rfl, rfl, rfl, rfl⟩ := hrel
        by_cases hjk : j < k
        · obtain ⟨a1, rfl, hcn⟩ := HR.out.at (j := j) (by rw [nws_len]; exact hjk)
          obtain ⟨B', O', e', hab', hd1, hd2⟩ := HS.out j (by omega)
          subst e'
          obtain ⟨z, hz⟩ : ∃ z : Nat, Hid (z = (nws xs ys k).getD j 0) := ⟨_, Lib.hid rfl⟩
          obtain ⟨u, hu⟩ : ∃ u : Nat, Hid (u = xs.getD j 0) := ⟨_, Lib.hid rfl⟩
          obtain ⟨v, hv⟩ : ∃ v : Nat, Hid (v = nv (nws xs ys k) xs y j) := ⟨_, Lib.hid rfl⟩
          obtain ⟨p, hp⟩ : ∃ p : Nat, Hid (p = np xs y j) := ⟨_, Lib.hid rfl⟩
          rw [← hz.out] at hcn
          rw [← hu.out] at hd1
          rw [← hv.out, ← hp.out]
          clear hd2
          go_wp2_with (first
            | (go_at_call 32; (refine (rmul _ _ _).mono ?_); rintro e w' ⟨rfl, n1, rfl⟩)
            | (go_at_call 17; (refine (radd _ _ _).mono ?_); rintro e w' ⟨rfl, n1, rfl⟩)
            | (go_at_call 43; (refine (rsub _ _ _).mono ?_); rintro e w' ⟨rfl, n1, rfl⟩))
          go_roundw
          case rel => exact ⟨j + 1, _, by omega, by go_num, by rw [nv, ← hv.out, ← hz.out, ← hp.out], by rw [np, ← hp.out, ← hu.out], rfl⟩
          case measure => simp [intOf]; omega
        · have hjn : j = k := by omega
          subst hjn
          have S : Step w (wr.drewN t) := Step.of inferInstance
          clear HR HS HO HB
          go_wp2
          rw [hend.out]
          exact bodyPost_ret (v := .tuple #[.int .u64 (thr xs ys y j : Nat), .int .i64 0]) (by simp [results, Tryd.results28, go_sem]) rfl ⟨rfl, S⟩
theorem refThrough_no (A : Option Addr) (c n y : Nat) (xs ys : List Nat) (w : World) (hn : xs.length = n) (hn2 : n ≤ 64) (hr : RowS w A xs ys) (ha : Hid (¬ Ap xs)) :
    Calls Tryd.prog 28 #[.slice A n c, .int .u64 y] w fun e w' => e = .returned (.tuple #[.int .u64 0, .int .i64 8]) ∧ Step w w' := by
  have cP := fun w h => refXs A c n xs ys w hn (by omega) h
  have cA := fun A c w h => refApart_no A c n xs w hn hn2 h ha
  go_enter Tryd.func28, Tryd.ntmps28
  go_wp2_with (first
    | (go_at_call 42; (refine (cP _ hr.to).mono ?_); rintro e w0 ⟨A0, c0, rfl, R0, S0⟩)
    | (go_at_call 41; (refine (cA _ _ _ R0.to).mono ?_); rintro e w1 ⟨rfl, t0, rfl⟩))
  exact bodyPost_ret (v := .tuple #[.int .u64 0, .int .i64 8]) (by simp [results, Tryd.results28, go_sem]) rfl ⟨rfl, Step.of inferInstance⟩
theorem refThrough_big (A : Option Addr) (c n y : Nat) (xs ys : List Nat) (w : World) (hn : xs.length = n) (hn2 : n ≤ 100000) (hn3 : 64 < n) (hr : RowS w A xs ys) :
    Calls Tryd.prog 28 #[.slice A n c, .int .u64 y] w fun e w' => e = .returned (.tuple #[.int .u64 0, .int .i64 1]) ∧ Step w w' := by
  have cP := fun w h => refXs A c n xs ys w hn (by omega) h
  have cA := fun A c w => refApart_big A c n w hn3
  go_enter Tryd.func28, Tryd.ntmps28
  go_wp2_with (first
    | (go_at_call 42; (refine (cP _ hr.to).mono ?_); rintro e w0 ⟨A0, c0, rfl, R0, S0⟩)
    | (go_at_call 41; (refine (cA _ _ _).mono ?_); rintro e w1 ⟨rfl, t0, rfl⟩))
  exact bodyPost_ret (v := .tuple #[.int .u64 0, .int .i64 1]) (by simp [results, Tryd.results28, go_sem]) rfl ⟨rfl, Step.of inferInstance⟩
end PoC
end Go.Proofs.YtphelljbaodhpaaDoor
