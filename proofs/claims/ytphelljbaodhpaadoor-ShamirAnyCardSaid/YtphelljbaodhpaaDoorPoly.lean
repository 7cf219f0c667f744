/- poly's calls that only read: Eval, weight, and the document's own Eval and Apart. Conditions: what is handed in reads as rows of 64 bits; lengths as stated. -/
import Derived.Test.YtphelljbaodhpaaDoorExt
import Derived.Test.YtphelljbaodhpaaDoorFp
import Derived.Test.YtphelljbaodhpaaDoorRef01a
import Derived.Test.YtphelljbaodhpaaDoorPolyMath
namespace Go.Proofs.YtphelljbaodhpaaDoor
open Go.RowKit Go.Lib
namespace PoC
open SlR FpM FpC PoM
def NL (xs : List Nat) : List Int := xs.map fun n : Nat => (n : Int)
/-- A row of numbers of 64 bits. -/
def RowN (w : World) (A : Option Addr) (xs : List Nat) : Prop := Row .u64 w A (NL xs)
theorem RowN.to {w w' : World} {A : Option Addr} {xs : List Nat} (h : RowN w A xs) [e : Ext w w'] : RowN w' A xs := Row.to h
def B64 (xs : List Nat) : Prop := ∀ i, xs.getD i 0 < 18446744073709551616
theorem RowN.at {w : World} {A : Option Addr} {xs : List Nat} (h : RowN w A xs) {j : Nat} (hj : j < xs.length) : ∃ ad, A = some ad ∧ w.cell? (ad.add j) = some (.int .u64 (xs.getD j 0 : Nat)) := by
  obtain ⟨ad, h1, _, h3⟩ := h j (xs.getD j 0 : Nat) (by
    unfold NL
    rw [List.getElem?_map, List.getElem?_eq_getElem hj, getD_of hj]; rfl)
  exact ⟨ad, h1, h3⟩
theorem drop_at {xs : List Nat} {j : Nat} (hj : j < xs.length) : xs.drop j = xs.getD j 0 :: xs.drop (j + 1) := by
  rw [List.drop_eq_getElem_cons hj, getD_of hj]
theorem qof (a : Nat) (w : World) : Calls Tryd.prog 39 #[.int .u64 a] w (Qt (.int .u64 (fOf a : Int)) w) := (of_any a w).mono fun _ _ h => ⟨h.1, 0, h.2.symm⟩
theorem qadd (a b : Nat) (w : World) : Calls Tryd.prog 29 #[.int .u64 a, .int .u64 b] w (Qt (.int .u64 (fAdd a b : Int)) w) := (FpC.add_any a b w).mono fun _ _ h => ⟨h.1, 0, h.2.symm⟩
theorem qsub (a b : Nat) (w : World) : Calls Tryd.prog 71 #[.int .u64 a, .int .u64 b] w (Qt (.int .u64 (fSub a b : Int)) w) := (FpC.sub_any a b w).mono fun _ _ h => ⟨h.1, 0, h.2.symm⟩
theorem radd (a b : Nat) (w : World) : Calls Tryd.prog 17 #[.int .u64 a, .int .u64 b] w (Qt (.int .u64 (fAdd a b : Int)) w) := (Ref01.add_any a b w).mono fun _ _ h => ⟨h.1, 0, h.2.symm⟩
theorem rsub (a b : Nat) (w : World) : Calls Tryd.prog 43 #[.int .u64 a, .int .u64 b] w (Qt (.int .u64 (fSub a b : Int)) w) := (Ref01.sub_any a b w).mono fun _ _ h => ⟨h.1, 0, h.2.symm⟩
theorem rmul (a b : Nat) (w : World) : Calls Tryd.prog 32 #[.int .u64 a, .int .u64 b] w (Qt (.int .u64 (fMul a b : Int)) w) := (Ref01.mul_any a b w).mono fun _ _ h => ⟨h.1, 0, h.2.symm⟩
theorem rinv (a : Nat) (w : World) : Calls Tryd.prog 44 #[.int .u64 a] w (Qt (.int .u64 (fInv a : Int)) w) := (Ref01.inv_any a w).mono fun _ _ h => ⟨h.1, 0, h.2.symm⟩
set_option maxHeartbeats 400000 in
theorem eval_any (A : Option Addr) (c n x : Nat) (xs : List Nat) (w : World) (hn : xs.length = n) (hn2 : n ≤ 100000) (hr : RowN w A xs) (hx : Hid (x < 18446744073709551616)) :
    Calls Tryd.prog 18 #[.slice A n c, .int .u64 x] w (Qt (.int .u64 (hor x xs : Nat)) w) := by
  have hst : Hid (hor x (xs.drop n) = 0) := Lib.hid (by rw [← hn, List.drop_length]; rfl)
  go_enter Tryd.func18, Tryd.ntmps18
  go_wp2
  go_loopw [5, 6] (fun v i wr => ∃ (k t : Nat), k ≤ n ∧ i = .int .i64 ((k : Int) - 1) ∧ v = .int .u64 (hor x (xs.drop k) : Nat) ∧ wr = w.drewN t) (fun _ i _ => (intOf i + 1).toNat)
  case atStart => exact ⟨n, 0, Nat.le_refl _, rfl, by rw [hst.out]; rfl, rfl⟩
  case round =>
    clear hst
    obtain ⟨k, t, hk, rfl, rfl, rfl⟩ := hrel
    cases k with
    | zero =>
      have hz : decide ((0 : Int) ≤ ((0 : Nat) : Int) - 1) = false := rfl
      go_wp2
      go_ret
      exact Qt.some
    | succ j =>
      have e : ((j + 1 : Nat) : Int) - 1 = j := by omega
      rw [e]
      have hz : decide ((0 : Int) ≤ (j : Int)) = true := decide_eq_true (by omega)
      obtain ⟨ad, rfl, hc⟩ := hr.at (j := j) (by omega)
      obtain ⟨h, hh⟩ : ∃ h : Nat, Hid (h = hor x (xs.drop (j + 1))) := ⟨_, Lib.hid rfl⟩
      have hl : Hid (h < 18446744073709551616) := Lib.hid (by rw [hh.out]; exact lt64 (hor_lt _ _))
      have hd := Lib.hid (drop_at (xs := xs) (j := j) (by omega))
      rw [← hh.out]
      obtain ⟨y, hy⟩ : ∃ y : Nat, Hid (y = xs.getD j 0) := ⟨_, Lib.hid rfl⟩
      rw [← hy.out] at hc
      clear hr
      go_wp2
      go_quiet (first
        | (go_at_call 31; first | exact Qt.quiet (mul_any _ _ hl hx _) | exact Qt.quiet_add (mul_any _ _ hl hx _))
        | (go_at_call 29; first | exact Qt.quiet (qadd _ _ _) | exact Qt.quiet_add (qadd _ _ _)))
      go_wp2
      go_roundw
      case rel => exact ⟨j, _, by omega, rfl, by rw [hd.out, hor, ← hh.out, ← hy.out], rfl⟩
      case measure => simp [intOf]
set_option maxHeartbeats 400000 in
theorem weight_ok (A : Option Addr) (c n i y : Nat) (xs : List Nat) (w : World) (hn : xs.length = n) (hn2 : n ≤ 100000) (hi : i < n) (hr : RowN w A xs) (h0 : Hid (fOf (ab xs i (xs.getD i 0) xs.length) ≠ 0)) :
    Calls Tryd.prog 61 #[.slice A n c, .int .i64 i, .int .u64 y] w (Qt (.tuple #[.int .u64 (wt xs i y : Nat), .nilIface]) w) := by
  obtain ⟨ad, rfl, hci⟩ := hr.at (j := i) (by omega)
  obtain ⟨z, hz⟩ : ∃ z : Nat, Hid (z = xs.getD i 0) := ⟨_, Lib.hid rfl⟩
  rw [← hz.out] at hci
  go_enter Tryd.func61, Tryd.ntmps61
  go_wp2
  go_loopw [8, 9, 14] (fun a b k wr => ∃ (k' t : Nat), k' ≤ n ∧ k = .int .i64 k' ∧ a = .int .u64 (ab xs i y k' : Nat) ∧ b = .int .u64 (ab xs i z k' : Nat) ∧ wr = w.drewN t) (fun _ _ k _ => n - (intOf k).toNat)
  case atStart => exact ⟨0, 0, Nat.zero_le _, rfl, rfl, rfl, rfl⟩
  case round =>
    obtain ⟨k, t, hk, rfl, rfl, rfl, rfl⟩ := hrel
    by_cases hlt : k < n
    · obtain ⟨ad', e', hc⟩ := hr.at (j := k) (by omega)
      cases e'
      obtain ⟨x, hx⟩ : ∃ x : Nat, Hid (x = xs.getD k 0) := ⟨_, Lib.hid rfl⟩
      rw [← hx.out] at hc
      obtain ⟨a, ha⟩ : ∃ a : Nat, Hid (a = ab xs i y k) := ⟨_, Lib.hid rfl⟩
      obtain ⟨b, hb⟩ : ∃ b : Nat, Hid (b = ab xs i z k) := ⟨_, Lib.hid rfl⟩
      have ha2 : Hid (a < 18446744073709551616) := Lib.hid (by rw [ha.out]; exact lt64 (ab_lt _ _ _ _))
      have hb2 : Hid (b < 18446744073709551616) := Lib.hid (by rw [hb.out]; exact lt64 (ab_lt _ _ _ _))
      rw [← ha.out, ← hb.out]
      have hs1 : Hid (fSub y x < 18446744073709551616) := Lib.hid (lt64 (fSub_lt _ _))
      have hs2 : Hid (fSub z x < 18446744073709551616) := Lib.hid (lt64 (fSub_lt _ _))
      clear hr h0
      by_cases hki : k = i
      · subst hki
        go_wp2
        go_roundw
        case rel => exact ⟨k + 1, _, by omega, by go_num, by simp only [ab, ↓reduceIte, ha.out], by simp only [ab, ↓reduceIte, hb.out], rfl⟩
        case measure => simp [intOf]; omega
      · have T : ((k : Int) == (i : Int)) = false := by simp; omega
        go_wp2_with (first
          | (go_at_call 71; (refine (qsub _ _ _).mono ?_); rintro e w' ⟨rfl, n1, rfl⟩)
          | (go_at_call 31; (refine (mul_any _ _ (by assumption) (by assumption) _).mono ?_); rintro e w' ⟨rfl, n1, rfl⟩))
        go_roundw
        case rel => exact ⟨k + 1, _, by omega, by go_num, by simp only [ab, if_neg hki, ha.out, hx.out], by simp only [ab, if_neg hki, hb.out, hx.out], rfl⟩
        case measure => simp [intOf]; omega
    · have hkn : k = n := by omega
      subst hkn
      obtain ⟨a, ha⟩ : ∃ a : Nat, Hid (a = ab xs i y k) := ⟨_, Lib.hid rfl⟩
      obtain ⟨b, hb⟩ : ∃ b : Nat, Hid (b = ab xs i z k) := ⟨_, Lib.hid rfl⟩
      have ha2 : Hid (a < 18446744073709551616) := Lib.hid (by rw [ha.out]; exact lt64 (ab_lt _ _ _ _))
      have hb2 : Hid (b < 18446744073709551616) := Lib.hid (by rw [hb.out]; exact lt64 (ab_lt _ _ _ _))
      have hb0 : Hid (fOf b ≠ 0) := Lib.hid (by rw [hb.out, hz.out, ← hn]; exact h0.out)
      have hw : Hid (fMul a (fInv b) = wt xs i y) := Lib.hid (by rw [ha.out, hb.out, hz.out, wt, hn])
      rw [← ha.out, ← hb.out]
      clear hr h0
      go_wp2_with (go_at_call 72; (refine (div_some a b ha2 hb2 hb0 _).mono ?_); rintro e w' ⟨rfl, n1, rfl⟩)
      exact bodyPost_ret (v := .tuple #[.int .u64 (fMul a (fInv b) : Nat), .nilIface]) (by simp [results, Tryd.results61, go_sem]) rfl ⟨by rw [hw.out], _, rfl⟩
set_option maxHeartbeats 400000 in
theorem refEval_any (A : Option Addr) (c n x : Nat) (xs : List Nat) (w : World) (hn : xs.length = n) (hn2 : n ≤ 100000) (hr : RowN w A xs) :
    Calls Tryd.prog 19 #[.slice A n c, .int .u64 x] w (Qt (.int .u64 (hor x xs : Nat)) w) := by
  go_enter Tryd.func19, Tryd.ntmps19
  go_wp2
  go_loopw [5, 6, 7] (fun o p i wr => ∃ (k t : Nat), k ≤ n ∧ i = .int .i64 k ∧ o = .int .u64 (se xs x k : Nat) ∧ p = .int .u64 (fPow x k : Nat) ∧ wr = w.drewN t) (fun _ _ i _ => n - (intOf i).toNat)
  case atStart => exact ⟨0, 0, Nat.zero_le _, rfl, rfl, rfl, rfl⟩
  case round =>
    obtain ⟨k, t, hk, rfl, rfl, rfl, rfl⟩ := hrel
    by_cases hlt : k < n
    · obtain ⟨ad, rfl, hc⟩ := hr.at (j := k) (by omega)
      obtain ⟨y, hy⟩ : ∃ y : Nat, Hid (y = xs.getD k 0) := ⟨_, Lib.hid rfl⟩
      rw [← hy.out] at hc
      clear hr
      go_wp2_with (first
        | (go_at_call 32; (refine (rmul _ _ _).mono ?_); rintro e w' ⟨rfl, n1, rfl⟩)
        | (go_at_call 17; (refine (radd _ _ _).mono ?_); rintro e w' ⟨rfl, n1, rfl⟩))
      go_roundw
      case rel => exact ⟨k + 1, _, by omega, by go_num, by rw [se, ← hy.out], rfl, rfl⟩
      case measure => simp [intOf]; omega
    · have hkn : k = n := by omega
      subst hkn
      have e := Lib.hid (se_hor xs x)
      go_wp2
      go_ret
      exact Qt.of (int_eq (by rw [← e.out, hn]))
instance (xs : List Nat) : Decidable (Ap xs) := inferInstanceAs (Decidable (List.Nodup _))
theorem ap_iff (xs : List Nat) : Ap xs ↔ ∀ i k, k < i → i < xs.length → fOf (xs.getD i 0) ≠ fOf (xs.getD k 0) := by
  unfold Ap List.Nodup
  rw [List.pairwise_map, List.pairwise_iff_getElem]
  constructor
  · intro h i k hk hi
    have := h k i (by omega) hi hk
    rw [getD_of hi, getD_of (by omega : k < xs.length)]
    exact Ne.symm this
  · intro h i j hi hj hij
    have := h j i hij hj
    rw [getD_of hi, getD_of hj] at this
    exact Ne.symm this
theorem mod_eq (x y : Nat) : ((x : Int) % 2305843009213693951 == (y : Int) % 2305843009213693951) = decide (fOf x = fOf y) := by
  have e1 : (x : Int) % 2305843009213693951 = ((fOf x : Nat) : Int) := by rw [fOf, P_lit]; omega
  have e2 : (y : Int) % 2305843009213693951 = ((fOf y : Nat) : Int) := by rw [fOf, P_lit]; omega
  rw [e1, e2]
  by_cases h : fOf x = fOf y
  · rw [h]; simp
  · rw [decide_eq_false h]; simp; omega
/-- Which error places bring: none, or ErrTwice. -/
def apE (xs : List Nat) : Int := if Ap xs then 0 else 8
theorem refApart_big (A : Option Addr) (c n : Nat) (w : World) (hn : 64 < n) :
    Calls Tryd.prog 41 #[.slice A n c] w (Qt (.int .i64 1) w) := by
  have hbig : (64 : Int) < n := by omega
  go_enter Tryd.func41, Tryd.ntmps41
  go_wp2
  go_ret
  exact Qt.zero
set_option maxHeartbeats 800000 in
theorem refApart_any (A : Option Addr) (c n : Nat) (xs : List Nat) (w : World) (hn : xs.length = n) (hn2 : n ≤ 64) (hr : RowN w A xs) :
    Calls Tryd.prog 41 #[.slice A n c] w (Qt (.int .i64 (apE xs)) w) := by
  have hbig : ¬ (64 : Int) < n := by omega
  go_enter Tryd.func41, Tryd.ntmps41
  go_wp2
  go_loopw [3] (fun i wr => ∃ (k t : Nat), k ≤ n ∧ i = .int .i64 k ∧ (∀ a b, b < a → a < k → fOf (xs.getD a 0) ≠ fOf (xs.getD b 0)) ∧ wr = w.drewN t) (fun i _ => n - (intOf i).toNat)
  case atStart => exact ⟨0, 0, Nat.zero_le _, rfl, fun _ _ _ h => absurd h (Nat.not_lt_zero _), rfl⟩
  case round =>
    obtain ⟨k, t, hk, rfl, hd, rfl⟩ := hrel
    have HD := Lib.hid hd
    clear hd
    by_cases hlt : k < n
    · obtain ⟨ad, rfl, hck⟩ := hr.at (j := k) (by omega)
      obtain ⟨x, hx⟩ : ∃ x : Nat, Hid (x = xs.getD k 0) := ⟨_, Lib.hid rfl⟩
      rw [← hx.out] at hck
      go_wp2
      go_loopw [4] (fun j wr => ∃ (i t : Nat), i ≤ k ∧ j = .int .i64 i ∧ (∀ b, b < i → fOf x ≠ fOf (xs.getD b 0)) ∧ wr = w.drewN t) (fun j _ => k - (intOf j).toNat)
      case atStart => exact ⟨0, _, Nat.zero_le _, rfl, fun _ h => absurd h (Nat.not_lt_zero _), rfl⟩
      case round =>
        obtain ⟨i, t, hi, rfl, hd2, rfl⟩ := hrel
        have HD2 := Lib.hid hd2
        clear hd2
        by_cases hik : i < k
        · obtain ⟨ad', e', hci⟩ := hr.at (j := i) (by omega)
          cases e'
          obtain ⟨y, hy⟩ : ∃ y : Nat, Hid (y = xs.getD i 0) := ⟨_, Lib.hid rfl⟩
          rw [← hy.out] at hci
          clear hr
          by_cases hxy : fOf x = fOf y
          · have T := (mod_eq x y).trans (decide_eq_true hxy)
            have e : Hid (apE xs = 8) := Lib.hid (if_neg fun h => (ap_iff xs).mp h k i hik (by omega) (by rw [← hx.out, ← hy.out]; exact hxy))
            go_wp2
            go_region
            go_wp2
            go_ret
            exact Qt.of (int_eq e.out.symm)
          · have T := (mod_eq x y).trans (decide_eq_false hxy)
            go_wp2
            go_region
            go_wp2
            go_roundw
            case rel => exact ⟨i + 1, _, by omega, by go_num, fun b hb => by
              rcases Nat.lt_or_ge b i with h | h
              · exact HD2.out b h
              · have e : b = i := by omega
                subst e
                rw [← hy.out]; exact hxy, rfl⟩
            case measure => simp [intOf]; omega
        · have hin : i = k := by omega
          subst hin
          go_wp2
          go_roundw
          case rel => exact ⟨i + 1, _, by omega, by go_num, fun a b hb ha => by
            rcases Nat.lt_or_ge a i with h | h
            · exact HD.out a b hb h
            · have e : a = i := by omega
              subst e
              rw [← hx.out]; exact HD2.out b hb, rfl⟩
          case measure => simp [intOf]; omega
    · have hkn : k = n := by omega
      subst hkn
      have e : Hid (apE xs = 0) := Lib.hid (if_pos ((ap_iff xs).mpr (by rw [hn]; exact HD.out)))
      go_wp2
      go_ret
      exact Qt.of (int_eq e.out.symm)
end PoC
end Go.Proofs.YtphelljbaodhpaaDoor
