/- The calls of package fp as plain arithmetic modulo 2^61 - 1; nothing of the world changes but the count of draws. Condition: the arguments fit 64 bits. -/
import Derived.Test.YtphelljbaodhpaaDoorFpMath
import Derived.Test.YtphelljbaodhpaaDoorBits
namespace Go.Proofs.YtphelljbaodhpaaDoor
open Go.RowKit Go.Lib
namespace FpC
open FpM
theorem P_lit : P = 2305843009213693951 := rfl
theorem of_any (a : Nat) (w : World) : Calls Tryd.prog 39 #[.int .u64 a] w fun e w' => e = .returned (.int .u64 (fOf a : Int)) ∧ w = w' := by
  go_enter Tryd.func39, Tryd.ntmps39
  go_wp2
  go_ret
  exact ⟨rfl, rfl⟩
theorem add_any (a b : Nat) (w : World) : Calls Tryd.prog 29 #[.int .u64 a, .int .u64 b] w fun e w' => e = .returned (.int .u64 (fAdd a b : Int)) ∧ w = w' := by
  have hs : Hid (IntKind.u64.wrap ((fOf a : Int) + (fOf b : Int)) = ((fOf a + fOf b : Nat) : Int)) := Lib.hid (by
    have h1 := fOf_lt a
    have h2 := fOf_lt b
    rw [IntKind.wrap_u64]; rw [P_lit] at *; omega)
  go_enter Tryd.func29, Tryd.ntmps29
  go_wp2_with (go_at_call 39; (first | rw [hs.out] | skip); refine (of_any _ _).mono ?_; rintro e w' ⟨rfl, rfl⟩)
  go_ret
  exact ⟨rfl, rfl⟩
theorem sub_any (a b : Nat) (w : World) : Calls Tryd.prog 71 #[.int .u64 a, .int .u64 b] w fun e w' => e = .returned (.int .u64 (fSub a b : Int)) ∧ w = w' := by
  have hs : Hid (IntKind.u64.wrap (IntKind.u64.wrap ((fOf a : Int) + 2305843009213693951) - (fOf b : Int)) = ((fOf a + (P - fOf b) : Nat) : Int)) := Lib.hid (by
    have h1 := fOf_lt a
    have h2 := fOf_lt b
    simp only [IntKind.wrap_u64]; rw [P_lit] at *; omega)
  go_enter Tryd.func71, Tryd.ntmps71
  go_wp2_with (go_at_call 39; (first | rw [hs.out] | skip); refine (of_any _ _).mono ?_; rintro e w' ⟨rfl, rfl⟩)
  go_ret
  exact ⟨rfl, rfl⟩
theorem parts (a b : Nat) : a * b / 18446744073709551616 * 18446744073709551616 + a * b % 18446744073709551616 = a * b := by
  have := Nat.div_add_mod (a * b) 18446744073709551616
  omega
theorem mul_any (a b : Nat) (ha : Hid (a < 18446744073709551616)) (hb : Hid (b < 18446744073709551616)) (w : World) :
    Calls Tryd.prog 31 #[.int .u64 a, .int .u64 b] w (Qt (.int .u64 (fMul a b : Int)) w) := by
  obtain ⟨h, hh⟩ : ∃ h : Nat, Hid (h = a * b / 18446744073709551616) := ⟨_, Lib.hid rfl⟩
  obtain ⟨l, hl⟩ : ∃ l : Nat, Hid (l = a * b % 18446744073709551616) := ⟨_, Lib.hid rfl⟩
  have hl2 : Hid (l < 18446744073709551616) := Lib.hid (by rw [hl.out]; exact Nat.mod_lt _ (by omega))
  have he : Hid ((h * 18446744073709551616 + l) % 2305843009213693951 = fMul a b) := Lib.hid (by rw [hh.out, hl.out, parts]; rfl)
  go_enter Tryd.func31, Tryd.ntmps31
  go_wp2_with (first | (go_at_call 49; refine (BitsC.mul64 a b ha.out hb.out _).mono ?_; rintro e w' ⟨rfl, rfl⟩; rw [← hh.out, ← hl.out]) | (go_at_call 50; refine (BitsC.rem64 h l hl2 2305843009213693951 (Lib.hid rfl) _).mono ?_; rintro e w' ⟨rfl, n, rfl⟩; rw [he.out]))
  go_ret
  exact Qt.some

theorem bit_no (m : Nat) (hm : m < 18446744073709551616) (h : m % 2 = 0) : (bits .and .u64 (m : Int) 1 == 1) = false := by
  have := bits_and_u64_nat m 1 hm (by omega)
  have e : bits .and .u64 (m : Int) 1 = ((m &&& 1 : Nat) : Int) := this
  rw [e, Nat.and_one_is_mod, h]; rfl
theorem bit_yes (m : Nat) (hm : m < 18446744073709551616) (h : m % 2 = 1) : (bits .and .u64 (m : Int) 1 == 1) = true := by
  have := bits_and_u64_nat m 1 hm (by omega)
  have e : bits .and .u64 (m : Int) 1 = ((m &&& 1 : Nat) : Int) := this
  rw [e, Nat.and_one_is_mod, h]; rfl
theorem lt64 {a : Nat} (h : a < P) : a < 18446744073709551616 := by rw [P_lit] at h; omega
/-- What holds of a, n, p at the head of a round of Pow. -/
def PowRel (a0 n0 : Nat) (w : World) (a n p : Value) (wr : World) : Prop :=
  ∃ x m q : Nat, a = .int .u64 x ∧ n = .int .u64 m ∧ p = .int .u64 q ∧ x < 18446744073709551616 ∧ m < 18446744073709551616 ∧ q < P ∧ fMul q (fPow x m) = fPow a0 n0 ∧ ∃ k, wr = w.drewN k
theorem half (m : Nat) : (m : Int) / 2 = ((m / 2 : Nat) : Int) := by omega
theorem step_yes {a0 n0 x m q : Nat} (h : fMul q (fPow x m) = fPow a0 n0) (ho : m % 2 = 1) : fMul (fMul q x) (fPow (fMul x x) (m / 2)) = fPow a0 n0 := by
  rw [← h, fPow_sq, fMul_assoc]
  congr 1
  have e : m = 2 * (m / 2) + 1 := by omega
  conv => rhs; rw [e, fPow]
  rw [fMul_comm]
theorem step_no {a0 n0 x m q : Nat} (h : fMul q (fPow x m) = fPow a0 n0) (ho : m % 2 = 0) : fMul q (fPow (fMul x x) (m / 2)) = fPow a0 n0 := by
  rw [← h, fPow_sq, show 2 * (m / 2) = m by omega]
theorem pow_any (a n : Nat) (ha : Hid (a < 18446744073709551616)) (hn : Hid (n < 18446744073709551616)) (w : World) :
    Calls Tryd.prog 76 #[.int .u64 a, .int .u64 n] w (Qt (.int .u64 (fPow a n : Int)) w) := by
  have hst : Hid (PowRel a n w (.int .u64 a) (.int .u64 n) (.int .u64 1) w) := Lib.hid
    ⟨a, n, 1, rfl, rfl, rfl, ha.out, hn.out, P_gt1, by rw [fMul_comm, fMul_one, Nat.mod_eq_of_lt (fPow_lt _ _)], 0, rfl⟩
  go_enter Tryd.func76, Tryd.ntmps76
  go_wp2_with (fail)
  go_loopw [0, 1, 5] (PowRel a n w) (fun _ m _ _ => (intOf m).toNat)
  case atStart => exact hst.out
  case round =>
    obtain ⟨x, m, q, rfl, rfl, rfl, hx, hm, hq, he, k, rfl⟩ := hrel
    have HX := Lib.hid hx
    have HM := Lib.hid hm
    have HQ := Lib.hid hq
    have HE := Lib.hid he
    clear hst hx hm hq he
    by_cases h0 : m = 0
    · have hend : Hid (q = fPow a n) := Lib.hid (by have := HE.out; rw [h0, fPow_zero, fMul_one, Nat.mod_eq_of_lt HQ.out] at this; exact this)
      have T0 : decide ((0 : Int) < m) = false := by simp; omega
      subst h0
      go_wp2_with (fail)
      go_ret
      exact Qt.of (by rw [← hend.out]; rfl)
    · have hpos : 0 < m := by omega
      by_cases ho : m % 2 = 0
      · have T1 := bit_no m HM.out ho
        have HO := Lib.hid ho
        clear ho h0
        go_wp2_with (go_at_call 31; refine (mul_any x x HX HX _).mono ?_; rintro e w' ⟨rfl, n, rfl⟩)
        go_roundw
        case rel => exact ⟨_, m / 2, q, rfl, by rw [half], rfl, lt64 (fMul_lt _ _), by have := HM.out; omega, HQ.out, step_no HE.out HO.out, _, rfl⟩
        case measure => simp [intOf]; omega
      · have T1 := bit_yes m HM.out (by omega)
        have HO := Lib.hid ho
        clear ho h0
        have HQ64 : Hid (q < 18446744073709551616) := Lib.hid (lt64 HQ.out)
        go_wp2_with (go_at_call 31; refine (mul_any _ _ (by assumption) (by assumption) _).mono ?_; rintro e w' ⟨rfl, n, rfl⟩)
        go_roundw
        case rel => exact ⟨_, m / 2, _, rfl, by rw [half], rfl, lt64 (fMul_lt _ _), by have := HM.out; omega, fMul_lt _ _, step_yes HE.out (by have := HO.out; omega), _, rfl⟩
        case measure => simp [intOf]; omega

theorem inv_some (a : Nat) (ha : Hid (a < 18446744073709551616)) (h0 : Hid (fOf a ≠ 0)) (w : World) :
    Calls Tryd.prog 75 #[.int .u64 a] w (Qt (.tuple #[.int .u64 (fInv a : Int), .nilIface]) w) := by
  have T : ((fOf a : Int) == 0) = false := by have := h0.out; simp; omega
  go_enter Tryd.func75, Tryd.ntmps75
  go_wp2_with (first | (go_at_call 39; refine (of_any _ _).mono ?_; rintro e w' ⟨rfl, rfl⟩) | (go_at_call 76; refine (pow_any a 2305843009213693949 ha (Lib.hid (by omega)) _).mono ?_; rintro e w' ⟨rfl, n, rfl⟩))
  go_ret2
  exact Qt.some
theorem inv_none (a : Nat) (h0 : Hid (fOf a = 0)) (w : World) :
    Calls Tryd.prog 75 #[.int .u64 a] w (Qt (.tuple #[.int .u64 0, .iface 55 (.int .i64 1)]) w) := by
  have T : ((fOf a : Int) == 0) = true := by have := h0.out; simp; omega
  go_enter Tryd.func75, Tryd.ntmps75
  go_wp2_with (first | (go_at_call 39; refine (of_any _ _).mono ?_; rintro e w' ⟨rfl, rfl⟩))
  go_ret2
  exact Qt.zero
theorem div_some (a b : Nat) (ha : Hid (a < 18446744073709551616)) (hb : Hid (b < 18446744073709551616)) (h0 : Hid (fOf b ≠ 0)) (w : World) :
    Calls Tryd.prog 72 #[.int .u64 a, .int .u64 b] w (Qt (.tuple #[.int .u64 (fMul a (fInv b) : Int), .nilIface]) w) := by
  have hi : Hid (fInv b < 18446744073709551616) := Lib.hid (lt64 (fInv_lt b))
  go_enter Tryd.func72, Tryd.ntmps72
  go_wp2_with (first | (go_at_call 75; refine (inv_some b hb h0 _).mono ?_; rintro e w' ⟨rfl, n, rfl⟩) | (go_at_call 31; refine (mul_any _ _ ha hi _).mono ?_; rintro e w' ⟨rfl, n, rfl⟩))
  go_ret2
  exact Qt.some
theorem div_none (a b : Nat) (h0 : Hid (fOf b = 0)) (w : World) :
    Calls Tryd.prog 72 #[.int .u64 a, .int .u64 b] w (Qt (.tuple #[.int .u64 0, .iface 55 (.int .i64 1)]) w) := by
  go_enter Tryd.func72, Tryd.ntmps72
  go_wp2_with (first | (go_at_call 75; refine (inv_none b h0 _).mono ?_; rintro e w' ⟨rfl, n, rfl⟩))
  go_ret2
  exact Qt.some
end FpC
end Go.Proofs.YtphelljbaodhpaaDoor
