/- The document's own answers of layer 1 (package caucusref01): the same arithmetic as fp's. Condition: the arguments fit 64 bits. -/
import Derived.Test.YtfeahgcigmoijaaGreatDoorPkF
namespace Go.Proofs.YtfeahgcigmoijaaGreatDoor
open Go.RowKit Go.Lib
namespace Ref01
open FpM FpC
theorem ret_int {k : IntKind} {a b : Int} (h : a = b) : Ending.returned (.int k a) = .returned (.int k b) := by rw [h]
def MulRel (a b : Nat) (o i : Value) : Prop := ∃ k x : Nat, i = .int .i64 ((k : Int) - 1) ∧ o = .int .u64 x ∧ k ≤ 61 ∧ x = fMul a (b / 2 ^ k)
def DownRel (t : Nat) (o : Value) : Prop := ∃ z : Nat, o = .int .u64 z ∧ z % P = t ∧ z < 9223372036854775808
theorem bit_step (x y j o : Nat) (ho : o = fMul x (y / 2 ^ (j + 1))) : (y / 2 ^ j % 2 = 1 → (2 * o + x) % P = fMul x (y / 2 ^ j)) ∧ (y / 2 ^ j % 2 = 0 → 2 * o % P = fMul x (y / 2 ^ j)) := by
  rw [Nat.pow_succ, ← Nat.div_div_eq_div_mul] at ho
  generalize y / 2 ^ j = m at *
  constructor
  · intro h
    have e : m = 2 * (m / 2) + 1 := by omega
    conv => rhs; rw [e]
    rw [ho]; unfold fMul
    rw [Nat.mul_add, Nat.mul_one, Nat.add_mod, Nat.mul_mod_mod, ← Nat.add_mod, Nat.mul_left_comm]
  · intro h
    have e : m = 2 * (m / 2) := by omega
    conv => rhs; rw [e]
    rw [ho]; unfold fMul
    rw [Nat.mul_mod_mod, Nat.mul_left_comm]
theorem tmod2 (y j : Nat) : ((y : Int) / 2 ^ j).tmod 2 = ((y / 2 ^ j % 2 : Nat) : Int) := by
  have e : (y : Int) / 2 ^ j = ((y / 2 ^ j : Nat) : Int) := by simp
  rw [e, Int.tmod_eq_emod_of_nonneg (Int.natCast_nonneg _)]; omega
set_option maxHeartbeats 400000 in
theorem mul_any (a b : Nat) (w : World) : Calls Tryz.prog 64 #[.int .u64 a, .int .u64 b] w fun e w' => e = .returned (.int .u64 (fMul a b : Int)) ∧ w = w' := by
  obtain ⟨x, hx, hx1, hxe⟩ : ∃ x : Nat, Hid ((a : Int) % 2305843009213693951 = (x : Int)) ∧ Hid (x < P) ∧ Hid (x = a % P) := ⟨a % P, Lib.hid (by rw [P_lit]; omega), Lib.hid (Nat.mod_lt _ P_pos), Lib.hid rfl⟩
  obtain ⟨y, hy, hy1, hye⟩ : ∃ y : Nat, Hid ((b : Int) % 2305843009213693951 = (y : Int)) ∧ Hid (y < P) ∧ Hid (y = b % P) := ⟨b % P, Lib.hid (by rw [P_lit]; omega), Lib.hid (Nat.mod_lt _ P_pos), Lib.hid rfl⟩
  have hst : Hid (MulRel x y (.int .u64 0) (.int .i64 60)) := Lib.hid ⟨61, 0, by congr 1, rfl, by omega, by
    have := hy1.out
    rw [Nat.div_eq_of_lt (by rw [P_lit] at this; omega), fMul_zero]⟩
  have hend : Hid (fMul x y = fMul a b) := Lib.hid (by rw [hxe.out, hye.out, fMul_mod_l, fMul_mod_r])
  go_enter Tryz.func64, Tryz.ntmps64
  go_wp2
  rw [hx.out, hy.out]
  go_loop [5, 6] (MulRel x y) (fun _ i => (intOf i + 1).toNat)
  case atStart => exact hst.out
  case round =>
    clear hst
    obtain ⟨k, o, rfl, rfl, hk, ho⟩ := hrel
    have HO := Lib.hid ho
    clear ho
    by_cases h0 : k = 0
    · subst h0
      have hz : Hid (o = fMul a b) := Lib.hid (by have := HO.out; rw [Nat.pow_zero, Nat.div_one, hend.out] at this; exact this)
      go_wp2
      go_ret
      exact ⟨by rw [← hz.out]; rfl, rfl⟩
    · obtain ⟨j, rfl⟩ : ∃ j, k = j + 1 := ⟨k - 1, by omega⟩
      have e1 : Hid (((j + 1 : Nat) : Int) - 1 = j) := Lib.hid (by omega)
      rw [e1.out]
      have HS := Lib.hid (bit_step x y j o HO.out)
      have HB : Hid (o < P) := Lib.hid (by rw [HO.out]; exact fMul_lt _ _)
      have hw1 : Hid (IntKind.u64.wrap (IntKind.u64.wrap (2 * (o : Int)) + (x : Int)) = ((2 * o + x : Nat) : Int)) := Lib.hid (by
        have := HB.out; have := hx1.out; rw [P_lit] at *; simp only [IntKind.wrap_u64]; omega)
      have hw0 : Hid (IntKind.u64.wrap (2 * (o : Int)) = ((2 * o : Nat) : Int)) := Lib.hid (by
        have := HB.out; rw [P_lit] at *; simp only [IntKind.wrap_u64]; omega)
      have hj : j ≤ 60 := by omega
      have hb : ∃ v : Bool, (((y : Int) / 2 ^ j).tmod 2 == 1) = v ∧ Hid (DownRel (fMul x (y / 2 ^ j)) (.int .u64 (if v then ((2 * o + x : Nat) : Int) else ((2 * o : Nat) : Int)))) := by
        have h1 := HB.out
        have h2 := hx1.out
        rw [tmod2]
        rw [P_lit] at h1 h2
        rcases Nat.mod_two_eq_zero_or_one (y / 2 ^ j) with h | h
        · exact ⟨false, by rw [h]; rfl, Lib.hid ⟨2 * o, rfl, HS.out.2 h, by omega⟩⟩
        · exact ⟨true, by rw [h]; rfl, Lib.hid ⟨2 * o + x, rfl, HS.out.1 h, by omega⟩⟩
      obtain ⟨v, T, hD⟩ := hb
      clear h0 hk
      cases v
      all_goals
        go_wp2
        first | rw [hw1.out] | rw [hw0.out]
        go_loop [5] (DownRel (fMul x (y / 2 ^ j))) (fun o => (intOf o).toNat)
        case atStart => exact hD.out
        case round =>
          clear hD
          obtain ⟨z, rfl, hz1, hz2⟩ := hrel
          have HZ1 := Lib.hid hz1
          have HZ2 := Lib.hid hz2
          clear hz1 hz2
          by_cases hge : 2305843009213693951 ≤ z
          · have T2 : decide ((2305843009213693951 : Int) ≤ (z : Int)) = true := by simp; omega
            have HG := Lib.hid hge
            clear hge
            go_wp2
            go_round
            case rel => exact ⟨z - 2305843009213693951, by congr 1; have := HG.out; have := HZ2.out; rw [IntKind.wrap_u64]; omega, by rw [← HZ1.out, P_lit, Nat.mod_eq_sub_mod HG.out], by have := HZ2.out; omega⟩
            case measure => have := HG.out; have := HZ2.out; simp only [intOf]; rw [IntKind.wrap_u64]; omega
          · have T2 : decide ((2305843009213693951 : Int) ≤ (z : Int)) = false := by simp; omega
            have hzt : Hid (z = fMul x (y / 2 ^ j)) := Lib.hid (by rw [← HZ1.out, Nat.mod_eq_of_lt (by rw [P_lit]; omega)])
            clear hge
            go_wp2
            go_round
            case rel => exact ⟨j, z, rfl, rfl, by omega, hzt.out⟩
            case measure => simp [intOf]
def PowR (a n : Nat) (o i : Value) : Prop := ∃ k x : Nat, i = .int .i64 ((k : Int) - 1) ∧ o = .int .u64 x ∧ k ≤ 64 ∧ x = fPow a (n / 2 ^ k)
theorem pow_step (a n j o : Nat) (ho : o = fPow a (n / 2 ^ (j + 1))) : (n / 2 ^ j % 2 = 1 → fMul (fMul o o) a = fPow a (n / 2 ^ j)) ∧ (n / 2 ^ j % 2 = 0 → fMul o o = fPow a (n / 2 ^ j)) := by
  rw [Nat.pow_succ, ← Nat.div_div_eq_div_mul] at ho
  generalize n / 2 ^ j = m at *
  have e1 : fMul o o = fPow a (2 * (m / 2)) := by rw [ho, fPow_add]; congr 1; omega
  constructor
  · intro h
    have e : m = 2 * (m / 2) + 1 := by omega
    conv => rhs; rw [e, fPow]
    rw [e1]
  · intro h
    have e : m = 2 * (m / 2) := by omega
    conv => rhs; rw [e]
    rw [e1]
theorem pow_any (a n : Nat) (hn : Hid (n < 18446744073709551616)) (w : World) : Calls Tryz.prog 44 #[.int .u64 a, .int .u64 n] w fun e w' => e = .returned (.int .u64 (fPow a n : Int)) ∧ w = w' := by
  have hst : Hid (PowR a n (.int .u64 1) (.int .i64 63)) := Lib.hid ⟨64, 1, by congr 1, rfl, by omega, by
    have := hn.out
    rw [Nat.div_eq_of_lt (by omega), fPow_zero]⟩
  go_enter Tryz.func44, Tryz.ntmps44
  go_wp2_with (fail)
  go_loop [5, 6] (PowR a n) (fun _ i => (intOf i + 1).toNat)
  case atStart => exact hst.out
  case round =>
    clear hst
    obtain ⟨k, o, rfl, rfl, hk, ho⟩ := hrel
    have HO := Lib.hid ho
    clear ho
    by_cases h0 : k = 0
    · subst h0
      have hz : Hid (o = fPow a n) := Lib.hid (by have := HO.out; rw [Nat.pow_zero, Nat.div_one] at this; exact this)
      go_wp2_with (fail)
      go_ret
      exact ⟨by rw [← hz.out]; rfl, rfl⟩
    · obtain ⟨j, rfl⟩ : ∃ j, k = j + 1 := ⟨k - 1, by omega⟩
      have e1 : Hid (((j + 1 : Nat) : Int) - 1 = j) := Lib.hid (by omega)
      rw [e1.out]
      have HS := Lib.hid (pow_step a n j o HO.out)
      have hj : j ≤ 63 := by omega
      have hb : ∃ v : Bool, (((n : Int) / 2 ^ j).tmod 2 == 1) = v ∧ Hid ((if v then fMul (fMul o o) a else fMul o o) = fPow a (n / 2 ^ j)) := by
        rw [tmod2]
        rcases Nat.mod_two_eq_zero_or_one (n / 2 ^ j) with h | h
        · exact ⟨false, by rw [h]; rfl, Lib.hid (HS.out.2 h)⟩
        · exact ⟨true, by rw [h]; rfl, Lib.hid (HS.out.1 h)⟩
      obtain ⟨v, T, hD⟩ := hb
      clear h0 hk
      cases v
      all_goals
        go_wp2_with (go_at_call 64; refine (mul_any _ _ _).mono ?_; rintro e w' ⟨rfl, rfl⟩)
        go_round
        case rel => exact ⟨j, _, rfl, rfl, by omega, hD.out⟩
        case measure => simp [intOf]
def InvR (a : Nat) (r s x y i : Value) : Prop := ∃ k r' s' x' y' : Nat, r = .int .u64 r' ∧ s = .int .u64 s' ∧ x = .int .u64 x' ∧ y = .int .u64 y' ∧ i = .int .i64 k ∧ Eu a k r' s' x' y'
end Ref01
end Go.Proofs.YtfeahgcigmoijaaGreatDoor
