/- math/bits.Mul64, LeadingZeros64, Div64 and Rem64 at the divisor 2^61 - 1 (Go's own text walked): the product's halves, the rest. Conditions: the numbers fit 64 bits; the upper half lies below the divisor. -/
import Derived.Test.YtphelljbaodhpaaDoorFpMath
import Derived.Test.YtphelljbaodhpaaDoorProg
import Derived.Test.YtphelljbaodhpaaDoorKit
import Derived.WalkKit
import Derived.Lib.Mul64
import Derived.WalkSpells
import Derived.Deep.Cut
import Derived.Laws.Bits64b
namespace Go.Proofs.YtphelljbaodhpaaDoor
open Go.RowKit Go.Lib
namespace BitsC
theorem maskN (a : Nat) (ha : a < 18446744073709551616) : bits .and .u64 (a : Int) 4294967295 = ((a % 4294967296 : Nat) : Int) := by
  have h := bits_and_u64_nat a 4294967295 ha (by omega)
  have e : a &&& 4294967295 = a % 4294967296 := Nat.and_two_pow_sub_one_eq_mod a 32
  rw [e] at h
  exact h
theorem divN (a : Nat) : (a : Int) / 4294967296 = ((a / 4294967296 : Nat) : Int) := by omega
theorem mulN (a b : Nat) : (a : Int) * (b : Int) = ((a * b : Nat) : Int) := (Int.natCast_mul a b).symm
theorem addN (a b : Nat) : (a : Int) + (b : Int) = ((a + b : Nat) : Int) := (Int.natCast_add a b).symm
theorem wrapN (a : Nat) (ha : a < 18446744073709551616) : IntKind.u64.wrap (a : Int) = (a : Int) := by rw [IntKind.wrap_u64]; omega
theorem wrapM (a : Nat) : IntKind.u64.wrap (a : Int) = ((a % 18446744073709551616 : Nat) : Int) := by rw [IntKind.wrap_u64]; omega

set_option maxHeartbeats 1000000 in
theorem mul64 (x y : Nat) (hx : x < 18446744073709551616) (hy : y < 18446744073709551616) (w : World) :
    Calls Tryd.prog 49 #[.int .u64 x, .int .u64 y] w fun e w' => e = .returned (.tuple #[.int .u64 ((x * y / 18446744073709551616 : Nat) : Int), .int .u64 ((x * y % 18446744073709551616 : Nat) : Int)]) ∧ w = w' := by
  obtain ⟨bd, bt, bw, hhi⟩ := Lib.mul64_hi x y hx hy
  have ba := Lib.half_mul_le (a := x / 4294967296) (b := y / 4294967296) (by omega) (by omega)
  have bb := Lib.half_mul_le (a := x / 4294967296) (b := y % 4294967296) (by omega) (by omega)
  have bc := Lib.half_mul_le (a := x % 4294967296) (b := y / 4294967296) (by omega) (by omega)
  have ba' : x / 4294967296 * (y / 4294967296) < 18446744073709551616 := by omega
  have bb' : x / 4294967296 * (y % 4294967296) < 18446744073709551616 := by omega
  have bc' : x % 4294967296 * (y / 4294967296) < 18446744073709551616 := by omega
  have bh1 : x / 4294967296 * (y / 4294967296) + (x / 4294967296 * (y % 4294967296) + x % 4294967296 * (y % 4294967296) / 4294967296) / 4294967296 < 18446744073709551616 := by omega
  have bh : x / 4294967296 * (y / 4294967296) + (x / 4294967296 * (y % 4294967296) + x % 4294967296 * (y % 4294967296) / 4294967296) / 4294967296 + ((x / 4294967296 * (y % 4294967296) + x % 4294967296 * (y % 4294967296) / 4294967296) % 4294967296 + x % 4294967296 * (y / 4294967296)) / 4294967296 < 18446744073709551616 := by omega
  go_enter Tryd.func49, Tryd.ntmps49
  go_wp2
  simp only [maskN x hx, maskN y hy, divN, mulN, addN, wrapN _ bd, wrapN _ bb', wrapN _ bt, maskN _ bt, wrapN _ bc', wrapN _ bw, wrapN _ ba', wrapN _ bh1, wrapN _ bh, wrapM (x * y)]
  rw [hhi]
  go_ret2
  exact ⟨rfl, rfl⟩

set_option maxRecDepth 100000 in
theorem lz (w : World) : Calls Tryd.prog 73 #[.int .u64 2305843009213693951] w fun e w' => e = .returned (.int .i64 3) ∧ w = w' := by
  go_enter Tryd.func73, Tryd.ntmps73
  go_wp2
  go_ret
  exact ⟨by kernel_rfl, rfl⟩

/-! ### The school's division at the divisor 8 (2^61 - 1): the numbers of one step -/
theorem tdivN (a : Nat) (_ : a < 18446744073709551616) : IntKind.u64.wrap ((a : Int).tdiv 4294967295) = ((a / 4294967295 : Nat) : Int) := by
  rw [Int.tdiv_eq_ediv_of_nonneg (by omega), IntKind.wrap_u64]; omega
theorem tdivN2 (a : Nat) (_ : a < 18446744073709551616) : IntKind.u64.wrap ((a : Int) / 4294967295) = ((a / 4294967295 : Nat) : Int) := by
  rw [IntKind.wrap_u64]; omega
theorem qmulN (a : Nat) (_ : a < 18446744073709551616) : IntKind.u64.wrap (((a / 4294967295 : Nat) : Int) * 4294967295) = ((a / 4294967295 * 4294967295 : Nat) : Int) := by
  rw [IntKind.wrap_u64]; omega
theorem qsubN (a : Nat) (_ : a < 18446744073709551616) : IntKind.u64.wrap ((a : Int) - ((a / 4294967295 * 4294967295 : Nat) : Int)) = ((a % 4294967295 : Nat) : Int) := by
  rw [IntKind.wrap_u64]; omega
theorem orN (hi lo : Nat) (hP : hi < 2305843009213693951) (hl : lo < 18446744073709551616) :
    bits .or .u64 (IntKind.u64.wrap ((hi : Int) * 8)) ((lo : Int) / 2305843009213693952) = ((hi * 8 + lo / 2305843009213693952 : Nat) : Int) := by
  have e1 : IntKind.u64.wrap ((hi : Int) * 8) = ((hi * 8 : Nat) : Int) := by rw [IntKind.wrap_u64]; omega
  have e2 : (lo : Int) / 2305843009213693952 = ((lo / 2305843009213693952 : Nat) : Int) := by omega
  rw [e1, e2, bits_or_u64_nat _ _ (by omega) (by omega)]
  have h : hi * 8 ||| lo / 2305843009213693952 = hi * 8 + lo / 2305843009213693952 := by
    have := Nat.two_pow_add_eq_or_of_lt (i := 3) (b := lo / 2305843009213693952) (by omega) hi
    rw [Nat.mul_comm hi 8]
    exact this.symm
  rw [h]
theorem shlN (lo : Nat) : IntKind.u64.wrap ((lo : Int) * 8) = ((lo * 8 % 18446744073709551616 : Nat) : Int) := by rw [IntKind.wrap_u64]; omega
/-- What is left of u 2^32 + v behind the quotient q: no step's wrap is to be seen. -/
theorem restN (u v q : Nat) (hq : q = (u * 4294967296 + v) / 18446744073709551608) :
    IntKind.u64.wrap (IntKind.u64.wrap (IntKind.u64.wrap ((u : Int) * 4294967296) + (v : Int)) - IntKind.u64.wrap ((q : Int) * 18446744073709551608)) = (((u * 4294967296 + v) % 18446744073709551608 : Nat) : Int) := by
  simp only [IntKind.wrap_u64]; omega
def Rel (u v : Nat) (q r : Value) : Prop := ∃ a b : Nat, q = .int .u64 a ∧ r = .int .u64 b ∧ (u * 4294967296 + v) / 18446744073709551608 ≤ a ∧ a * 4294967295 + b = u ∧ a ≤ 4294967296 ∧ b < 4294967296
theorem Rel.start (u v : Nat) (hu : u < 18446744073709551608) (hv : v < 4294967296) : Rel u v (.int .u64 ((u / 4294967295 : Nat) : Int)) (.int .u64 ((u % 4294967295 : Nat) : Int)) :=
  ⟨_, _, rfl, rfl, by omega, by omega, by omega, by omega⟩

theorem end_num (hi lo u l a b v : Nat) (_ : lo < 18446744073709551616) (hu : u = hi * 8 + lo / 2305843009213693952) (hL : l = lo * 8 % 18446744073709551616)
    (ha : a = l / 4294967296) (hb : b = l % 4294967296) (hv : v = (u * 4294967296 + a) % 18446744073709551608) :
    (v * 4294967296 + b) % 18446744073709551608 / 8 = (hi * 18446744073709551616 + lo) % 2305843009213693951 := by
  omega
def DivPost (hi lo : Nat) (w : World) (e : Ending) (w' : World) : Prop :=
  ∃ q : Int, e = .returned (.tuple #[.int .u64 q, .int .u64 (((hi * 18446744073709551616 + lo) % 2305843009213693951 : Nat) : Int)]) ∧ w = w'
theorem DivPost.mk {hi lo v b q : Nat} {w : World} {Q : Int} (hq : Hid (q = (v * 4294967296 + b) / 18446744073709551608)) (hr : (v * 4294967296 + b) % 18446744073709551608 / 8 = (hi * 18446744073709551616 + lo) % 2305843009213693951) :
    DivPost hi lo w (.returned (.tuple #[.int .u64 Q, .int .u64 (IntKind.u64.wrap (IntKind.u64.wrap (IntKind.u64.wrap ((v : Int) * 4294967296) + (b : Int)) - IntKind.u64.wrap ((q : Int) * 18446744073709551608)) / 8)])) w :=
  ⟨Q, by rw [restN v b q hq.out, ← hr]; rfl, rfl⟩
theorem lin (K p q r s u : Nat) (hq : q = p + 1) (hr : r = 0) (hs : s = K) (h : q * K + r = u) : p * K + s = u := by
  subst hq hr hs
  rw [Nat.succ_mul] at h; omega
/-- One look at a quotient: too great, and how it goes on, or right. -/
theorem look (u a q r : Nat) (hu : Hid (u < 18446744073709551608)) (ha : Hid (a < 4294967296)) (hq : (u * 4294967296 + a) / 18446744073709551608 ≤ q) (hqr : q * 4294967295 + r = u) (hq2 : q ≤ 4294967296) (hr : r < 4294967296) :
    (decide ((4294967296 : Int) ≤ q) = true ∧ decide ((4294967296 : Int) ≤ (r : Int) + 4294967295) = false ∧ Hid (Rel u a (.int .u64 (IntKind.u64.wrap ((q : Int) - 1))) (.int .u64 ((r : Int) + 4294967295)) ∧ (IntKind.u64.wrap ((q : Int) - 1)).toNat < q)) ∨
    (decide ((4294967296 : Int) ≤ q) = false ∧ decide ((4294967296 : Int) * r + a < (q : Int) * 4294967288) = true ∧ decide ((4294967296 : Int) ≤ (r : Int) + 4294967295) = false ∧ Hid (Rel u a (.int .u64 (IntKind.u64.wrap ((q : Int) - 1))) (.int .u64 ((r : Int) + 4294967295)) ∧ (IntKind.u64.wrap ((q : Int) - 1)).toNat < q)) ∨
    (decide ((4294967296 : Int) ≤ q) = true ∧ decide ((4294967296 : Int) ≤ (r : Int) + 4294967295) = true ∧ ∃ p : Nat, Hid (IntKind.u64.wrap ((q : Int) - 1) = (p : Int)) ∧ Hid (p = (u * 4294967296 + a) / 18446744073709551608)) ∨
    (decide ((4294967296 : Int) ≤ q) = false ∧ decide ((4294967296 : Int) * r + a < (q : Int) * 4294967288) = true ∧ decide ((4294967296 : Int) ≤ (r : Int) + 4294967295) = true ∧ ∃ p : Nat, Hid (IntKind.u64.wrap ((q : Int) - 1) = (p : Int)) ∧ Hid (p = (u * 4294967296 + a) / 18446744073709551608)) ∨
    (decide ((4294967296 : Int) ≤ q) = false ∧ decide ((4294967296 : Int) * r + a < (q : Int) * 4294967288) = false ∧ Hid (q = (u * 4294967296 + a) / 18446744073709551608)) := by
  have hu := hu.out
  have ha := ha.out
  have hw : 1 ≤ q → IntKind.u64.wrap ((q : Int) - 1) = ((q - 1 : Nat) : Int) := by rw [IntKind.wrap_u64]; omega
  have hrel : 1 ≤ q → r = 0 → (u * 4294967296 + a) / 18446744073709551608 ≤ q - 1 → Hid (Rel u a (.int .u64 (IntKind.u64.wrap ((q : Int) - 1))) (.int .u64 ((r : Int) + 4294967295)) ∧ (IntKind.u64.wrap ((q : Int) - 1)).toNat < q) := by
    intro h1 h2 h3
    obtain ⟨s, hs⟩ : ∃ s : Nat, (s : Int) = (r : Int) + 4294967295 := ⟨(r + 4294967295 : Int).toNat, by omega⟩
    obtain ⟨p, hp⟩ : ∃ p : Nat, q = p + 1 := ⟨q - 1, by omega⟩
    have e1 : IntKind.u64.wrap ((q : Int) - 1) = (p : Int) := by rw [hw h1]; omega
    rw [e1, ← hs]
    have e2 : (u * 4294967296 + a) / 18446744073709551608 ≤ p := by omega
    have e3 : p * 4294967295 + s = u := lin _ p q r s u hp h2 (by omega) hqr
    have e4 : p ≤ 4294967296 := by omega
    have e5 : s < 4294967296 := by omega
    exact Lib.hid ⟨⟨p, s, rfl, rfl, e2, e3, e4, e5⟩, by omega⟩
  by_cases c1 : 4294967296 ≤ q
  · by_cases c2 : r = 0
    · exact .inl ⟨by simp; omega, by simp; omega, hrel (by omega) c2 (by omega)⟩
    · exact .inr (.inr (.inl ⟨by simp; omega, by simp; omega, q - 1, Lib.hid (hw (by omega)), Lib.hid (by omega)⟩))
  · by_cases c3 : 4294967296 * r + a < q * 4294967288
    · by_cases c2 : r = 0
      · exact .inr (.inl ⟨by simp; omega, by simp; omega, by simp; omega, hrel (by omega) c2 (by omega)⟩)
      · exact .inr (.inr (.inr (.inl ⟨by simp; omega, by simp; omega, by simp; omega, q - 1, Lib.hid (hw (by omega)), Lib.hid (by omega)⟩)))
    · exact .inr (.inr (.inr (.inr ⟨by simp; omega, by simp; omega, Lib.hid (by omega)⟩)))

set_option maxRecDepth 100000 in
set_option maxHeartbeats 4000000 in
theorem div64 (hi lo y : Nat) (hy : Hid (y = 2305843009213693951)) (h0 : 0 < hi) (hP : hi < y) (hl : Hid (lo < 18446744073709551616)) (w : World) :
    Calls Tryd.prog 65 #[.int .u64 hi, .int .u64 lo, .int .u64 y] w (DivPost hi lo w) := by
  have t0 : ((y : Int) == 0) = false := by have := hy.out; simp; omega
  have t1 : decide ((y : Int) ≤ hi) = false := by simp; omega
  have t2 : ((hi : Int) == 0) = false := by simp; omega
  have hP2 : Hid (hi < 2305843009213693951) := Lib.hid (hy.out ▸ hP)
  go_enter Tryd.func65, Tryd.ntmps65
  go_wp2_with (go_at_call 73; rw [hy.out]; refine (lz _).mono ?_; rintro e w' ⟨rfl, rfl⟩)
  clear t0 t1 t2 hP
  have e10 : bits BinOp.and IntKind.u64 18446744073709551608 4294967295 = 4294967288 := by kernel_rfl
  obtain ⟨u, hu⟩ : ∃ u : Nat, Hid (u = hi * 8 + lo / 2305843009213693952) := ⟨_, Lib.hid rfl⟩
  obtain ⟨l, hL⟩ : ∃ l : Nat, Hid (l = lo * 8 % 18446744073709551616) := ⟨_, Lib.hid rfl⟩
  obtain ⟨a, ha⟩ : ∃ a : Nat, Hid (a = l / 4294967296) := ⟨_, Lib.hid rfl⟩
  obtain ⟨b, hb⟩ : ∃ b : Nat, Hid (b = l % 4294967296) := ⟨_, Lib.hid rfl⟩
  have hu2 : Hid (u < 18446744073709551608) := Lib.hid (by have := hu.out; have := hP2.out; have := hl.out; omega)
  have ha2 : a < 4294967296 := by have := ha.out; have := hL.out; omega
  have hb2 : b < 4294967296 := by have := hb.out; have := hL.out; omega
  have HA := Lib.hid ha2
  have HB := Lib.hid hb2
  rw [orN hi lo hP2.out hl.out, shlN, ← hu.out, ← hL.out, maskN l (by have := hL.out; omega), divN, tdivN u (by have := hu2.out; omega), qmulN u (by have := hu2.out; omega), qsubN u (by have := hu2.out; omega), e10, ← ha.out, ← hb.out]
  clear e10
  have hst := Lib.hid (Rel.start u a hu2.out ha2)
  obtain ⟨v, hv⟩ : ∃ v : Nat, Hid (v = (u * 4294967296 + a) % 18446744073709551608) := ⟨_, Lib.hid rfl⟩
  have hv2 : Hid (v < 18446744073709551608) := Lib.hid (by have := hv.out; omega)
  have hst2 := Lib.hid (Rel.start v b hv2.out hb2)
  have hend := Lib.hid (end_num hi lo u l a b v hl.out hu.out hL.out ha.out hb.out hv.out)
  go_loop [15, 16] (Rel u a) (fun q _ => (intOf q).toNat)
  case atStart => exact hst.out
  case round =>
    clear hst
    obtain ⟨q, r, rfl, rfl, hq, hqr, hq2, hr⟩ := hrel
    have hlook := look u a q r hu2 HA hq hqr hq2 hr
    clear hq hqr
    rcases hlook with ⟨T1, T2, hR⟩ | ⟨T1, T3, T2, hR⟩ | ⟨T1, T2, p, hp, hQ⟩ | ⟨T1, T3, T2, p, hp, hQ⟩ | ⟨T1, T3, hQ⟩
    · go_wp2
      go_round
      case rel => exact hR.out.1
      case measure => simpa [intOf] using hR.out.2
    · go_wp2
      go_round
      case rel => exact hR.out.1
      case measure => simpa [intOf] using hR.out.2
    all_goals go_upto_region 22 with (fail)
    all_goals first | rw [hp.out, restN u a p hQ.out, ← hv.out] | rw [restN u a q hQ.out, ← hv.out]
    all_goals
      clear hq2 hr ha2
      go_wp2
      rw [tdivN2 v (by have := hv2.out; omega), qmulN v (by have := hv2.out; omega), qsubN v (by have := hv2.out; omega)]
      go_loop [18, 16] (Rel v b) (fun q _ => (intOf q).toNat)
      case atStart => exact hst2.out
      case round =>
        clear hst2
        obtain ⟨q', r', rfl, rfl, hq, hqr, hq2, hr⟩ := hrel
        have hlook := look v b q' r' hv2 HB hq hqr hq2 hr
        clear hq hqr
        rcases hlook with ⟨T1, T2, hR⟩ | ⟨T1, T3, T2, hR⟩ | ⟨T1, T2, p', hp, hQ⟩ | ⟨T1, T3, T2, p', hp, hQ⟩ | ⟨T1, T3, hQ⟩
        · go_wp2
          go_round
          case rel => exact hR.out.1
          case measure => simpa [intOf] using hR.out.2
        · go_wp2
          go_round
          case rel => exact hR.out.1
          case measure => simpa [intOf] using hR.out.2
        all_goals
          go_wp2
          try rw [hp.out]
          go_ret2
          exact DivPost.mk hQ hend.out


set_option maxRecDepth 100000 in
theorem div64_0 (lo y : Nat) (hy : Hid (y = 2305843009213693951)) (w : World) :
    Calls Tryd.prog 65 #[.int .u64 0, .int .u64 lo, .int .u64 y] w fun e w' => ∃ q : Int, Qt (.tuple #[.int .u64 q, .int .u64 ((lo % 2305843009213693951 : Nat) : Int)]) w e w' := by
  have t0 : ((y : Int) == 0) = false := by have := hy.out; simp; omega
  have t1 : decide (y = 0) = false := by have := hy.out; simp; omega
  have hy1 : 0 < y := by have := hy.out; omega
  have t3 : ((lo : Int) % (y : Int)) = ((lo % 2305843009213693951 : Nat) : Int) := by have := hy.out; subst this; omega
  have T3 := Lib.hid t3
  clear t3
  go_enter Tryd.func65, Tryd.ntmps65
  go_wp2_with (fail)
  go_quiet (fail)
  go_wp2
  go_ret2
  exact ⟨_, Qt.of (by rw [← T3.out]; rfl)⟩

theorem rem64_0 (hi lo y : Nat) (hm : Hid (((hi : Int) % (y : Int)) = 0)) (hy : Hid (y = 2305843009213693951)) (w : World) :
    Calls Tryd.prog 50 #[.int .u64 hi, .int .u64 lo, .int .u64 y] w (Qt (.int .u64 ((lo % 2305843009213693951 : Nat) : Int)) w) := by
  have hy1 : 0 < y := by have := hy.out; omega
  go_enter Tryd.func50, Tryd.ntmps50
  go_wp2_with (go_at_call 65; rw [hm.out]; refine (div64_0 lo y hy _).mono ?_; rintro e w' ⟨q, rfl, n, rfl⟩)
  go_ret
  exact Qt.some
theorem rem64_1 (hi h lo y : Nat) (hm : Hid (((hi : Int) % (y : Int)) = (h : Int))) (hpos : 0 < h) (hlt : h < y) (hl : Hid (lo < 18446744073709551616)) (hy : Hid (y = 2305843009213693951)) (w : World) :
    Calls Tryd.prog 50 #[.int .u64 hi, .int .u64 lo, .int .u64 y] w (Qt (.int .u64 (((h * 18446744073709551616 + lo) % 2305843009213693951 : Nat) : Int)) w) := by
  go_enter Tryd.func50, Tryd.ntmps50
  go_wp2_with (go_at_call 65; rw [hm.out]; refine (div64 h lo y hy hpos hlt hl _).mono ?_; rintro e w' ⟨q, rfl, rfl⟩)
  go_ret
  exact Qt.zero
theorem mod_hi (hi lo : Nat) : (hi % 2305843009213693951 * 18446744073709551616 + lo) % 2305843009213693951 = (hi * 18446744073709551616 + lo) % 2305843009213693951 := by omega
theorem imod (hi y : Nat) (hy : y = 2305843009213693951) : (hi : Int) % (y : Int) = ((hi % 2305843009213693951 : Nat) : Int) := by subst hy; omega
/-- math/bits.Rem64 at the divisor 2^61 - 1. -/
theorem rem64 (hi lo : Nat) (hl : Hid (lo < 18446744073709551616)) (y : Nat) (hy : Hid (y = 2305843009213693951)) (w : World) :
    Calls Tryd.prog 50 #[.int .u64 hi, .int .u64 lo, .int .u64 y] w (Qt (.int .u64 (((hi * 18446744073709551616 + lo) % 2305843009213693951 : Nat) : Int)) w) := by
  have hm := imod hi y hy.out
  rw [← mod_hi]
  have hlt : hi % 2305843009213693951 < y := by rw [hy.out]; exact Nat.mod_lt _ (by omega)
  generalize hi % 2305843009213693951 = h at *
  by_cases h0 : h = 0
  · subst h0
    rw [Nat.zero_mul, Nat.zero_add]
    exact rem64_0 hi lo y (Lib.hid hm) hy w
  · exact rem64_1 hi h lo y (Lib.hid hm) (by omega) hlt hl hy w
end BitsC
end Go.Proofs.YtphelljbaodhpaaDoor
