/- The document's own answers of layer 5 (package caucusref05): words, sums, turns, bytes. Conditions: what is handed in reads as rows. -/
import Derived.Test.YtkihhflmgceckaaDoorApE
import Derived.BigQuiet
import Derived.Deep.RegionHeld3
namespace Go.Proofs.YtkihhflmgceckaaDoor
open Go.RowKit Go.Lib
namespace Sh
open SlR
/-- Naturals as integers. -/
def NL (xs : List Nat) : List Int := xs.map fun n : Nat => (n : Int)
theorem NL_len (xs : List Nat) : (NL xs).length = xs.length := by simp [NL]
theorem NL_app (xs ys : List Nat) : NL (xs ++ ys) = NL xs ++ NL ys := by simp [NL]
abbrev R32 (w : World) (A : Option Addr) (xs : List Nat) : Prop := Row .u32 w A (NL xs)
abbrev R8 (w : World) (A : Option Addr) (xs : List Nat) : Prop := Row .u8 w A (NL xs)
theorem Row.atN {k : IntKind} {w : World} {A : Option Addr} {xs : List Nat} (h : Row k w A (NL xs)) {j : Nat} (hj : j < xs.length) : ∃ ad : Addr, A = some ad ∧ ad.block < w.heap.size ∧ w.cell? (ad.add j) = some (.int k (xs.getD j 0 : Nat)) := by
  obtain ⟨ad, h1, h2, h3⟩ := h j _ (by unfold NL; rw [List.getElem?_map, List.getElem?_eq_getElem hj]; rfl)
  exact ⟨ad, h1, h2, by rw [h3, List.getD_eq_getElem?_getD, List.getElem?_eq_getElem hj]; rfl⟩
def B32 (xs : List Nat) : Prop := ∀ i, xs.getD i 0 < 4294967296
/-- A sum of words. -/
def sm : List Nat → Nat
  | [] => 0
  | x :: t => x + sm t
theorem sm_app (xs : List Nat) (y : Nat) : sm (xs ++ [y]) = sm xs + y := by
  induction xs with
  | nil => simp [sm]
  | cons x t ih => simp [sm, ih]; omega
theorem take_snocN (xs : List Nat) (k : Nat) (h : k < xs.length) : xs.take (k + 1) = xs.take k ++ [xs.getD k 0] := by
  rw [List.take_add_one, List.getD_eq_getElem?_getD, List.getElem?_eq_getElem h]; rfl
theorem sm_lt (xs : List Nat) (hb : ∀ i, xs.getD i 0 < 4294967296) : ∀ k, k ≤ xs.length → sm (xs.take k) ≤ k * 4294967296
  | 0, _ => by simp [sm]
  | k + 1, h => by
    rw [take_snocN xs k (by omega), sm_app]
    have := sm_lt xs hb k (by omega)
    have := hb k
    omega
theorem add_any (A : Option Addr) (c n : Nat) (xs : List Nat) (w : World) (hn : xs.length = n) (hn2 : n ≤ 1000) (hr : R32 w A xs) (hb : Hid (B32 xs)) :
    Calls Tryd.prog 26 #[.slice A n c] w fun e w' => e = .returned (.int .u32 (sm xs % 4294967296 : Nat)) ∧ w' = w := by
  go_enter Tryd.func26, Tryd.ntmps26
  go_wp2
  go_loopw [3, 4] (fun s i wr => ∃ k : Nat, k ≤ n ∧ i = .int .i64 k ∧ s = .int .u64 (sm (xs.take k) : Nat) ∧ wr = w) (fun _ i _ => n - (intOf i).toNat)
  case atStart => exact ⟨0, Nat.zero_le _, rfl, rfl, rfl⟩
  case round =>
    obtain ⟨k, hk, rfl, rfl, rfl⟩ := hrel
    have hs := sm_lt xs hb.out k (by omega)
    by_cases hlt : k < n
    · obtain ⟨ad, rfl, hab, hc⟩ := Row.atN hr (j := k) (by omega)
      have hx := hb.out k
      have hT := Lib.hid (by rw [take_snocN xs k (by omega), sm_app] : sm (xs.take (k + 1)) = sm (xs.take k) + xs.getD k 0)
      generalize xs.getD k 0 = x at hc hx hT
      generalize sm (xs.take k) = s at hs hT
      have hsI : (s : Int) ≤ 1000 * 4294967296 := by have : k * 4294967296 ≤ 1000 * 4294967296 := Nat.mul_le_mul_right _ (by omega); omega
      have hxI : (x : Int) < 4294967296 := by omega
      clear hr hs
      go_wp2
      go_roundw
      case rel => exact ⟨k + 1, by omega, by go_num, by rw [hT.out]; go_num, trivial⟩
      case measure => simp [intOf]; omega
    · have hkn : k = n := by omega
      subst hkn
      have hT : xs.take k = xs := List.take_of_length_le (by omega)
      rw [hT] at hs ⊢
      obtain ⟨s, hsq⟩ : ∃ s, Hid (s = sm xs) := ⟨_, Lib.hid rfl⟩
      rw [← hsq.out] at hs ⊢
      have hsI : (s : Int) ≤ 1000 * 4294967296 := by have : k * 4294967296 ≤ 1000 * 4294967296 := Nat.mul_le_mul_right _ (by omega); omega
      clear hr
      go_wp2
      go_ret
      exact ⟨by rw [← hsq.out, Int.natCast_emod]; rfl, rfl⟩
/-- A word turned right. -/
def rot (x n : Nat) : Nat := x / 2 ^ n + x % 2 ^ n * (2147483648 / 2 ^ n * 2)
theorem pow_parts (k : Nat) (h : k ≤ 31) : 2147483648 / 2 ^ k * 2 = 2 ^ (32 - k) ∧ 2 ^ k * 2 ^ (32 - k) = 4294967296 := by
  have e1 : 2 ^ k * 2 ^ (31 - k) = 2147483648 := by rw [← Nat.pow_add, show k + (31 - k) = 31 by omega]
  have e2 : 2 ^ (32 - k) = 2 ^ (31 - k) * 2 := by rw [show 32 - k = (31 - k) + 1 by omega, Nat.pow_succ]
  have e3 : 2147483648 / 2 ^ k = 2 ^ (31 - k) := by rw [← e1, Nat.mul_div_cancel_left _ (Nat.pow_pos (by omega))]
  exact ⟨by rw [e3, e2], by rw [e2, ← Nat.mul_assoc, e1]⟩
theorem rot_lt {x k : Nat} (hx : x < 4294967296) (h : k ≤ 31) : rot x k < 4294967296 := by
  obtain ⟨e1, e2⟩ := pow_parts k h
  unfold rot
  rw [e1]
  have hp : 0 < 2 ^ k := Nat.pow_pos (by omega)
  generalize 2 ^ k = p at *
  generalize 2 ^ (32 - k) = q at *
  have hq : q ≤ 4294967296 := by rw [← e2]; exact Nat.le_mul_of_pos_left _ hp
  have h1 : x / p < q := Nat.div_lt_of_lt_mul (by rw [e2]; exact hx)
  have h2 : x % p * q ≤ (p - 1) * q := Nat.mul_le_mul_right q (by have := Nat.mod_lt x hp; omega)
  rw [Nat.sub_mul, Nat.one_mul, e2] at h2
  omega
theorem rot_wrap {x k : Nat} (hx : x < 4294967296) (h : k ≤ 31) : (x / 2 ^ k % 4294967296 + x % 2 ^ k * (2147483648 / 2 ^ k * 2 % 4294967296) % 4294967296) % 4294967296 = rot x k := by
  have hl := rot_lt hx h
  obtain ⟨e1, e2⟩ := pow_parts k h
  unfold rot at hl ⊢
  rw [e1] at hl ⊢
  have hp : 0 < 2 ^ k := Nat.pow_pos (by omega)
  have hq : 0 < 2 ^ (32 - k) := Nat.pow_pos (by omega)
  by_cases hk : k = 0
  · subst hk
    simp
    omega
  · have hq2 : 2 ^ (32 - k) < 4294967296 := Nat.lt_of_le_of_lt (Nat.pow_le_pow_right (by omega) (show 32 - k ≤ 31 by omega)) (by decide)
    generalize 2 ^ k = p at *
    generalize 2 ^ (32 - k) = q at *
    rw [Nat.mod_eq_of_lt hq2, Nat.mod_eq_of_lt (Nat.lt_of_le_of_lt (Nat.le_add_right _ _) hl : x / p < 4294967296), Nat.mod_eq_of_lt (Nat.lt_of_le_of_lt (Nat.le_add_left _ _) hl : x % p * q < 4294967296), Nat.mod_eq_of_lt hl]
set_option maxRecDepth 100000 in
theorem rot_any (x : Nat) (n : Nat) (w : World) (hx : x < 4294967296) (hn : 1 ≤ n ∧ n ≤ 25) :
    Calls Tryd.prog 27 #[.int .u32 x, .int .i64 n] w fun e w' => e = .returned (.int .u32 (rot x n : Nat)) ∧ ∃ t, w' = w.drewN t := by
  go_enter Tryd.func27, Tryd.ntmps27
  go_wp2
  go_loopw [5, 6] (fun p i wr => ∃ k : Nat, k ≤ n ∧ i = .int .i64 k ∧ p = .int .u32 (2 ^ k : Nat) ∧ wr = w) (fun _ i _ => n - (intOf i).toNat)
  case atStart => exact ⟨0, Nat.zero_le _, rfl, rfl, rfl⟩
  case round =>
    obtain ⟨k, hk, rfl, rfl, rfl⟩ := hrel
    have hp : 2 ^ k ≤ 2 ^ 25 := Nat.pow_le_pow_right (by omega) (by omega)
    have hp0 : 0 < 2 ^ k := Nat.pow_pos (by omega)
    have hT := Lib.hid (Nat.pow_succ (n := 2) (m := k))
    by_cases hlt : k < n
    · generalize 2 ^ k = p at hp hp0 hT
      have hpI : (p : Int) ≤ 33554432 := by omega
      go_wp2
      go_roundw
      case rel => exact ⟨k + 1, by omega, by go_num, by rw [hT.out]; go_num, trivial⟩
      case measure => simp [intOf]; omega
    · have hkn : k = n := by omega
      subst hkn
      have hrot : Hid ((x / 2 ^ k % 4294967296 + x % 2 ^ k * (2147483648 / 2 ^ k * 2 % 4294967296) % 4294967296) % 4294967296 = rot x k) := Lib.hid (rot_wrap hx (by omega))
      clear hT
      generalize 2 ^ k = p at hp hp0 hrot
      have hpI : ¬ (p : Int) = 0 := by omega
      go_wp2
      go_quiet (fail)
      go_wp2
      go_ret
      exact ⟨by rw [← hrot.out]; simp only [Int.natCast_emod, Int.natCast_add, Int.natCast_mul, Int.natCast_ediv]; rfl, _, rfl⟩
/-- Bytes as words. -/
def wd (bs : List Nat) (i : Nat) : Nat := 16777216 * bs.getD (4 * i) 0 + 65536 * bs.getD (4 * i + 1) 0 + 256 * bs.getD (4 * i + 2) 0 + bs.getD (4 * i + 3) 0
def wds (bs : List Nat) (n : Nat) : List Nat := (List.range n).map (wd bs)
theorem wds_len (bs : List Nat) (n : Nat) : (wds bs n).length = n := by simp [wds]
theorem wds_succ (bs : List Nat) (n : Nat) : wds bs (n + 1) = wds bs n ++ [wd bs n] := by simp [wds, List.range_succ]
def B8 (xs : List Nat) : Prop := ∀ i, xs.getD i 0 < 256
theorem infoW : (Tryd.prog.info? 41).map (fun i => (i.zero, i.size, i.bytes)) = some (some (.int .u32 0), 1, 4) := by kernel_rfl
theorem infoB : (Tryd.prog.info? 5).map (fun i => (i.zero, i.size, i.bytes)) = some (some (.int .u8 0), 1, 1) := by kernel_rfl
theorem lit1N {k : IntKind} (w : World) (H : Nat) (t : TypeId) (a : Nat) (h : w.heap.size = H) : Row k (w.alloc (.cells #[.int k (a : Nat)] t (0, 0))) (some ⟨H, 0, none⟩) (NL [a]) := Row.lit1 w H t a h
theorem own_last {k : IntKind} {e : TypeId} {w : World} {B n : Nat} {v : Value} {xs : List Int} {a b : Int} (h : ApE.Own k e w B v n (xs ++ [a])) (h2 : a = b) : ApE.Own k e w B v n (xs ++ [b]) := h2 ▸ h
theorem add_pos_ (a : Addr) (n : Nat) : a.add (n + 1) = ⟨a.block, a.off + (n + 1), none⟩ := by unfold Addr.add; rw [if_neg (by omega)]
set_option maxHeartbeats 1600000 in
set_option maxRecDepth 100000 in
theorem words_any (A : Option Addr) (c n N : Nat) (bs : List Nat) (w : World) (hN : Hid (N = 4 * n)) (hn : bs.length = N) (hn2 : N ≤ 100000) (hr : R8 w A bs) (hb : Hid (B8 bs)) :
    Calls Tryd.prog 25 #[.slice A N c] w fun e w' => ∃ A' c', e = .returned (.slice A' n c') ∧ ApE.Own .u32 41 w' w.heap.size (.slice A' n c') n (NL (wds bs n)) ∧ Step w w' := by
  obtain ⟨i0, hi, hz0, hz1, hz2⟩ := info_parts infoW
  go_enter Tryd.func25, Tryd.ntmps25
  go_wp2
  go_loopw [3, 4] (fun v i wr => ∃ k j : Nat, Hid (j = 4 * k) ∧ Hid (k ≤ n) ∧ i = .int .i64 j ∧ ApE.Own .u32 41 wr w.heap.size v k (NL (wds bs k)) ∧ Step w wr) (fun _ i _ => N + 4 - (intOf i).toNat)
  case atStart => exact ⟨0, 0, Lib.hid rfl, Lib.hid (Nat.zero_le _), rfl, World.ownsRow_nil _ _ _ _, Step.of inferInstance⟩
  case round =>
    obtain ⟨k, j, hj, hk, rfl, hown, S⟩ := hrel
    obtain ⟨A', c', rfl⟩ := own_form hown
    have hkN : k ≤ 100000 := by have := hk.out; have := hN.out; omega
    by_cases hlt : k < n
    · have hj3 : j + 3 < N := by have := hj.out; have := hN.out; omega
      have hlI : (j : Int) + 3 < (N : Int) := by omega
      have hlI2 : (j : Int) + 2 < (N : Int) := by omega
      have hlI1 : (j : Int) + 1 < (N : Int) := by omega
      have hlI0 : (j : Int) < (N : Int) := by omega
      have hNI : (N : Int) ≤ 100000 := by omega
      have p1 : (0 : Int) ≤ (j : Int) + 1 := by omega
      have p2 : (0 : Int) ≤ (j : Int) + 2 := by omega
      have p3 : (0 : Int) ≤ (j : Int) + 3 := by omega
      have r1 : IntKind.i64.wrap ((j : Int) + 1) = (j : Int) + 1 := by simp [IntKind.wrap, IntKind.bits, IntKind.signed]; omega
      have r2 : IntKind.i64.wrap ((j : Int) + 2) = (j : Int) + 2 := by simp [IntKind.wrap, IntKind.bits, IntKind.signed]; omega
      have r3 : IntKind.i64.wrap ((j : Int) + 3) = (j : Int) + 3 := by simp [IntKind.wrap, IntKind.bits, IntKind.signed]; omega
      have q1 : ((j : Int) + 1).toNat = j + 1 := by omega
      have q2 : ((j : Int) + 2).toNat = j + 2 := by omega
      have q3 : ((j : Int) + 3).toNat = j + 3 := by omega
      obtain ⟨ad, rfl, hab, hc0⟩ := Row.atN hr (j := j) (by omega)
      obtain ⟨_, e, _, hc1⟩ := Row.atN hr (j := j + 1) (by omega)
      cases e
      obtain ⟨_, e, _, hc2⟩ := Row.atN hr (j := j + 2) (by omega)
      cases e
      obtain ⟨_, e, _, hc3⟩ := Row.atN hr (j := j + 3) (by omega)
      cases e
      rw [add_pos_] at hc1 hc2 hc3
      have hc2 : w.cell? ⟨ad.block, ad.off + (j + 2), none⟩ = some (.int .u8 (bs.getD (j + 2) 0 : Nat)) := hc2
      have hc3 : w.cell? ⟨ad.block, ad.off + (j + 3), none⟩ = some (.int .u8 (bs.getD (j + 3) 0 : Nat)) := hc3
      have hX : Hid (wds bs k ++ [wd bs k] = wds bs (k + 1)) := Lib.hid (wds_succ bs k).symm
      have hw : Hid (wd bs k = 16777216 * bs.getD j 0 + 65536 * bs.getD (j + 1) 0 + 256 * bs.getD (j + 2) 0 + bs.getD (j + 3) 0) := Lib.hid (by rw [hj.out]; rfl)
      have b0 := hb.out j
      have b1 := hb.out (j + 1)
      have b2 := hb.out (j + 2)
      have b3 := hb.out (j + 3)
      generalize bs.getD j 0 = x0 at hc0 hw b0
      generalize bs.getD (j + 1) 0 = x1 at hc1 hw b1
      generalize bs.getD (j + 2) 0 = x2 at hc2 hw b2
      generalize bs.getD (j + 3) 0 = x3 at hc3 hw b3
      have bl : (ad.add j).block < w.heap.size := by rw [blockAdd]; exact hab
      have HO := Lib.hid hown
      clear hr hown hlt
      go_wp2
      go_region_held3 (fun w' => w'.cell? (ad.add j) = some (.int .u8 x0) ∧ w'.cell? ⟨ad.block, ad.off + (j + 1), none⟩ = some (.int .u8 x1) ∧ w'.cell? ⟨ad.block, ad.off + (j + 2), none⟩ = some (.int .u8 x2) ∧ w'.cell? ⟨ad.block, ad.off + (j + 3), none⟩ = some (.int .u8 x3) ∧ Step w w')
        (exact ⟨((Step.of (w := w) inferInstance).h.cell bl).trans hc0, ((Step.of (w := w) inferInstance).h.cell (p := ⟨ad.block, ad.off + (j + 1), none⟩) hab).trans hc1, ((Step.of (w := w) inferInstance).h.cell (p := ⟨ad.block, ad.off + (j + 2), none⟩) hab).trans hc2, ((Step.of (w := w) inferInstance).h.cell (p := ⟨ad.block, ad.off + (j + 3), none⟩) hab).trans hc3, Step.of inferInstance⟩)
        ((refine ApE.stepE .u32 w wr (by rfl) _ _ 50 (by rfl) 41 i0 _ 4 Tryd.underlying50 hi hz0 hz1 hz2 rfl _ k (NL (wds bs k)) (by rfl) HO.out _ 1 1 _ (by rfl) rfl (Row.lit1 _ _ _ _ (by simp)) (by omega) (by omega) ?_; intro A4 c4 w4 O4 S4))
      go_wp2
      go_roundw
      case rel => exact ⟨k + 1, j + 4, Lib.hid (by have := hj.out; omega), Lib.hid (by have := hj.out; have := hN.out; omega), by go_num, by
        rw [← hX.out, NL_app]
        have e : wd bs k = 16777216 * x0 + 65536 * x1 + 256 * x2 + x3 := hw.out
        exact own_last O4 (by rw [e]; simp only [IntKind.wrap_u32]; omega), Step.of inferInstance⟩
      case measure => simp [intOf]; omega
    · have hkn : k = n := by have := hk.out; omega
      subst hkn
      have hjI : (j : Int) ≤ 400000 := by have := hj.out; omega
      have hlI : ¬ (j : Int) + 3 < (N : Int) := by have := hj.out; have := hN.out; omega
      clear hlt
      go_wp2
      go_ret
      exact ⟨_, _, rfl, hown, S⟩
end Sh
end Go.Proofs.YtkihhflmgceckaaDoor
