/- The document's own answers of layer 5 (package caucusref05): words as bytes, what stands behind bytes. Conditions: what is handed in reads as rows. -/
import Derived.Test.YtkihhflmgceckaaDoorRef05
namespace Go.Proofs.YtkihhflmgceckaaDoor
open Go.RowKit Go.Lib
namespace Sh
open SlR
/-- Words as bytes. -/
def by4 (x : Nat) : List Nat := [x / 16777216, x / 65536 % 256, x / 256 % 256, x % 256]
def bys (xs : List Nat) : List Nat := xs.flatMap by4
theorem bys_app (xs ys : List Nat) : bys (xs ++ ys) = bys xs ++ bys ys := by unfold bys; rw [List.flatMap_append]
theorem bys_one (x : Nat) : bys [x] = by4 x := by simp [bys]
theorem bys_len (xs : List Nat) : (bys xs).length = 4 * xs.length := by
  induction xs with
  | nil => rfl
  | cons x t ih => rw [show bys (x :: t) = bys [x] ++ bys t from bys_app [x] t, List.length_append, ih, bys_one]; simp [by4]; omega
theorem by4_eq (x : Nat) (hx : (x : Int) < 4294967296) : [IntKind.u8.wrap (IntKind.u32.wrap ((x : Int) / 16777216)), IntKind.u8.wrap ((IntKind.u32.wrap ((x : Int) / 65536)).tmod 256), IntKind.u8.wrap ((IntKind.u32.wrap ((x : Int) / 256)).tmod 256), IntKind.u8.wrap ((x : Int).tmod 256)] = NL (by4 x) := by
  simp only [NL, by4, List.map_cons, List.map_nil, IntKind.wrap_u8', IntKind.wrap_u32']
  rw [Int.tmod_eq_emod_of_nonneg (a := (x : Int) / 65536 % 4294967296) (by omega), Int.tmod_eq_emod_of_nonneg (a := (x : Int) / 256 % 4294967296) (by omega), Int.tmod_eq_emod_of_nonneg (a := (x : Int)) (by omega)]
  simp only [List.cons.injEq, and_true]
  refine ⟨?_, ?_, ?_, ?_⟩ <;> omega
theorem own_list {k : IntKind} {e : TypeId} {w : World} {B n : Nat} {v : Value} {xs l m : List Int} (h : ApE.Own k e w B v n (xs ++ l)) (h2 : l = m) : ApE.Own k e w B v n (xs ++ m) := h2 ▸ h
set_option maxHeartbeats 1600000 in
set_option maxRecDepth 100000 in
theorem bytes_any (A : Option Addr) (c n : Nat) (xs : List Nat) (w : World) (hn : xs.length = n) (hn2 : n ≤ 1000) (hr : R32 w A xs) (hb : Hid (B32 xs)) :
    Calls Tryd.prog 28 #[.slice A n c] w fun e w' => ∃ A' c', e = .returned (.slice A' (4 * n) c') ∧ ApE.Own .u8 5 w' w.heap.size (.slice A' (4 * n) c') (4 * n) (NL (bys xs)) ∧ Step w w' := by
  obtain ⟨i0, hi, hz0, hz1, hz2⟩ := info_parts infoB
  go_enter Tryd.func28, Tryd.ntmps28
  go_wp2
  go_loopw [3, 4] (fun v i wr => ∃ k m : Nat, k ≤ n ∧ Hid (m = 4 * k) ∧ i = .int .i64 k ∧ ApE.Own .u8 5 wr w.heap.size v m (NL (bys (xs.take k))) ∧ Step w wr) (fun _ i _ => n - (intOf i).toNat)
  case atStart => exact ⟨0, 0, Nat.zero_le _, Lib.hid rfl, rfl, World.ownsRow_nil _ _ _ _, Step.of inferInstance⟩
  case round =>
    obtain ⟨k, m, hk, hm, rfl, hown, S⟩ := hrel
    obtain ⟨A', c', rfl⟩ := own_form hown
    have hm2 : m ≤ 4000 := by have := hm.out; omega
    by_cases hlt : k < n
    · obtain ⟨ad, rfl, hab, hc⟩ := Row.atN hr (j := k) (by omega)
      have hX : Hid (bys (xs.take k) ++ by4 (xs.getD k 0) = bys (xs.take (k + 1))) := Lib.hid (by rw [take_snocN xs k (by omega), bys_app, bys_one])
      have hx := hb.out k
      have bl : (ad.add k).block < w.heap.size := by rw [blockAdd]; exact hab
      generalize xs.getD k 0 = x at hc hX hx
      have hxI : (x : Int) < 4294967296 := by omega
      have HO := Lib.hid hown
      clear hr hown
      go_wp2
      go_region_held3 (fun w' => w'.cell? (ad.add k) = some (.int .u32 x) ∧ Step w w')
        (exact ⟨((Step.of (w := w) inferInstance).h.cell bl).trans hc, Step.of inferInstance⟩)
        ((refine ApE.stepE .u8 w wr (by rfl) _ _ 22 (by rfl) 5 i0 _ 1 Tryd.underlying22 hi hz0 hz1 hz2 rfl _ m (NL (bys (xs.take k))) (by rfl) HO.out _ 4 4 _ (by rfl) rfl (ApE.lit4 _ _ _ _ _ _ _ (by simp)) (by omega) (by omega) ?_; intro A4 c4 w4 O4 S4))
      go_wp2
      go_roundw
      case rel => exact ⟨k + 1, m + 4, by omega, Lib.hid (by have := hm.out; omega), by go_num, by
        rw [← hX.out, NL_app]
        exact own_list O4 (by4_eq x hxI), Step.of inferInstance⟩
      case measure => simp [intOf]; omega
    · have hkn : k = n := by omega
      subst hkn
      have hT : xs.take k = xs := List.take_of_length_le (by omega)
      rw [hT] at hown
      have e := hm.out
      subst e
      have HO := Lib.hid hown
      clear hown hr
      go_wp2
      go_ret
      exact ⟨_, _, rfl, HO.out, S⟩
theorem bytes_lit (w : World) (H : Nat) (a b : Int) (p q : Nat) (t : TypeId) (hH : w.heap.size = H) (ha : a = (p : Int) ∧ p < 4294967296) (hb : b = (q : Int) ∧ q < 4294967296) :
    Calls Tryd.prog 28 #[.slice (some ⟨H, 0, none⟩) 2 2] (w.alloc (.cells #[.int .u32 a, .int .u32 b] t (0, 0))) fun e w' => ∃ A' c', e = .returned (.slice A' 8 c') ∧ ApE.Own .u8 5 w' w.heap.size (.slice A' 8 c') 8 (NL (bys [p, q])) ∧ Step w w' := by
  obtain ⟨rfl, hp⟩ := ha
  obtain ⟨rfl, hq⟩ := hb
  refine (bytes_any (some ⟨H, 0, none⟩) 2 2 [p, q] _ rfl (by omega) (Row.lit2 w H t p q hH) (Lib.hid fun i => ?_)).mono fun e w' ⟨A', c', h1, h2, h3⟩ => ⟨A', c', h1, ?_, Step.of inferInstance⟩
  · match i with
    | 0 => exact hp
    | 1 => exact hq
    | i + 2 => show (0 : Nat) < _; omega
  · obtain ⟨k, h⟩ := h2
    refine ⟨k, ?_⟩
    rcases h with h | ⟨g, cap, cur, h1, h2, h3⟩
    · exact .inl h
    · exact .inr ⟨g, cap, cur, h1, by simp at h2; omega, h3⟩
/-- How many noughts stand behind so many bytes. -/
def zn (nb : Nat) : Nat := (119 - nb % 64) % 64
def pad (b : List Nat) : List Nat := b ++ [128] ++ List.replicate (zn b.length) 0 ++ bys [b.length * 8 / 4294967296, b.length * 8 % 4294967296]
theorem pad_len (b : List Nat) : (pad b).length = b.length + 9 + zn b.length := by
  unfold pad
  simp only [List.length_append, List.length_replicate, bys_len, List.length_cons, List.length_nil]
  omega
theorem pad_mod (b : List Nat) : (pad b).length % 64 = 0 := by rw [pad_len]; unfold zn; omega
theorem rep_snoc (j : Nat) : List.replicate j 0 ++ [0] = List.replicate (j + 1) 0 := by rw [List.replicate_succ']
set_option maxHeartbeats 1600000 in
set_option maxRecDepth 100000 in
theorem padded_any (A : Option Addr) (c nb : Nat) (b : List Nat) (w : World) (hn : b.length = nb) (hn2 : nb ≤ 100000) (hr : R8 w A b) :
    Calls Tryd.prog 24 #[.slice A nb c] w fun e w' => ∃ A' c', e = .returned (.slice A' (pad b).length c') ∧ ApE.Own .u8 5 w' w.heap.size (.slice A' (pad b).length c') (pad b).length (NL (pad b)) ∧ Step w w' := by
  obtain ⟨i0, hi, hz0, hz1, hz2⟩ := info_parts infoB
  go_enter Tryd.func24, Tryd.ntmps24
  go_wp2_with (first
    | (at_builtin; refine ApE.wpN .u8 w rfl _ _ 22 rfl 5 i0 _ 1 Tryd.underlying22 hi hz0 hz1 hz2 rfl rfl A nb c (NL b) rfl (by rw [NL_len]; exact hn) hr.to (by omega) (by omega) ?_; intro A2 c2 w2 O2 S2)
    | (at_builtin; refine ApE.wpE .u8 w w2 rfl _ _ 22 rfl 5 i0 _ 1 Tryd.underlying22 hi hz0 hz1 hz2 rfl _ nb (NL b) rfl O2 _ 1 1 [128] rfl rfl (Row.lit1 _ _ _ 128 (by simp)) (by omega) (by omega) ?_; intro A3 c3 w3 O3 S3))
  clear O2
  obtain ⟨z, hz⟩ : ∃ z, Hid (z = zn nb) := ⟨_, Lib.hid rfl⟩
  have hzm : Hid ((nb + 9 + z) % 64 = 0 ∧ z < 64) := Lib.hid (by rw [hz.out]; unfold zn; omega)
  have HO3 : Hid (ApE.Own .u8 5 w3 w.heap.size (.slice A3 (nb + 1) c3) (nb + 1) (NL (b ++ [128]))) := Lib.hid (by rw [NL_app]; exact O3)
  clear O3
  obtain ⟨L0, hL0⟩ : ∃ L0, Hid (L0 = nb + 1) := ⟨_, Lib.hid rfl⟩
  rw [← hL0.out] at HO3 ⊢
  go_loopw [3] (fun v wr => ∃ j L : Nat, Hid (j ≤ z) ∧ Hid (L = nb + 1 + j) ∧ (∃ A' c', v = .slice A' L c') ∧ ApE.Own .u8 5 wr w.heap.size v L (NL (b ++ [128] ++ List.replicate j 0)) ∧ Step w wr) (fun v _ => nb + 200 - (match v with | .slice _ n _ => n | _ => 0))
  case atStart => exact ⟨0, L0, Lib.hid (Nat.zero_le _), Lib.hid hL0.out, ⟨_, _, rfl⟩, by simpa using HO3.out, Step.of inferInstance⟩
  case round =>
    obtain ⟨j, L, hj, hL, ⟨A', c', rfl⟩, hown, S⟩ := hrel
    have hLI : (L : Int) ≤ 200000 := by have := hj.out; have := hL.out; have := hzm.out.2; omega
    by_cases hlt : j < z
    · have T : ((((L : Int) + 8) % 64) != 0) = true := by have := hL.out; have := hzm.out; simp; omega
      have T2 : (((L : Int) + 8).tmod 64 != 0) = true := by rw [Int.tmod_eq_emod_of_nonneg (by omega)]; exact T
      have HO := Lib.hid hown
      clear hown
      go_wp2_with (at_builtin; refine ApE.wpE .u8 w wr rfl _ _ 22 rfl 5 i0 _ 1 Tryd.underlying22 hi hz0 hz1 hz2 rfl _ L (NL (b ++ [128] ++ List.replicate j 0)) rfl HO.out _ 1 1 [0] rfl rfl (Row.lit1 _ _ _ 0 (by simp)) (by omega) (by omega) ?_; intro A4 c4 w4 O4 S4)
      go_roundw
      case rel => exact ⟨j + 1, L + 1, Lib.hid (by omega), Lib.hid (by have := hL.out; omega), ⟨_, _, rfl⟩, by rw [← rep_snoc, ← List.append_assoc, NL_app]; exact O4, Step.of inferInstance⟩
      case measure => have := hL.out; have := hzm.out; simp; omega
    · have hjz : j = z := by have := hj.out; omega
      subst hjz
      have T : ((((L : Int) + 8) % 64) != 0) = false := by have := hL.out; have := hzm.out; simp; omega
      have T2 : (((L : Int) + 8).tmod 64 != 0) = false := by rw [Int.tmod_eq_emod_of_nonneg (by omega)]; exact T
      have hnI : (nb : Int) ≤ 100000 := by omega
      have hsum : L + 8 = (pad b).length := by rw [pad_len, hn, ← hz.out]; have := hL.out; omega
      have HP : Hid (NL (b ++ [128] ++ List.replicate j 0) ++ NL (bys [nb * 8 / 4294967296, nb * 8 % 4294967296]) = NL (pad b)) := Lib.hid (by rw [← NL_app]; unfold pad; rw [hn, hz.out])
      have HO := Lib.hid hown
      clear hown hr
      go_wp2_with (first
        | (go_at_call 28; (refine (bytes_lit _ _ _ _ (nb * 8 / 4294967296) (nb * 8 % 4294967296) _ rfl (by constructor <;> omega) (by constructor <;> first | omega | (rw [Int.tmod_eq_emod_of_nonneg (by omega)]; omega))).mono ?_); rintro e w4 ⟨A4, c4, rfl, O4, S4⟩)
        | (at_builtin; refine ApE.wpE .u8 w wr rfl _ _ 22 rfl 5 i0 _ 1 Tryd.underlying22 hi hz0 hz1 hz2 rfl _ L (NL (b ++ [128] ++ List.replicate j 0)) rfl HO.out A4 8 c4 (NL (bys [nb * 8 / 4294967296, nb * 8 % 4294967296])) rfl (by rw [NL_len, bys_len]; rfl) (Row.to (Row.of_own O4)) (by omega) (by omega) ?_; intro A5 c5 w5 O5 S5))
      go_ret
      exact ⟨A5, c5, by rw [← hsum]; rfl, by rw [← hsum, ← HP.out]; exact O5, Step.of inferInstance⟩
end Sh
end Go.Proofs.YtkihhflmgceckaaDoor
