/- PolyKnown walked: true at any curve, place and turn. Condition: errors.errorType reads as laid. -/
import Derived.Test.YtjiagdkopchaeaaDoorSure03
import Derived.Test.YtjiagdkopchaeaaDoorHdr
namespace Go.Proofs.YtjiagdkopchaeaaDoor
open Go.RowKit Go.Lib Go.Maps
namespace LawPolyKnown
open SlR FpM FpC PoM PoC ErrAs
/-- The places, and the curve's values there. -/
def px (t N : Nat) : List Nat := (List.range N).map fun i => i + 1 + t
def py (cs : List Nat) (t N : Nat) : List Nat := (px t N).map fun x => hor x cs
theorem px_len (t N : Nat) : (px t N).length = N := by simp [px]
theorem py_len (cs : List Nat) (t N : Nat) : (py cs t N).length = N := by simp [py, px]
theorem px_at {t N j : Nat} (h : j < N) : (px t N).getD j 0 = j + 1 + t := by
  rw [getD_of (by rw [px_len]; exact h)]; simp [px]
theorem py_at {cs : List Nat} {t N j : Nat} (h : j < N) : (py cs t N).getD j 0 = hor (j + 1 + t) cs := by
  rw [getD_of (by rw [py_len]; exact h)]; simp [py, px]
theorem px_ap (t N : Nat) (h : N + t < 100000) : Ap (px t N) := (ap_iff _).mpr fun i k hk hi => by
  rw [px_len] at hi
  rw [px_at hi, px_at (by omega), fOf, fOf, Nat.mod_eq_of_lt (by rw [P_lit]; omega), Nat.mod_eq_of_lt (by rw [P_lit]; omega)]
  omega
theorem py_b64 (cs : List Nat) (t N : Nat) : B64 (py cs t N) := b64_of fun x hx => by
  obtain ⟨z, _, rfl⟩ := List.mem_map.mp hx
  exact lt64 (hor_lt _ _)
theorem getD_drop (xs : List Nat) (m j : Nat) : (xs.drop m).getD j 0 = xs.getD (m + j) 0 := by
  rw [List.getD_eq_getElem?_getD, List.getD_eq_getElem?_getD, List.getElem?_drop]
theorem ap_drop {xs : List Nat} (h : Ap xs) (m : Nat) : Ap (xs.drop m) := by
  unfold Ap at *
  rw [List.map_drop]
  exact List.Pairwise.sublist (List.drop_sublist ..) h
theorem B64.drop {xs : List Nat} (h : B64 xs) (m : Nat) : B64 (xs.drop m) := fun i => by rw [getD_drop]; exact h _
theorem RowS.drop2 {w : World} {g : Nat} {xs ys : List Nat} (h : RowS w (some ⟨g, 0, none⟩) xs ys) : RowS w (some ⟨g, 4, none⟩) (xs.drop 2) (ys.drop 2) := fun j hj => by
  rw [List.length_drop] at hj
  rw [getD_drop, getD_drop]
  obtain ⟨b, o, e, h1, h2, h3⟩ := h (2 + j) (by omega)
  cases e
  exact ⟨g, 4, rfl, h1, by rw [← h2]; congr 2; omega, by rw [← h3]; congr 2; omega⟩
theorem thr_front {cs : List Nat} {t n : Nat} (hc : cs.length = n) (y : Nat) (h : n + 2 + t < 100000) : thr ((px t (n + 2)).take n) ((py cs t (n + 2)).take n) y n = hor y cs := by
  have hl : ((px t (n + 2)).take n).length = n := by rw [List.length_take, px_len]; omega
  have := thr_curve (xs := (px t (n + 2)).take n) (ys := (py cs t (n + 2)).take n) (c := cs) (ap_front (px_ap t (n + 2) h) n) (by omega) (fun j hj => by
    rw [hl] at hj
    rw [getD_take hj, getD_take hj, px_at (by omega), py_at (by omega)]) y
  rwa [hl] at this
theorem thr_back {cs : List Nat} {t n : Nat} (hc : cs.length = n) (y : Nat) (h : n + 2 + t < 100000) : thr ((px t (n + 2)).drop 2) ((py cs t (n + 2)).drop 2) y n = hor y cs := by
  have hl : ((px t (n + 2)).drop 2).length = n := by rw [List.length_drop, px_len]; omega
  have := thr_curve (xs := (px t (n + 2)).drop 2) (ys := (py cs t (n + 2)).drop 2) (c := cs) (ap_drop (px_ap t (n + 2) h) 2) (by omega) (fun j hj => by
    rw [hl] at hj
    rw [getD_drop, getD_drop, px_at (by omega), py_at (by omega)]) y
  rwa [hl] at this
theorem line_t {cs : List Nat} {t n : Nat} (hc : cs.length = n) (h : n + 2 + t < 100000) : lineB (px t (n + 2)) (py cs t (n + 2)) n = true := line_yes fun j h1 h2 => by
  rw [px_len] at h2
  rw [thr_front hc _ h, px_at h2, py_at h2, fOf, Nat.mod_eq_of_lt (hor_lt _ _)]
/-- The last value, turned by one. -/
def pz (cs : List Nat) (t n : Nat) : List Nat := (py cs t (n + 2)).set (n + 1) (fOf (hor (n + 1 + 1 + t) cs + 1))
theorem line_f {cs : List Nat} {t n : Nat} (hc : cs.length = n) (h : n + 2 + t < 100000) : lineB (px t (n + 2)) (pz cs t n) n = false := line_no (j := n + 1) (by omega) (by rw [px_len]; omega) (by
  have e1 : (pz cs t n).take n = (py cs t (n + 2)).take n := by unfold pz; rw [List.take_set, List.set_eq_of_length_le (by rw [List.length_take]; omega)]
  have e2 : (pz cs t n).getD (n + 1) 0 = fOf (hor (n + 1 + 1 + t) cs + 1) := by
    unfold pz
    rw [getD_of (by rw [List.length_set, py_len]; omega), List.getElem_set_self]
  rw [e1, thr_front hc _ h, px_at (by omega), e2]
  have hl := hor_lt (n + 1 + 1 + t) cs
  unfold fOf
  rw [Nat.mod_mod]
  generalize hor (n + 1 + 1 + t) cs = z at *
  rw [P_lit] at *
  omega)
theorem pl_set (xs ys : List Nat) (j z : Nat) (hy : j < ys.length) : ∀ N, j < N → (pl xs ys N).set (j * 2 + 1) (.int .u64 (z : Nat)) = pl xs (ys.set j z) N
  | 0, h => absurd h (Nat.not_lt_zero _)
  | N + 1, h => by
    have hl := pl_len xs ys N
    by_cases hj : j = N
    · subst hj
      have e0 : ∀ k, k ≤ j → pl xs (ys.set j z) k = pl xs ys k := fun k hk => by
        induction k with
        | zero => rfl
        | succ k ih =>
          rw [pl, pl, ih (by omega)]
          rw [List.getD_eq_getElem?_getD (l := ys.set j z), List.getElem?_set_ne (by omega), ← List.getD_eq_getElem?_getD]
      rw [pl, pl, e0 j (Nat.le_refl _), List.set_append_right _ _ (by omega), hl, show j * 2 + 1 - j * 2 = 1 by omega]
      rw [getD_of (xs := ys.set j z) (by rw [List.length_set]; exact hy), List.getElem_set_self]
      rfl
    · rw [pl, pl, List.set_append_left _ _ (by omega), pl_set xs ys j z hy N (by omega)]
      rw [List.getD_eq_getElem?_getD (l := ys.set j z), List.getElem?_set_ne (by omega), ← List.getD_eq_getElem?_getD]
theorem pz_b64 (cs : List Nat) (t n : Nat) : B64 (pz cs t n) := b64_of fun x hx => by
  rcases List.mem_or_eq_of_mem_set hx with h | h
  · obtain ⟨z, _, rfl⟩ := List.mem_map.mp h
    exact lt64 (hor_lt _ _)
  · rw [h]; exact lt64 (fOf_lt _)
theorem pz_len (cs : List Nat) (t n : Nat) : (pz cs t n).length = n + 2 := by unfold pz; rw [List.length_set, py_len]
set_option maxHeartbeats 1600000 in
set_option maxRecDepth 1000000 in
theorem walkN (A : Option Addr) (n c y t : Nat) (cs : List Nat) (W : World) (hn : cs.length = n) (hr : RowN W A cs) (hy : Hid (y < 18446744073709551616)) (ht : t ≤ 255) (hL : Laid W) :
    Calls Tryd.prog 4 #[.slice A n c, .int .u64 y, .int .u8 t] W fun e w' => e = .returned (.bool true) ∧ Step W w' := by
  by_cases hbig : 10 < n
  · have h1 : (10 : Int) < n := by omega
    go_enter Tryd.func4, Tryd.ntmps4
    go_wp2_with (go_at_call 6; ((with_reducible refine (sure_any _ hL.to).mono ?_); rintro e w' ⟨rfl, S⟩))
    go_ret
    exact ⟨rfl, Step.of inferInstance⟩
  · by_cases h0 : n = 0
    · subst h0
      go_enter Tryd.func4, Tryd.ntmps4
      go_wp2_with (go_at_call 6; ((with_reducible refine (sure_any _ hL.to).mono ?_); rintro e w' ⟨rfl, S⟩))
      go_ret
      exact ⟨rfl, Step.of inferInstance⟩
    · have h1 : ¬ (10 : Int) < n := by omega
      have h2 : ((n : Int) == 0) = false := by simp; omega
      obtain ⟨i0, hi, hz0, hz1, hz2⟩ := info_parts infoS
      have hbound : n + 2 + t < 100000 := by omega
      go_enter Tryd.func4, Tryd.ntmps4
      go_wp2
      go_loopw [7, 8] (fun v i wr => ∃ k : Nat, k ≤ n + 2 ∧ i = .int .i64 k ∧ wr.ownsRow W.heap.size 47 2 v k (pl (px t (n + 2)) (py cs t (n + 2)) k) ∧ Below W.heap.size W wr) (fun _ i _ => n + 2 - (intOf i).toNat)
      case atStart => exact ⟨0, Nat.zero_le _, rfl, World.ownsRow_nil _ _ _ _, Below.refl _ _⟩
      case round =>
        obtain ⟨k, hk, rfl, hown, hb⟩ := hrel
        have Sr : Step W wr := ⟨hb⟩
        by_cases hlt : k < n + 2
        · obtain ⟨A', c', rfl, hcc⟩ := own_form2 hown
          have hlI : (k : Int) < (n : Int) + 2 := by omega
          have HT : Hid (pl (px t (n + 2)) (py cs t (n + 2)) (k + 1) = pl (px t (n + 2)) (py cs t (n + 2)) k ++ [.int .u64 ((k : Int) + 1 + (t : Int)), .int .u64 (hor (k + 1 + t) cs : Nat)]) := Lib.hid (by rw [pl, px_at hlt, py_at hlt]; rfl)
          obtain ⟨h, hh⟩ : ∃ h : Nat, Hid (h = hor (k + 1 + t) cs) := ⟨_, Lib.hid rfl⟩
          rw [← hh.out] at HT
          have cE : ∀ w, RowN w A cs → Calls Tryd.prog 13 #[.slice A n c, .int .u64 ((k : Int) + 1 + (t : Int))] w (Qt (.int .u64 (h : Nat)) w) := fun w hw => by
            have := eval_any A c n (k + 1 + t) cs w hn (by omega) hw (Lib.hid (by omega))
            rw [← hh.out] at this
            exact this
          have hrr : RowN wr A cs := hr.to
          have HB := Lib.hid hb
          have HO := Lib.hid hown
          clear hr hb hown
          go_wp2_with (first
            | (go_at_call 13; ((refine (cE _ hrr.to).mono ?_); rintro e w1 ⟨rfl, n1, rfl⟩))
            | (at_builtin; refine wpList_append_own _ rfl _ _ 28 rfl W.heap.size 47 i0 _ 2 16 Tryd.underlying28 hi hz0 hz1 hz2 rfl (by decide) _ _ _ rfl (World.ownsRow.alloc (w := wr.drewN _) HO.out _) ⟨wr.heap.size, 0, none⟩ 1 1 [.int .u64 ((k : Int) + 1 + (t : Int)), .int .u64 h] rfl rfl (two_new (wr.drewN _) _ _ _) (ints_oneCell .u64 [(k : Int) + 1 + (t : Int), (h : Int)]) (by unfold maxLen; omega) (by omega) (by have := HB.out.size; simp; omega) ?_; intro v' w2 hown1 hgrow1 hnil))
          go_roundw
          case rel => exact ⟨k + 1, by omega, by go_num, by rw [HT.out]; exact hown1, ((below_drewN HB.out n1).alloc HB.out.size _).grown hgrow1 (by have := HB.out.size; simp; omega) (fun g hg => (HO.out.lt g hg).1)⟩
          case measure => simp [intOf]; omega
        · have hkn : k = n + 2 := by omega
          subst hkn
          have hlI : ¬ (((n + 2 : Nat) : Int) < (n : Int) + 2) := by omega
          obtain ⟨g, cap, rfl, hbg, hgl⟩ := hown.form (by omega)
          obtain ⟨_, _, e', hcap⟩ := own_form2 hown
          cases e'
          obtain ⟨H, hH⟩ : ∃ H : Nat, Hid (H = hor y cs) := ⟨_, Lib.hid rfl⟩
          have hrs : RowS wr (some ⟨g, 0, none⟩) (px t (n + 2)) (py cs t (n + 2)) := RowS.of_own hown (px_len _ _)
          have cT1 : ∀ w, RowS w (some ⟨g, 0, none⟩) (px t (n + 2)) (py cs t (n + 2)) → Calls Tryd.prog 8 #[.slice (some ⟨g, 0, none⟩) n cap, .int .u64 y] w fun e w' => e = .returned (.tuple #[.int .u64 H, .nilIface]) ∧ Step w w' := fun w hw => by
            have h := through_ok (some ⟨g, 0, none⟩) cap n y _ _ w (by rw [List.length_take, px_len]; omega) (by omega) (hw.front n) (Lib.hid ((py_b64 cs t (n + 2)).front n)) (Lib.hid (ap_front (px_ap t (n + 2) hbound) n))
            rw [thr_front hn y hbound, ← hH.out] at h
            exact h
          have cT2 : ∀ w, RowS w (some ⟨g, 0, none⟩) (px t (n + 2)) (py cs t (n + 2)) → Calls Tryd.prog 8 #[.slice (some ⟨g, 4, none⟩) n (cap - 2), .int .u64 y] w fun e w' => e = .returned (.tuple #[.int .u64 H, .nilIface]) ∧ Step w w' := fun w hw => by
            have h := through_ok (some ⟨g, 4, none⟩) (cap - 2) n y _ _ w (by rw [List.length_drop, px_len]; omega) (by omega) (RowS.drop2 hw) (Lib.hid (B64.drop (py_b64 cs t (n + 2)) 2)) (Lib.hid (ap_drop (px_ap t (n + 2) hbound) 2))
            rw [thr_back hn y hbound, ← hH.out] at h
            exact h
          have cL1 : ∀ w, RowS w (some ⟨g, 0, none⟩) (px t (n + 2)) (py cs t (n + 2)) → Calls Tryd.prog 10 #[.slice (some ⟨g, 0, none⟩) (n + 2) cap, .int .i64 n] w fun e w' => e = .returned (.tuple #[.bool true, .nilIface]) ∧ Step w w' := fun w hw => by
            have h := line_lo (some ⟨g, 0, none⟩) cap (n + 2) n _ _ w (by omega) (px_len _ _) (by omega) hcap hw (Lib.hid (py_b64 cs t (n + 2))) (Lib.hid (px_ap t (n + 2) hbound))
            rw [line_t hn hbound] at h
            exact h
          have cL2 : ∀ w, RowS w (some ⟨g, 0, none⟩) (px t (n + 2)) (pz cs t n) → Calls Tryd.prog 10 #[.slice (some ⟨g, 0, none⟩) (n + 2) cap, .int .i64 n] w fun e w' => e = .returned (.tuple #[.bool false, .nilIface]) ∧ Step w w' := fun w hw => by
            have h := line_lo (some ⟨g, 0, none⟩) cap (n + 2) n _ _ w (by omega) (px_len _ _) (by omega) hcap hw (Lib.hid (pz_b64 cs t n)) (Lib.hid (px_ap t (n + 2) hbound))
            rw [line_f hn hbound] at h
            exact h
          have hi1 : (n : Int) ≤ (cap : Int) := by omega
          have hi2 : ¬ cap = 2 := by omega
          have hc2 : 2 ≤ cap := by omega
          have HO := Lib.hid hown
          have HB := Lib.hid hb
          clear hown hb
          have ownTo : ∀ w3, Ext wr w3 → w3.ownsRow W.heap.size 47 2 (.slice (some ⟨g, 0, none⟩) (n + 2) cap) (n + 2) (pl (px t (n + 2)) (py cs t (n + 2)) (n + 2)) := fun w3 e => HO.out.kept (Hdr.grown_of_ext e) (by simp [Value.ownBlock])
          have hpl := pl_at (px t (n + 2)) (py cs t (n + 2)) (n + 1) (n + 2) (by omega)
          rw [py_at (by omega)] at hpl
          obtain ⟨Y, hY⟩ : ∃ Y : Nat, Hid (Y = hor (n + 1 + 1 + t) cs) := ⟨_, Lib.hid rfl⟩
          rw [← hY.out] at hpl
          have hcell : ∀ w3, Ext wr w3 → w3.cell? ⟨g, (n + 1) * 2 + 1, none⟩ = some (.int .u64 Y) := fun w3 e => ((ownTo w3 e).cellAt _ (by omega)).trans hpl.2
          have hfroz : ∀ w3, Ext wr w3 → w3.frozen? ⟨g, (n + 1) * 2 + 1, none⟩ = false := fun w3 e => (ownTo w3 e).frozenAt _
          clear hpl
          have eZ : Hid ((IntKind.u64.wrap ((Y : Int) + 1)).tmod 2305843009213693951 = ((fOf (Y + 1) : Nat) : Int)) := Lib.hid (by
            have hl := hor_lt (n + 1 + 1 + t) cs
            rw [← hY.out, P_lit] at hl
            rw [IntKind.wrap_u64, Int.tmod_eq_emod_of_nonneg (by omega), fOf, P_lit]
            omega)
          have hstore : ∀ w3, Ext wr w3 → RowS (w3.setCell ⟨g, (n + 1) * 2 + 1, none⟩ (.int .u64 ((IntKind.u64.wrap ((Y : Int) + 1)).tmod 2305843009213693951))) (some ⟨g, 0, none⟩) (px t (n + 2)) (pz cs t n) ∧ Step W (w3.setCell ⟨g, (n + 1) * 2 + 1, none⟩ (.int .u64 ((IntKind.u64.wrap ((Y : Int) + 1)).tmod 2305843009213693951))) := fun w3 e => by
            have h1 := ((ownTo w3 e).stored ((n + 1) * 2 + 1) (.int .u64 (fOf (Y + 1) : Nat))).1
            rw [pl_set _ _ (n + 1) (fOf (Y + 1)) (by rw [py_len]; omega) (n + 2) (by omega)] at h1
            have e2 : (py cs t (n + 2)).set (n + 1) (fOf (Y + 1)) = pz cs t n := by rw [pz, hY.out]
            rw [e2] at h1
            rw [eZ.out]
            have S3 : Step wr w3 := Step.of e
            exact ⟨RowS.of_own h1 (px_len _ _), ⟨(Step.of (w := W) (inferInstance : Ext W w3)).h.setCell hbg _⟩⟩
          have cEv : ∀ w, RowN w A cs → Calls Tryd.prog 13 #[.slice A n c, .int .u64 y] w (Qt (.int .u64 (H : Nat)) w) := fun w hw => by
            have := eval_any A c n y cs w hn (by omega) hw hy
            rw [← hH.out] at this
            exact this
          clear ownTo
          go_wp2_with (first
            | (go_at_call 8; ((with_reducible refine (cT1 _ hrs.to).mono ?_); rintro e w1 ⟨rfl, S1⟩))
            | (go_at_call 8; ((with_reducible refine (cT2 _ hrs.to).mono ?_); rintro e w2 ⟨rfl, S2⟩))
            | (go_at_call 10; ((with_reducible refine (cL1 _ hrs.to).mono ?_); rintro e w3 ⟨rfl, S3⟩; have hcY := hcell w3 inferInstance; have hfY := hfroz w3 inferInstance; obtain ⟨RZ, SZ⟩ := hstore w3 inferInstance))
            | (go_at_call 10; ((with_reducible refine (cL2 _ RZ).mono ?_); rintro e w4 ⟨rfl, S4⟩))
            | (go_at_call 13; ((with_reducible refine (cEv _ hr.to).mono ?_); rintro e w5 ⟨rfl, n1, rfl⟩))
            | (go_at_call 6; ((with_reducible refine (sure_any _ hL.to).mono ?_); rintro e w6 ⟨rfl, S6⟩)))
          go_ret
          exact ⟨rfl, Step.of inferInstance⟩
theorem nl_of (ps : List Int) (h : ∀ z ∈ ps, 0 ≤ z ∧ z < 18446744073709551616) : ∃ xs : List Nat, ps = NL xs ∧ xs.length = ps.length ∧ B64 xs := by
  refine ⟨ps.map Int.toNat, ?_, by simp, b64_of fun x hx => ?_⟩
  · unfold NL
    rw [List.map_map]
    conv => lhs; rw [← List.map_id ps]
    refine List.map_congr_left fun z hz => ?_
    have := (h z hz).1
    simp; omega
  · obtain ⟨z, hz, rfl⟩ := List.mem_map.mp hx
    have := h z hz
    omega
theorem walk (A : Option Addr) (n c : Nat) (xs : List Int) (y t : Int) (W : World) (hl : xs.length = n) (_hm : n ≤ maxLen) (hr : Row .u64 W A xs) (hb : ∀ z ∈ xs, 0 ≤ z ∧ z < 18446744073709551616) (hy : 0 ≤ y ∧ y ≤ 18446744073709551615) (ht : 0 ≤ t ∧ t ≤ 255) (hL : Laid W) :
    Calls Tryd.prog 4 #[.slice A n c, .int .u64 y, .int .u8 t] W fun e w' => e = .returned (.bool true) ∧ Step W w' := by
  obtain ⟨cs, rfl, l1, _⟩ := nl_of xs hb
  obtain ⟨Y, rfl⟩ : ∃ Y : Nat, y = Y := ⟨y.toNat, by omega⟩
  obtain ⟨T, rfl⟩ : ∃ T : Nat, t = T := ⟨t.toNat, by omega⟩
  exact walkN A n c Y T cs W (by omega) hr (Lib.hid (by omega)) (by omega) hL
end LawPolyKnown
end Go.Proofs.YtjiagdkopchaeaaDoor
