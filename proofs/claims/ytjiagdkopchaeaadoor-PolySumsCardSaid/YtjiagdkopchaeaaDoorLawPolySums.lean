/- PolySums walked: true at any curves and numbers. Condition: errors.errorType reads ps laid. -/
import Derived.Test.YtjiagdkopchaeaaDoorSure03
import Derived.Test.YtjiagdkopchaeaaDoorHdr
import Derived.RegionTactic
namespace Go.Proofs.YtjiagdkopchaeaaDoor
open Go.RowKit Go.Lib Go.Maps
namespace LawPolySums
open SlR FpM FpC PoM PoC ErrAs
def Own (w : World) (H : Nat) (v : Value) (k : Nat) (xs : List Nat) : Prop := w.ownsRow H 24 1 v k ((NL xs).map (Value.int .u64))
def Apart (u v : Value) : Prop := ∀ g, u.ownBlock = some g → v.ownBlock ≠ some g
theorem Apart.symm {u v : Value} (h : Apart u v) : Apart v u := fun g h1 h2 => h g h2 h1
/-- What another row's append leaves. -/
theorem other {w w' : World} {H m : Nat} {u v v' : Value} {ys : List Nat} (hu : Own w H u m ys) (ha : Apart u v) (hg : w.grownBy w' v.ownBlock) (hl : v'.ownBlock = v.ownBlock ∨ v'.ownBlock = some w.heap.size) : Own w' H u m ys ∧ Apart u v' := by
  refine ⟨hu.kept hg ?_, fun g h1 h2 => ?_⟩
  · cases e : u.ownBlock with
    | none => exact .inl rfl
    | some g => exact .inr (fun e2 => ha g e e2.symm)
  · rcases hl with e | e
    · rw [e] at h2; exact ha g h1 h2
    · rw [e] at h2
      injection h2 with h2
      have := (World.ownsRow.lt hu g h1).2
      omega
theorem Own.snoc {w : World} {H k : Nat} {v : Value} {xs : List Nat} {z : Nat} (h : w.ownsRow H 24 1 v (k + 1) ((NL xs).map (Value.int .u64) ++ [.int .u64 (z : Nat)])) : Own w H v (k + 1) (xs ++ [z]) := by
  unfold Own; rw [nlv_snoc]; exact h
def zs (ps qs : List Nat) : List Nat := List.zipWith fAdd ps qs
def ms (ps : List Nat) (k : Nat) : List Nat := ps.map fun z => fMul z k
theorem zs_snoc {ps qs : List Nat} {k : Nat} (h1 : k < ps.length) (h2 : k < qs.length) : (zs ps qs).take (k + 1) = (zs ps qs).take k ++ [fAdd (ps.getD k 0) (qs.getD k 0)] := by
  rw [take_snocN _ _ (by simp [zs]; omega), getD_of (by simp [zs]; omega), getD_of h1, getD_of h2]
  simp [zs]
theorem ms_snoc {ps : List Nat} {k q : Nat} (h1 : k < ps.length) : (ms ps q).take (k + 1) = (ms ps q).take k ++ [fMul (ps.getD k 0) q] := by
  rw [take_snocN _ _ (by simp [ms]; omega), getD_of (by simp [ms]; omega), getD_of h1]
  simp [ms]
theorem RowN.box (w : World) (H : Nat) (t : TypeId) (xs : List Nat) (h : w.heap.size = H) : RowN (w.alloc (.cells ((NL xs).map (Value.int .u64)).toArray t (0, 0))) (some ⟨H, 0, none⟩) xs := Row.litN w H t (NL xs) h
theorem ap4 : Ap [1, 2, 3, 4] := by decide
theorem lit4 (w : World) (H : Nat) (t : TypeId) (h : w.heap.size = H) : RowN (w.alloc (.cells #[.int .u64 1, .int .u64 2, .int .u64 3, .int .u64 4] t (0, 0))) (some ⟨H, 0, none⟩) [1, 2, 3, 4] := Row.litN w H t [1, 2, 3, 4] h
/-- Four weights, read wherever. -/
def W4 (w : World) (ad : Addr) (a b c d : Nat) : Prop := ∀ z, Ext w z → z.cell? ad = some (.int .u64 a) ∧ z.cell? ⟨ad.block, ad.off + 1, none⟩ = some (.int .u64 b) ∧ z.cell? ⟨ad.block, ad.off + 2, none⟩ = some (.int .u64 c) ∧ z.cell? ⟨ad.block, ad.off + 3, none⟩ = some (.int .u64 d)
theorem w4_of {w : World} {A : Option Addr} (y : Nat) (h : RowN w A (wts [1, 2, 3, 4] y)) : ∃ ad, A = some ad ∧ W4 w ad (wt [1, 2, 3, 4] 0 y) (wt [1, 2, 3, 4] 1 y) (wt [1, 2, 3, 4] 2 y) (wt [1, 2, 3, 4] 3 y) := by
  obtain ⟨ad, rfl, _⟩ := h.at (j := 0) (by rw [wts_len]; decide)
  have k : ∀ z, Ext w z → ∀ j, j < 4 → z.cell? (ad.add j) = some (.int .u64 (wt [1, 2, 3, 4] j y : Nat)) := fun z hz j hj => by
    obtain ⟨a', e', h5⟩ := (show RowN z _ _ from h.to).at (j := j) (by rw [wts_len]; exact hj)
    cases e'
    rw [wts_at [1, 2, 3, 4] y (show j < [1, 2, 3, 4].length from hj)] at h5
    exact h5
  refine ⟨ad, rfl, fun z hz => ⟨?_, k z hz 1 (by omega), k z hz 2 (by omega), k z hz 3 (by omega)⟩⟩
  have := k z hz 0 (by omega)
  rwa [addr0] at this
theorem c_w4 (H : Nat) (w : World) (y : Nat) (hH : w.heap.size = H) : Calls Tryd.prog 12 #[.slice (some ⟨H, 0, none⟩) 4 4, .int .u64 y] (w.alloc (.cells #[.int .u64 1, .int .u64 2, .int .u64 3, .int .u64 4] 24 (0, 0))) fun e w' => ∃ ad c', e = .returned (.tuple #[.slice (some ad) 4 c', .nilIface]) ∧
    W4 w' ad (wt [1, 2, 3, 4] 0 y) (wt [1, 2, 3, 4] 1 y) (wt [1, 2, 3, 4] 2 y) (wt [1, 2, 3, 4] 3 y) ∧ Step w w' :=
  (weights_ok (some ⟨H, 0, none⟩) 4 4 y [1, 2, 3, 4] _ rfl (by omega) (lit4 w H _ hH) (Lib.hid ap4)).mono fun e w' ⟨A', c', h1, h2, h3⟩ => by
    obtain ⟨ad, rfl, h4⟩ := w4_of y h2
    exact ⟨ad, c', h1, h4, Step.of inferInstance⟩
theorem c_w43 (H : Nat) (w : World) (hH : w.heap.size = H) : Calls Tryd.prog 12 #[.slice (some ⟨H, 0, none⟩) 4 4, .int .u64 3] (w.alloc (.cells #[.int .u64 1, .int .u64 2, .int .u64 3, .int .u64 4] 24 (0, 0))) fun e w' => ∃ ad c', e = .returned (.tuple #[.slice (some ad) 4 c', .nilIface]) ∧
    (∀ z, Ext w' z → z.cell? ad = some (.int .u64 0) ∧ z.cell? ⟨ad.block, ad.off + 1, none⟩ = some (.int .u64 0) ∧ z.cell? ⟨ad.block, ad.off + 2, none⟩ = some (.int .u64 1) ∧ z.cell? ⟨ad.block, ad.off + 3, none⟩ = some (.int .u64 0)) ∧ Step w w' := by
  have h := c_w4 H w 3 hH
  rw [show wt [1, 2, 3, 4] 0 3 = 0 from wt_other (j := 2) (by decide) (by decide), show wt [1, 2, 3, 4] 1 3 = 0 from wt_other (j := 2) (by decide) (by decide), show wt [1, 2, 3, 4] 2 3 = 1 from wt_self ap4 (i := 2) (by decide), show wt [1, 2, 3, 4] 3 3 = 0 from wt_other (j := 2) (by decide) (by decide)] at h
  exact h
theorem all_one (y : Nat) : fAdd (fAdd (wt [1, 2, 3, 4] 0 y) (wt [1, 2, 3, 4] 1 y)) (fAdd (wt [1, 2, 3, 4] 2 y) (wt [1, 2, 3, 4] 3 y)) = 1 := by
  have h := thr_curve (xs := [1, 2, 3, 4]) (ys := [1, 1, 1, 1]) (c := [1]) ap4 (by decide) (fun j hj => by
    match j, hj with
    | 0, _ => decide
    | 1, _ => decide
    | 2, _ => decide
    | 3, _ => decide) y
  have e1 : hor y [1] = 1 := by simp only [hor]; rw [fMul_comm, fMul_zero]; decide
  rw [e1] at h
  have e : thr [1, 2, 3, 4] [1, 1, 1, 1] y 4 = fAdd (fAdd (fAdd (fAdd 0 (fMul (wt [1, 2, 3, 4] 0 y) 1)) (fMul (wt [1, 2, 3, 4] 1 y) 1)) (fMul (wt [1, 2, 3, 4] 2 y) 1)) (fMul (wt [1, 2, 3, 4] 3 y) 1) := rfl
  rw [show [1, 2, 3, 4].length = 4 from rfl, e] at h
  have hw : ∀ i, fMul (wt [1, 2, 3, 4] i y) 1 = wt [1, 2, 3, 4] i y := fun i => by rw [fMul_one, Nat.mod_eq_of_lt (wt_lt _ _ _)]
  rw [hw, hw, hw, hw, fAdd_comm 0, fAdd_zero, Nat.mod_eq_of_lt (wt_lt _ _ _), fAdd_assoc _ (wt [1, 2, 3, 4] 2 y)] at h
  exact h
set_option maxHeartbeats 1600000 in
set_option maxRecDepth 1000000 in
theorem walkN (ps qs : List Nat) (x k : Nat) (W : World) (ha : ps.length = 5) (hb : qs.length = 5) (hx : Hid (x < 18446744073709551616)) (hL : Laid W) :
    Calls Tryd.prog 5 #[.agg ((NL ps).map (Value.int .u64)).toArray, .agg ((NL qs).map (Value.int .u64)).toArray, .agg #[.int .u64 x, .int .u64 k]] W fun e w' => e = .returned (.bool true) ∧ Step W w' := by
  obtain ⟨i0, hi, hz0, hz1, hz2⟩ := info_parts infoN
  have RA0 : RowN (W.alloc (.cells ((NL ps).map (Value.int .u64)).toArray 49 (0, 0))) (some ⟨W.heap.size, 0, none⟩) ps := RowN.box W _ _ ps rfl
  have RB0 : RowN ((W.alloc (.cells ((NL ps).map (Value.int .u64)).toArray 49 (0, 0))).alloc (.cells ((NL qs).map (Value.int .u64)).toArray 49 (0, 0))) (some ⟨W.heap.size + 1, 0, none⟩) qs := RowN.box _ _ _ qs (by simp)
  obtain ⟨w0, hw0⟩ : ∃ w0, w0 = (((W.alloc (.cells ((NL ps).map (Value.int .u64)).toArray 49 (0, 0))).alloc (.cells ((NL qs).map (Value.int .u64)).toArray 49 (0, 0))).alloc (.cells #[.int .u64 x, .int .u64 k] 50 (0, 0))).drew := ⟨_, rfl⟩
  have HX1 : Hid (W.heap.size + 1 < w0.heap.size) := Lib.hid (by rw [hw0]; simp)
  have S0 : Step W w0 := by rw [hw0]; exact Step.of inferInstance
  have RA : RowN w0 (some ⟨W.heap.size, 0, none⟩) ps := by rw [hw0]; exact RA0.to
  have RB : RowN w0 (some ⟨W.heap.size + 1, 0, none⟩) qs := by rw [hw0]; exact RB0.to
  clear RA0 RB0
  go_enter Tryd.func5, Tryd.ntmps5
  go_wp2_with (fail)
  go_region
  go_wp2_with (fail)
  rw [← hw0]
  clear hw0
  go_loopw [9, 10, 11] (fun s t i wr => ∃ j : Nat, j ≤ 5 ∧ i = .int .i64 j ∧ Own wr w0.heap.size s j ((zs ps qs).take j) ∧ Own wr w0.heap.size t j ((ms ps k).take j) ∧ Apart s t ∧ Below w0.heap.size w0 wr) (fun _ _ i _ => 5 - (intOf i).toNat)
  case atStart => exact ⟨0, Nat.zero_le _, rfl, World.ownsRow_nil _ _ _ _, World.ownsRow_nil _ _ _ _, fun g h => by simp [Value.ownBlock] at h, Below.refl _ _⟩
  case round =>
    obtain ⟨j, hj, rfl, hs, ht, hap, hbl⟩ := hrel
    have Sr : Step w0 wr := ⟨hbl⟩
    obtain ⟨A1, c1, rfl⟩ := own_form hs
    obtain ⟨A2, c2, rfl⟩ := own_form ht
    by_cases hlt : j < 5
    · obtain ⟨p1, e1, hc1⟩ := (show RowN wr _ ps from RA.to).at (j := j) (by omega)
      obtain ⟨p2, e2, hc2⟩ := (show RowN wr _ qs from RB.to).at (j := j) (by omega)
      cases e1
      cases e2
      rw [Addr.add_lit, Nat.zero_add] at hc1 hc2
      have HZ := Lib.hid (zs_snoc (ps := ps) (qs := qs) (k := j) (by omega) (by omega))
      have HM := Lib.hid (ms_snoc (ps := ps) (k := j) (q := k) (by omega))
      obtain ⟨u, hu⟩ : ∃ u : Nat, Hid (u = ps.getD j 0) := ⟨_, Lib.hid rfl⟩
      obtain ⟨v, hv⟩ : ∃ v : Nat, Hid (v = qs.getD j 0) := ⟨_, Lib.hid rfl⟩
      rw [← hu.out] at hc1 HZ HM
      rw [← hv.out] at hc2 HZ
      have HS := Lib.hid hs
      have HT := Lib.hid ht
      have HB := Lib.hid hbl
      have HA := Lib.hid hap
      clear hs ht hbl hap RA RB
      have hb1 : W.heap.size < w0.heap.size := by have := HX1.out; omega
      have hb2 : W.heap.size + 1 < w0.heap.size := HX1.out
      have hKB : ∀ n1 o w1, ((wr.drewN n1).alloc o).grownBy w1 (Value.slice A1 j c1).ownBlock → Below w0.heap.size wr w1 := fun n1 o w1 hg =>
        ((below_drewN (Below.refl w0.heap.size wr) n1).alloc HB.out.size o).grown hg (by have := HB.out.size; simp; omega) (fun g hg => (HS.out.lt g hg).1)
      have HO2 : ∀ n1 o, ((wr.drewN n1).alloc o).ownsRow w0.heap.size 24 1 (.slice A1 j c1) j ((NL ((zs ps qs).take j)).map (Value.int .u64)) := fun n1 o => (World.ownsRow.alloc (w := wr.drewN n1) HS.out o)
      go_wp2
      go_region_held3 (fun w' => w'.cell? ⟨W.heap.size, j, none⟩ = some (.int .u64 u) ∧ w'.cell? ⟨W.heap.size + 1, j, none⟩ = some (.int .u64 v))
        (first | go_keep | (have hz := hKB _ _ _ hgrow; exact ⟨(hz.cell hb1).trans hc1, (hz.cell hb2).trans hc2⟩))
        (first
          | (go_at_call 16; (refine (radd _ _ _).mono ?_); rintro e w' ⟨rfl, n1, rfl⟩)
          | (refine step_append_lies _ (by rfl) _ _ _ (by rfl) w0.heap.size 24 i0 _ 1 8 Tryd.underlying22 hi hz0 hz1 hz2 rfl (by omega) _ j _ (by rfl) (HO2 _ _)
              ⟨wr.heap.size, 0, none⟩ 1 1 [.int .u64 (fAdd u v : Nat)] (by rfl) (by rfl) (cell_one_new _ _ _) (ints_oneCell .u64 [((fAdd u v : Nat) : Int)])
              (by omega) (by unfold maxLen; omega) (by omega) (by have := HB.out.size; simp; omega) (wr.heap.size + 1) (by simp) ?_; intro gg cap w1 hown1 hgrow hat hlt1))
      have O1 := Own.snoc hown1
      obtain ⟨O2, P2⟩ := other (w := (wr.drewN (1 + n1)).alloc (.cells #[.int .u64 (fAdd u v : Nat)] 24 (0, 0))) (v' := .slice (some ⟨gg, 0, none⟩) (j + 1) cap) (World.ownsRow.alloc (w := wr.drewN (1 + n1)) HT.out _) HA.out.symm hgrow (by rcases hat with h | h <;> simp [Value.ownBlock] at h ⊢ <;> simp [h])
      have HO1 := Lib.hid O1
      have HO2' := Lib.hid O2
      have HP2 := Lib.hid P2
      have hB1 := hKB _ _ _ hgrow
      have HB1 := Lib.hid (HB.out.trans hB1)
      have hs1 : Hid (wr.heap.size ≤ w1.heap.size) := Lib.hid hB1.size
      have hc1' : w1.cell? ⟨W.heap.size, j, none⟩ = some (.int .u64 u) := (hB1.cell hb1).trans hc1
      clear O1 O2 P2 hgrow hat hown1 hKB HO2 hc1 hc2 hB1
      go_wp2_with (first
        | (go_at_call 17; (refine (rmul _ _ _).mono ?_); rintro e w' ⟨rfl, n2, rfl⟩)
        | (at_builtin; refine wpList_append_own_at _ rfl _ _ 22 rfl w0.heap.size 24 i0 _ 1 8 Tryd.underlying22 hi hz0 hz1 hz2 rfl (by decide) _ j _ rfl (World.ownsRow.alloc (w := w1.drewN _) HO2'.out _)
              ⟨w1.heap.size, 0, none⟩ 1 1 [.int .u64 (fMul u k : Nat)] rfl rfl (cell_one_new _ _ _) (ints_oneCell .u64 [((fMul u k : Nat) : Int)]) (by unfold maxLen; omega) (by omega) (by have := HB1.out.size; simp; omega) ?_; intro v2 w2 hown2 hgrow2 hnil2 hlies2))
      obtain ⟨O3, P3⟩ := other (v' := v2) (World.ownsRow.alloc (w := w1.drewN n2) HO1.out (.cells #[.int .u64 (fMul u k : Nat)] 24 (0, 0))) HP2.out.symm hgrow2 hlies2
      have O4 := Own.snoc hown2
      have B4 := ((below_drewN HB1.out n2).alloc HB1.out.size (.cells #[.int .u64 (fMul u k : Nat)] 24 (0, 0))).grown hgrow2 (by have := HB1.out.size; simp; omega) (fun g hg => (HO2'.out.lt g hg).1)
      clear hlies2 hnil2 hgrow2 hown2
      go_roundw
      case rel => exact ⟨j + 1, by omega, by go_num, by rw [HZ.out]; exact O3, by rw [HM.out]; exact O4, P3, B4⟩
      case measure => simp [intOf]; omega
    · have hj5 : j = 5 := by omega
      subst hj5
      have hz5 : (zs ps qs).take 5 = zs ps qs := List.take_of_length_le (by simp [zs]; omega)
      have hm5 : (ms ps k).take 5 = ms ps k := List.take_of_length_le (by simp [ms]; omega)
      rw [hz5] at hs
      rw [hm5] at ht
      have lz : (zs ps qs).length = 5 := by simp [zs, ha, hb]
      have lm : (ms ps k).length = 5 := by simp [ms, ha]
      obtain ⟨p, hp⟩ : ∃ p : Nat, Hid (p = hor x ps) := ⟨_, Lib.hid rfl⟩
      obtain ⟨q, hq⟩ : ∃ q : Nat, Hid (q = hor x qs) := ⟨_, Lib.hid rfl⟩
      obtain ⟨X, hX⟩ : ∃ X : Nat, Hid (X = hor x (zs ps qs)) := ⟨_, Lib.hid rfl⟩
      obtain ⟨Y, hY⟩ : ∃ Y : Nat, Hid (Y = hor x (ms ps k)) := ⟨_, Lib.hid rfl⟩
      have cS : ∀ n, Calls Tryd.prog 13 #[.slice A1 5 c1, .int .u64 x] (wr.drewN n) (Qt (.int .u64 (X : Nat)) (wr.drewN n)) := fun n => by rw [hX.out]; exact eval_any A1 c1 5 x _ _ lz (by omega) (Row.of_own hs) hx
      have cT : ∀ n, Calls Tryd.prog 13 #[.slice A2 5 c2, .int .u64 x] (wr.drewN n) (Qt (.int .u64 (Y : Nat)) (wr.drewN n)) := fun n => by rw [hY.out]; exact eval_any A2 c2 5 x _ _ lm (by omega) (Row.of_own ht) hx
      have cP : ∀ n, Calls Tryd.prog 13 #[.slice (some ⟨W.heap.size, 0, none⟩) 5 5, .int .u64 x] (wr.drewN n) (Qt (.int .u64 (p : Nat)) (wr.drewN n)) := fun n => by rw [hp.out]; exact eval_any _ 5 5 x ps _ ha (by omega) (show RowN wr _ ps from RA.to) hx
      have cQ : ∀ n, Calls Tryd.prog 13 #[.slice (some ⟨W.heap.size + 1, 0, none⟩) 5 5, .int .u64 x] (wr.drewN n) (Qt (.int .u64 (q : Nat)) (wr.drewN n)) := fun n => by rw [hq.out]; exact eval_any _ 5 5 x qs _ hb (by omega) (show RowN wr _ qs from RB.to) hx
      have cA : ∀ w, Calls Tryd.prog 16 #[.int .u64 p, .int .u64 q] w (Qt (.int .u64 (X : Nat)) w) := fun w => by
        have h := radd p q w
        rwa [show fAdd p q = X by rw [hX.out, hp.out, hq.out]; exact (hor_add x ps qs (by omega)).symm] at h
      have cM : ∀ w, Calls Tryd.prog 17 #[.int .u64 p, .int .u64 k] w (Qt (.int .u64 (Y : Nat)) w) := fun w => by
        have h := rmul p k w
        rwa [show fMul p k = Y by rw [hY.out, hp.out]; exact (hor_mul x k ps).symm] at h
      have lA : Laid wr := hL.to
      have SW : Step W wr := Step.of inferInstance
      clear hs ht hap RA RB hz5 hm5
      go_wp2
      go_quiet (first
        | (go_at_call 13; first | with_reducible exact Qt.quiet (cS _) | with_reducible exact Qt.quiet_add (cS _) | with_reducible exact Qt.quiet (cT _) | with_reducible exact Qt.quiet_add (cT _) | with_reducible exact Qt.quiet (cP _) | with_reducible exact Qt.quiet_add (cP _) | with_reducible exact Qt.quiet (cQ _) | with_reducible exact Qt.quiet_add (cQ _))
        | (go_at_call 16; first | with_reducible exact Qt.quiet (cA _) | with_reducible exact Qt.quiet_add (cA _))
        | (go_at_call 17; first | with_reducible exact Qt.quiet (cM _) | with_reducible exact Qt.quiet_add (cM _)))
      clear cS cT cP cQ cA cM
      have HLA := Lib.hid lA
      have hall := all_one x
      obtain ⟨q0, hq0⟩ : ∃ t : Nat, Hid (t = wt [1, 2, 3, 4] 0 x) := ⟨_, Lib.hid rfl⟩
      obtain ⟨q1, hq1⟩ : ∃ t : Nat, Hid (t = wt [1, 2, 3, 4] 1 x) := ⟨_, Lib.hid rfl⟩
      obtain ⟨q2, hq2⟩ : ∃ t : Nat, Hid (t = wt [1, 2, 3, 4] 2 x) := ⟨_, Lib.hid rfl⟩
      obtain ⟨q3, hq3⟩ : ∃ t : Nat, Hid (t = wt [1, 2, 3, 4] 3 x) := ⟨_, Lib.hid rfl⟩
      have cW : ∀ (H : Nat) (w : World), w.heap.size = H → Calls Tryd.prog 12 #[.slice (some ⟨H, 0, none⟩) 4 4, .int .u64 x] (w.alloc (.cells #[.int .u64 1, .int .u64 2, .int .u64 3, .int .u64 4] 24 (0, 0))) fun e w' => ∃ ad c', e = .returned (.tuple #[.slice (some ad) 4 c', .nilIface]) ∧ W4 w' ad q0 q1 q2 q3 ∧ Step w w' := fun H w h => by
        rw [hq0.out, hq1.out, hq2.out, hq3.out]; exact c_w4 H w x h
      rw [← hq0.out, ← hq1.out, ← hq2.out, ← hq3.out] at hall
      obtain ⟨t01, h01⟩ : ∃ t : Nat, Hid (t = fAdd q0 q1) := ⟨_, Lib.hid rfl⟩
      obtain ⟨t23, h23⟩ : ∃ t : Nat, Hid (t = fAdd q2 q3) := ⟨_, Lib.hid rfl⟩
      have d01 : ∀ w, Calls Tryd.prog 16 #[.int .u64 q0, .int .u64 q1] w (Qt (.int .u64 t01) w) := fun w => by rw [h01.out]; exact radd q0 q1 w
      have d23 : ∀ w, Calls Tryd.prog 16 #[.int .u64 q2, .int .u64 q3] w (Qt (.int .u64 t23) w) := fun w => by rw [h23.out]; exact radd q2 q3 w
      have dall : ∀ w, Calls Tryd.prog 16 #[.int .u64 t01, .int .u64 t23] w (Qt (.int .u64 1) w) := fun w => by
        have h := radd t01 t23 w
        rw [show fAdd t01 t23 = 1 by rw [h01.out, h23.out]; exact hall] at h
        exact h
      clear hall
      go_wp2_with (first
        | (go_at_call 12; ((with_reducible refine (cW _ _ (by simp)).mono ?_); rintro e w1 ⟨D1, d1, rfl, R1, S1⟩))
        | (go_at_call 12; ((with_reducible refine (c_w43 _ _ (by simp)).mono ?_); rintro e w2 ⟨D2, d2, rfl, R2, S2⟩)))
      obtain ⟨a0, a1, a2, a3⟩ := R1 w2 inferInstance
      obtain ⟨b0, b1, b2, b3⟩ := R2 w2 inferInstance
      clear R1 R2
      go_quiet ((go_at_call 16; first | with_reducible exact Qt.quiet (d01 _) | with_reducible exact Qt.quiet_add (d01 _) | with_reducible exact Qt.quiet (d23 _) | with_reducible exact Qt.quiet_add (d23 _) | with_reducible exact Qt.quiet (dall _) | with_reducible exact Qt.quiet_add (dall _)))
      go_wp2_with (go_at_call 6; ((with_reducible refine (sure_any _ HLA.out.to).mono ?_); rintro e w' ⟨rfl, S⟩))
      go_ret
      exact ⟨rfl, Step.of inferInstance⟩
theorem nl_of (ps : List Int) (h : ∀ z ∈ ps, 0 ≤ z ∧ z < 18446744073709551616) : ∃ xs : List Nat, ps = NL xs ∧ xs.length = ps.length ∧ B64 xs := by
  refine ⟨ps.map Int.toNat, ?_, by simp, b64_of fun x hx => ?_⟩
  · unfold NL
    rw [List.map_map]
    conv => lhs; rw [← List.map_id ps]
    refine List.map_congr_left fun z hz => ?_
    have := (h z hz).1
    simp; omega
  · obtain ⟨z, hz, rfl⟩ := List.mem_map.mp hx
    have := h z hz
    omega
theorem walk (ps qs rs : List Int) (W : World) (h1 : ps.length = 5) (b1 : ∀ z ∈ ps, 0 ≤ z ∧ z < 18446744073709551616) (h2 : qs.length = 5) (b2 : ∀ z ∈ qs, 0 ≤ z ∧ z < 18446744073709551616) (h3 : rs.length = 2) (b3 : ∀ z ∈ rs, 0 ≤ z ∧ z < 18446744073709551616) (hL : Laid W) :
    Calls Tryd.prog 5 #[.agg (ps.map (Value.int .u64)).toArray, .agg (qs.map (Value.int .u64)).toArray, .agg (rs.map (Value.int .u64)).toArray] W fun e w' => e = .returned (.bool true) ∧ Step W w' := by
  obtain ⟨xs, rfl, l1, _⟩ := nl_of ps b1
  obtain ⟨ys, rfl, l2, _⟩ := nl_of qs b2
  obtain ⟨zs, rfl, l3, b3'⟩ := nl_of rs b3
  match zs, l3, b3' with
  | [x, k], _, b3' => exact walkN xs ys x k W (by omega) (by omega) (Lib.hid (b3' 0)) hL
  | [], l3, _ => rw [h3] at l3; cases l3
  | [_], l3, _ => rw [h3] at l3; cases l3
  | _ :: _ :: _ :: _, l3, _ => rw [h3] at l3; simp at l3
end LawPolySums
end Go.Proofs.YtjiagdkopchaeaaDoor
