/- Points on one curve, as plain arithmetic: what any of them join, and one that is turned. No condition. -/
import Derived.Test.YtphelljbaodhpaaDoorShamU
namespace Go.Proofs.YtphelljbaodhpaaDoor
open Go.RowKit Go.Lib Go.Maps
namespace ShM
open SlR FpM FpC PoM PoC
/-- Points of a curve, no two at one place. -/
structure Cv (cur : List Nat) (qs : List (Nat × Nat)) : Prop where
  fit : Fit qs
  nd : (fs qs).Nodup
  on : ∀ p ∈ qs, p.2 = hor p.1 cur
theorem Cv.srt {cur : List Nat} {qs : List (Nat × Nat)} (h : Cv cur qs) : ∀ p ∈ srt qs, p.2 = hor p.1 cur := fun p hp => h.on p ((srt_perm qs).mem_iff.mp hp)
theorem Cv.thr {cur : List Nat} {qs : List (Nat × Nat)} (h : Cv cur qs) (hm : cur.length ≤ qs.length) (y : Nat) : thr ((fs (ShM.srt qs)).take cur.length) ((sn (ShM.srt qs)).take cur.length) y cur.length = hor y cur := by
  have hl : ((fs (ShM.srt qs)).take cur.length).length = cur.length := by rw [List.length_take, fs_len, srt_len]; omega
  have h1 := thr_curve (xs := (fs (ShM.srt qs)).take cur.length) (ys := (sn (ShM.srt qs)).take cur.length) (c := cur) (ap_front (ap_srt h.fit h.nd) _) (by omega) (fun j hj => by
    rw [hl] at hj
    rw [getD_take hj, getD_take hj, fs_at, sn_at, getD_ofP (by rw [srt_len]; omega)]
    exact h.srt _ (List.getElem_mem _)) y
  rwa [hl] at h1
theorem Cv.ok {cur : List Nat} {qs : List (Nat × Nat)} (h : Cv cur qs) (hm : cur.length ≤ qs.length) : okB qs cur.length = true := line_yes fun j h1 h2 => by
  rw [h.thr hm, fs_at, sn_at]
  rw [fs_len, srt_len] at h2
  rw [getD_ofP (by rw [srt_len]; omega), h.srt _ (List.getElem_mem _), fOf, Nat.mod_eq_of_lt (hor_lt _ _)]
theorem Cv.jn {cur : List Nat} {qs : List (Nat × Nat)} (h : Cv cur qs) (hm : cur.length ≤ qs.length) : jn qs cur.length = hor 0 cur := h.thr hm 0
theorem hor0 (s : Nat) (cs : List Nat) : hor 0 (s :: cs) = fOf s := by
  rw [hor, fMul_zero]
  show (0 % P + s % P) % P = s % P
  rw [Nat.zero_mod, Nat.zero_add, Nat.mod_mod]
theorem out_no {p : Nat × Nat} (h1 : p.1 ≠ 0) (h2 : p.1 < 2305843009213693951) (h3 : p.2 < 2305843009213693951) : outB p = false := by
  unfold outB
  simp
  omega
theorem cv_map {cur : List Nat} {L : List Nat} {N : Nat} (f : Nat → Nat) (hL : L.Nodup) (hN : ∀ i ∈ L, i < N) (hf : ∀ i, i < N → f i < 1000) (hinj : ∀ i j, i < N → j < N → f i = f j → i = j) : Cv cur (L.map fun i => (f i + 1, hor (f i + 1) cur)) where
  fit := fun k hk => by
    rw [getD_ofP hk, List.getElem_map]
    have hk2 : k < L.length := by simpa using hk
    have h1 := hf _ (hN _ (List.getElem_mem hk2))
    have h2 := hor_lt (f L[k] + 1) cur
    rw [P_lit] at h2
    exact out_no (by simp) (by show f L[k] + 1 < _; omega) h2
  nd := by
    unfold fs List.Nodup at *
    rw [List.map_map, List.pairwise_map]
    refine List.Pairwise.imp_of_mem (fun {a b} ha hb hab e => hab ?_) hL
    refine hinj a b (hN a ha) (hN b hb) ?_
    have : f a + 1 = f b + 1 := e
    omega
  on := fun p hp => by
    obtain ⟨i, _, rfl⟩ := List.mem_map.mp hp
    rfl
theorem cv_shs (s : Nat) (cs : List Nat) (N : Nat) (hN : N ≤ 64) : Cv (s :: cs) (shs s cs N) := cv_map (N := N) (fun i => i) List.nodup_range (fun i h => List.mem_range.mp h) (fun i h => by omega) (fun _ _ _ _ h => h)
theorem up_shs (s : Nat) (cs : List Nat) (N : Nat) : Up (shs s cs N) := by
  unfold Up shs
  rw [List.pairwise_map]
  exact List.Pairwise.imp (fun h => by show _ + 1 < _ + 1; omega) List.pairwise_lt_range
theorem srt_shs (s : Nat) (cs : List Nat) (N : Nat) : srt (shs s cs N) = shs s cs N := (up_unique (List.Perm.refl _) (up_shs s cs N)).symm
theorem sum_shs (s0 s1 : Nat) (cs0 cs1 : List Nat) (N : Nat) (h : cs0.length = cs1.length) : sumL (shs s0 cs0 N) (shs s1 cs1 N) = shs (fAdd s0 s1) (List.zipWith fAdd cs0 cs1) N := by
  unfold sumL
  rw [srt_shs, srt_shs]
  unfold shs
  rw [List.zipWith_map, List.zipWith_self]
  refine List.map_congr_left fun i _ => ?_
  show (i + 1, fAdd _ _) = (i + 1, _)
  rw [← hor_add _ (s0 :: cs0) (s1 :: cs1) (by simp [h])]; rfl
theorem fs_shs (s0 s1 : Nat) (cs0 cs1 : List Nat) (N : Nat) : fs (srt (shs s0 cs0 N)) = fs (srt (shs s1 cs1 N)) := by
  rw [srt_shs, srt_shs]
  unfold shs fs
  rw [List.map_map, List.map_map]; rfl
theorem Cv.take {cur : List Nat} {qs : List (Nat × Nat)} (h : Cv cur qs) (k : Nat) : Cv cur (qs.take k) where
  fit := fun j hj => by
    rw [List.length_take] at hj
    have h1 := h.fit j (by omega)
    rw [getD_ofP (by omega)] at h1
    rw [getD_ofP (by rw [List.length_take]; omega), List.getElem_take]
    exact h1
  nd := by
    have := h.nd
    unfold fs at *
    rw [List.map_take]
    exact this.sublist (List.take_sublist ..)
  on := fun p hp => h.on p (List.mem_of_mem_take hp)
theorem rot_inj {N t i j : Nat} (hi : i < N) (hj : j < N) (h : (i + t) % N = (j + t) % N) : i = j := by
  rw [Nat.add_mod i t, Nat.add_mod j t, Nat.mod_eq_of_lt hi, Nat.mod_eq_of_lt hj] at h
  have hr : t % N < N := Nat.mod_lt _ (by omega)
  generalize t % N = r at *
  rcases Nat.lt_or_ge (i + r) N with a | a
  · rw [Nat.mod_eq_of_lt a] at h
    rcases Nat.lt_or_ge (j + r) N with b | b
    · rw [Nat.mod_eq_of_lt b] at h; omega
    · rw [Nat.mod_eq_sub_mod b, Nat.mod_eq_of_lt (by omega)] at h; omega
  · rw [Nat.mod_eq_sub_mod a, Nat.mod_eq_of_lt (by omega)] at h
    rcases Nat.lt_or_ge (j + r) N with b | b
    · rw [Nat.mod_eq_of_lt b] at h; omega
    · rw [Nat.mod_eq_sub_mod b, Nat.mod_eq_of_lt (by omega)] at h; omega
/-- One share turned. -/
def turned (s : Nat) (cs : List Nat) (N t : Nat) : List (Nat × Nat) := (shs s cs N).set t (t + 1, fAdd (hor (t + 1) (s :: cs)) 1)
theorem turned_len (s : Nat) (cs : List Nat) (N t : Nat) : (turned s cs N t).length = N := by unfold turned; rw [List.length_set, shs_len]
theorem turned_at (s : Nat) (cs : List Nat) (N t j : Nat) (hj : j < N) : (turned s cs N t).getD j (0, 0) = (j + 1, if j = t then fAdd (hor (t + 1) (s :: cs)) 1 else hor (j + 1) (s :: cs)) := by
  unfold turned
  rw [List.getD_eq_getElem?_getD, List.getElem?_set]
  by_cases h : t = j
  · subst h
    rw [if_pos rfl, if_pos (by rw [shs_len]; exact hj), if_pos rfl]; rfl
  · rw [if_neg h, if_neg (fun e => h e.symm), ← List.getD_eq_getElem?_getD, shs_at s cs N j hj]
theorem turned_fs (s : Nat) (cs : List Nat) (N t : Nat) : fs (turned s cs N t) = fs (shs s cs N) := by
  refine fs_ext (n := N) (turned_len ..) (shs_len ..) fun k hk => ?_
  rw [turned_at s cs N t k hk, shs_at s cs N k hk]
theorem turned_nd (s : Nat) (cs : List Nat) (N t : Nat) : (fs (turned s cs N t)).Nodup := by
  rw [turned_fs]; exact up_nodup (up_shs s cs N)
theorem turned_up (s : Nat) (cs : List Nat) (N t : Nat) : Up (turned s cs N t) := by
  have h := up_shs s cs N
  unfold Up at *
  have h2 : (fs (turned s cs N t)).Pairwise (fun a b => a < b) := by
    rw [turned_fs]; unfold fs; rw [List.pairwise_map]; exact h
  unfold fs at h2
  rwa [List.pairwise_map] at h2
theorem turned_fit (s : Nat) (cs : List Nat) (N t : Nat) (hN : N ≤ 64) : Fit (turned s cs N t) := fun j hj => by
  rw [turned_len] at hj
  rw [turned_at s cs N t j hj]
  have h1 := hor_lt (j + 1) (s :: cs)
  have h2 := fAdd_lt (hor (t + 1) (s :: cs)) 1
  rw [P_lit] at h1 h2
  refine out_no (by simp) (by show j + 1 < _; omega) ?_
  show (if j = t then fAdd (hor (t + 1) (s :: cs)) 1 else hor (j + 1) (s :: cs)) < _
  split
  · exact h2
  · exact h1
theorem z_far {a b : Nat} (ha : a < 1000) (hb : b < 1000) (h : a ≠ b) : ¬ Z ∣ (a : Int) - (b : Int) := fun ⟨k, hk⟩ => by
  have e : Z = 2305843009213693951 := by unfold Z; rw [P_lit]; rfl
  rw [e] at hk
  omega
theorem one_of {Y f c z : Int} (hu : Y ∣ f - c) (h1 : Y ∣ f - z) (h2 : Y ∣ z - (c + ((1 : Nat) : Int))) : Y ∣ 1 := by
  obtain ⟨a, ha⟩ := hu
  obtain ⟨b, hb⟩ := h1
  obtain ⟨d, hd⟩ := h2
  exact ⟨a - b - d, by grind⟩
theorem turned_ne (s : Nat) (cs : List Nat) (t : Nat) : hor (t + 1) (s :: cs) ≠ fOf (fAdd (hor (t + 1) (s :: cs)) 1) := by
  have h1 := hor_lt (t + 1) (s :: cs)
  generalize hor (t + 1) (s :: cs) = z at *
  unfold fOf fAdd
  rw [P_lit] at *
  omega
theorem turned_no (s : Nat) (cs : List Nat) (N t : Nat) (hN : N ≤ 64) (ht : t < N) (hm : cs.length + 1 < N) : okB (turned s cs N t) (cs.length + 1) = false := by
  obtain ⟨m, hm1⟩ : ∃ m, m = cs.length + 1 := ⟨_, rfl⟩
  have hcl : (s :: cs).length = m := by simp [hm1]
  rw [← hm1] at hm ⊢
  unfold okB
  rw [(up_unique (List.Perm.refl _) (turned_up s cs N t)).symm]
  have hX : ∀ j, j < m → ((fs (turned s cs N t)).take m).getD j 0 = j + 1 := fun j hj => by rw [getD_take hj, fs_at, turned_at s cs N t j (by omega)]
  have hY : ∀ j, j < m → ((sn (turned s cs N t)).take m).getD j 0 = if j = t then fAdd (hor (t + 1) (s :: cs)) 1 else hor (j + 1) (s :: cs) := fun j hj => by rw [getD_take hj, sn_at, turned_at s cs N t j (by omega)]
  have hlx : ((fs (turned s cs N t)).take m).length = m := by rw [List.length_take, fs_len, turned_len]; omega
  have hap : Ap ((fs (turned s cs N t)).take m) := ap_front (ap_fit (turned_fit s cs N t hN) (turned_nd s cs N t)) m
  by_cases htm : t < m
  · refine line_no (j := m) (Nat.le_refl _) (by rw [fs_len, turned_len]; omega) fun e => ?_
    rw [fs_at, sn_at, turned_at s cs N t m hm] at e
    dsimp only at e
    rw [if_neg (by omega), fOf, Nat.mod_eq_of_lt (hor_lt _ _)] at e
    have r1 := thr_rep ((fs (turned s cs N t)).take m) ((sn (turned s cs N t)).take m) (m + 1) m
    rw [e] at r1
    have r2 := hor_rep (m + 1) (s :: cs)
    have l1 := lp_pl ((fs (turned s cs N t)).take m) ((sn (turned s cs N t)).take m) m (by omega)
    rw [hlx] at l1
    have l2 := cf_pl (s :: cs)
    rw [hcl] at l2
    have la := fun j hj => lp_at (ys := (sn (turned s cs N t)).take m) hap j (by rw [hlx]; exact hj) m hj
    generalize lp ((fs (turned s cs N t)).take m) ((sn (turned s cs N t)).take m) m = f at *
    have hu := unique ((List.range m).map fun i => (((if i = t then m else i) + 1 : Nat) : Int)) l1 l2 (by
        unfold Diff
        rw [List.pairwise_map]
        refine List.Pairwise.imp_of_mem (fun {a b} ha hb hab => ?_) List.pairwise_lt_range
        have ha := List.mem_range.mp ha
        have hb := List.mem_range.mp hb
        refine z_far ?_ ?_ ?_
        · split <;> omega
        · split <;> omega
        · split <;> split <;> omega) (by simp) (by
        intro a ha
        obtain ⟨i, hi, rfl⟩ := List.mem_map.mp ha
        have hi := List.mem_range.mp hi
        by_cases hit : i = t
        · subst hit
          rw [if_pos rfl]
          have := Int.dvd_sub r2 r1
          rwa [show ∀ a b c : Int, a - b - (a - c) = c - b by intros; grind] at this
        · rw [if_neg hit]
          have h1 := la i hi
          rw [hX i hi, hY i hi, if_neg hit] at h1
          have h2 := hor_rep (i + 1) (s :: cs)
          have := Int.dvd_add h1 h2
          rwa [show ∀ a b c : Int, a - b + (b - c) = a - c by intros; grind] at this) ((t + 1 : Nat) : Int)
    have h1 := la t htm
    rw [hX t htm, hY t htm, if_pos rfl] at h1
    have h2 := Rep.add (hor_rep (t + 1) (s :: cs)) (Rep.self 1)
    obtain ⟨k, hk⟩ := one_of hu h1 h2
    have eZ : Z = 2305843009213693951 := by unfold Z; rw [P_lit]; rfl
    rw [eZ] at hk
    omega
  · refine line_no (j := t) (by omega) (by rw [fs_len, turned_len]; exact ht) ?_
    rw [fs_at, sn_at, turned_at s cs N t t ht]
    dsimp only
    rw [if_pos rfl]
    have h1 := thr_curve (xs := (fs (turned s cs N t)).take m) (ys := (sn (turned s cs N t)).take m) (c := s :: cs) hap (by omega) (fun j hj => by
      rw [hlx] at hj
      rw [hX j hj, hY j hj, if_neg (by omega)]) (t + 1)
    rw [hlx] at h1
    rw [h1]
    exact turned_ne s cs t
end ShM
end Go.Proofs.YtphelljbaodhpaaDoor
