/- Join and Sum of shamir and of the document. Conditions: what is handed in reads as rows of points. -/
import Derived.Test.YtphelljbaodhpaaDoorShamT
import Derived.Deep.RegionHeld3
namespace Go.Proofs.YtphelljbaodhpaaDoor
open Go.RowKit Go.Lib Go.Maps
namespace ShM
open SlR FpM FpC PoM PoC
theorem join_neg (A : Option Addr) (c n : Nat) (q : Int) (w : World) (hq : q < 1) :
    Calls Tryd.prog 11 #[.slice A n c, .int .i64 q] w fun e w' => e = .returned (.tuple #[.int .u64 0, .iface 55 (.int .i64 1)]) ∧ Step w w' := by
  go_enter Tryd.func11, Tryd.ntmps11
  go_wp2
  exact bodyPost_ret (v := .tuple #[.int .u64 0, .iface 55 (.int .i64 1)]) (by simp [results, Tryd.results11, go_sem]) rfl ⟨rfl, Step.of inferInstance⟩
theorem refJoin_neg (A : Option Addr) (c n : Nat) (q : Int) (w : World) (hq : q < 1) :
    Calls Tryd.prog 12 #[.slice A n c, .int .i64 q] w fun e w' => e = .returned (.tuple #[.int .u64 0, .int .i64 1]) ∧ Step w w' := by
  go_enter Tryd.func12, Tryd.ntmps12
  go_wp2
  exact bodyPost_ret (v := .tuple #[.int .u64 0, .int .i64 1]) (by simp [results, Tryd.results12, go_sem]) rfl ⟨rfl, Step.of inferInstance⟩
theorem join_err (A : Option Addr) (c n : Nat) (q : Int) (ps : List (Nat × Nat)) (w : World) (hq : 1 ≤ q) (hr : RowP w A ps) (er : Int)
    (cS : ∀ w, RowP w A ps → Calls Tryd.prog 9 #[.slice A n c] w fun e w' => e = .returned (.tuple #[.slice none 0 0, .iface 55 (.int .i64 er)]) ∧ Step w w') :
    Calls Tryd.prog 11 #[.slice A n c, .int .i64 q] w fun e w' => e = .returned (.tuple #[.int .u64 0, .iface 55 (.int .i64 er)]) ∧ Step w w' := by
  have h1 : ¬ q < 1 := by omega
  go_enter Tryd.func11, Tryd.ntmps11
  go_wp2_with (go_at_call 9; (refine (cS _ hr.to).mono ?_); rintro e w1 ⟨rfl, S1⟩)
  exact bodyPost_ret (v := .tuple #[.int .u64 0, .iface 55 (.int .i64 er)]) (by simp [results, Tryd.results11, go_sem]) rfl ⟨rfl, Step.of inferInstance⟩
theorem refJoin_err (A : Option Addr) (c n : Nat) (q : Int) (ps : List (Nat × Nat)) (w : World) (hq : 1 ≤ q) (hr : RowP w A ps) (er : Int) (he : er ≠ 0)
    (cS : ∀ w, RowP w A ps → Calls Tryd.prog 10 #[.slice A n c] w fun e w' => e = .returned (.tuple #[.slice none 0 0, .int .i64 er]) ∧ Step w w') :
    Calls Tryd.prog 12 #[.slice A n c, .int .i64 q] w fun e w' => e = .returned (.tuple #[.int .u64 0, .int .i64 er]) ∧ Step w w' := by
  have h1 : ¬ q < 1 := by omega
  have h2 : (er != 0) = true := by simpa using he
  go_enter Tryd.func12, Tryd.ntmps12
  go_wp2_with (go_at_call 10; (refine (cS _ hr.to).mono ?_); rintro e w1 ⟨rfl, S1⟩)
  exact bodyPost_ret (v := .tuple #[.int .u64 0, .int .i64 er]) (by simp [results, Tryd.results12, go_sem]) rfl ⟨rfl, Step.of inferInstance⟩
theorem join_few (A : Option Addr) (c n : Nat) (q : Int) (ps : List (Nat × Nat)) (w : World) (hn : ps.length = n) (hn2 : n ≤ 64) (hr : RowP w A ps) (hf : Hid (Fit ps)) (hd : Hid (fs ps).Nodup) (hq : 1 ≤ q) (hnq : (n : Int) < q) :
    Calls Tryd.prog 11 #[.slice A n c, .int .i64 q] w fun e w' => e = .returned (.tuple #[.int .u64 0, .iface 55 (.int .i64 7)]) ∧ Step w w' := by
  have h1 : ¬ q < 1 := by omega
  have cS := fun w h => sorted_ok A c n ps w hn hn2 h hf hd
  go_enter Tryd.func11, Tryd.ntmps11
  go_wp2_with (go_at_call 9; (refine (cS _ hr.to).mono ?_); rintro e w1 ⟨A1, c1, rfl, O1, hc1, S1⟩)
  exact bodyPost_ret (v := .tuple #[.int .u64 0, .iface 55 (.int .i64 7)]) (by simp [results, Tryd.results11, go_sem]) rfl ⟨rfl, Step.of inferInstance⟩
theorem refJoin_few (A : Option Addr) (c n : Nat) (q : Int) (ps : List (Nat × Nat)) (w : World) (hn : ps.length = n) (hn2 : n ≤ 64) (hr : RowP w A ps) (hf : Hid (Fit ps)) (hd : Hid (fs ps).Nodup) (hq : 1 ≤ q) (hnq : (n : Int) < q) :
    Calls Tryd.prog 12 #[.slice A n c, .int .i64 q] w fun e w' => e = .returned (.tuple #[.int .u64 0, .int .i64 7]) ∧ Step w w' := by
  have h1 : ¬ q < 1 := by omega
  have cS := fun w h => refSorted_ok A c n ps w hn hn2 h hf hd
  go_enter Tryd.func12, Tryd.ntmps12
  go_wp2_with (go_at_call 10; (refine (cS _ hr.to).mono ?_); rintro e w1 ⟨A1, c1, rfl, R1, hc1, S1⟩)
  exact bodyPost_ret (v := .tuple #[.int .u64 0, .int .i64 7]) (by simp [results, Tryd.results12, go_sem]) rfl ⟨rfl, Step.of inferInstance⟩
theorem fit_srt {ps : List (Nat × Nat)} (h : Fit ps) : Fit (srt ps) := by
  rw [← fit_any] at *
  rw [List.any_eq_false] at *
  exact fun p hp => h p ((srt_perm ps).mem_iff.mp hp)
theorem out_lt {p : Nat × Nat} (h : outB p = false) : p.1 < 2305843009213693951 ∧ p.2 < 2305843009213693951 ∧ p.1 ≠ 0 := by
  obtain ⟨x, y⟩ := p
  unfold outB at h
  simp at h
  exact ⟨by omega, by omega, by simp; omega⟩
theorem ap_fit {ps : List (Nat × Nat)} (h : Fit ps) (hd : (fs ps).Nodup) : Ap (fs ps) := by
  have e : (fs ps).map fOf = fs ps := by
    unfold fs
    rw [List.map_map]
    refine List.map_congr_left fun p hp => ?_
    obtain ⟨k, hk, rfl⟩ := List.mem_iff_getElem.mp hp
    have := h k hk
    rw [getD_ofP hk] at this
    show fOf _ = _
    rw [fOf, P_lit]
    exact Nat.mod_eq_of_lt (out_lt this).1
  unfold Ap
  rw [e]
  exact hd
theorem b64_fit {ps : List (Nat × Nat)} (h : Fit ps) : B64 (sn ps) := fun i => by
  rw [sn_at]
  by_cases hi : i < ps.length
  · have := out_lt (h i hi)
    omega
  · rw [List.getD_eq_getElem?_getD, List.getElem?_eq_none (by omega)]; decide
theorem ap_srt {ps : List (Nat × Nat)} (h : Fit ps) (hd : (fs ps).Nodup) : Ap (fs (srt ps)) := ap_fit (fit_srt h) (((srt_perm ps).map Prod.fst).nodup_iff.mpr hd)
theorem fs_len (ps : List (Nat × Nat)) : (fs ps).length = ps.length := by simp
theorem lineB_ge (xs ys : List Nat) (m : Nat) (h : xs.length ≤ m) : lineB xs ys m = true := line_yes fun j h1 h2 => absurd h1 (by omega)
/-- Whether points lie on one curve of m numbers. -/
def okB (ps : List (Nat × Nat)) (m : Nat) : Bool := lineB (fs (srt ps)) (sn (srt ps)) m
/-- What they tell at 0. -/
def jn (ps : List (Nat × Nat)) (m : Nat) : Nat := thr ((fs (srt ps)).take m) ((sn (srt ps)).take m) 0 m
theorem line_any (A : Option Addr) (c n m : Nat) (ps : List (Nat × Nat)) (w : World) (hn : ps.length = n) (hn2 : n ≤ 64) (hm : m ≤ n) (hc : n ≤ c) (hr : RowP w A (srt ps)) (hf : Hid (Fit ps)) (hd : Hid (fs ps).Nodup) :
    Calls Tryd.prog 25 #[.slice A n c, .int .i64 m] w fun e w' => e = .returned (.tuple #[.bool (okB ps m), .nilIface]) ∧ Step w w' := by
  have hl : (fs (srt ps)).length = n := by rw [fs_len, srt_len, hn]
  rcases Nat.lt_or_ge m n with h | h
  · exact line_lo A c n m _ _ w h hl hn2 hc hr (Lib.hid (b64_fit (fit_srt hf.out))) (Lib.hid (ap_srt hf.out hd.out))
  · have e : m = n := by omega
    subst e
    rw [okB, lineB_ge _ _ _ (by omega)]
    exact line_eq A c m _ _ w hl hn2 hc hr (Lib.hid (ap_srt hf.out hd.out))
theorem refLine_any (A : Option Addr) (c n m : Nat) (ps : List (Nat × Nat)) (w : World) (hn : ps.length = n) (hn2 : n ≤ 64) (hm : m ≤ n) (hc : n ≤ c) (hr : RowP w A (srt ps)) (hf : Hid (Fit ps)) (hd : Hid (fs ps).Nodup) :
    Calls Tryd.prog 27 #[.slice A n c, .int .i64 m] w fun e w' => e = .returned (.tuple #[.bool (okB ps m), .int .i64 0]) ∧ Step w w' := by
  have hl : (fs (srt ps)).length = n := by rw [fs_len, srt_len, hn]
  rcases Nat.lt_or_ge m n with h | h
  · exact refLine_lo A c n m _ _ w h hl hn2 hc hr (Lib.hid (ap_srt hf.out hd.out))
  · have e : m = n := by omega
    subst e
    rw [okB, lineB_ge _ _ _ (by omega)]
    exact refLine_ge A c m m _ _ w (by omega) hl hn2 hr (Lib.hid (ap_srt hf.out hd.out))
set_option maxRecDepth 100000 in
theorem join_no (A : Option Addr) (c n m : Nat) (ps : List (Nat × Nat)) (w : World) (hn : ps.length = n) (hn2 : n ≤ 64) (hr : RowP w A ps) (hf : Hid (Fit ps)) (hd : Hid (fs ps).Nodup) (hm : 1 ≤ m) (hm2 : m ≤ n) (hb : okB ps m = false) :
    Calls Tryd.prog 11 #[.slice A n c, .int .i64 m] w fun e w' => e = .returned (.tuple #[.int .u64 0, .iface 55 (.int .i64 4)]) ∧ Step w w' := by
  have h1 : ¬ (m : Int) < 1 := by omega
  have h2 : ¬ (n : Int) < m := by omega
  have cS := fun w h => sorted_ok A c n ps w hn hn2 h hf hd
  have cL := fun A c w hc h => line_any A c n m ps w hn hn2 hm2 hc h hf hd
  rw [hb] at cL
  go_enter Tryd.func11, Tryd.ntmps11
  go_wp2_with (first
    | (go_at_call 9; (refine (cS _ hr.to).mono ?_); rintro e w1 ⟨A1, c1, rfl, O1, hc1, S1⟩; have R1 : RowP w1 A1 (srt ps) := RowP.of_own O1 (by rw [srt_len, hn]))
    | (go_at_call 25; (refine (cL _ _ _ hc1 R1.to).mono ?_); rintro e w2 ⟨rfl, S2⟩))
  exact bodyPost_ret (v := .tuple #[.int .u64 0, .iface 55 (.int .i64 4)]) (by simp [results, Tryd.results11, go_sem]) rfl ⟨rfl, Step.of inferInstance⟩
set_option maxRecDepth 100000 in
theorem join_ok (A : Option Addr) (c n m : Nat) (ps : List (Nat × Nat)) (w : World) (hn : ps.length = n) (hn2 : n ≤ 64) (hr : RowP w A ps) (hf : Hid (Fit ps)) (hd : Hid (fs ps).Nodup) (hm : 1 ≤ m) (hm2 : m ≤ n) (hb : okB ps m = true) :
    Calls Tryd.prog 11 #[.slice A n c, .int .i64 m] w fun e w' => e = .returned (.tuple #[.int .u64 (jn ps m : Nat), .nilIface]) ∧ Step w w' := by
  have h1 : ¬ (m : Int) < 1 := by omega
  have h2 : ¬ (n : Int) < m := by omega
  have cS := fun w h => sorted_ok A c n ps w hn hn2 h hf hd
  have cL := fun A c w hc h => line_any A c n m ps w hn hn2 hm2 hc h hf hd
  rw [hb] at cL
  have hj : Hid (jn ps m = thr ((fs (srt ps)).take m) ((sn (srt ps)).take m) 0 m) := Lib.hid rfl
  obtain ⟨v, hv⟩ : ∃ v, Hid (v = jn ps m) := ⟨_, Lib.hid rfl⟩
  rw [← hv.out] at hj
  rw [← hv.out]
  have cT : ∀ A c w, RowS w A ((fs (srt ps)).take m) ((sn (srt ps)).take m) → Calls Tryd.prog 26 #[.slice A m c, .int .u64 0] w fun e w' => e = .returned (.tuple #[.int .u64 (v : Nat), .nilIface]) ∧ Step w w' := fun A c w h => by
    have h := through_ok A c m 0 _ _ w (by rw [List.length_take, fs_len, srt_len]; omega) (by omega) h (Lib.hid (B64.front (b64_fit (fit_srt hf.out)) m)) (Lib.hid (ap_front (ap_srt hf.out hd.out) m))
    rw [← hj.out] at h
    exact h
  have hi1 : (0 : Int) ≤ (m : Int) := by omega
  go_enter Tryd.func11, Tryd.ntmps11
  go_wp2_with (first
    | (go_at_call 9; (refine (cS _ hr.to).mono ?_); rintro e w1 ⟨A1, c1, rfl, O1, hc1, S1⟩; have R1 : RowP w1 A1 (srt ps) := RowP.of_own O1 (by rw [srt_len, hn]); have hi2 : (m : Int) ≤ (c1 : Int) := by omega)
    | (go_at_call 25; (refine (cL _ _ _ hc1 R1.to).mono ?_); rintro e w2 ⟨rfl, S2⟩)
    | (go_at_call 26; (refine (cT _ _ _ (RowS.front R1.to m)).mono ?_); rintro e w3 ⟨rfl, S3⟩))
  exact bodyPost_ret (v := .tuple #[.int .u64 (v : Nat), .nilIface]) (by simp [results, Tryd.results11, go_sem]) rfl ⟨rfl, Step.of inferInstance⟩
set_option maxRecDepth 100000 in
theorem refJoin_no (A : Option Addr) (c n m : Nat) (ps : List (Nat × Nat)) (w : World) (hn : ps.length = n) (hn2 : n ≤ 64) (hr : RowP w A ps) (hf : Hid (Fit ps)) (hd : Hid (fs ps).Nodup) (hm : 1 ≤ m) (hm2 : m ≤ n) (hb : okB ps m = false) :
    Calls Tryd.prog 12 #[.slice A n c, .int .i64 m] w fun e w' => e = .returned (.tuple #[.int .u64 0, .int .i64 4]) ∧ Step w w' := by
  have h1 : ¬ (m : Int) < 1 := by omega
  have h2 : ¬ (n : Int) < m := by omega
  have cS := fun w h => refSorted_ok A c n ps w hn hn2 h hf hd
  have cL := fun A c w hc h => refLine_any A c n m ps w hn hn2 hm2 hc h hf hd
  rw [hb] at cL
  go_enter Tryd.func12, Tryd.ntmps12
  go_wp2_with (first
    | (go_at_call 10; (refine (cS _ hr.to).mono ?_); rintro e w1 ⟨A1, c1, rfl, R1, hc1, S1⟩; skip)
    | (go_at_call 27; (refine (cL _ _ _ hc1 R1.to).mono ?_); rintro e w2 ⟨rfl, S2⟩))
  exact bodyPost_ret (v := .tuple #[.int .u64 0, .int .i64 4]) (by simp [results, Tryd.results12, go_sem]) rfl ⟨rfl, Step.of inferInstance⟩
set_option maxRecDepth 100000 in
theorem refJoin_ok (A : Option Addr) (c n m : Nat) (ps : List (Nat × Nat)) (w : World) (hn : ps.length = n) (hn2 : n ≤ 64) (hr : RowP w A ps) (hf : Hid (Fit ps)) (hd : Hid (fs ps).Nodup) (hm : 1 ≤ m) (hm2 : m ≤ n) (hb : okB ps m = true) :
    Calls Tryd.prog 12 #[.slice A n c, .int .i64 m] w fun e w' => e = .returned (.tuple #[.int .u64 (jn ps m : Nat), .int .i64 0]) ∧ Step w w' := by
  have h1 : ¬ (m : Int) < 1 := by omega
  have h2 : ¬ (n : Int) < m := by omega
  have cS := fun w h => refSorted_ok A c n ps w hn hn2 h hf hd
  have cL := fun A c w hc h => refLine_any A c n m ps w hn hn2 hm2 hc h hf hd
  rw [hb] at cL
  have hj : Hid (jn ps m = thr ((fs (srt ps)).take m) ((sn (srt ps)).take m) 0 m) := Lib.hid rfl
  obtain ⟨v, hv⟩ : ∃ v, Hid (v = jn ps m) := ⟨_, Lib.hid rfl⟩
  rw [← hv.out] at hj
  rw [← hv.out]
  have cT : ∀ A c w, RowS w A ((fs (srt ps)).take m) ((sn (srt ps)).take m) → Calls Tryd.prog 28 #[.slice A m c, .int .u64 0] w fun e w' => e = .returned (.tuple #[.int .u64 (v : Nat), .int .i64 0]) ∧ Step w w' := fun A c w h => by
    have h := refThrough_ok A c m 0 _ _ w (by rw [List.length_take, fs_len, srt_len]; omega) (by omega) h (Lib.hid (ap_front (ap_srt hf.out hd.out) m))
    rw [← hj.out] at h
    exact h
  have hi1 : (0 : Int) ≤ (m : Int) := by omega
  go_enter Tryd.func12, Tryd.ntmps12
  go_wp2_with (first
    | (go_at_call 10; (refine (cS _ hr.to).mono ?_); rintro e w1 ⟨A1, c1, rfl, R1, hc1, S1⟩; skip; have hi2 : (m : Int) ≤ (c1 : Int) := by omega)
    | (go_at_call 27; (refine (cL _ _ _ hc1 R1.to).mono ?_); rintro e w2 ⟨rfl, S2⟩)
    | (go_at_call 28; (refine (cT _ _ _ (RowS.front R1.to m)).mono ?_); rintro e w3 ⟨rfl, S3⟩))
  exact bodyPost_ret (v := .tuple #[.int .u64 (v : Nat), .int .i64 0]) (by simp [results, Tryd.results12, go_sem]) rfl ⟨rfl, Step.of inferInstance⟩
end ShM
end Go.Proofs.YtphelljbaodhpaaDoor
