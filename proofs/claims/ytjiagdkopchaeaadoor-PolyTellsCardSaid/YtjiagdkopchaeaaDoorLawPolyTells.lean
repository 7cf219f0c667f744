/- PolyTells walked: true at any curve, points, place and count. Condition: errors.errorType reads as laid. -/
import Derived.Test.YtjiagdkopchaeaaDoorLawPolyKnown
namespace Go.Proofs.YtjiagdkopchaeaaDoor
open Go.RowKit Go.Lib Go.Maps
namespace LawPolyTells
open SlR FpM FpC PoM PoC ErrAs LawPolyKnown
abbrev Box (W : World) (y : Nat) (q : Int) : World := W.alloc (.cells #[.int .u64 y, .int .i64 q] 26 (0, 0))
theorem box_at (W : World) (y : Nat) (q : Int) (w' : World) (e : Ext (W.alloc (.cells #[.int .u64 y, .int .i64 q] 26 (0, 0))) w') : w'.cell? ⟨W.heap.size, 0, none⟩ = some (.int .u64 y) ∧ w'.cell? ⟨W.heap.size, 1, none⟩ = some (.int .i64 q) :=
  ⟨(e.h.cell (by simp)).trans (by simp), (e.h.cell (by simp)).trans (by simp)⟩
theorem pl_one (xs ys : List Nat) : ∀ k, ∀ u ∈ pl xs ys k, u.oneCell' = true
  | 0, u, h => by cases h
  | k + 1, u, h => by
    rw [pl] at h
    rcases List.mem_append.mp h with h | h
    · exact pl_one xs ys k u h
    · exact ints_oneCell .u64 [((xs.getD k 0 : Nat) : Int), ((ys.getD k 0 : Nat) : Int)] u h
/-- The first values struck. -/
def zr (ys : List Nat) : Nat → List Nat
  | 0 => ys
  | j + 1 => (zr ys j).set j 0
theorem zr_len (ys : List Nat) : ∀ j, (zr ys j).length = ys.length
  | 0 => rfl
  | j + 1 => by rw [zr, List.length_set, zr_len ys j]
theorem getD_set {l : List Nat} {i j z : Nat} : (l.set j z).getD i 0 = if i = j ∧ j < l.length then z else l.getD i 0 := by
  rw [List.getD_eq_getElem?_getD, List.getD_eq_getElem?_getD, List.getElem?_set]
  by_cases h : j = i
  · subst h
    by_cases h2 : j < l.length
    · simp [h2]
    · simp [h2]
  · rw [if_neg h, if_neg (fun e => h e.1.symm)]
theorem zr_at (ys : List Nat) (i : Nat) : ∀ j, i < j → (zr ys j).getD i 0 = 0
  | 0, h => absurd h (Nat.not_lt_zero _)
  | j + 1, h => by
    rw [zr, getD_set]
    split
    · rfl
    · rename_i hn
      by_cases hij : i = j
      · subst hij
        rw [List.getD_eq_getElem?_getD, List.getElem?_eq_none (by have : ¬ i < (zr ys i).length := fun h2 => hn ⟨rfl, h2⟩; omega)]; rfl
      · exact zr_at ys i j (by omega)
theorem one_thr (xs ys : List Nat) (y n k : Nat) (hy : ys.length = n) (hk : k < n) : thr xs ((zr ys n).set k 1) y n = wt xs k y :=
  thr_one xs _ y k (by rw [getD_set, if_pos ⟨rfl, by rw [zr_len]; omega⟩]) (fun j hj => by
    rw [getD_set, if_neg (fun e => hj e.1)]
    by_cases h : j < n
    · exact zr_at ys j n h
    · rw [List.getD_eq_getElem?_getD, List.getElem?_eq_none (by rw [zr_len]; omega)]; rfl) n hk
theorem infoR : (Tryd.prog.info? 41).map (fun i => (i.zero, i.size, i.bytes)) = some (some (.agg #[.int .u64 0, .int .u64 0]), 2, 16) := by kernel_rfl
set_option maxHeartbeats 1600000 in
set_option maxRecDepth 1000000 in
theorem core (C : Option Addr) (nc cc : Nat) (cs : List Nat) (A : Option Addr) (n c : Nat) (xs ys : List Nat) (y : Nat) (q : Int) (W : World) (hnc : cs.length = nc) (hc40 : nc ≤ 40) (hrc : RowN W C cs) (hn : xs.length = n) (hyl : ys.length = n) (hcap : n ≤ c) (hrs : RowS W A xs ys)
    (hn2 : n ≤ 16 ∨ 64 < n ∧ n ≤ 100) (hy : Hid (y < 18446744073709551616)) (E G : Value) (f g : Int) (b : Bool) (u : Nat) (hL : Laid W)
    (cTh : ∀ w A c, n ≤ c → RowS w A xs ys → Calls Tryd.prog 8 #[.slice A n c, .int .u64 y] w fun e w' => e = .returned (.tuple #[.int .u64 u, E]) ∧ Step w w')
    (cRf : ∀ w A c, n ≤ c → RowS w A xs ys → Calls Tryd.prog 9 #[.slice A n c, .int .u64 y] w fun e w' => e = .returned (.tuple #[.int .u64 u, .int .i64 f]) ∧ Step w w')
    (cLi : ∀ w A c, n ≤ c → RowS w A xs ys → Calls Tryd.prog 10 #[.slice A n c, .int .i64 q] w fun e w' => e = .returned (.tuple #[.bool b, G]) ∧ Step w w')
    (cRl : ∀ w A c, n ≤ c → RowS w A xs ys → Calls Tryd.prog 11 #[.slice A n c, .int .i64 q] w fun e w' => e = .returned (.tuple #[.bool b, .int .i64 g]) ∧ Step w w')
    (cWt : ∀ w A c, RowN w A xs → Calls Tryd.prog 12 #[.slice A n c, .int .u64 y] w fun e w' => ∃ A' m c', e = .returned (.tuple #[.slice A' m c', E]) ∧ (f = 0 → m = n ∧ RowN w' A' (wts xs y)) ∧ (f ≠ 0 → m = 0) ∧ Step w w')
    (nE : ∀ w, Laid w → Calls Tryd.prog 15 #[E] w fun e w' => e = .returned (.int .i64 f) ∧ Step w w')
    (nG : ∀ w, Laid w → Calls Tryd.prog 15 #[G] w fun e w' => e = .returned (.int .i64 g) ∧ Step w w')
    (hf : f = 0 → Ap xs ∧ n ≤ 64) :
    Calls Tryd.prog 3 #[.slice C nc cc, .slice A n c, .agg #[.int .u64 y, .int .i64 q]] W fun e w' => e = .returned (.bool true) ∧ Step W w' := by
  have hbox := box_at W y q
  obtain ⟨i0, hi, hz0, hz1, hz2⟩ := info_parts infoN
  have cG : ∀ w, RowS w A xs ys → Calls Tryd.prog 7 #[.slice A n c] w fun e w' => ∃ A' c', e = .returned (.slice A' n c') ∧ RowS w' A' xs ys ∧ Step w w' ∧ n ≤ c' := fun w h =>
    (give A c n xs ys w hn (by omega) h).mono fun _ _ ⟨A', c', h1, h2, h3, h4⟩ => ⟨A', c', h1, RowS.of_own h2 hn, ⟨h3⟩, h4⟩
  have g1 : ¬ (40 : Int) < nc := by omega
  have g3 : ¬ (100 : Int) < n := by omega
  have hn100 : n ≤ 100 := by omega
  have g5 : (16 : Int) < n ∧ ¬ (n : Int) ≤ 64 ∨ ¬ (16 : Int) < n := by omega
  rcases g5 with ⟨ga, gb⟩ | ga
  all_goals
    go_enter Tryd.func3, Tryd.ntmps3
    go_wp2_with (first
      | (go_at_call 7; ((with_reducible refine (cG _ hrs.to).mono ?_); rintro e w1 ⟨A1, c1, rfl, R1, S1, hcc1⟩; obtain ⟨p1, q1⟩ := hbox w1 inferInstance))
      | (go_at_call 8; ((with_reducible refine (cTh _ _ _ hcc1 R1.to).mono ?_); rintro e w2 ⟨rfl, S2⟩; obtain ⟨p2, q2⟩ := hbox w2 inferInstance))
      | (go_at_call 9; ((with_reducible refine (cRf _ _ _ hcap hrs.to).mono ?_); rintro e w3 ⟨rfl, S3⟩; obtain ⟨p3, q3⟩ := hbox w3 inferInstance))
      | (go_at_call 10; ((with_reducible refine (cLi _ _ _ hcc1 R1.to).mono ?_); rintro e w4 ⟨rfl, S4⟩; obtain ⟨p4, q4⟩ := hbox w4 inferInstance))
      | (go_at_call 11; ((with_reducible refine (cRl _ _ _ hcap hrs.to).mono ?_); rintro e w5 ⟨rfl, S5⟩; obtain ⟨p5, q5⟩ := hbox w5 inferInstance)))
    clear p1 q1 p2 q2 p3 q3 p4 q4 p5 q5 cG cTh cLi cRl
    go_loopw [16, 17] (fun v i wr => ∃ (k : Nat), k ≤ n ∧ i = .int .i64 k ∧ wr.ownsRow w5.heap.size 24 1 v k ((NL (xs.take k)).map (Value.int .u64)) ∧ Below w5.heap.size w5 wr) (fun _ i _ => n - (intOf i).toNat)
    case atStart => exact ⟨0, Nat.zero_le _, rfl, World.ownsRow_nil _ _ _ _, Below.refl _ _⟩
    case round =>
      obtain ⟨k, hk, rfl, hown, hb⟩ := hrel
      have Sr : Step w5 wr := ⟨hb⟩
      obtain ⟨A', c', rfl⟩ := own_form hown
      by_cases hlt : k < n
      · obtain ⟨B, O, rfl, hab, hc1, hc2⟩ := (show RowS wr A xs ys from hrs.to) k (by omega)
        have HT := Lib.hid (nl_snoc (xs := xs) (k := k) (by omega))
        obtain ⟨x, hx⟩ : ∃ x : Nat, Hid (x = xs.getD k 0) := ⟨_, Lib.hid rfl⟩
        rw [← hx.out] at hc1 HT
        have HB := Lib.hid hb
        have HO := Lib.hid hown
        clear hb hown hc2
        go_wp2_with (at_builtin; refine wpList_append_own _ rfl _ _ 22 rfl w5.heap.size 24 i0 (.int .u64 0) 1 8 Tryd.underlying22 hi hz0 hz1 hz2 rfl (by decide) _ _ _ rfl (HO.out.alloc _) ⟨wr.heap.size, 0, none⟩ 1 1 [.int .u64 x] rfl rfl (cell_one_new _ _ _) (ints_oneCell .u64 [(x : Int)]) (by unfold maxLen; omega) (by omega) (by have := HB.out.size; simp; omega) ?_; intro v' w1 hown1 hgrow1 hnil)
        go_roundw
        case rel => exact ⟨k + 1, by omega, by go_num, by rw [HT.out]; exact hown1, (HB.out.alloc HB.out.size _).grown hgrow1 (by have := HB.out.size; simp; omega) (fun g hg => (HO.out.lt g hg).1)⟩
        case measure => simp [intOf]; omega
      · have hkn : k = n := by omega
        subst hkn
        have HT : Hid (xs.take k = xs) := Lib.hid (List.take_of_length_le (by omega))
        rw [HT.out] at hown
        have RX : RowN wr A' xs := Row.of_own hown
        obtain ⟨p5, q5⟩ := hbox wr inferInstance
        clear hown hb HT
        go_wp2_with (go_at_call 12; ((with_reducible refine (cWt _ _ _ RX.to).mono ?_); rintro e w6 ⟨A6, m6, c6, rfl, hw6, hm6, S6⟩; obtain ⟨p6, q6⟩ := hbox w6 inferInstance))
        obtain ⟨h, hh⟩ : ∃ h : Nat, Hid (h = hor y cs) := ⟨_, Lib.hid rfl⟩
        have hbl : W.heap.size < w6.heap.size := by
          have := (inferInstance : Ext (W.alloc (.cells #[.int .u64 y, .int .i64 q] 26 (0, 0))) w6).size
          simp at this; omega
        have cE : ∀ w, RowN w C cs → Calls Tryd.prog 13 #[.slice C nc cc, .int .u64 y] w (Qt (.int .u64 (h : Nat)) w) := fun w hw => by rw [hh.out]; exact eval_any C cc nc y cs w hnc (by omega) hw hy
        have cF : ∀ w, RowN w C cs → Calls Tryd.prog 14 #[.slice C nc cc, .int .u64 y] w (Qt (.int .u64 (h : Nat)) w) := fun w hw => by rw [hh.out]; exact refEval_any C cc nc y cs w hnc (by omega) hw
        have hL6 : Laid w6 := hL.to
        have hrc6 : RowN w6 C cs := hrc.to
        clear p5 q5
        go_region_held3 (fun w' => w'.cell? ⟨W.heap.size, 0, none⟩ = some (.int .u64 y) ∧ Step w6 w')
          (exact ⟨((Step.of (w := w6) inferInstance).h.cell hbl).trans p6, Step.of inferInstance⟩)
          (first
            | (go_at_call 13; ((refine (cE _ hrc6.to).mono ?_); rintro e w' ⟨rfl, n1, rfl⟩))
            | (go_at_call 14; ((refine (cF _ hrc6.to).mono ?_); rintro e w' ⟨rfl, n1, rfl⟩))
            | (go_at_call 15; ((with_reducible refine (nE _ hL6.to).mono ?_); rintro e w' ⟨rfl, S'⟩))
            | (go_at_call 15; ((with_reducible refine (nG _ hL6.to).mono ?_); rintro e w' ⟨rfl, S'⟩)))
        have SW : Step W w' := Step.of inferInstance
        have SA : Step w5 w' := Step.of inferInstance
        have S67 : Step w6 w' := Step.of inferInstance
        clear p6 q6 hL6 hrc6 cE cF nE nG hrc
        by_cases hf0 : f = 0
        · obtain ⟨hAp, h64⟩ := hf hf0
          obtain ⟨e6, R6⟩ := hw6 hf0
          have e7 := e6.symm
          clear e6
          subst e7
          have hk16 : k ≤ 16 := by omega
          clear ga
          try clear gb
          subst hf0
          clear hw6 hm6 hf hn2 cWt cRf
          go_wp2
          go_loopw [20] (fun i wr => ∃ (j : Nat), j ≤ k ∧ i = .int .i64 j ∧ Step w' wr) (fun i _ => k - (intOf i).toNat)
          case atStart => exact ⟨0, Nat.zero_le _, rfl, Step.of inferInstance⟩
          case round =>
            obtain ⟨j, hj, rfl, Sj⟩ := hrel
            obtain ⟨w9, hw9⟩ : ∃ w9, w9 = wr := ⟨_, rfl⟩
            subst hw9
            by_cases hjk : j < k
            · obtain ⟨B, O, rfl, _⟩ := hrs j (by omega)
              have hys : ys.length = k := hyl
              obtain ⟨i1, hi1, hz3, hz4, hz5⟩ := info_parts infoR
              have hsrc : ∀ o u v, (pl xs ys k)[u]? = some v → (w9.alloc o).cell? ((⟨B, O, none⟩ : Addr).add u) = some v := fun o => (show RowS (w9.alloc o) _ xs ys from hrs.to).cellsPl k (by omega)
              go_wp2_with (at_builtin; refine wpList_append_grows _ rfl _ _ 23 rfl 41 i1 _ 2 16 Tryd.underlying23 hi1 hz3 hz4 hz5 rfl (by decide) (some ⟨w9.heap.size, 0, none⟩) 0 0 [] rfl (fun h => by cases h) rfl (fun b e j u hj => by simp at hj) ⟨B, O, none⟩ k c (pl xs ys k) rfl (pl_len _ _ _) (hsrc _) (pl_one _ _ _) (by omega) (by unfold maxLen; omega) (by omega) ?_; intro v' w8 hown8 hg8; rw [Nat.zero_add, List.nil_append] at hown8; have S8 := Step.grown hg8; obtain ⟨g, cap, rfl, hbg, hgl⟩ := hown8.form (by omega))
              have hbg2 : w9.heap.size ≤ g := by simp at hbg; omega
              have HO8 := Lib.hid hown8
              have HB8 : Hid (Below w9.heap.size w9 w8) := Lib.hid (inferInstance : Ext w9 w8).h
              clear hown8 hg8 hsrc S8
              go_loopw [22] (fun i wq => ∃ (a : Nat), a ≤ k ∧ i = .int .i64 a ∧ wq.ownsRow (w9.alloc (.cells #[] 41)).heap.size 41 2 (.slice (some ⟨g, 0, none⟩) k cap) k (pl xs (zr ys a) k) ∧ Below w9.heap.size w9 wq) (fun i _ => k - (intOf i).toNat)
              case atStart => exact ⟨0, Nat.zero_le _, rfl, HO8.out, HB8.out⟩
              case round =>
                clear HO8 HB8
                obtain ⟨a, hak, rfl, hown, hb⟩ := hrel
                have HO := Lib.hid hown
                have HB := Lib.hid hb
                by_cases hlt : a < k
                · have hcl : wr.cell? ⟨g, a * 2 + 1, none⟩ = some (.int .u64 ((zr ys a).getD a 0 : Nat)) := (hown.cellAt _ (by omega)).trans (pl_at _ _ a k hlt).2
                  have hfz := hown.frozenAt (a * 2 + 1)
                  have HT := Lib.hid (pl_set xs (zr ys a) a 0 (by rw [zr_len]; omega) k hlt)
                  clear hown hb
                  go_wp2
                  go_roundw
                  case rel => exact ⟨a + 1, by omega, by go_num, by rw [zr, ← HT.out]; exact (HO.out.stored _ _).1, HB.out.setCell hbg2 _⟩
                  case measure => simp [intOf]; omega
                · have hak2 : a = k := by omega
                  rw [hak2] at hown
                  have hjy : j < (zr ys k).length := by rw [zr_len]; omega
                  have hcl : wr.cell? ⟨g, j * 2 + 1, none⟩ = some (.int .u64 ((zr ys k).getD j 0 : Nat)) := (hown.cellAt _ (by omega)).trans (pl_at _ _ j k hjk).2
                  have hfz := hown.frozenAt (j * 2 + 1)
                  have S10 : Step w9 (wr.setCell ⟨g, j * 2 + 1, none⟩ (.int .u64 1)) := ⟨hb.setCell hbg2 _⟩
                  obtain ⟨p10, q10⟩ := hbox (wr.setCell ⟨g, j * 2 + 1, none⟩ (.int .u64 1)) inferInstance
                  have O10 := (hown.stored (j * 2 + 1) (.int .u64 ((1 : Nat) : Int))).1
                  rw [pl_set xs (zr ys k) j 1 hjy k hjk] at O10
                  have R10 : RowS (wr.setCell ⟨g, j * 2 + 1, none⟩ (.int .u64 1)) (some ⟨g, 0, none⟩) xs ((zr ys k).set j 1) := RowS.of_own O10 hn
                  obtain ⟨z, hz⟩ : ∃ z : Nat, Hid (z = wt xs j y) := ⟨_, Lib.hid rfl⟩
                  have cR := refThrough_ok (some ⟨g, 0, none⟩) cap k y xs _ _ hn h64 R10 (Lib.hid hAp)
                  rw [one_thr xs ys y k j hyl hjk, ← hz.out] at cR
                  obtain ⟨D, rfl, _⟩ := R6.at (j := j) (by rw [wts_len]; omega)
                  have hWk : ∀ v, Ext w6 v → v.cell? (D.add j) = some (.int .u64 z) := fun v hv => by
                    obtain ⟨D', e', h5⟩ := (show RowN v _ _ from R6.to).at (j := j) (by rw [wts_len]; omega)
                    cases e'
                    rw [wts_at xs y (by omega), ← hz.out] at h5
                    exact h5
                  clear hown hb R10 O10 HO HB R6
                  go_wp2_with (go_at_call 9; ((with_reducible refine cR.mono ?_); rintro e w11 ⟨rfl, S11⟩; have hW := hWk w11 inferInstance))
                  go_roundw
                  case rel => exact ⟨j + 1, by omega, by go_num, Step.of inferInstance⟩
                  case measure => simp [intOf]; omega
            · have hjk2 : j = k := by omega
              subst hjk2
              go_wp2_with (go_at_call 6; ((with_reducible refine (sure_any _ hL.to).mono ?_); rintro e w8 ⟨rfl, S8⟩))
              go_ret
              exact ⟨rfl, Step.of inferInstance⟩
        · have h0 := hm6 hf0
          subst h0
          have T : (f == 0) = false := by simp [hf0]
          clear hw6 hm6 hf cWt cRf
          go_wp2_with (go_at_call 6; ((with_reducible refine (sure_any _ hL.to).mono ?_); rintro e w8 ⟨rfl, S8⟩))
          go_ret
          exact ⟨rfl, Step.of inferInstance⟩
theorem num_e0 (w : World) (h : Laid w) : Calls Tryd.prog 15 #[.nilIface] w fun e w' => e = .returned (.int .i64 0) ∧ Step w w' :=
  (Num03.num_nil w w (St.start h)).mono fun _ _ ⟨a, b⟩ => ⟨a, ⟨b.out.1⟩⟩
set_option maxRecDepth 1000000 in
theorem walkN (C : Option Addr) (nc cc : Nat) (cs : List Nat) (A : Option Addr) (n c : Nat) (xs ys : List Nat) (y : Nat) (q : Int) (W : World) (hnc : cs.length = nc) (hrc : RowN W C cs) (hn : xs.length = n) (hyl : ys.length = n) (hcap : n ≤ c) (hrs : RowS W A xs ys)
    (hb : B64 ys) (hy : Hid (y < 18446744073709551616)) (hL : Laid W) :
    Calls Tryd.prog 3 #[.slice C nc cc, .slice A n c, .agg #[.int .u64 y, .int .i64 q]] W fun e w' => e = .returned (.bool true) ∧ Step W w' := by
  by_cases h40 : 40 < nc
  · have g1 : (40 : Int) < nc := by omega
    go_enter Tryd.func3, Tryd.ntmps3
    go_wp2_with (go_at_call 6; ((with_reducible refine (sure_any _ hL.to).mono ?_); rintro e w' ⟨rfl, S⟩))
    go_ret
    exact ⟨rfl, Step.of inferInstance⟩
  by_cases h16 : 16 < n ∧ n ≤ 64
  · have g1 : ¬ (40 : Int) < nc := by omega
    have g2 : (16 : Int) < n := by omega
    have g3 : (n : Int) ≤ 64 := by omega
    go_enter Tryd.func3, Tryd.ntmps3
    go_wp2_with (go_at_call 6; ((with_reducible refine (sure_any _ hL.to).mono ?_); rintro e w' ⟨rfl, S⟩))
    go_ret
    exact ⟨rfl, Step.of inferInstance⟩
  by_cases h100 : 100 < n
  · have g1 : ¬ (40 : Int) < nc := by omega
    have g2 : (16 : Int) < n := by omega
    have g3 : ¬ (n : Int) ≤ 64 := by omega
    have g4 : (100 : Int) < n := by omega
    go_enter Tryd.func3, Tryd.ntmps3
    go_wp2_with (go_at_call 6; ((with_reducible refine (sure_any _ hL.to).mono ?_); rintro e w' ⟨rfl, S⟩))
    go_ret
    exact ⟨rfl, Step.of inferInstance⟩
  by_cases h64 : 64 < n
  · refine core C nc cc cs A n c xs ys y q W hnc (by omega) hrc hn hyl hcap hrs (by omega) hy (.iface 57 (.int .i64 1)) (.iface 57 (.int .i64 1)) 1 1 false 0 hL
      (fun w A c _ h => through_big A c n y xs ys w hn (by omega) h64 h) (fun w A c _ h => refThrough_big A c n y xs ys w hn (by omega) h64 h) (fun w A c _ h => ?_) (fun w A c _ h => refLine_neg A c n q w (Or.inr h64))
      (fun w A c h => (weights_big A c n y w h64).mono fun _ _ ⟨h1, h2⟩ => ⟨none, 0, 0, h1, (fun h => by cases h), fun _ => rfl, h2⟩) (Num03.some_ 1) (Num03.some_ 1) (fun h => by cases h)
    by_cases hq : q < 0
    · exact line_neg A c n q w hq
    · exact line_big A c n q xs ys w (by omega) hn (by omega) h64 h
  by_cases ha : Ap xs
  · have cw : ∀ w A c, RowN w A xs → Calls Tryd.prog 12 #[.slice A n c, .int .u64 y] w fun e w' => ∃ A' m c', e = .returned (.tuple #[.slice A' m c', .nilIface]) ∧ ((0 : Int) = 0 → m = n ∧ RowN w' A' (wts xs y)) ∧ ((0 : Int) ≠ 0 → m = 0) ∧ Step w w' :=
      fun w A c h => (weights_ok A c n y xs w hn (by omega) h (Lib.hid ha)).mono fun _ _ ⟨A', c', h1, h2, h3⟩ => ⟨A', n, c', h1, fun _ => ⟨rfl, h2⟩, fun h => absurd rfl h, h3⟩
    by_cases hq : q < 0
    · exact core C nc cc cs A n c xs ys y q W hnc (by omega) hrc hn hyl hcap hrs (by omega) hy .nilIface (.iface 57 (.int .i64 1)) 0 1 false (thr xs ys y n) hL
        (fun w A c _ h => through_ok A c n y xs ys w hn (by omega) h (Lib.hid hb) (Lib.hid ha)) (fun w A c _ h => refThrough_ok A c n y xs ys w hn (by omega) h (Lib.hid ha)) (fun w A c _ h => line_neg A c n q w hq) (fun w A c _ h => refLine_neg A c n q w (Or.inl hq))
        cw num_e0 (Num03.some_ 1) (fun _ => ⟨ha, by omega⟩)
    by_cases hq2 : (n : Int) ≤ q
    · refine core C nc cc cs A n c xs ys y q W hnc (by omega) hrc hn hyl hcap hrs (by omega) hy .nilIface .nilIface 0 0 true (thr xs ys y n) hL
        (fun w A c _ h => through_ok A c n y xs ys w hn (by omega) h (Lib.hid hb) (Lib.hid ha)) (fun w A c _ h => refThrough_ok A c n y xs ys w hn (by omega) h (Lib.hid ha)) (fun w A c hc h => ?_) (fun w A c _ h => refLine_ge A c n q xs ys w hq2 hn (by omega) h (Lib.hid ha))
        cw num_e0 num_e0 (fun _ => ⟨ha, by omega⟩)
      by_cases hq3 : (n : Int) < q
      · exact line_gt A c n q xs ys w hq3 hn (by omega) hc h (Lib.hid ha)
      · have e : q = n := by omega
        subst e
        exact line_eq A c n xs ys w hn (by omega) hc h (Lib.hid ha)
    · obtain ⟨m, rfl⟩ : ∃ m : Nat, q = m := ⟨q.toNat, by omega⟩
      exact core C nc cc cs A n c xs ys y m W hnc (by omega) hrc hn hyl hcap hrs (by omega) hy .nilIface .nilIface 0 0 (lineB xs ys m) (thr xs ys y n) hL
        (fun w A c _ h => through_ok A c n y xs ys w hn (by omega) h (Lib.hid hb) (Lib.hid ha)) (fun w A c _ h => refThrough_ok A c n y xs ys w hn (by omega) h (Lib.hid ha)) (fun w A c hc h => line_lo A c n m xs ys w (by omega) hn (by omega) hc h (Lib.hid hb) (Lib.hid ha)) (fun w A c hc h => refLine_lo A c n m xs ys w (by omega) hn (by omega) hc h (Lib.hid ha))
        cw num_e0 num_e0 (fun _ => ⟨ha, by omega⟩)
  · have cw : ∀ w A c, RowN w A xs → Calls Tryd.prog 12 #[.slice A n c, .int .u64 y] w fun e w' => ∃ A' m c', e = .returned (.tuple #[.slice A' m c', .iface 57 (.int .i64 8)]) ∧ ((8 : Int) = 0 → m = n ∧ RowN w' A' (wts xs y)) ∧ ((8 : Int) ≠ 0 → m = 0) ∧ Step w w' :=
      fun w A c h => (weights_no A c n y xs w hn (by omega) h (Lib.hid ha)).mono fun _ _ ⟨h1, h2⟩ => ⟨none, 0, 0, h1, (fun h => by cases h), fun _ => rfl, h2⟩
    by_cases hq : q < 0
    · exact core C nc cc cs A n c xs ys y q W hnc (by omega) hrc hn hyl hcap hrs (by omega) hy (.iface 57 (.int .i64 8)) (.iface 57 (.int .i64 1)) 8 1 false 0 hL
        (fun w A c _ h => through_no A c n y xs ys w hn (by omega) h (Lib.hid ha)) (fun w A c _ h => refThrough_no A c n y xs ys w hn (by omega) h (Lib.hid ha)) (fun w A c _ h => line_neg A c n q w hq) (fun w A c _ h => refLine_neg A c n q w (Or.inl hq))
        cw (Num03.some_ 8) (Num03.some_ 1) (fun h => by cases h)
    · exact core C nc cc cs A n c xs ys y q W hnc (by omega) hrc hn hyl hcap hrs (by omega) hy (.iface 57 (.int .i64 8)) (.iface 57 (.int .i64 8)) 8 8 false 0 hL
        (fun w A c _ h => through_no A c n y xs ys w hn (by omega) h (Lib.hid ha)) (fun w A c _ h => refThrough_no A c n y xs ys w hn (by omega) h (Lib.hid ha)) (fun w A c _ h => line_twice A c n q xs ys w (by omega) hn (by omega) h (Lib.hid ha)) (fun w A c _ h => refLine_twice A c n q xs ys w (by omega) hn (by omega) h (Lib.hid ha))
        cw (Num03.some_ 8) (Num03.some_ 8) (fun h => by cases h)
theorem walk (C : Option Addr) (nc cc : Nat) (cs : List Int) (A : Option Addr) (n c : Nat) (xs ys : List Int) (y q : Int) (W : World) (hnc : cs.length = nc) (_hm : nc ≤ maxLen) (hrc : Row .u64 W C cs) (hbc : ∀ z ∈ cs, 0 ≤ z ∧ z < 18446744073709551616)
    (hn : xs.length = n) (hyl : ys.length = n) (hcap : n ≤ c) (hrs : ∀ j x y, xs[j]? = some x → ys[j]? = some y → ∃ b o, A = some ⟨b, o, none⟩ ∧ b < W.heap.size ∧ W.cell? ⟨b, o + j * 2, none⟩ = some (.int .u64 x) ∧ W.cell? ⟨b, o + j * 2 + 1, none⟩ = some (.int .u64 y))
    (hbx : ∀ z ∈ xs, 0 ≤ z ∧ z < 18446744073709551616) (hby : ∀ z ∈ ys, 0 ≤ z ∧ z < 18446744073709551616) (hy : 0 ≤ y ∧ y ≤ 18446744073709551615) (_hq : -9223372036854775808 ≤ q ∧ q ≤ 9223372036854775807) (hL : Laid W) :
    Calls Tryd.prog 3 #[.slice C nc cc, .slice A n c, .agg #[.int .u64 y, .int .i64 q]] W fun e w' => e = .returned (.bool true) ∧ Step W w' := by
  obtain ⟨ks, rfl, l1, _⟩ := nl_of cs hbc
  obtain ⟨ps, rfl, l2, _⟩ := nl_of xs hbx
  obtain ⟨qs, rfl, l3, b3⟩ := nl_of ys hby
  obtain ⟨Y, rfl⟩ : ∃ Y : Nat, y = Y := ⟨y.toNat, by omega⟩
  refine walkN C nc cc ks A n c ps qs Y q W (by omega) hrc (by omega) (by omega) hcap (fun j hj => ?_) b3 (Lib.hid (by omega)) hL
  have e1 : (NL ps)[j]? = some ((ps.getD j 0 : Nat) : Int) := by unfold NL; rw [List.getElem?_map, List.getElem?_eq_getElem hj, getD_of hj]; rfl
  have e2 : (NL qs)[j]? = some ((qs.getD j 0 : Nat) : Int) := by unfold NL; rw [List.getElem?_map, List.getElem?_eq_getElem (by omega), getD_of (by omega)]; rfl
  exact hrs j _ _ e1 e2
end LawPolyTells
end Go.Proofs.YtjiagdkopchaeaaDoor
