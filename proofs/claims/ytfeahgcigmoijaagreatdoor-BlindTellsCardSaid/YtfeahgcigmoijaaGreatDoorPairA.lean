/- pair: what each function answers. Conditions: what is handed in reads as a row of peers; lengths as stated. -/
import Derived.Test.YtfeahgcigmoijaaGreatDoorPkF
import Derived.Test.YtfeahgcigmoijaaGreatDoorVecE
import Derived.Test.YtfeahgcigmoijaaGreatDoorPeer
import Derived.Test.YtfeahgcigmoijaaGreatDoorPairMath
namespace Go.Proofs.YtfeahgcigmoijaaGreatDoor
open Go.RowKit Go.Lib
namespace Pe
open SlR VecC VecE
theorem fpow_lt64 (a k : Nat) : FpM.fPow a k < 18446744073709551616 := FpC.lt64 (FpM.fPow_lt a k)
theorem public_any (k : Nat) (hk : Hid (k < 18446744073709551616)) (w : World) : Calls Tryz.prog 15 #[.int .u64 k] w fun e w' => e = .returned (.int .u64 (FpM.fPow 3 k : Nat)) ∧ Step w w' := by
  have c := fun w : World => FpC.pow_any 3 k (Lib.hid (by omega)) hk w
  have c : ∀ w : World, Calls Tryz.prog 35 #[.int .u64 3, .int .u64 k] w fun e w' => e = .returned (.int .u64 (FpM.fPow 3 k : Nat)) ∧ Step w w' := fun w => (c w).mono fun e w' ⟨h, n, h2⟩ => ⟨h, by rw [h2]; exact Step.of inferInstance⟩
  go_enter Tryz.func15, Tryz.ntmps15
  go_wp2_with (go_at_call 35; ((with_reducible refine (c _).mono ?_); rintro e w1 ⟨rfl, S1⟩))
  go_ret
  exact ⟨rfl, Step.of inferInstance⟩
theorem shared_any (k p : Nat) (hk : Hid (k < 18446744073709551616)) (hp : Hid (p < 18446744073709551616)) (w : World) : Calls Tryz.prog 63 #[.int .u64 k, .int .u64 p] w fun e w' => e = .returned (.int .u64 (FpM.fPow p k : Nat)) ∧ Step w w' := by
  have c : ∀ w : World, Calls Tryz.prog 35 #[.int .u64 p, .int .u64 k] w fun e w' => e = .returned (.int .u64 (FpM.fPow p k : Nat)) ∧ Step w w' := fun w => (FpC.pow_any p k hp hk w).mono fun e w' ⟨h, n, h2⟩ => ⟨h, by rw [h2]; exact Step.of inferInstance⟩
  go_enter Tryz.func63, Tryz.ntmps63
  go_wp2_with (go_at_call 35; ((with_reducible refine (c _).mono ?_); rintro e w1 ⟨rfl, S1⟩))
  go_ret
  exact ⟨rfl, Step.of inferInstance⟩
/-- The error's number 1. -/
abbrev eArg : Value := .iface 77 (.int .i64 1)
set_option maxHeartbeats 1600000 in
theorem check_any (A : Option Addr) (c n : Nat) (ps : List (Int × Nat)) (w : World) (hn : ps.length = n) (hn2 : n ≤ 100000) (hr : RowQ w A ps) :
    Calls Tryz.prog 39 #[.slice A n c] w fun e w' => ((Hid (mayF 0 ps = true) ∧ e = .returned .nilIface) ∨ (Hid (mayF 0 ps = false) ∧ e = .returned eArg)) ∧ Step w w' := by
  go_enter Tryz.func39, Tryz.ntmps39
  go_wp2
  go_loopw [3, 8] (fun lo i wr => ∃ (k : Nat) (L : Int), k ≤ n ∧ lo = .int .i64 L ∧ i = .int .i64 k ∧ Hid (mayF 0 ps = mayF L (ps.drop k)) ∧ 0 ≤ L ∧ L ≤ 64 ∧ Step w wr) (fun _ i _ => n - (intOf i).toNat)
  case atStart => exact ⟨0, 0, Nat.zero_le _, rfl, rfl, Lib.hid rfl, by omega, by omega, Step.of inferInstance⟩
  case round =>
    obtain ⟨k, L, hk, rfl, rfl, HM, hL0, hL1, hS⟩ := hrel
    by_cases hlt : k < n
    · obtain ⟨B, O, rfl, hab, hc1, hc2⟩ := (hr.to : RowQ wr A ps) k (by omega)
      obtain ⟨x, hx⟩ : ∃ x : Int, Hid (x = (ps.getD k (0, 0)).1) := ⟨_, Lib.hid rfl⟩
      obtain ⟨y, hy⟩ : ∃ y : Nat, Hid (y = (ps.getD k (0, 0)).2) := ⟨_, Lib.hid rfl⟩
      rw [← hx.out] at hc1
      rw [← hy.out] at hc2
      have HT : Hid (mayF 0 ps = (decide (L ≤ x) && decide (x ≤ 63) && decide (y ≠ 0) && decide (y < 2305843009213693951) && mayF (x + 1) (ps.drop (k + 1)))) := Lib.hid (by rw [HM.out, mayF_step (by omega), hx.out, hy.out])
      clear hr HM
      by_cases h1 : x < L
      · have hF : Hid (mayF 0 ps = false) := Lib.hid (by rw [HT.out, decide_eq_false (by omega : ¬ L ≤ x)]; rfl)
        clear HT
        go_wp2
        exact bodyPost_ret (v := eArg) (by simp [results, Tryz.results39, go_sem]) rfl ⟨.inr (by first | exact ⟨hF, rfl⟩ | exact rfl), Step.of inferInstance⟩
      · by_cases h2 : 64 ≤ x
        · have hF : Hid (mayF 0 ps = false) := Lib.hid (by rw [HT.out, decide_eq_false (by omega : ¬ x ≤ 63)]; simp)
          clear HT
          go_wp2
          exact bodyPost_ret (v := eArg) (by simp [results, Tryz.results39, go_sem]) rfl ⟨.inr (by first | exact ⟨hF, rfl⟩ | exact rfl), Step.of inferInstance⟩
        · by_cases h3 : y = 0
          · have hF : Hid (mayF 0 ps = false) := Lib.hid (by rw [HT.out, decide_eq_false (by omega : ¬ y ≠ 0)]; simp)
            clear HT
            subst h3
            go_wp2
            exact bodyPost_ret (v := eArg) (by simp [results, Tryz.results39, go_sem]) rfl ⟨.inr (by first | exact ⟨hF, rfl⟩ | exact rfl), Step.of inferInstance⟩
          · have h3I : ((y : Int) == 0) = false := by simpa using h3
            by_cases h4 : 2305843009213693951 ≤ y
            · have hF : Hid (mayF 0 ps = false) := Lib.hid (by rw [HT.out, decide_eq_false (by omega : ¬ y < 2305843009213693951)]; simp)
              have h4I : decide ((2305843009213693951 : Int) ≤ (y : Int)) = true := by simp; omega
              clear HT h4
              go_wp2
              exact bodyPost_ret (v := eArg) (by simp [results, Tryz.results39, go_sem]) rfl ⟨.inr (by first | exact ⟨hF, rfl⟩ | exact rfl), Step.of inferInstance⟩
            · have h4I : decide ((2305843009213693951 : Int) ≤ (y : Int)) = false := by simp; omega
              have HN : Hid (mayF 0 ps = mayF (x + 1) (ps.drop (k + 1))) := Lib.hid (by rw [HT.out, decide_eq_true (by omega : L ≤ x), decide_eq_true (by omega : x ≤ 63), decide_eq_true (by omega : y ≠ 0), decide_eq_true (by omega : y < 2305843009213693951)]; simp)
              clear HT h4
              go_wp2
              go_roundw
              case rel => exact ⟨k + 1, x + 1, by omega, by go_num, by go_num, HN, by omega, by omega, Step.of inferInstance⟩
              case measure => simp [intOf]; omega
    · have hkn : k = n := by omega
      subst hkn
      have hY : Hid (mayF 0 ps = true) := Lib.hid (by rw [HM.out, List.drop_of_length_le (by omega)]; rfl)
      clear hr HM
      go_wp2
      go_ret
      exact ⟨.inl ⟨hY, rfl⟩, Step.of inferInstance⟩
theorem check_yes (A : Option Addr) (c n : Nat) (ps : List (Int × Nat)) (w : World) (hn : ps.length = n) (hn2 : n ≤ 100000) (hr : RowQ w A ps) (hm : Hid (mayF 0 ps = true)) :
    Calls Tryz.prog 39 #[.slice A n c] w fun e w' => e = .returned .nilIface ∧ Step w w' := (check_any A c n ps w hn hn2 hr).mono fun _ _ ⟨h, s⟩ => by
  rcases h with h | h
  · exact ⟨h.2, s⟩
  · have := h.1.out; rw [hm.out] at this; cases this
theorem check_no (A : Option Addr) (c n : Nat) (ps : List (Int × Nat)) (w : World) (hn : ps.length = n) (hn2 : n ≤ 100000) (hr : RowQ w A ps) (hm : Hid (mayF 0 ps = false)) :
    Calls Tryz.prog 39 #[.slice A n c] w fun e w' => e = .returned eArg ∧ Step w w' := (check_any A c n ps w hn hn2 hr).mono fun _ _ ⟨h, s⟩ => by
  rcases h with h | h
  · have := h.1.out; rw [hm.out] at this; cases this
  · exact ⟨h.2, s⟩
theorem me_any (x : Int) (y : Nat) (me : Int) (g : Nat) (w : World) (hg : w.cell? ⟨g, 0, none⟩ = some (.int .i64 me)) :
    Calls Tryz.prog 41 #[.agg #[.int .i64 x, .int .u64 y], .pointer (some ⟨g, 0, none⟩)] w fun e w' => e = .returned (.bool (x == me)) ∧ Step w w' := by
  have hgl := World.block_lt_of_cell? w _ hg
  have hgl : g < w.heap.size := hgl
  have hgA : ∀ o, (w.alloc o).cell? ⟨g, 0, none⟩ = some (.int .i64 me) := fun o => (World.cell?_alloc_lt w o ⟨g, 0, none⟩ hgl).trans hg
  generalize hb : (x == me) = b
  go_enter Tryz.func41, Tryz.ntmps41
  go_wp2
  go_ret
  exact ⟨rfl, Step.of inferInstance⟩
/-- Is me one of them? -/
def isIn (me : Int) (ps : List (Int × Nat)) : Bool := ps.any fun p => p.1 == me
theorem isIn_snoc {me : Int} {ps : List (Int × Nat)} {k : Nat} (h : k < ps.length) : isIn me (ps.take (k + 1)) = (isIn me (ps.take k) || ((ps.getD k (0, 0)).1 == me)) := by
  unfold isIn
  rw [take_snocQ ps k h, List.any_append]; simp
theorem isIn_take {me : Int} {ps : List (Int × Nat)} {k : Nat} (h : k < ps.length) (he : ((ps.getD k (0, 0)).1 == me) = true) : isIn me ps = true := by
  unfold isIn
  rw [List.any_eq_true]
  refine ⟨ps.getD k (0, 0), ?_, he⟩
  rw [List.getD_eq_getElem?_getD, List.getElem?_eq_getElem h]
  exact List.getElem_mem h
set_option maxHeartbeats 1600000 in
theorem index_any (A : Option Addr) (c n : Nat) (ps : List (Int × Nat)) (me : Int) (g : Nat) (w : World) (hn : ps.length = n) (hn2 : n ≤ 100000) (hr : RowQ w A ps) (hg : w.cell? ⟨g, 0, none⟩ = some (.int .i64 me)) :
    Calls Tryz.prog 62 #[.slice A n c, .func (.func 41) #[] #[.pointer (some ⟨g, 0, none⟩)]] w fun e w' => (∃ j : Int, e = .returned (.int .i64 j) ∧ (j < 0 ∨ 0 ≤ j) ∧ isIn me ps = decide (0 ≤ j)) ∧ Step w w' := by
  have hgl : g < w.heap.size := World.block_lt_of_cell? w _ hg
  go_enter Tryz.func62, Tryz.ntmps62
  go_wp2
  go_loopw [8] (fun i wr => ∃ (k : Nat), k ≤ n ∧ i = .int .i64 k ∧ Hid (isIn me (ps.take k) = false) ∧ Step w wr) (fun i _ => n - (intOf i).toNat)
  case atStart => exact ⟨0, Nat.zero_le _, rfl, Lib.hid rfl, Step.of inferInstance⟩
  case round =>
    obtain ⟨k, hk, rfl, HM, hS⟩ := hrel
    by_cases hlt : k < n
    · obtain ⟨B, O, rfl, hab, hc1, hc2⟩ := (hr.to : RowQ wr A ps) k (by omega)
      have hgr : wr.cell? ⟨g, 0, none⟩ = some (.int .i64 me) := (hS.h.cell (p := ⟨g, 0, none⟩) hgl).trans hg
      obtain ⟨x, hx⟩ : ∃ x : Int, Hid (x = (ps.getD k (0, 0)).1) := ⟨_, Lib.hid rfl⟩
      obtain ⟨y, hy⟩ : ∃ y : Nat, Hid (y = (ps.getD k (0, 0)).2) := ⟨_, Lib.hid rfl⟩
      rw [← hx.out] at hc1
      rw [← hy.out] at hc2
      have cM := me_any x y me g wr hgr
      cases hb : (x == me)
      · rw [hb] at cM
        have HN : Hid (isIn me (ps.take (k + 1)) = false) := Lib.hid (by rw [isIn_snoc (by omega), HM.out, ← hx.out, hb]; rfl)
        clear hr HM hgr hg hb
        go_wp2_with (go_at_call 41; ((with_reducible refine (cM).mono ?_); rintro e w1 ⟨rfl, S1⟩))
        go_roundw
        case rel => exact ⟨k + 1, by omega, by go_num, HN, Step.of inferInstance⟩
        case measure => simp [intOf]; omega
      · rw [hb] at cM
        have HY : Hid (isIn me ps = true) := Lib.hid (isIn_take (k := k) (by omega) (by rw [← hx.out]; exact hb))
        clear hr HM hgr hg hb
        go_wp2_with (go_at_call 41; ((with_reducible refine (cM).mono ?_); rintro e w1 ⟨rfl, S1⟩))
        go_ret
        exact ⟨⟨(k : Int), rfl, .inr (Int.natCast_nonneg k), by rw [HY.out, decide_eq_true (Int.natCast_nonneg k)]⟩, Step.of inferInstance⟩
    · have hkn : k = n := by omega
      subst hkn
      have HN : Hid (isIn me ps = false) := Lib.hid (by rw [← HM.out, List.take_of_length_le (by omega)])
      clear hr HM hg
      go_wp2
      go_ret
      exact ⟨⟨-1, rfl, .inl (by decide), by rw [HN.out]; rfl⟩, Step.of inferInstance⟩
theorem contains_any (A : Option Addr) (c n : Nat) (ps : List (Int × Nat)) (me : Int) (g : Nat) (w : World) (hn : ps.length = n) (hn2 : n ≤ 100000) (hr : RowQ w A ps) (hg : w.cell? ⟨g, 0, none⟩ = some (.int .i64 me)) :
    Calls Tryz.prog 40 #[.slice A n c, .func (.func 41) #[] #[.pointer (some ⟨g, 0, none⟩)]] w fun e w' => e = .returned (.bool (isIn me ps)) ∧ Step w w' := by
  have cI := index_any A c n ps me g w hn hn2 hr hg
  go_enter Tryz.func40, Tryz.ntmps40
  go_wp2_with (go_at_call 62; ((with_reducible refine (cI).mono ?_); rintro e w1 ⟨⟨j, rfl, hj, h2⟩, S1⟩))
  go_ret
  exact ⟨by rw [h2]; rfl, Step.of inferInstance⟩
end Pe
end Go.Proofs.YtfeahgcigmoijaaGreatDoor
