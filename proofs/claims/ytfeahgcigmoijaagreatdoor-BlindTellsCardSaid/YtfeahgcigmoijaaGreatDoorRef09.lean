/- The document's answers of layer 9: may peers be, and what one adds. Conditions: what is handed in reads as a row of peers; lengths as stated. -/
import Derived.Test.YtfeahgcigmoijaaGreatDoorPkQ
import Derived.Test.YtfeahgcigmoijaaGreatDoorRef02E
import Derived.Test.YtfeahgcigmoijaaGreatDoorRef01
import Derived.Test.YtfeahgcigmoijaaGreatDoorPairB
namespace Go.Proofs.YtfeahgcigmoijaaGreatDoor
open Go.RowKit Go.Lib
namespace Pe
open SlR Sh Sp Mc Pg VecC VecE
/-- The least ID that the one at place k may have. -/
def lowOf (ps : List (Int × Nat)) (k : Nat) : Int := if k = 0 then 0 else (ps.getD (k - 1) (0, 0)).1 + 1
theorem lowOf_succ (ps : List (Int × Nat)) (k : Nat) : lowOf ps (k + 1) = (ps.getD k (0, 0)).1 + 1 := by unfold lowOf; rw [if_neg (by omega)]; rfl
set_option maxHeartbeats 1600000 in
set_option maxRecDepth 100000 in
theorem may_any (A : Option Addr) (c n : Nat) (ps : List (Int × Nat)) (w : World) (hn : ps.length = n) (hn2 : n ≤ 100000) (hr : RowQ w A ps) :
    Calls Tryz.prog 31 #[.slice A n c] w fun e w' => ((Hid (mayF 0 ps = true) ∧ e = .returned (.bool true)) ∨ (Hid (mayF 0 ps = false) ∧ e = .returned (.bool false))) ∧ Step w w' := by
  go_enter Tryz.func31, Tryz.ntmps31
  go_wp2
  go_loopw [3] (fun i wr => ∃ (k : Nat), k ≤ n ∧ i = .int .i64 k ∧ Hid (mayF 0 ps = mayF (lowOf ps k) (ps.drop k)) ∧ Hid (0 ≤ lowOf ps k) ∧ Step w wr) (fun i _ => n - (intOf i).toNat)
  case atStart => exact ⟨0, Nat.zero_le _, rfl, Lib.hid rfl, Lib.hid (by unfold lowOf; simp), Step.of inferInstance⟩
  case round =>
    obtain ⟨k, hk, rfl, HM, HL, hS⟩ := hrel
    by_cases hlt : k < n
    · obtain ⟨B, O, rfl, hab, hc1, hc2⟩ := (hr.to : RowQ wr A ps) k (by omega)
      obtain ⟨x, hx⟩ : ∃ x : Int, Hid (x = (ps.getD k (0, 0)).1) := ⟨_, Lib.hid rfl⟩
      obtain ⟨y, hy⟩ : ∃ y : Nat, Hid (y = (ps.getD k (0, 0)).2) := ⟨_, Lib.hid rfl⟩
      rw [← hx.out] at hc1
      rw [← hy.out] at hc2
      have HT : Hid (mayF 0 ps = (decide (lowOf ps k ≤ x) && decide (x ≤ 63) && decide (y ≠ 0) && decide (y < 2305843009213693951) && mayF (x + 1) (ps.drop (k + 1)))) := Lib.hid (by rw [HM.out, mayF_step (by omega), hx.out, hy.out])
      have HS : Hid (lowOf ps (k + 1) = x + 1) := Lib.hid (by rw [lowOf_succ, hx.out])
      clear HM
      by_cases h1 : x < 0
      · have hF : Hid (mayF 0 ps = false) := Lib.hid (by rw [HT.out, decide_eq_false (by have := HL.out; omega : ¬ lowOf ps k ≤ x)]; rfl)
        clear HT HL HS hr
        go_wp2
        go_quiet (fail)
        go_wp2
        go_ret
        exact ⟨.inr (by first | exact ⟨hF, rfl⟩ | exact rfl), Step.of inferInstance⟩
      · have b1 : decide (x < 0) = false := decide_eq_false h1
        by_cases h2 : 63 < x
        · have b2 : decide (63 < x) = true := decide_eq_true h2
          have hF : Hid (mayF 0 ps = false) := Lib.hid (by rw [HT.out, decide_eq_false (by omega : ¬ x ≤ 63)]; simp)
          clear HT HL HS hr
          go_wp2
          go_quiet (fail)
          go_wp2
          go_ret
          exact ⟨.inr (by first | exact ⟨hF, rfl⟩ | exact rfl), Step.of inferInstance⟩
        · have b2 : decide (63 < x) = false := decide_eq_false h2
          have hprev : (Hid (k = 0) ∧ lowOf ps k = 0) ∨ ∃ (j : Nat) (z : Int), Hid (k = j + 1) ∧ lowOf ps k = z + 1 ∧ wr.cell? ⟨B, O + j * 2, none⟩ = some (.int .i64 z) := by
            rcases Nat.eq_zero_or_pos k with h | h
            · exact .inl ⟨Lib.hid h, by unfold lowOf; rw [if_pos h]⟩
            · obtain ⟨B', O', e, _, g1, _⟩ := (hr.to : RowQ wr _ ps) (k - 1) (by omega)
              cases e
              exact .inr ⟨k - 1, _, Lib.hid (by omega), by unfold lowOf; rw [if_neg (by omega)], g1⟩
          clear hr
          rcases hprev with ⟨hk0, hlow⟩ | ⟨j, z, hkj, hlow, hc3⟩
          · rw [hlow] at HT
            have bk : decide ((0 : Int) < (k : Int)) = false := decide_eq_false (by have := hk0.out; omega)
            have bkN : decide (0 < k) = false := decide_eq_false (by have := hk0.out; omega)
            by_cases h3 : y = 0
            · have hF : Hid (mayF 0 ps = false) := Lib.hid (by rw [HT.out, decide_eq_false (by omega : ¬ y ≠ 0)]; simp)
              clear HT HL HS hlow
              subst h3
              go_wp2
              go_quiet (fail)
              go_wp2
              go_ret
              exact ⟨.inr (by first | exact ⟨hF, rfl⟩ | exact rfl), Step.of inferInstance⟩
            · have h3I : ((y : Int) == 0) = false := by simpa using h3
              have h3N : (y == 0) = false := by simpa using h3
              by_cases h4 : 2305843009213693951 ≤ y
              · have hF : Hid (mayF 0 ps = false) := Lib.hid (by rw [HT.out, decide_eq_false (by omega : ¬ y < 2305843009213693951)]; simp)
                have h4I : decide ((2305843009213693951 : Int) ≤ (y : Int)) = true := by simp; omega
                clear HT HL HS h4 hlow
                go_wp2
                go_quiet (fail)
                go_wp2
                go_ret
                exact ⟨.inr (by first | exact ⟨hF, rfl⟩ | exact rfl), Step.of inferInstance⟩
              · have h4I : decide ((2305843009213693951 : Int) ≤ (y : Int)) = false := by simp; omega
                have HN : Hid (mayF 0 ps = mayF (lowOf ps (k + 1)) (ps.drop (k + 1))) := Lib.hid (by rw [HT.out, HS.out, decide_eq_true (by omega : 0 ≤ x), decide_eq_true (by omega : x ≤ 63), decide_eq_true (by omega : y ≠ 0), decide_eq_true (by omega : y < 2305843009213693951)]; simp)
                have HP : Hid (0 ≤ lowOf ps (k + 1)) := Lib.hid (by rw [HS.out]; omega)
                clear HT HL HS h4 hlow
                go_wp2
                go_quiet (fail)
                go_wp2
                go_roundw
                case rel => exact ⟨k + 1, by omega, by go_num, HN, HP, Step.of inferInstance⟩
                case measure => simp [intOf]; omega
          · rw [hlow] at HT HL
            have bk : decide ((0 : Int) < (k : Int)) = true := decide_eq_true (by have := hkj.out; omega)
            have bkN : decide (0 < k) = true := decide_eq_true (by have := hkj.out; omega)
            have hw : IntKind.i64.wrap ((k : Int) - 1) = (j : Int) := by have := hkj.out; rw [IntKind.wrap_i64] <;> omega
            have hjn : (j : Int) < n := by have := hkj.out; omega
            by_cases h5 : x ≤ z
            · have b5 : decide (x ≤ z) = true := decide_eq_true h5
              have hF : Hid (mayF 0 ps = false) := Lib.hid (by rw [HT.out, decide_eq_false (by omega : ¬ z + 1 ≤ x)]; rfl)
              clear HT HL HS hlow
              go_wp2
              go_quiet (fail)
              go_wp2
              go_ret
              exact ⟨.inr (by first | exact ⟨hF, rfl⟩ | exact rfl), Step.of inferInstance⟩
            · have b5 : decide (x ≤ z) = false := decide_eq_false h5
              by_cases h3 : y = 0
              · have hF : Hid (mayF 0 ps = false) := Lib.hid (by rw [HT.out, decide_eq_false (by omega : ¬ y ≠ 0)]; simp)
                clear HT HL HS hlow
                subst h3
                go_wp2
                go_quiet (fail)
                go_wp2
                go_ret
                exact ⟨.inr (by first | exact ⟨hF, rfl⟩ | exact rfl), Step.of inferInstance⟩
              · have h3I : ((y : Int) == 0) = false := by simpa using h3
                have h3N : (y == 0) = false := by simpa using h3
                by_cases h4 : 2305843009213693951 ≤ y
                · have hF : Hid (mayF 0 ps = false) := Lib.hid (by rw [HT.out, decide_eq_false (by omega : ¬ y < 2305843009213693951)]; simp)
                  have h4I : decide ((2305843009213693951 : Int) ≤ (y : Int)) = true := by simp; omega
                  clear HT HL HS h4 hlow
                  go_wp2
                  go_quiet (fail)
                  go_wp2
                  go_ret
                  exact ⟨.inr (by first | exact ⟨hF, rfl⟩ | exact rfl), Step.of inferInstance⟩
                · have h4I : decide ((2305843009213693951 : Int) ≤ (y : Int)) = false := by simp; omega
                  have HN : Hid (mayF 0 ps = mayF (lowOf ps (k + 1)) (ps.drop (k + 1))) := Lib.hid (by rw [HT.out, HS.out, decide_eq_true (by omega : z + 1 ≤ x), decide_eq_true (by omega : x ≤ 63), decide_eq_true (by omega : y ≠ 0), decide_eq_true (by omega : y < 2305843009213693951)]; simp)
                  have HP : Hid (0 ≤ lowOf ps (k + 1)) := Lib.hid (by rw [HS.out]; omega)
                  clear HT HL HS h4 hlow
                  go_wp2
                  go_quiet (fail)
                  go_wp2
                  go_roundw
                  case rel => exact ⟨k + 1, by omega, by go_num, HN, HP, Step.of inferInstance⟩
                  case measure => simp [intOf]; omega
    · have hkn : k = n := by omega
      subst hkn
      have hY : Hid (mayF 0 ps = true) := Lib.hid (by rw [HM.out, List.drop_of_length_le (by omega)]; rfl)
      clear hr HM HL
      go_wp2
      go_ret
      exact ⟨.inl (by first | exact ⟨hY, rfl⟩ | exact rfl), Step.of inferInstance⟩
end Pe
end Go.Proofs.YtfeahgcigmoijaaGreatDoor
