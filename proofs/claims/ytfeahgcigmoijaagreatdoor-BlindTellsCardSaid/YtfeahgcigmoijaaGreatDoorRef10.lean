/- The document's small answers of layer 10, and maps made of lists. Conditions: what is handed in reads as rows of pairs and of numbers; lengths as stated. -/
import Derived.Test.YtfeahgcigmoijaaGreatDoorRef09b
import Derived.Test.YtfeahgcigmoijaaGreatDoorBlindD
import Derived.Test.YtfeahgcigmoijaaGreatDoorMapB
namespace Go.Proofs.YtfeahgcigmoijaaGreatDoor
open Go.RowKit Go.Lib
namespace Bl
open SlR Sh Sp Mc Pg VecC VecE Pe Mp
/-- The last number of each client. -/
def lastF (l : List (Int × Nat)) : Int → Option Nat := l.foldl (fun f p => upd f p.1 p.2) (fun _ => none)
theorem lastF_snoc {l : List (Int × Nat)} {k : Nat} (h : k < l.length) : lastF (l.take (k + 1)) = upd (lastF (l.take k)) (l.getD k (0, 0)).1 (l.getD k (0, 0)).2 := by
  unfold lastF
  rw [take_snocQ l k h, List.foldl_append]; rfl
set_option maxHeartbeats 1600000 in
set_option maxRecDepth 100000 in
theorem nums_any (A : Option Addr) (c n : Nat) (l : List (Int × Nat)) (w : World) (hn : l.length = n) (hn2 : n ≤ 100000) (hr : RowQ w A l) (hI : Hid (∀ k, I64 (l.getD k (0, 0)).1)) (h64 : Hid (Q64 l)) :
    Calls Tryz.prog 11 #[.slice A n c] w fun e w' => ∃ mv, e = .returned mv ∧ MapF w' mv (lastF l) ∧ Step w w' := by
  have hmm := @run_makeMap Tryz.prog
  have M0 : OwnM w.heap.size (w.alloc (.map #[] 0)) w.heap.size 0 (lastF (l.take 0)) := OwnM.made w (Nat.le_refl _)
  go_enter Tryz.func11, Tryz.ntmps11
  go_wp2_with (fail)
  go_loopw [4] (fun i wr => ∃ (k : Nat), k ≤ n ∧ i = .int .i64 k ∧ OwnM w.heap.size wr w.heap.size k (lastF (l.take k)) ∧ Step w wr) (fun i _ => n - (intOf i).toNat)
  case atStart => exact ⟨0, Nat.zero_le _, rfl, M0, Step.of inferInstance⟩
  case round =>
    clear M0
    obtain ⟨k, hk, rfl, hM, hS⟩ := hrel
    by_cases hlt : k < n
    · obtain ⟨B, O, rfl, hab, hc1, hc2⟩ := hr k (by omega)
      obtain ⟨x, hx⟩ : ∃ x : Int, Hid (x = (l.getD k (0, 0)).1) := ⟨_, Lib.hid rfl⟩
      obtain ⟨y, hy⟩ : ∃ y : Nat, Hid (y = (l.getD k (0, 0)).2) := ⟨_, Lib.hid rfl⟩
      have hxI : I64 x := by rw [hx.out]; exact hI.out k
      have hy64 : y < 18446744073709551616 := by rw [hy.out]; exact h64.out k
      rw [← hx.out] at hc1
      rw [← hy.out] at hc2
      have HT : Hid (lastF (l.take (k + 1)) = upd (lastF (l.take k)) x y) := Lib.hid (by rw [lastF_snoc (by omega), hx.out, hy.out])
      have HM := Lib.hid hM
      clear hr hI h64 hx hy hM
      have HMd : OwnM w.heap.size wr.drew w.heap.size k (lastF (l.take k)) := HM.out.to
      obtain ⟨w3, hrun3, M3, G3⟩ := put_run HMd (by omega) x hxI y hy64
      have S3 : Step w w3 := ⟨(show Step w wr.drew from Step.of inferInstance).h.grown G3 (show Step w wr.drew from Step.of inferInstance).h.size (fun j hj => by cases hj; exact Nat.le_refl _)⟩
      clear HMd G3
      go_wp2_with (fail)
      go_region_held3 (fun w' => w'.cell? ⟨B, O + k * 2, none⟩ = some (.int .i64 x) ∧ w'.cell? ⟨B, O + k * 2 + 1, none⟩ = some (.int .u64 y) ∧ Step w w')
        (exact ⟨cellT hc1, cellT hc2, Step.of inferInstance⟩)
        (fail)
      all_goals (rename_i hH; clear hH)
      all_goals go_wp2
      all_goals go_roundw
      all_goals (try exact ⟨k + 1, by omega, by go_num, by rw [HT.out]; exact M3, S3⟩)
      all_goals (simp [intOf]; omega)
    · have hkn : k = n := by omega
      subst hkn
      have HE : Hid (lastF (l.take k) = lastF l) := Lib.hid (by rw [List.take_of_length_le (by omega)])
      rw [HE.out] at hM
      clear hr
      go_wp2
      go_ret
      exact ⟨_, rfl, hM.mapF, Step.of inferInstance⟩
set_option maxHeartbeats 1600000 in
set_option maxRecDepth 100000 in
theorem find_any (A : Option Addr) (c n : Nat) (l : List (Int × Nat)) (i : Int) (w : World) (hn : l.length = n) (hn2 : n ≤ 100000) (hr : RowQ w A l) :
    Calls Tryz.prog 32 #[.slice A n c, .int .i64 i] w fun e w' => e = .returned (.tuple #[.int .u64 ((lastF l i).getD 0 : Nat), .bool (lastF l i).isSome]) ∧ Step w w' := by
  go_enter Tryz.func32, Tryz.ntmps32
  go_wp2_with (fail)
  go_loopw [6, 7, 8] (fun v b j wr => ∃ (k : Nat) (s : Nat) (q : Bool), k ≤ n ∧ j = .int .i64 k ∧ v = .int .u64 s ∧ b = .bool q ∧ Hid ((lastF (l.take k) i).getD 0 = s ∧ (lastF (l.take k) i).isSome = q) ∧ Step w wr) (fun _ _ j _ => n - (intOf j).toNat)
  case atStart => exact ⟨0, 0, false, Nat.zero_le _, rfl, rfl, rfl, Lib.hid ⟨rfl, rfl⟩, Step.of inferInstance⟩
  case round =>
    obtain ⟨k, s, q, hk, rfl, rfl, rfl, hF, hS⟩ := hrel
    by_cases hlt : k < n
    · obtain ⟨B, O, rfl, hab, hc1, hc2⟩ := (hr.to : RowQ wr A l) k (by omega)
      obtain ⟨x, hx⟩ : ∃ x : Int, Hid (x = (l.getD k (0, 0)).1) := ⟨_, Lib.hid rfl⟩
      obtain ⟨y, hy⟩ : ∃ y : Nat, Hid (y = (l.getD k (0, 0)).2) := ⟨_, Lib.hid rfl⟩
      rw [← hx.out] at hc1
      rw [← hy.out] at hc2
      have HT : Hid (lastF (l.take (k + 1)) i = if i = x then some y else lastF (l.take k) i) := Lib.hid (by rw [lastF_snoc (by omega), hx.out, hy.out]; rfl)
      clear hr hx hy
      by_cases h : x = i
      · have HN : Hid ((lastF (l.take (k + 1)) i).getD 0 = y ∧ (lastF (l.take (k + 1)) i).isSome = true) := Lib.hid (by rw [HT.out, if_pos h.symm]; exact ⟨rfl, rfl⟩)
        subst h
        clear hF HT
        go_wp2
        go_roundw
        case rel => exact ⟨k + 1, y, true, by omega, by go_num, rfl, rfl, HN, Step.of inferInstance⟩
        case measure => simp [intOf]; omega
      · have HN : Hid ((lastF (l.take (k + 1)) i).getD 0 = s ∧ (lastF (l.take (k + 1)) i).isSome = q) := Lib.hid (by rw [HT.out, if_neg (fun e => h e.symm)]; exact hF.out)
        have hb : (x == i) = false := by simpa using h
        clear hF HT h
        go_wp2
        go_roundw
        case rel => exact ⟨k + 1, s, q, by omega, by go_num, rfl, rfl, HN, Step.of inferInstance⟩
        case measure => simp [intOf]; omega
    · have hkn : k = n := by omega
      subst hkn
      have HE : Hid ((lastF l i).getD 0 = s ∧ (lastF l i).isSome = q) := Lib.hid (by have := hF.out; rwa [List.take_of_length_le (by omega)] at this)
      clear hr hF
      go_wp2
      exact bodyPost_ret (v := .tuple #[.int .u64 s, .bool q]) (by simp [results, Tryz.results32, go_sem]) rfl ⟨by rw [HE.out.1, HE.out.2], Step.of inferInstance⟩
set_option maxHeartbeats 1600000 in
set_option maxRecDepth 100000 in
theorem in_any (A : Option Addr) (c n : Nat) (xs : List Int) (x : Int) (w : World) (hn : xs.length = n) (hn2 : n ≤ 100000) (hr : Row .i64 w A xs) :
    Calls Tryz.prog 33 #[.slice A n c, .int .i64 x] w fun e w' => e = .returned (.bool (inn xs x)) ∧ Step w w' := by
  go_enter Tryz.func33, Tryz.ntmps33
  go_wp2_with (fail)
  go_loopw [5] (fun i wr => ∃ (k : Nat), k ≤ n ∧ i = .int .i64 k ∧ Hid (inn (xs.take k) x = false) ∧ Step w wr) (fun i _ => n - (intOf i).toNat)
  case atStart => exact ⟨0, Nat.zero_le _, rfl, Lib.hid rfl, Step.of inferInstance⟩
  case round =>
    obtain ⟨k, hk, rfl, HM, hS⟩ := hrel
    by_cases hlt : k < n
    · obtain ⟨ad, y, rfl, hab, hy, hc⟩ := (show Row .i64 wr A xs from hr.to).at (j := k) (by omega)
      have HT : Hid (inn (xs.take (k + 1)) x = (y == x)) := Lib.hid (by rw [inn_snoc hy, HM.out]; rfl)
      have HA : Hid (y = x → inn xs x = true) := Lib.hid (fun e => inn_at (e ▸ hy))
      clear hr HM hy
      by_cases h : y = x
      · subst h
        have HY : Hid (inn xs y = true) := Lib.hid (HA.out rfl)
        clear HA HT
        go_wp2
        go_ret
        exact ⟨by rw [HY.out]; rfl, Step.of inferInstance⟩
      · have hb : (y == x) = false := by simpa using h
        have HN : Hid (inn (xs.take (k + 1)) x = false) := Lib.hid (by rw [HT.out]; exact hb)
        clear HA HT h
        go_wp2
        go_roundw
        case rel => exact ⟨k + 1, by omega, by go_num, HN, Step.of inferInstance⟩
        case measure => simp [intOf]; omega
    · have hkn : k = n := by omega
      subst hkn
      have HN : Hid (inn xs x = false) := Lib.hid (by rw [← HM.out, List.take_of_length_le (by omega)])
      clear hr HM
      go_wp2
      go_ret
      exact ⟨by rw [HN.out]; rfl, Step.of inferInstance⟩
end Bl
end Go.Proofs.YtfeahgcigmoijaaGreatDoor
