/- slices' small functions at numbers and at peers: whether one is in a row. Conditions: what is handed in reads as a row; lengths as stated. -/
import Derived.Test.YtfeahgcigmoijaaGreatDoorPairA
import Derived.Test.YtfeahgcigmoijaaGreatDoorBlMath
import Derived.Laws.StructEq
namespace Go.Proofs.YtfeahgcigmoijaaGreatDoor
open Go.RowKit Go.Lib
namespace Bl
open SlR VecC VecE Pe
theorem inn_snoc {l : List Int} {x y : Int} {k : Nat} (h : l[k]? = some y) : inn (l.take (k + 1)) x = (inn (l.take k) x || (y == x)) := by
  unfold inn
  rw [take_snoc h, List.any_append]; simp
theorem inn_at {l : List Int} {x : Int} {k : Nat} (h : l[k]? = some x) : inn l x = true := inn_iff.mpr (List.mem_of_getElem? h)
theorem inP_snoc {l : List (Int × Nat)} {p : Int × Nat} {k : Nat} (h : k < l.length) : inP (l.take (k + 1)) p = (inP (l.take k) p || decide (l.getD k (0, 0) = p)) := by
  unfold inP
  rw [take_snocQ l k h, List.any_append]; simp
theorem inP_at {l : List (Int × Nat)} {p : Int × Nat} {k : Nat} (h : k < l.length) (e : l.getD k (0, 0) = p) : inP l p = true := by
  rw [inP_iff, ← e, List.getD_eq_getElem?_getD, List.getElem?_eq_getElem h]
  exact List.getElem_mem h
set_option maxHeartbeats 1600000 in
theorem idxI_any (A : Option Addr) (c n : Nat) (xs : List Int) (x : Int) (w : World) (hn : xs.length = n) (hn2 : n ≤ 100000) (hr : Row .i64 w A xs) :
    Calls Tryz.prog 69 #[.slice A n c, .int .i64 x] w fun e w' => (∃ j : Int, e = .returned (.int .i64 j) ∧ (j < 0 ∨ 0 ≤ j) ∧ inn xs x = decide (0 ≤ j)) ∧ Step w w' := by
  go_enter Tryz.func69, Tryz.ntmps69
  go_wp2
  go_loopw [8] (fun i wr => ∃ (k : Nat), k ≤ n ∧ i = .int .i64 k ∧ Hid (inn (xs.take k) x = false) ∧ Step w wr) (fun i _ => n - (intOf i).toNat)
  case atStart => exact ⟨0, Nat.zero_le _, rfl, Lib.hid rfl, Step.of inferInstance⟩
  case round =>
    obtain ⟨k, hk, rfl, HM, hS⟩ := hrel
    by_cases hlt : k < n
    · obtain ⟨ad, y, rfl, hab, hy, hc⟩ := (show Row .i64 wr A xs from hr.to).at (j := k) (by omega)
      have HT : Hid (inn (xs.take (k + 1)) x = (y == x)) := Lib.hid (by rw [inn_snoc hy, HM.out]; rfl)
      have HA : Hid (y = x → inn xs x = true) := Lib.hid (fun e => inn_at (e ▸ hy))
      clear hr HM hy
      by_cases h : x = y
      · subst h
        have HY : Hid (inn xs x = true) := Lib.hid (HA.out rfl)
        clear HA HT
        go_wp2
        go_ret
        exact ⟨⟨(k : Int), rfl, .inr (Int.natCast_nonneg k), by rw [HY.out, decide_eq_true (Int.natCast_nonneg k)]⟩, Step.of inferInstance⟩
      · have hb : (x == y) = false := by simpa using h
        have HN : Hid (inn (xs.take (k + 1)) x = false) := Lib.hid (by rw [HT.out]; simpa using (fun e => h e.symm))
        clear HA HT h
        go_wp2
        go_roundw
        case rel => exact ⟨k + 1, by omega, by go_num, HN, Step.of inferInstance⟩
        case measure => simp [intOf]; omega
    · have hkn : k = n := by omega
      subst hkn
      have HN : Hid (inn xs x = false) := Lib.hid (by rw [← HM.out, List.take_of_length_le (by omega)])
      clear hr HM
      go_wp2
      go_ret
      exact ⟨⟨-1, rfl, .inl (by decide), by rw [HN.out]; rfl⟩, Step.of inferInstance⟩
theorem conI_any (A : Option Addr) (c n : Nat) (xs : List Int) (x : Int) (w : World) (hn : xs.length = n) (hn2 : n ≤ 100000) (hr : Row .i64 w A xs) :
    Calls Tryz.prog 49 #[.slice A n c, .int .i64 x] w fun e w' => e = .returned (.bool (inn xs x)) ∧ Step w w' := by
  have cI := idxI_any A c n xs x w hn hn2 hr
  go_enter Tryz.func49, Tryz.ntmps49
  go_wp2_with (go_at_call 69; ((with_reducible refine (cI).mono ?_); rintro e w1 ⟨⟨j, rfl, hj, h2⟩, S1⟩))
  go_ret
  exact ⟨by rw [h2]; rfl, Step.of inferInstance⟩
/-- Two peers compared. -/
theorem eqQ (x x2 : Int) (y y2 : Nat) (w : World) : (Op.equalIn 10000 50 (.agg #[.int .i64 x, .int .u64 y]) (.agg #[.int .i64 x2, .int .u64 y2])).run Tryz.prog w = .ok (decide ((x, y) = (x2, y2))) w := by
  go_simp
  by_cases h1 : x = x2
  · by_cases h2 : y = y2
    · simp [h1, h2]
    · have : ¬ (y : Int) = y2 := by omega
      simp [h1, h2, this]
  · simp [h1]
set_option maxHeartbeats 1600000 in
theorem idxP_any (A : Option Addr) (c n : Nat) (ps : List (Int × Nat)) (x : Int) (y : Nat) (w : World) (hn : ps.length = n) (hn2 : n ≤ 100000) (hr : RowQ w A ps) :
    Calls Tryz.prog 52 #[.slice A n c, .agg #[.int .i64 x, .int .u64 y]] w fun e w' => (∃ j : Int, e = .returned (.int .i64 j) ∧ (j < 0 ∨ 0 ≤ j) ∧ inP ps (x, y) = decide (0 ≤ j)) ∧ Step w w' := by
  have hG0 : (w.alloc (.cells #[.int .i64 x, .int .u64 y] 50 (0, 0))).cell? ⟨w.heap.size, 0, none⟩ = some (.int .i64 x) := by simp
  have hG1 : (w.alloc (.cells #[.int .i64 x, .int .u64 y] 50 (0, 0))).cell? ⟨w.heap.size, 1, none⟩ = some (.int .u64 y) := by simp
  go_enter Tryz.func52, Tryz.ntmps52
  go_wp2
  go_loopw [8] (fun i wr => ∃ (k : Nat), k ≤ n ∧ i = .int .i64 k ∧ Hid (inP (ps.take k) (x, y) = false) ∧ Step (w.alloc (.cells #[.int .i64 x, .int .u64 y] 50 (0, 0))) wr) (fun i _ => n - (intOf i).toNat)
  case atStart => exact ⟨0, Nat.zero_le _, rfl, Lib.hid rfl, Step.of inferInstance⟩
  case round =>
    obtain ⟨k, hk, rfl, HM, hS⟩ := hrel
    by_cases hlt : k < n
    · obtain ⟨B, O, rfl, hab, hc1, hc2⟩ := (hr.to : RowQ wr A ps) k (by omega)
      have hg0 : wr.cell? ⟨w.heap.size, 0, none⟩ = some (.int .i64 x) := (hS.h.cell (p := ⟨w.heap.size, 0, none⟩) (by simp)).trans hG0
      have hg1 : wr.cell? ⟨w.heap.size, 1, none⟩ = some (.int .u64 y) := (hS.h.cell (p := ⟨w.heap.size, 1, none⟩) (by simp)).trans hG1
      obtain ⟨x2, hx⟩ : ∃ x : Int, Hid (x = (ps.getD k (0, 0)).1) := ⟨_, Lib.hid rfl⟩
      obtain ⟨y2, hy⟩ : ∃ y : Nat, Hid (y = (ps.getD k (0, 0)).2) := ⟨_, Lib.hid rfl⟩
      rw [← hx.out] at hc1
      rw [← hy.out] at hc2
      have HT : Hid (inP (ps.take (k + 1)) (x, y) = decide ((x2, y2) = (x, y))) := Lib.hid (by rw [inP_snoc (by omega), HM.out, hx.out, hy.out]; rfl)
      have HA : Hid ((x2, y2) = (x, y) → inP ps (x, y) = true) := Lib.hid (fun e => inP_at (k := k) (by omega) (by rw [← e, hx.out, hy.out]))
      have hE := fun w => eqQ x x2 y y2 w
      clear hr HM hx hy hG0 hG1
      cases hb : decide ((x2, y2) = (x, y))
      · have HN : Hid (inP (ps.take (k + 1)) (x, y) = false) := Lib.hid (by rw [HT.out, hb])
        have hb2 : decide ((x, y) = (x2, y2)) = false := decide_eq_false (fun e => of_decide_eq_false hb e.symm)
        rw [hb2] at hE
        clear hb hb2 HA HT
        go_wp2
        go_quiet (fail)
        go_wp2
        go_roundw
        case rel => exact ⟨k + 1, by omega, by go_num, HN, Step.of inferInstance⟩
        case measure => simp [intOf]; omega
      · have HY : Hid (inP ps (x, y) = true) := Lib.hid (HA.out (of_decide_eq_true hb))
        have hb2 : decide ((x, y) = (x2, y2)) = true := decide_eq_true (of_decide_eq_true hb).symm
        rw [hb2] at hE
        clear hb hb2 HA HT
        go_wp2
        go_quiet (fail)
        go_wp2
        go_ret
        exact ⟨⟨(k : Int), rfl, .inr (Int.natCast_nonneg k), by rw [HY.out, decide_eq_true (Int.natCast_nonneg k)]⟩, Step.of inferInstance⟩
    · have hkn : k = n := by omega
      subst hkn
      have HN : Hid (inP ps (x, y) = false) := Lib.hid (by rw [← HM.out, List.take_of_length_le (by omega)])
      clear hr HM hG0 hG1
      go_wp2
      go_ret
      exact ⟨⟨-1, rfl, .inl (by decide), by rw [HN.out]; rfl⟩, Step.of inferInstance⟩
theorem conP_any (A : Option Addr) (c n : Nat) (ps : List (Int × Nat)) (x : Int) (y : Nat) (w : World) (hn : ps.length = n) (hn2 : n ≤ 100000) (hr : RowQ w A ps) :
    Calls Tryz.prog 27 #[.slice A n c, .agg #[.int .i64 x, .int .u64 y]] w fun e w' => e = .returned (.bool (inP ps (x, y))) ∧ Step w w' := by
  have cI := fun (w : World) (h : RowQ w A ps) => idxP_any A c n ps x y w hn hn2 h
  have hG0 : (w.alloc (.cells #[.int .i64 x, .int .u64 y] 50 (0, 0))).cell? ⟨w.heap.size, 0, none⟩ = some (.int .i64 x) := by simp
  go_enter Tryz.func27, Tryz.ntmps27
  go_wp2_with (go_at_call 52; ((with_reducible refine (cI _ hr.to).mono ?_); rintro e w1 ⟨⟨j, rfl, hj, h2⟩, S1⟩))
  go_ret
  exact ⟨by rw [h2]; rfl, Step.of inferInstance⟩
theorem here_one (i x : Int) (y : Nat) (w : World) :
    Calls Tryz.prog 51 #[.int .i64 i, .agg #[.int .i64 x, .int .u64 y]] w fun e w' => e = .returned (.bool (i == x)) ∧ Step w w' := by
  generalize hb : (i == x) = b
  go_enter Tryz.func51, Tryz.ntmps51
  go_wp2
  go_ret
  exact ⟨rfl, Step.of inferInstance⟩
theorem ids_take {ps : List (Int × Nat)} {k : Nat} (h : k < ps.length) : ids (ps.take (k + 1)) = ids (ps.take k) ++ [(ps.getD k (0, 0)).1] := by
  rw [take_snocQ ps k h]; simp
set_option maxHeartbeats 1600000 in
/-- Are numbers the IDs of peers? -/
theorem equal_any (A D : Option Addr) (c d n m : Nat) (xs : List Int) (ps : List (Int × Nat)) (w : World) (hn : xs.length = n) (hm : ps.length = m) (hn2 : n ≤ 100000) (hr : Row .i64 w A xs) (hq : RowQ w D ps) :
    Calls Tryz.prog 50 #[.slice A n c, .slice D m d, .func (.func 51) #[] #[]] w fun e w' => e = .returned (.bool (decide (ids ps = xs))) ∧ Step w w' := by
  by_cases hnm : n = m
  · subst hnm
    go_enter Tryz.func50, Tryz.ntmps50
    go_wp2
    go_loopw [17] (fun i wr => ∃ (k : Nat), k ≤ n ∧ i = .int .i64 k ∧ Hid (ids (ps.take k) = xs.take k) ∧ Step w wr) (fun i _ => n - (intOf i).toNat)
    case atStart => exact ⟨0, Nat.zero_le _, rfl, Lib.hid rfl, Step.of inferInstance⟩
    case round =>
      obtain ⟨k, hk, rfl, HM, hS⟩ := hrel
      by_cases hlt : k < n
      · obtain ⟨ad, z, rfl, hab, hz, hc⟩ := (show Row .i64 wr A xs from hr.to).at (j := k) (by omega)
        obtain ⟨B, O, rfl, hab2, hc1, hc2⟩ := (hq.to : RowQ wr D ps) k (by omega)
        obtain ⟨x, hx⟩ : ∃ x : Int, Hid (x = (ps.getD k (0, 0)).1) := ⟨_, Lib.hid rfl⟩
        obtain ⟨y, hy⟩ : ∃ y : Nat, Hid (y = (ps.getD k (0, 0)).2) := ⟨_, Lib.hid rfl⟩
        rw [← hx.out] at hc1
        rw [← hy.out] at hc2
        have HT : Hid (z = x → ids (ps.take (k + 1)) = xs.take (k + 1)) := Lib.hid (fun e => by rw [ids_take (by omega), take_snoc hz, HM.out, ← hx.out, e])
        have HF : Hid (ids ps = xs → z = x) := Lib.hid (fun e => by
          have h1 : (ids ps)[k]? = some (ps.getD k (0, 0)).1 := by
            unfold ids
            rw [List.getElem?_map, List.getElem?_eq_getElem (by omega), List.getD_eq_getElem?_getD, List.getElem?_eq_getElem (by omega)]; rfl
          rw [e, hz] at h1
          rw [hx.out]; exact Option.some.inj h1)
        have cH := fun w : World => here_one z x y w
        clear hr hq HM hx hy hz
        by_cases h : z = x
        · have hb : (z == x) = true := by simpa using h
          rw [hb] at cH
          have HN := Lib.hid (HT.out h)
          clear HT HF h hb
          go_wp2_with (go_at_call 51; ((with_reducible refine (cH _).mono ?_); rintro e w1 ⟨rfl, S1⟩))
          go_roundw
          case rel => exact ⟨k + 1, by omega, by go_num, HN, Step.of inferInstance⟩
          case measure => simp [intOf]; omega
        · have hb : (z == x) = false := by simpa using h
          rw [hb] at cH
          have HN : Hid (decide (ids ps = xs) = false) := Lib.hid (decide_eq_false (fun e => h (HF.out e)))
          clear HT HF h hb
          go_wp2_with (go_at_call 51; ((with_reducible refine (cH _).mono ?_); rintro e w1 ⟨rfl, S1⟩))
          go_ret
          exact ⟨by rw [HN.out]; rfl, Step.of inferInstance⟩
      · have hkn : k = n := by omega
        subst hkn
        have HN : Hid (decide (ids ps = xs) = true) := Lib.hid (decide_eq_true (by
          have := HM.out
          rwa [List.take_of_length_le (by omega), List.take_of_length_le (by omega)] at this))
        clear hr hq HM
        go_wp2
        go_ret
        exact ⟨by rw [HN.out]; rfl, Step.of inferInstance⟩
  · have HN : Hid (decide (ids ps = xs) = false) := Lib.hid (decide_eq_false (fun e => hnm (by rw [← hn, ← e, ← hm]; simp)))
    have hb : ((n : Int) == m) = false := by simp; omega
    clear hr hq hnm hn hm
    go_enter Tryz.func50, Tryz.ntmps50
    go_wp2
    go_ret
    exact ⟨by rw [HN.out]; rfl, Step.of inferInstance⟩
end Bl
end Go.Proofs.YtfeahgcigmoijaaGreatDoor
