/- slices.Equal at rows of 32 bits, vec.Same, and the document's own Same: whether two lists are the same. Condition: lengths below 2^31. -/
import Derived.Test.YtfeahgcigmoijaaGreatDoorPkA
import Derived.Test.YtfeahgcigmoijaaGreatDoorProg
import Derived.RegionTactic
namespace Go.Proofs.YtfeahgcigmoijaaGreatDoor
open Go.RowKit Go.Lib
namespace SlEq
open SlR
theorem take_eq_all {xs ys : List Int} {n : Nat} (hx : xs.length = n) (hy : ys.length = n) (h : xs.take n = ys.take n) : xs = ys := by
  rwa [List.take_of_length_le (by omega), List.take_of_length_le (by omega)] at h
theorem ne_at {xs ys : List Int} {k : Nat} {x y : Int} (hx : xs[k]? = some x) (hy : ys[k]? = some y) (h : x ≠ y) : xs ≠ ys := by
  rintro rfl; rw [hx] at hy; exact h (Option.some.inj hy)
set_option maxHeartbeats 400000 in
theorem equal_any (A D : Option Addr) (c d n m B : Nat) (xs ys : List Int) (w : World) (hxn : xs.length = n) (hym : ys.length = m) (hx : Rd .u32 w B A xs) (hy : Rd .u32 w B D ys) (hl : n ≤ 2000000000) (hl2 : m ≤ 2000000000) :
    Calls Tryz.prog 38 #[.slice A n c, .slice D m d] w (Qt (.bool (decide (xs = ys))) w) := by
  by_cases hnm : n = m
  · subst hnm
    go_enter Tryz.func38, Tryz.ntmps38
    go_wp2
    go_loopw [13] (fun i wr => ∃ k t : Nat, k ≤ n ∧ i = .int .i64 k ∧ wr = w.drewN t ∧ xs.take k = ys.take k) (fun i _ => n - (intOf i).toNat)
    case atStart => exact ⟨0, 0, Nat.zero_le _, rfl, rfl, by simp⟩
    case round =>
      obtain ⟨k, t, hk, rfl, rfl, hp⟩ := hrel
      have HP := Lib.hid hp
      clear hp
      by_cases hlt : k < n
      · obtain ⟨ad, x, rfl, hab, hxk, hxc⟩ := hx.at (j := k) (by omega)
        obtain ⟨bd, y, rfl, hbb, hyk, hyc⟩ := hy.at (j := k) (by omega)
        have HX := Lib.hid hxk
        have HY := Lib.hid hyk
        clear hxk hyk hx hy
        by_cases hxy : x = y
        · go_wp2
          go_region
          go_wp2
          go_roundw
          case rel => exact ⟨k + 1, t + 1, by omega, by go_num, rfl, by rw [take_snoc HX.out, take_snoc HY.out, HP.out, hxy]⟩
          case measure => simp [intOf]; omega
        · go_wp2
          go_region
          go_wp2
          go_ret
          exact ⟨by rw [decide_eq_false (ne_at HX.out HY.out hxy)]; rfl, t + 1, rfl⟩
      · have hkn : k = n := by omega
        subst hkn
        clear hx hy
        go_wp2
        go_ret
        exact ⟨by rw [decide_eq_true (take_eq_all hxn hym HP.out)]; rfl, t, rfl⟩
  · have hne : ¬ (n : Int) = (m : Int) := by omega
    go_enter Tryz.func38, Tryz.ntmps38
    go_wp2
    go_ret
    exact ⟨by rw [decide_eq_false (fun h => hnm (by rw [← hxn, ← hym, h]))]; rfl, 0, rfl⟩
theorem same_any (A D : Option Addr) (c d n m B : Nat) (xs ys : List Int) (w : World) (hxn : xs.length = n) (hym : ys.length = m) (hx : Rd .u32 w B A xs) (hy : Rd .u32 w B D ys) (hl : n ≤ 2000000000) (hl2 : m ≤ 2000000000) :
    Calls Tryz.prog 17 #[.slice A n c, .slice D m d] w (Qt (.bool (decide (xs = ys))) w) := by
  go_enter Tryz.func17, Tryz.ntmps17
  go_wp2_with (go_at_call 38; refine (equal_any A D c d n m B xs ys _ hxn hym hx hy hl hl2).mono ?_; rintro e w' ⟨rfl, t, rfl⟩)
  go_ret
  exact ⟨rfl, t, rfl⟩
set_option maxHeartbeats 400000 in
theorem ref_any (A D : Option Addr) (c d n m B : Nat) (xs ys : List Int) (w : World) (hxn : xs.length = n) (hym : ys.length = m) (hx : Rd .u32 w B A xs) (hy : Rd .u32 w B D ys) (hl : n ≤ 2000000000) (hl2 : m ≤ 2000000000) :
    Calls Tryz.prog 13 #[.slice A n c, .slice D m d] w (Qt (.bool (decide (xs = ys))) w) := by
  by_cases hnm : n = m
  · subst hnm
    go_enter Tryz.func13, Tryz.ntmps13
    go_wp2
    go_loopw [5] (fun i wr => ∃ k t : Nat, k ≤ n ∧ i = .int .i64 k ∧ wr = w.drewN t ∧ xs.take k = ys.take k) (fun i _ => n - (intOf i).toNat)
    case atStart => exact ⟨0, 0, Nat.zero_le _, rfl, rfl, by simp⟩
    case round =>
      obtain ⟨k, t, hk, rfl, rfl, hp⟩ := hrel
      have HP := Lib.hid hp
      clear hp
      by_cases hlt : k < n
      · obtain ⟨ad, x, rfl, hab, hxk, hxc⟩ := hx.at (j := k) (by omega)
        obtain ⟨bd, y, rfl, hbb, hyk, hyc⟩ := hy.at (j := k) (by omega)
        have HX := Lib.hid hxk
        have HY := Lib.hid hyk
        clear hxk hyk hx hy
        by_cases hxy : x = y
        · go_wp2
          go_region
          go_wp2
          go_roundw
          case rel => exact ⟨k + 1, t + 1, by omega, by go_num, rfl, by rw [take_snoc HX.out, take_snoc HY.out, HP.out, hxy]⟩
          case measure => simp [intOf]; omega
        · go_wp2
          go_region
          go_wp2
          go_ret
          exact ⟨by rw [decide_eq_false (ne_at HX.out HY.out hxy)]; rfl, t + 1, rfl⟩
      · have hkn : k = n := by omega
        subst hkn
        clear hx hy
        go_wp2
        go_ret
        exact ⟨by rw [decide_eq_true (take_eq_all hxn hym HP.out)]; rfl, t, rfl⟩
  · have hne : ¬ (n : Int) = (m : Int) := by omega
    go_enter Tryz.func13, Tryz.ntmps13
    go_wp2
    go_ret
    exact ⟨by rw [decide_eq_false (fun h => hnm (by rw [← hxn, ← hym, h]))]; rfl, 0, rfl⟩
end SlEq
end Go.Proofs.YtfeahgcigmoijaaGreatDoor
