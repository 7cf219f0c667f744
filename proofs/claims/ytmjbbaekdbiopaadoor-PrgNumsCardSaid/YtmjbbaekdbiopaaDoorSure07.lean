/- sure of law 07: true whatever comes. Conditions: errors.errorType and sha.k read as laid. -/
import Derived.Test.YtmjbbaekdbiopaaDoorPkP
import Derived.Test.YtmjbbaekdbiopaaDoorNumE07
import Derived.Deep.RegionHeld3
namespace Go.Proofs.YtmjbbaekdbiopaaDoor
open Go.RowKit Go.Lib
namespace Pg
open SlR Sh Sp Mc
/-- The label 'a'. -/
def sA : ByteArray := ⟨#[97]⟩
theorem lab_a : lab sA = true := by decide
theorem lab_n : lab ⟨#[10]⟩ = false := by decide
set_option maxRecDepth 100000 in
theorem in5 : Sh.sum (msk 54 (fill [0, 0, 0, 0, 0, 0, 0, 5]) ++ [97, 0, 0, 0, 0, 0]) = [178, 44, 220, 245, 7, 167, 35, 139, 108, 54, 38, 123, 16, 22, 225, 232, 201, 98, 91, 28, 225, 146, 207, 238, 203, 158, 176, 45, 177, 159, 29, 21] := by
  rw [← Ev.sumF_eq]
  decide +kernel
set_option maxRecDepth 100000 in
theorem in6 : Sh.sum (msk 54 (fill [0, 0, 0, 0, 0, 0, 0, 6]) ++ [97, 0, 0, 0, 0, 0]) = [34, 87, 251, 86, 244, 34, 246, 161, 131, 240, 106, 97, 217, 176, 196, 6, 95, 23, 240, 126, 238, 153, 142, 141, 105, 62, 243, 13, 127, 92, 222, 3] := by
  rw [← Ev.sumF_eq]
  decide +kernel
theorem btx_a : btx sA 0 = [97, 0, 0, 0, 0, 0] := by decide
theorem spl5 : spl 5 8 = [0, 0, 0, 0, 0, 0, 0, 5] := by decide
theorem spl6 : spl 6 8 = [0, 0, 0, 0, 0, 0, 0, 6] := by decide
set_option maxRecDepth 100000 in
theorem blk5 : blkP 5 sA 0 = [82, 147, 105, 148, 44, 71, 214, 208, 101, 226, 48, 41, 229, 186, 90, 72, 99, 182, 6, 78, 237, 81, 181, 59, 159, 19, 171, 163, 121, 120, 157, 140] := by
  unfold blkP
  rw [btx_a, spl5]
  have e : blk [0, 0, 0, 0, 0, 0, 0, 5] = fill [0, 0, 0, 0, 0, 0, 0, 5] := rfl
  unfold hm
  rw [e, in5, ← Ev.sumF_eq]
  decide +kernel
set_option maxRecDepth 100000 in
theorem blk6 : blkP 6 sA 0 = [117, 226, 23, 131, 183, 154, 3, 37, 234, 12, 129, 171, 212, 34, 180, 133, 230, 176, 209, 36, 21, 50, 87, 233, 3, 168, 101, 10, 131, 125, 120, 113] := by
  unfold blkP
  rw [btx_a, spl6]
  have e : blk [0, 0, 0, 0, 0, 0, 0, 6] = fill [0, 0, 0, 0, 0, 0, 0, 6] := rfl
  unfold hm
  rw [e, in6, ← Ev.sumF_eq]
  decide +kernel
theorem wsP_at (x : Nat) (s : ByteArray) (n j : Nat) (h : j < n) : (wsP x s n).getD j 0 = wP x s j := by
  unfold wsP
  rw [List.getD_eq_getElem?_getD, List.getElem?_map, List.getElem?_range h]
  rfl
theorem w50 : wP 5 sA 0 = 1385392532 := by show wd (blkP 5 sA 0) 0 = _; rw [blk5]; rfl
theorem w51 : wP 5 sA 1 = 742905552 := by show wd (blkP 5 sA 0) 1 = _; rw [blk5]; rfl
theorem w60 : wP 6 sA 0 = 1977751427 := by show wd (blkP 6 sA 0) 0 = _; rw [blk6]; rfl
theorem ne56 : wsP 5 sA 9 ≠ wsP 6 sA 9 := fun h => by
  have h0 := wsP_at 5 sA 9 0 (by omega)
  rw [h, wsP_at 6 sA 9 0 (by omega), w50, w60] at h0
  omega
theorem numP_lt (x : Nat) (s : ByteArray) (i : Nat) : numP x s i < 2305843009213693951 := Nat.mod_lt _ (by decide)
set_option maxHeartbeats 6400000 in
set_option maxRecDepth 1000000 in
theorem sure_any (w : World) (hA : ErrAs.Laid w) (hL : LaidK w) : Calls Tryd.prog 45 #[] w fun e w' => e = .returned (.bool true) ∧ Step w w' := by
  have d5 : ∀ (w : World), LaidK w → Calls Tryd.prog 46 #[.int .u64 5, .string sA, .int .i64 9] w fun e w' => ∃ g, e = .returned (.tuple #[.slice (some ⟨g, 0, none⟩) 9 9, .nilIface]) ∧ R32 w' (some ⟨g, 0, none⟩) (wsP 5 sA 9) ∧ Step w w' := fun (w : World) (h : LaidK w) => words_yes 5 sA 9 w (Lib.hid (by omega)) lab_a (by omega) h
  have d6 : ∀ (w : World), LaidK w → Calls Tryd.prog 46 #[.int .u64 6, .string sA, .int .i64 9] w fun e w' => ∃ g, e = .returned (.tuple #[.slice (some ⟨g, 0, none⟩) 9 9, .nilIface]) ∧ R32 w' (some ⟨g, 0, none⟩) (wsP 6 sA 9) ∧ Step w w' := fun (w : World) (h : LaidK w) => words_yes 6 sA 9 w (Lib.hid (by omega)) lab_a (by omega) h
  have dn : ∀ (w : World), Calls Tryd.prog 48 #[.int .u64 5, .string ⟨#[10]⟩, .int .i64 0] w fun e w' => e = .returned (.tuple #[.int .u64 0, errArg]) ∧ Step w w' := fun (w : World) => num_no 5 ⟨#[10]⟩ 0 w (.inl lab_n)
  have dc : ∀ (w : World), LaidK w → Calls Tryd.prog 50 #[.int .u64 5, .string sA] w fun e w' => e = .returned (.tuple #[.int .u64 (numP 5 sA 0 : Nat), .nilIface]) ∧ Step w w' := fun (w : World) (h : LaidK w) => child_yes 5 sA w (Lib.hid (by omega)) lab_a h
  have nE := fun (w : World) h => Num07.some_ 1 w h
  have hq : Hid (decide ((numP 5 sA 0 : Int) < 2305843009213693951) = true) := Lib.hid (by have := numP_lt 5 sA 0; simp; omega)
  have l5 := wsP_len 5 sA 9
  have l6 := wsP_len 6 sA 9
  have hne := ne56
  have g0 : (wsP 5 sA 9).getD 0 0 = 1385392532 := by rw [wsP_at _ _ _ _ (by omega), w50]
  have g1 : (wsP 5 sA 9).getD 1 0 = 742905552 := by rw [wsP_at _ _ _ _ (by omega), w51]
  unfold errArg at dn
  unfold sA at d5 d6 dc hq hne l5 l6 g0 g1
  generalize numP 5 ⟨#[97]⟩ 0 = q at dc hq
  generalize wsP 5 ⟨#[97]⟩ 9 = X at d5 hne l5 g0 g1
  generalize wsP 6 ⟨#[97]⟩ 9 = Y at d6 hne l6
  have s1 := fun (A D : Option Addr) (w : World) (h1 : R32 w A X) (h2 : R32 w D X) => same A D 9 9 9 9 X X w l5 l5 h1 h2 (by omega) (by omega) true (by simp)
  have s2 := fun (A D : Option Addr) (w : World) (h1 : R32 w A X) (h2 : R32 w D Y) => same A D 9 9 9 9 X Y w l5 l6 h1 h2 (by omega) (by omega) false (by simpa using hne)
  clear hne
  have d5b := d5
  go_enter Tryd.func45, Tryd.ntmps45
  go_wp2_with (first
    | (go_at_call 46; ((with_reducible refine (d5 _ hL.to).mono ?_); rintro e w1 ⟨G1, rfl, R1, S1⟩; clear d5))
    | (go_at_call 46; ((with_reducible refine (d5b _ hL.to).mono ?_); rintro e w2 ⟨G2, rfl, R2, S2⟩))
    | (go_at_call 46; ((with_reducible refine (d6 _ hL.to).mono ?_); rintro e w3 ⟨G3, rfl, R3, S3⟩))
    | (go_at_call 48; ((with_reducible refine (dn _).mono ?_); rintro e w4 ⟨rfl, S4⟩))
    | (go_at_call 50; ((with_reducible refine (dc _ hL.to).mono ?_); rintro e w5 ⟨rfl, S5⟩)))
  obtain ⟨_, e0, b0, c0⟩ := Row.atN R1 (j := 0) (by omega)
  cases e0
  obtain ⟨_, e1, b1, c1⟩ := Row.atN R1 (j := 1) (by omega)
  cases e1
  rw [Addr.add_mid] at c0 c1
  rw [g0] at c0
  rw [g1] at c1
  have c0 : w1.cell? ⟨G1, 0, none⟩ = some (.int .u32 1385392532) := c0
  have c1 : w1.cell? ⟨G1, 1, none⟩ = some (.int .u32 742905552) := c1
  have b0 : G1 < w1.heap.size := b0
  have hq2 := hq.out
  rw [decide_eq_true_eq] at hq2
  have t1 := fun (w : World) (h1 : R32 w (some ⟨G1, 0, none⟩) X) h2 => s1 (some ⟨G1, 0, none⟩) (some ⟨G2, 0, none⟩) w h1 h2
  have t2 := fun (w : World) (h1 : R32 w (some ⟨G1, 0, none⟩) X) h2 => s2 (some ⟨G1, 0, none⟩) (some ⟨G3, 0, none⟩) w h1 h2
  clear d5b d6 dn dc g0 g1 b1 s1 s2 l5 l6 hq
  go_region_held3 (fun w' => w'.cell? ⟨G1, 0, none⟩ = some (.int .u32 1385392532) ∧ w'.cell? ⟨G1, 1, none⟩ = some (.int .u32 742905552) ∧ Step w1 w')
    (exact ⟨((Step.of (w := w1) inferInstance).h.cell (p := ⟨G1, 0, none⟩) b0).trans c0, ((Step.of (w := w1) inferInstance).h.cell (p := ⟨G1, 1, none⟩) b0).trans c1, Step.of inferInstance⟩)
    (first
      | (go_at_call 32; ((with_reducible refine (t1 _ R1.to R2.to).mono ?_); rintro e w6 ⟨rfl, S6⟩))
      | (go_at_call 32; ((with_reducible refine (t2 _ R1.to R3.to).mono ?_); rintro e w7 ⟨rfl, S7⟩))
      | (go_at_call 51; ((with_reducible refine (nE _ hA.to).mono ?_); rintro e w8 ⟨rfl, S8⟩)))
  go_wp2
  go_ret
  exact ⟨rfl, Step.of inferInstance⟩
end Pg
end Go.Proofs.YtmjbbaekdbiopaaDoor
