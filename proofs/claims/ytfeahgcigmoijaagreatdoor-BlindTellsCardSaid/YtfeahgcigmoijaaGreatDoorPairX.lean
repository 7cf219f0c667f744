/- The example of two peers, reckoned out. No condition. -/
import Derived.Test.YtfeahgcigmoijaaGreatDoorPairB
namespace Go.Proofs.YtfeahgcigmoijaaGreatDoor
open Go.RowKit Go.Lib
namespace Pe
open SlR Sh Sp Mc Pg VecC VecE
theorem btx_l : btx lbl 0 = [112, 97, 105, 114, 0, 0, 0, 0, 0] := by decide
theorem splS : spl 50031545098999707 8 = [0, 177, 191, 108, 217, 48, 151, 155] := by decide
set_option maxRecDepth 100000 in
theorem inS : Sh.sum (msk 54 (fill [0, 177, 191, 108, 217, 48, 151, 155]) ++ [112, 97, 105, 114, 0, 0, 0, 0, 0]) = [245, 19, 160, 199, 227, 93, 252, 224, 7, 60, 159, 4, 95, 145, 244, 145, 2, 50, 167, 212, 53, 226, 47, 77, 220, 241, 42, 175, 230, 119, 86, 81] := by
  rw [← Ev.sumF_eq]
  decide +kernel
set_option maxRecDepth 100000 in
theorem blkS : blkP 50031545098999707 lbl 0 = [127, 132, 87, 123, 228, 220, 232, 72, 57, 142, 177, 144, 216, 76, 93, 100, 167, 218, 70, 211, 195, 200, 160, 80, 146, 203, 249, 230, 50, 250, 70, 52] := by
  unfold blkP
  rw [btx_l, splS]
  have e : blk [0, 177, 191, 108, 217, 48, 151, 155] = fill [0, 177, 191, 108, 217, 48, 151, 155] := rfl
  unfold hm
  rw [e, inS, ← Ev.sumF_eq]
  decide +kernel
theorem wS0 : (wN 3 50031545098999707)[0]? = some 2139379579 := by
  have h : wP 50031545098999707 lbl 0 = 2139379579 := by show wd (blkP 50031545098999707 lbl 0) 0 = _; rw [blkS]; rfl
  show some ((wP 50031545098999707 lbl 0 : Nat) : Int) = _
  rw [h]; rfl
/-- The two of the example. -/
abbrev two : List (Int × Nat) := [(1, 243), (4, 2187)]
theorem p5 : FpM.fPow 3 5 = 243 := by rw [FpM.fPow_eq]; decide +kernel
theorem p7 : FpM.fPow 3 7 = 2187 := by rw [FpM.fPow_eq]; decide +kernel
theorem s5 : FpM.fPow 2187 5 = 50031545098999707 := by rw [FpM.fPow_eq]; decide +kernel
theorem s7 : FpM.fPow 243 7 = 50031545098999707 := by rw [FpM.fPow_eq]; decide +kernel
theorem two_may : mayF 0 two = true := by decide
theorem two_q : Q64 two := fun k => by
  match k with
  | 0 => decide
  | 1 => decide
  | k + 2 => exact (by decide : 0 < 18446744073709551616)
theorem rowX : rowP (wN 3) 1 5 two 3 = vAdd [0, 0, 0] (wN 3 50031545098999707) := by
  show addP (wN 3) 1 5 (addP (wN 3) 1 5 [0, 0, 0] (1, 243)) (4, 2187) = _
  unfold addP
  rw [if_pos rfl, if_neg (by decide), if_pos (by decide), s5]
theorem rowY : rowP (wN 3) 4 7 two 3 = vSub [0, 0, 0] (wN 3 50031545098999707) := by
  show addP (wN 3) 4 7 (addP (wN 3) 4 7 [0, 0, 0] (1, 243)) (4, 2187) = _
  unfold addP
  rw [if_pos rfl, if_neg (by decide), if_neg (by decide), s7]
theorem sumXY : vAdd (rowP (wN 3) 1 5 two 3) (rowP (wN 3) 4 7 two 3) = [0, 0, 0] := by
  rw [rowX, rowY]
  have hw := Is.self (wN_R 3 50031545098999707)
  exact (((Is.zero 3).add hw).add ((Is.zero 3).sub hw)).eq (Is.zero 3) fun j _ => by
    show (0 + (wN 3 50031545098999707).getD j 0 + (0 - (wN 3 50031545098999707).getD j 0)) % 4294967296 = 0 % 4294967296
    omega
theorem neX : rowP (wN 3) 1 5 two 3 ≠ [0, 0, 0] := fun h => by
  rw [rowX, show ([0, 0, 0] : List Int) = List.replicate 3 0 from rfl, zeros_add (wN_R 3 _).1 (wN_R 3 _).2] at h
  have h0 := wS0
  rw [h] at h0
  simp at h0
theorem lit64 (w : World) (H : Nat) (t : TypeId) (h : w.heap.size = H) : RowQ (w.alloc (.cells #[.int .i64 64, .int .u64 1] t (0, 0))) (some ⟨H, 0, none⟩) [(64, 1)] := RowQ.lit1 w H t (64, 1) h
theorem lit3z (w : World) (H : Nat) (t : TypeId) (h : w.heap.size = H) : Row .u32 (w.alloc (.cells #[.int .u32 0, .int .u32 0, .int .u32 0] t (0, 0))) (some ⟨H, 0, none⟩) [0, 0, 0] := Row.litN w H t [0, 0, 0] h
end Pe
end Go.Proofs.YtfeahgcigmoijaaGreatDoor
