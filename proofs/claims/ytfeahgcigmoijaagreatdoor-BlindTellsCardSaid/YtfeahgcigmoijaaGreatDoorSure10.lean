/- sure of law 10. Conditions: errors.errorType and sha.k read as laid. -/
import Derived.Test.YtfeahgcigmoijaaGreatDoorPairX
import Derived.Test.YtfeahgcigmoijaaGreatDoorBlindD
import Derived.Test.YtfeahgcigmoijaaGreatDoorMapB
import Derived.Test.YtfeahgcigmoijaaGreatDoorNumE10
namespace Go.Proofs.YtfeahgcigmoijaaGreatDoor
open Go.RowKit Go.Lib
namespace Bl
open SlR Sh Sp Mc Pg VecC VecE Pe Mp
theorem btx_o : btx own 0 = [111, 119, 110, 0, 0, 0, 0, 0] := by decide
theorem spl9 : spl 9 8 = [0, 0, 0, 0, 0, 0, 0, 9] := by decide
set_option maxRecDepth 100000 in
theorem in9 : Sh.sum (msk 54 (fill [0, 0, 0, 0, 0, 0, 0, 9]) ++ [111, 119, 110, 0, 0, 0, 0, 0]) = [120, 206, 130, 194, 157, 250, 5, 93, 107, 74, 196, 255, 166, 122, 17, 78, 209, 154, 188, 162, 239, 182, 207, 227, 123, 22, 14, 136, 218, 166, 205, 139] := by
  rw [← Ev.sumF_eq]
  decide +kernel
set_option maxRecDepth 100000 in
theorem blk9 : blkP 9 own 0 = [190, 65, 145, 11, 176, 28, 227, 26, 22, 241, 99, 97, 67, 85, 227, 162, 240, 21, 5, 193, 229, 14, 31, 232, 53, 158, 99, 77, 53, 103, 3, 166] := by
  unfold blkP
  rw [btx_o, spl9]
  have e : blk [0, 0, 0, 0, 0, 0, 0, 9] = fill [0, 0, 0, 0, 0, 0, 0, 9] := rfl
  unfold hm
  rw [e, in9, ← Ev.sumF_eq]
  decide +kernel
theorem oN9 : oN 1 9 = [3191968011] := by
  have h : wP 9 own 0 = 3191968011 := by show wd (blkP 9 own 0) 0 = _; rw [blk9]; rfl
  show [((wP 9 own 0 : Nat) : Int)] = _
  rw [h]; rfl
theorem wN1 : wN 1 50031545098999707 = [2139379579] := by
  have h : wP 50031545098999707 lbl 0 = 2139379579 := by show wd (blkP 50031545098999707 lbl 0) 0 = _; rw [blkS]; rfl
  show [((wP 50031545098999707 lbl 0 : Nat) : Int)] = _
  rw [h]; rfl
theorem row1 : rowP (wN 1) 1 5 two 1 = [2139379579] := by
  show addP (wN 1) 1 5 (addP (wN 1) 1 5 [0] (1, 243)) (4, 2187) = _
  unfold addP
  rw [if_pos rfl, if_neg (by decide), if_pos (by decide), s5, wN1]; rfl
theorem row4 : rowP (wN 1) 4 7 two 1 = [2155587717] := by
  show addP (wN 1) 4 7 (addP (wN 1) 4 7 [0] (1, 243)) (4, 2187) = _
  unfold addP
  rw [if_pos rfl, if_neg (by decide), if_neg (by decide), s7, wN1]; rfl
theorem x10 : rowB 1 [10] 1 9 5 two = [1036380304] := by
  unfold rowB
  rw [oN9, row1]; rfl
/-- The example's seeds and keys. -/
abbrev sF : Int → Option Nat := upd (fun _ => none) 1 9
abbrev sG : Int → Option Nat := upd (fun _ => none) 4 7
theorem o10 : openF (oN 1) (wN 1) sF sG [1] two 1 two = [1036380294] := by
  show turn (oN 1) (wN 1) sF sG [1] two 1 (turn (oN 1) (wN 1) sF sG [1] two 1 [0] (1, 243)) (4, 2187) = _
  have h1 : turn (oN 1) (wN 1) sF sG [1] two 1 [0] (1, 243) = [3191968011] := by
    show vAdd [0] (oN 1 9) = _
    rw [oN9]; rfl
  rw [h1]
  show vSub [3191968011] (rowP (wN 1) 4 7 two 1) = _
  rw [row4]; rfl
theorem has10 : two.all (hasF sF sG [1]) = true := by decide
theorem none10 : two.all (hasF (fun _ => none) (fun _ => none) [1]) = false := by decide
theorem came10 : ids (hereF [1] two) = [1] := by decide
theorem not10 : ids (hereF [2] two) ≠ [2] := by decide
theorem litI (w : World) (H : Nat) (t : TypeId) (x : Int) (h : w.heap.size = H) : Row .i64 (w.alloc (.cells #[.int .i64 x] t (0, 0))) (some ⟨H, 0, none⟩) [x] := Row.lit1 w H t x h
set_option maxHeartbeats 6400000 in
set_option maxRecDepth 1000000 in
theorem sure_any (w : World) (hA : ErrAs.Laid w) (hL : LaidK w) : Calls Tryz.prog 4 #[] w fun e w' => e = .returned (.bool true) ∧ Step w w' := by
  have d5 : ∀ w : World, Calls Tryz.prog 15 #[.int .u64 5] w fun e w' => e = .returned (.int .u64 243) ∧ Step w w' := fun w => by
    have h := public_any 5 (Lib.hid (by omega)) w
    rw [p5] at h
    exact h
  have d7 : ∀ w : World, Calls Tryz.prog 15 #[.int .u64 7] w fun e w' => e = .returned (.int .u64 2187) ∧ Step w w' := fun w => by
    have h := public_any 7 (Lib.hid (by omega)) w
    rw [p7] at h
    exact h
  have dX : ∀ (A : Option Addr) (g : Nat) (w : World), Row .u32 w A [10] → RowQ w (some ⟨g, 0, none⟩) two → LaidK w → Calls Tryz.prog 5 #[.slice A 1 1, .int .i64 1, .int .u64 9, .int .u64 5, .slice (some ⟨g, 0, none⟩) 2 2] w (Yes w 1 [1036380304]) := fun A g w h1 h2 h3 => by
    have h := brow_yes A (some ⟨g, 0, none⟩) 1 2 1 2 [10] 1 9 5 two w rfl (by omega) (Lib.hid (by omega)) (Lib.hid (by omega)) rfl (by omega) h1 h2 (Lib.hid two_q) (Lib.hid two_may) (Lib.hid (by decide)) h3
    rw [x10] at h
    exact h.mono fun e w' ⟨A, c, h1, h2, h3⟩ => ⟨A, c, h1, Hdr.RowU.row h2, h3⟩
  have dO : ∀ (A : Option Addr) (g : Nat) (sv kv : Value) (w : World), Row .i64 w A [1] → RowQ w (some ⟨g, 0, none⟩) two → MapF w sv sF → MapF w kv sG → LaidK w → Calls Tryz.prog 10 #[.slice A 1 1, .slice (some ⟨g, 0, none⟩) 2 2, sv, kv, .int .i64 1] w (Yes w 1 [1036380294]) := fun A g sv kv w h1 h2 h3 h4 h5 => by
    have h := open_yes A (some ⟨g, 0, none⟩) 1 2 1 2 1 [1] two sv kv sF sG w rfl (by omega) rfl (by omega) h1 h2 (Lib.hid two_may) (Lib.hid came10) h3 h4 (by omega) h5 (Lib.hid has10)
    rwa [o10] at h
  have dN : ∀ (A : Option Addr) (g : Nat) (w : World), Row .i64 w A [1] → RowQ w (some ⟨g, 0, none⟩) two → LaidK w → Calls Tryz.prog 10 #[.slice A 1 1, .slice (some ⟨g, 0, none⟩) 2 2, .map none, .map none, .int .i64 1] w (None6 w) := fun A g w h1 h2 h5 =>
    open_none A (some ⟨g, 0, none⟩) 1 2 1 2 1 [1] two (.map none) (.map none) _ _ w rfl (by omega) rfl (by omega) h1 h2 (Lib.hid two_may) (Lib.hid came10) (MapF.nil w) (MapF.nil w) (by omega) h5 (Lib.hid none10)
  have dA : ∀ (A : Option Addr) (g : Nat) (w : World), Row .i64 w A [2] → RowQ w (some ⟨g, 0, none⟩) two → Calls Tryz.prog 10 #[.slice A 1 1, .slice (some ⟨g, 0, none⟩) 2 2, .map none, .map none, .int .i64 1] w (Err w) := fun A g w h1 h2 =>
    open_arg A (some ⟨g, 0, none⟩) 1 2 1 2 1 [2] two (.map none) (.map none) w rfl (by omega) rfl (by omega) h1 h2 (.inr (.inl not10))
  have n6 := fun (w : World) h => Num10.some_ 6 w h
  have n1 := fun (w : World) h => Num10.some_ 1 w h
  have dD : ∀ (A D : Option Addr) (c d : Nat) (w : World), Row .u32 w A [1036380304] → Row .u32 w D [1036380294] → Calls Tryz.prog 16 #[.slice A 1 c, .slice D 1 d] w (Yes w 1 [10]) := fun A D c d w h1 h2 =>
    VecE.sub A D c d 1 [1036380304] [1036380294] w rfl rfl h1 h2 (by omega)
  have e1 := fun (A D : Option Addr) (c d : Nat) (w : World) (h1 : Row .u32 w A [10]) (h2 : Row .u32 w D [10]) => VecE.same A D c d 1 1 [10] [10] w rfl rfl h1 h2 (by omega) (by omega) true (by simp)
  have e2 := fun (A D : Option Addr) (c d : Nat) (w : World) (h1 : Row .u32 w A [1036380304]) (h2 : Row .u32 w D [10]) => VecE.same A D c d 1 1 [1036380304] [10] w rfl rfl h1 h2 (by omega) (by omega) false (by simp)
  have hmm := @run_makeMap Tryz.prog
  go_enter Tryz.func4, Tryz.ntmps4
  go_wp2_with (first
    | (go_at_call 15; ((with_reducible refine (d5 _).mono ?_); rintro e w1 ⟨rfl, S1⟩))
    | (go_at_call 15; ((with_reducible refine (d7 _).mono ?_); rintro e w2 ⟨rfl, S2⟩; have RL : RowQ (w2.alloc (.cells #[.int .i64 1, .int .u64 243, .int .i64 4, .int .u64 2187] 50 (0, 0))) (some ⟨w2.heap.size, 0, none⟩) two := RowQ.lit2 w2 _ _ (1, 243) (4, 2187) rfl))
    | (go_at_call 5; ((with_reducible refine (dX _ _ _ (Row.lit1 _ _ _ 10 (by simp)) RL.to hL.to).mono ?_); rintro e w3 ⟨A3, c3, rfl, R3, S3⟩; have RC : Row .i64 (w3.alloc (.cells #[.int .i64 1] 3 (0, 0))) (some ⟨w3.heap.size, 0, none⟩) [1] := Row.lit1 w3 _ _ 1 rfl))
    | (refine ins (w3.alloc (.cells #[.int .i64 1] 3 (0, 0))) ((w3.alloc (.cells #[.int .i64 1] 3 (0, 0))).alloc (.map #[] 0)) rfl _ _ _ rfl (w3.heap.size + 1) 0 _ rfl (OwnM.made2 _ _ (by simp) (by simp)) (by omega) 1 (by unfold I64; omega) rfl 9 (by omega) rfl ?_; intro w4 M4 S4 G4)
    | (refine ins w4 (w4.alloc (.map #[] 0)) rfl _ _ _ rfl w4.heap.size 0 _ rfl (OwnM.made2 _ _ (by simp) (by simp)) (by omega) 4 (by unfold I64; omega) rfl 7 (by omega) rfl ?_; intro w5 M5 S5 G5; have F4 : MapF w5 _ sF := M4.to.mapF; have F5 : MapF w5 _ sG := M5.mapF)
    | (go_at_call 10; ((with_reducible refine (dO _ _ _ _ _ RC.to RL.to F4.to F5.to hL.to).mono ?_); rintro e w6 ⟨A6, c6, rfl, R6, S6⟩))
    | (go_at_call 16; ((with_reducible refine (dD _ _ _ _ _ R3.to R6.to).mono ?_); rintro e w7 ⟨A7, c7, rfl, R7, S7⟩))
    | (go_at_call 10; ((with_reducible refine (dN _ _ _ (Row.lit1 w7 _ _ 1 rfl) RL.to hL.to).mono ?_); rintro e w8 ⟨rfl, S8⟩))
    | (go_at_call 10; ((with_reducible refine (dA _ _ _ (Row.lit1 w8 _ _ 2 rfl) RL.to).mono ?_); rintro e w9 ⟨rfl, S9⟩))
    | (go_at_call 17; ((with_reducible refine (e2 _ _ _ _ _ R3.to R7.to).mono ?_); rintro e w' ⟨rfl, t2, rfl⟩))
    | (go_at_call 17; ((with_reducible refine (e1 _ _ _ _ _ R7.to (Row.lit1 _ _ _ 10 (by simp))).mono ?_); rintro e w' ⟨rfl, t1, rfl⟩))
    | (go_at_call 14; ((with_reducible refine (n6 _ hA.to).mono ?_); rintro e w10 ⟨rfl, S10⟩))
    | (go_at_call 14; ((with_reducible refine (n1 _ hA.to).mono ?_); rintro e w11 ⟨rfl, S11⟩)))
  go_ret
  exact ⟨rfl, Step.of inferInstance⟩
end Bl
end Go.Proofs.YtfeahgcigmoijaaGreatDoor
