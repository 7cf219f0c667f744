/- sure of law 02: true whatever comes. Condition: errors.errorType reads as laid. -/
import Derived.Test.YthplidolnffaaaaDoorVecE
import Derived.Test.YthplidolnffaaaaDoorNumE02
namespace Go.Proofs.YthplidolnffaaaaDoor
open Go.RowKit Go.Lib
namespace Sure02
open SlR VecC VecE ErrAs
theorem c_add (H : Nat) (w : World) (hH : w.heap.size = H) : Calls Tryd.prog 8 #[.slice (some ⟨H, 0, none⟩) 2 2, .slice (some ⟨(H + 1), 0, none⟩) 2 2] ((w.alloc (.cells #[.int .u32 4294967295, .int .u32 5] 23 (0, 0))).alloc (.cells #[.int .u32 1, .int .u32 2] 23 (0, 0))) (Yes ((w.alloc (.cells #[.int .u32 4294967295, .int .u32 5] 23 (0, 0))).alloc (.cells #[.int .u32 1, .int .u32 2] 23 (0, 0))) 2 [0, 7]) :=
  add _ _ 2 2 2 [4294967295, 5] [1, 2] _ rfl rfl (Row.to (Row.lit2 w H 23 4294967295 5 hH)) (Row.lit2 _ _ _ 1 2 (by simp [hH])) (by simp [Bits]) (by omega)
theorem c_sub (H : Nat) (w : World) (hH : w.heap.size = H) : Calls Tryd.prog 10 #[.slice (some ⟨H, 0, none⟩) 1 1, .slice (some ⟨(H + 1), 0, none⟩) 1 1] ((w.alloc (.cells #[.int .u32 0] 23 (0, 0))).alloc (.cells #[.int .u32 1] 23 (0, 0))) (Yes ((w.alloc (.cells #[.int .u32 0] 23 (0, 0))).alloc (.cells #[.int .u32 1] 23 (0, 0))) 1 [4294967295]) :=
  sub _ _ 1 1 1 [0] [1] _ rfl rfl (Row.to (Row.lit1 w H 23 0 hH)) (Row.lit1 _ _ _ 1 (by simp [hH])) (by omega)
theorem c_times (H : Nat) (w : World) (hH : w.heap.size = H) : Calls Tryd.prog 11 #[.slice (some ⟨H, 0, none⟩) 1 1, .int .u32 5] (w.alloc (.cells #[.int .u32 3] 23 (0, 0))) (Yes (w.alloc (.cells #[.int .u32 3] 23 (0, 0))) 1 [15]) :=
  times _ 1 1 5 [3] _ rfl (Row.lit1 _ _ _ 3 hH) (by omega)
theorem c_sum (H : Nat) (w : World) (hH : w.heap.size = H) : Calls Tryd.prog 16 #[.slice (some ⟨(H + 1 + 1), 0, none⟩) 2 2, .int .i64 1] (((w.alloc (.cells #[.int .u32 1] 23 (0, 0))).alloc (.cells #[.int .u32 2] 23 (0, 0))).alloc (.cells #[.slice (some ⟨H, 0, none⟩) 1 1, .slice (some ⟨(H + 1), 0, none⟩) 1 1] 22 (0, 0))) (Yes (((w.alloc (.cells #[.int .u32 1] 23 (0, 0))).alloc (.cells #[.int .u32 2] 23 (0, 0))).alloc (.cells #[.slice (some ⟨H, 0, none⟩) 1 1, .slice (some ⟨(H + 1), 0, none⟩) 1 1] 22 (0, 0))) 1 [3]) :=
  sum _ 2 1 2 [[1], [2]] _ rfl (by omega) (Rows2.two _ _ 1 1 1 1 (H + 1 + 1) [1] [2] _ rfl rfl (Row.to (Row.lit1 w H 23 1 hH)) (Row.lit1 _ _ _ 2 (by simp [hH])) (by simp [hH])) (by omega) (by simp)
theorem c_addNo (H : Nat) (w : World) (hH : w.heap.size = H) : Calls Tryd.prog 8 #[.slice (some ⟨H, 0, none⟩) 1 1, .slice none 0 0] (w.alloc (.cells #[.int .u32 1] 23 (0, 0))) (Err (w.alloc (.cells #[.int .u32 1] 23 (0, 0)))) :=
  addNo _ _ 1 0 1 0 [1] [] _ rfl rfl (Row.lit1 _ _ _ 1 hH) Row.nil (by omega)
theorem c_zero (w : World) : Calls Tryd.prog 14 #[.int .i64 2] w (Yes w 2 [0, 0]) := zero 2 (by omega) w
theorem c_zeroNo (w : World) : Calls Tryd.prog 14 #[.int .i64 33] w (Err w) := zeroNo 33 (by omega) w
theorem c_same1 (A : Option Addr) (c : Nat) (a : Int) (H : Nat) (w : World) (hH : w.heap.size = H) (h : Row .u32 w A [a]) : Calls Tryd.prog 15 #[.slice A 1 c, .slice (some ⟨H, 0, none⟩) 1 1] (w.alloc (.cells #[.int .u32 a] 23 (0, 0))) fun e w' => e = .returned (.bool true) ∧ ∃ t, w' = (w.alloc (.cells #[.int .u32 a] 23 (0, 0))).drewN t :=
  same A _ c 1 1 1 [a] [a] _ rfl rfl h.to (Row.lit1 _ _ _ a hH) (by omega) (by omega) true (by simp)
theorem c_same2 (A : Option Addr) (c : Nat) (a b : Int) (H : Nat) (w : World) (hH : w.heap.size = H) (h : Row .u32 w A [a, b]) : Calls Tryd.prog 15 #[.slice A 2 c, .slice (some ⟨H, 0, none⟩) 2 2] (w.alloc (.cells #[.int .u32 a, .int .u32 b] 23 (0, 0))) fun e w' => e = .returned (.bool true) ∧ ∃ t, w' = (w.alloc (.cells #[.int .u32 a, .int .u32 b] 23 (0, 0))).drewN t :=
  same A _ c 2 2 2 [a, b] [a, b] _ rfl rfl h.to (Row.lit2 _ _ _ a b hH) (by omega) (by omega) true (by simp)
set_option maxHeartbeats 400000 in
theorem sure_any (w : World) (hL : Laid w) : Calls Tryd.prog 7 #[] w fun e w' => e = .returned (.bool true) ∧ Step w w' := by
  go_enter Tryd.func7, Tryd.ntmps7
  go_wp2_with (first
    | (go_at_call 8; ((with_reducible refine (c_add _ _ (by simp)).mono ?_); rintro e w1 ⟨A1, c1, rfl, R1, S1⟩))
    | (go_at_call 10; ((with_reducible refine (c_sub _ _ (by simp)).mono ?_); rintro e w2 ⟨A2, c2, rfl, R2, S2⟩))
    | (go_at_call 11; ((with_reducible refine (c_times _ _ (by simp)).mono ?_); rintro e w3 ⟨A3, c3, rfl, R3, S3⟩))
    | (go_at_call 16; ((with_reducible refine (c_sum _ _ (by simp)).mono ?_); rintro e w4 ⟨A4, c4, rfl, R4, S4⟩))
    | (go_at_call 8; ((with_reducible refine (c_addNo _ _ (by simp)).mono ?_); rintro e w5 ⟨rfl, S5⟩))
    | (go_at_call 14; ((with_reducible refine (c_zero _).mono ?_); rintro e w6 ⟨A6, c6, rfl, R6, S6⟩))
    | (go_at_call 14; ((with_reducible refine (c_zeroNo _).mono ?_); rintro e w7 ⟨rfl, S7⟩))
    | (go_at_call 15; ((with_reducible refine (c_same2 A1 c1 _ _ _ _ (by simp) R1.to).mono ?_); rintro e w' ⟨rfl, t, rfl⟩))
    | (go_at_call 15; ((with_reducible refine (c_same1 A2 c2 _ _ _ (by simp) R2.to).mono ?_); rintro e w' ⟨rfl, t, rfl⟩))
    | (go_at_call 15; ((with_reducible refine (c_same1 A3 c3 _ _ _ (by simp) R3.to).mono ?_); rintro e w' ⟨rfl, t, rfl⟩))
    | (go_at_call 15; ((with_reducible refine (c_same1 A4 c4 _ _ _ (by simp) R4.to).mono ?_); rintro e w' ⟨rfl, t, rfl⟩))
    | (go_at_call 15; ((with_reducible refine (c_same2 A6 c6 _ _ _ _ (by simp) R6.to).mono ?_); rintro e w' ⟨rfl, t, rfl⟩))
    | (go_at_call 13; ((with_reducible refine (Num02.some_ 1 _ hL.to).mono ?_); rintro e w' ⟨rfl, S⟩)))
  go_ret
  exact ⟨rfl, Step.of inferInstance⟩
end Sure02
end Go.Proofs.YthplidolnffaaaaDoor
