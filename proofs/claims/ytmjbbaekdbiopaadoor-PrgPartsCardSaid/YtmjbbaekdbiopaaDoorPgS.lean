/- Layer 7: a number's bytes behind a list (package prg's spell). Conditions: lengths as stated. -/
import Derived.Test.YtmjbbaekdbiopaaDoorPgN
namespace Go.Proofs.YtmjbbaekdbiopaaDoor
open Go.RowKit Go.Lib
namespace Pg
open SlR Sh Sp
/-- The last so many bytes of a number, the highest first. -/
def spl (x : Nat) : Nat → List Nat
  | 0 => []
  | j + 1 => (x / 256 ^ j % 256) :: spl x j
theorem spl_len (x : Nat) : ∀ j, (spl x j).length = j
  | 0 => rfl
  | j + 1 => by rw [spl, List.length_cons, spl_len x j]
theorem spl_b8 (x : Nat) : ∀ j, B8 (spl x j)
  | 0 => b8_mem (by simp [spl])
  | j + 1 => b8_mem fun y hy => by
    rw [spl, List.mem_cons] at hy
    rcases hy with rfl | hy
    · omega
    · obtain ⟨i, hi, rfl⟩ := List.getElem_of_mem hy
      have := spl_b8 x j i
      rwa [List.getD_eq_getElem?_getD, List.getElem?_eq_getElem hi] at this
theorem spl_move (zs xs : List Nat) (x p k : Nat) (h : zs ++ spl x (p + 1) = xs ++ spl x k) : (zs ++ [x / 256 ^ p % 256]) ++ spl x p = xs ++ spl x k := by
  rw [← h, spl, List.append_assoc]
  rfl
theorem buf_last {w : World} {B n : Nat} {v : Value} {xs : List Nat} {a b : Nat} (h : Buf w B v n (xs ++ [a])) (h2 : a = b) : Buf w B v n (xs ++ [b]) := h2 ▸ h
theorem lit1U (w : World) (H : Nat) (t : TypeId) (z : Int) (a : Nat) (hz : z = (a : Int)) (h : w.heap.size = H) : R8 (w.alloc (.cells #[.int .u8 z] t (0, 0))) (some ⟨H, 0, none⟩) [a] := by
  subst hz
  exact Row.lit1 w H t a h
set_option maxHeartbeats 3200000 in
set_option maxRecDepth 100000 in
theorem spell_any (W w : World) [e0 : Ext W w] (v u : Value) (n m : Nat) (xs ys : List Nat) (x k : Nat) (hx : Hid (x < 18446744073709551616)) (hk : k ≤ 8) (hv : Buf w W.heap.size v n xs) (hu : Buf w W.heap.size u m ys) (ha : Hdr.Apart u v) (hn : n ≤ 1000) :
    Calls Tryd.prog 84 #[v, .int .u64 x, .int .i64 k] w fun e w' => ∃ A c, e = .returned (.slice A (n + k) c) ∧ Buf w' W.heap.size (.slice A (n + k) c) (n + k) (xs ++ spl x k) ∧ Buf w' W.heap.size u m ys ∧ Hdr.Apart u (.slice A (n + k) c) ∧ Step W w' := by
  have kI : (k : Int) ≤ 8 := by omega
  have k2 : IntKind.i64.wrap ((k : Int) - 1) = (k : Int) - 1 := by simp [IntKind.wrap, IntKind.bits, IntKind.signed]; omega
  have HV := Lib.hid hv
  have HU := Lib.hid hu
  have HA := Lib.hid ha
  have S0 : Hid (Step W w) := Lib.hid (Step.of e0)
  clear hv hu ha
  go_enter Tryd.func84, Tryd.ntmps84
  go_wp2
  go_loopw [0, 7] (fun v i wr => ∃ (j L : Nat) (zs : List Nat), j ≤ 8 ∧ i = .int .i64 ((j : Int) - 1) ∧ Hid (L + j = n + k ∧ zs ++ spl x j = xs ++ spl x k ∧ Buf wr W.heap.size v L zs ∧ Buf wr W.heap.size u m ys ∧ Hdr.Apart u v) ∧ Hid (Step W wr)) (fun _ i _ => (intOf i + 1).toNat)
  case atStart => exact ⟨k, n, xs, hk, by rfl, Lib.hid ⟨rfl, rfl, HV.out, HU.out, HA.out⟩, S0⟩
  case round =>
    obtain ⟨j, L, zs, hj, rfl, hH, S⟩ := hrel
    have SW : Step W wr := S.out
    obtain ⟨A, c, rfl⟩ := hH.out.2.2.1.form
    have hL : L ≤ 1008 := by have := hH.out.1; omega
    clear HV HU HA S0 S
    rcases (by omega : j = 0 ∨ j = 1 ∨ j = 2 ∨ j = 3 ∨ j = 4 ∨ j = 5 ∨ j = 6 ∨ j = 7 ∨ j = 8) with rfl | rfl | rfl | rfl | rfl | rfl | rfl | rfl | rfl
    · have hLn : L = n + k := by have := hH.out.1; omega
      subst hLn
      have hB : Hid (Buf wr W.heap.size (.slice A (n + k) c) (n + k) (xs ++ spl x k)) := Lib.hid (by
        have h1 := hH.out.2.1
        have h2 := hH.out.2.2.1
        rw [show spl x 0 = [] from rfl, List.append_nil] at h1
        rw [← h1]
        exact h2)
      go_wp2
      go_ret
      exact ⟨A, c, rfl, hB.out, hH.out.2.2.2.1, hH.out.2.2.2.2, SW⟩
    · have hM := Lib.hid (spl_move zs xs x 0 k hH.out.2.1)
      have hxx := hx
      go_wp2_with (at_builtin; refine Buf.wp W wr (by rfl) _ _ (by rfl) _ u L m zs ys (by rfl) hH.out.2.2.1 hH.out.2.2.2.1 hH.out.2.2.2.2 _ 1 1 [x / 256 ^ 0 % 256] (by rfl) rfl (by omega) (lit1U _ _ _ _ _ (by have := hxx.out; simp; try omega) (by simp)) (by omega) ?_; intro A4 c4 w4 O4 U4 P4 S4)
      go_roundw
      case rel => exact ⟨0, L + 1, _, by omega, by go_num, Lib.hid ⟨by have := hH.out.1; omega, hM.out, O4, U4, P4⟩, Lib.hid S4⟩
      case measure => simp [intOf]
    · have hM := Lib.hid (spl_move zs xs x 1 k hH.out.2.1)
      have hxx := hx
      go_wp2_with (at_builtin; refine Buf.wp W wr (by rfl) _ _ (by rfl) _ u L m zs ys (by rfl) hH.out.2.2.1 hH.out.2.2.2.1 hH.out.2.2.2.2 _ 1 1 [x / 256 ^ 1 % 256] (by rfl) rfl (by omega) (lit1U _ _ _ _ _ (by have := hxx.out; simp; try omega) (by simp)) (by omega) ?_; intro A4 c4 w4 O4 U4 P4 S4)
      go_roundw
      case rel => exact ⟨1, L + 1, _, by omega, by go_num, Lib.hid ⟨by have := hH.out.1; omega, hM.out, O4, U4, P4⟩, Lib.hid S4⟩
      case measure => simp [intOf]
    · have hM := Lib.hid (spl_move zs xs x 2 k hH.out.2.1)
      have hxx := hx
      go_wp2_with (at_builtin; refine Buf.wp W wr (by rfl) _ _ (by rfl) _ u L m zs ys (by rfl) hH.out.2.2.1 hH.out.2.2.2.1 hH.out.2.2.2.2 _ 1 1 [x / 256 ^ 2 % 256] (by rfl) rfl (by omega) (lit1U _ _ _ _ _ (by have := hxx.out; simp; try omega) (by simp)) (by omega) ?_; intro A4 c4 w4 O4 U4 P4 S4)
      go_roundw
      case rel => exact ⟨2, L + 1, _, by omega, by go_num, Lib.hid ⟨by have := hH.out.1; omega, hM.out, O4, U4, P4⟩, Lib.hid S4⟩
      case measure => simp [intOf]
    · have hM := Lib.hid (spl_move zs xs x 3 k hH.out.2.1)
      have hxx := hx
      go_wp2_with (at_builtin; refine Buf.wp W wr (by rfl) _ _ (by rfl) _ u L m zs ys (by rfl) hH.out.2.2.1 hH.out.2.2.2.1 hH.out.2.2.2.2 _ 1 1 [x / 256 ^ 3 % 256] (by rfl) rfl (by omega) (lit1U _ _ _ _ _ (by have := hxx.out; simp; try omega) (by simp)) (by omega) ?_; intro A4 c4 w4 O4 U4 P4 S4)
      go_roundw
      case rel => exact ⟨3, L + 1, _, by omega, by go_num, Lib.hid ⟨by have := hH.out.1; omega, hM.out, O4, U4, P4⟩, Lib.hid S4⟩
      case measure => simp [intOf]
    · have hM := Lib.hid (spl_move zs xs x 4 k hH.out.2.1)
      have hxx := hx
      go_wp2_with (at_builtin; refine Buf.wp W wr (by rfl) _ _ (by rfl) _ u L m zs ys (by rfl) hH.out.2.2.1 hH.out.2.2.2.1 hH.out.2.2.2.2 _ 1 1 [x / 256 ^ 4 % 256] (by rfl) rfl (by omega) (lit1U _ _ _ _ _ (by have := hxx.out; simp; try omega) (by simp)) (by omega) ?_; intro A4 c4 w4 O4 U4 P4 S4)
      go_roundw
      case rel => exact ⟨4, L + 1, _, by omega, by go_num, Lib.hid ⟨by have := hH.out.1; omega, hM.out, O4, U4, P4⟩, Lib.hid S4⟩
      case measure => simp [intOf]
    · have hM := Lib.hid (spl_move zs xs x 5 k hH.out.2.1)
      have hxx := hx
      go_wp2_with (at_builtin; refine Buf.wp W wr (by rfl) _ _ (by rfl) _ u L m zs ys (by rfl) hH.out.2.2.1 hH.out.2.2.2.1 hH.out.2.2.2.2 _ 1 1 [x / 256 ^ 5 % 256] (by rfl) rfl (by omega) (lit1U _ _ _ _ _ (by have := hxx.out; simp; try omega) (by simp)) (by omega) ?_; intro A4 c4 w4 O4 U4 P4 S4)
      go_roundw
      case rel => exact ⟨5, L + 1, _, by omega, by go_num, Lib.hid ⟨by have := hH.out.1; omega, hM.out, O4, U4, P4⟩, Lib.hid S4⟩
      case measure => simp [intOf]
    · have hM := Lib.hid (spl_move zs xs x 6 k hH.out.2.1)
      have hxx := hx
      go_wp2_with (at_builtin; refine Buf.wp W wr (by rfl) _ _ (by rfl) _ u L m zs ys (by rfl) hH.out.2.2.1 hH.out.2.2.2.1 hH.out.2.2.2.2 _ 1 1 [x / 256 ^ 6 % 256] (by rfl) rfl (by omega) (lit1U _ _ _ _ _ (by have := hxx.out; simp; try omega) (by simp)) (by omega) ?_; intro A4 c4 w4 O4 U4 P4 S4)
      go_roundw
      case rel => exact ⟨6, L + 1, _, by omega, by go_num, Lib.hid ⟨by have := hH.out.1; omega, hM.out, O4, U4, P4⟩, Lib.hid S4⟩
      case measure => simp [intOf]
    · have hM := Lib.hid (spl_move zs xs x 7 k hH.out.2.1)
      have hxx := hx
      go_wp2_with (at_builtin; refine Buf.wp W wr (by rfl) _ _ (by rfl) _ u L m zs ys (by rfl) hH.out.2.2.1 hH.out.2.2.2.1 hH.out.2.2.2.2 _ 1 1 [x / 256 ^ 7 % 256] (by rfl) rfl (by omega) (lit1U _ _ _ _ _ (by have := hxx.out; simp; try omega) (by simp)) (by omega) ?_; intro A4 c4 w4 O4 U4 P4 S4)
      go_roundw
      case rel => exact ⟨7, L + 1, _, by omega, by go_num, Lib.hid ⟨by have := hH.out.1; omega, hM.out, O4, U4, P4⟩, Lib.hid S4⟩
      case measure => simp [intOf]
end Pg
end Go.Proofs.YtmjbbaekdbiopaaDoor
