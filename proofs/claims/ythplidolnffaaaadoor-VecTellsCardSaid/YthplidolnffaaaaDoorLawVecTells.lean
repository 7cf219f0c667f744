/- VecTells walked: true at any two rows and two numbers. Condition: errors.errorType reads as laid. -/
import Derived.Test.YthplidolnffaaaaDoorRef02E
import Derived.Test.YthplidolnffaaaaDoorSure02
import Derived.Test.YthplidolnffaaaaDoorApp
namespace Go.Proofs.YthplidolnffaaaaDoor
open Go.RowKit Go.Lib
namespace LawVecTells
open SlR VecC VecE ErrAs
theorem zeros_lin {n : Nat} {q : Int} {xs : List Int} (h : xs.length = n) : Ref02.vLin q (List.replicate n 0) xs = vTimes q xs := by
  subst h
  induction xs with
  | nil => rfl
  | cons a l ih =>
    rw [List.length_cons, List.replicate_succ, Ref02.vLin, List.zipWith_cons_cons, vTimes, List.map_cons, Int.zero_add, Int.mul_comm]
    congr 1
theorem box {w : World} {g : Nat} {p q : Int} (h : Row .u32 w (some ⟨g, 0, none⟩) [p, q]) : w.cell? ⟨g, 0, none⟩ = some (.int .u32 p) ∧ w.cell? ⟨g, 1, none⟩ = some (.int .u32 q) := by
  obtain ⟨a, e1, _, h1⟩ := h 0 p rfl
  obtain ⟨b, e2, _, h2⟩ := h 1 q rfl
  injection e1 with e1; injection e2 with e2
  subst e1; subst e2
  exact ⟨by simpa [Addr.add] using h1, by simpa [Addr.add] using h2⟩
set_option maxHeartbeats 1600000 in
set_option maxRecDepth 1000000 in
theorem walk (A : Option Addr) (n c : Nat) (xs : List Int) (D : Option Addr) (m d : Nat) (ys : List Int) (of : List Int) (W : World) (hxn : xs.length = n) (_hnm : n ≤ maxLen) (hx : Row .u32 W A xs) (hbx : Bits xs)
    (hym : ys.length = m) (_hmm : m ≤ maxLen) (hy : Row .u32 W D ys) (hby : Bits ys) (hof : of.length = 2) (hbo : Bits of) (hL : Laid W) :
    Calls Tryd.prog 3 #[.slice A n c, .slice D m d, .agg (of.map (Value.int .u32)).toArray] W fun e w' => e = .returned (.bool true) ∧ Step W w' := by
  obtain ⟨p, q, rfl⟩ : ∃ p q, of = [p, q] := by
    match of, hof with
    | [p, q], _ => exact ⟨p, q, rfl⟩
  have hp := hbo p (by simp)
  have hq := hbo q (by simp)
  simp only [List.map_cons, List.map_nil]
  obtain ⟨i0, hi, hz0, hz1, hz2⟩ := info_parts info
  by_cases h100 : 100 < n ∨ 100 < m
  · by_cases h1 : 100 < n
    · have hbig : (100 : Int) < (n : Int) := by omega
      go_enter Tryd.func3, Tryd.ntmps3
      go_wp2_with (go_at_call 7; ((with_reducible refine (Sure02.sure_any _ hL.to).mono ?_); rintro e w' ⟨rfl, S⟩))
      go_ret
      exact ⟨rfl, Step.of inferInstance⟩
    · have hbig : ¬ (100 : Int) < (n : Int) := by omega
      have hbig2 : (100 : Int) < (m : Int) := by omega
      go_enter Tryd.func3, Tryd.ntmps3
      go_wp2_with (go_at_call 7; ((with_reducible refine (Sure02.sure_any _ hL.to).mono ?_); rintro e w' ⟨rfl, S⟩))
      go_ret
      exact ⟨rfl, Step.of inferInstance⟩
  · have hbig : ¬ (100 : Int) < (n : Int) := by omega
    have hbig2 : ¬ (100 : Int) < (m : Int) := by omega
    have hn100 : n ≤ 100 := by omega
    have RB : Row .u32 (W.alloc (.cells #[.int .u32 p, .int .u32 q] 24 (0, 0))) (some ⟨W.heap.size, 0, none⟩) [p, q] := Row.lit2 W _ _ p q rfl
    have hk := box RB
    obtain ⟨hk0, hk1⟩ := hk
    have hzn : Hid (q % 40 = (((q % 40).toNat : Nat) : Int)) := Lib.hid (by omega)
    have sV := fun w h1 h2 => VecE.same A D c d n m xs ys w hxn hym h1 h2 (by omega) (by omega) _ rfl
    have sR := fun w h1 h2 => Ref02.same A D c d n m xs ys w hxn hym h1 h2 (by omega) (by omega) _ rfl
    have sX := fun w AX cX h1 h2 => Ref02.same AX A cX c n n xs xs w hxn hxn h1 h2 (by omega) (by omega) true (by simp)
    have eN := fun w => Ref02.same none none 0 0 0 0 [] [] w rfl rfl Row.nil Row.nil (by omega) (by omega) true (by decide)
    have HQ : (32 < q % 40 ∧ ∀ w, Calls Tryd.prog 14 #[.int .i64 (q % 40)] w (Err w)) ∨ (¬ 32 < q % 40 ∧ ∀ w, Calls Tryd.prog 14 #[.int .i64 (q % 40)] w (Yes w (q % 40).toNat (List.replicate (q % 40).toNat 0))) := by
      by_cases h : 32 < q % 40
      · exact .inl ⟨h, fun w => VecE.zeroNo _ (.inr h) w⟩
      · refine .inr ⟨h, fun w => ?_⟩
        have := VecE.zero (q % 40).toNat (by omega) w
        rw [← hzn.out] at this; exact this
    have eZ := fun A8 c8 A9 c9 w h1 h2 => Ref02.same A8 A9 c8 c9 (q % 40).toNat (q % 40).toNat (List.replicate (q % 40).toNat 0) (List.replicate (q % 40).toNat 0) w (by simp) (by simp) h1 h2 (by omega) (by omega) true (by simp)
    have HC : (n = m ∧ n ≤ 32) ∨ (n ≠ m ∧ n ≤ 32) ∨ 32 < n := by omega
    rcases HC with ⟨hmn, h32⟩ | ⟨hmn, h32⟩ | h32
    · subst hmn
      have yAdd := fun w AX cX h1 h2 => VecE.add AX D cX d n xs ys w hxn hym h1 h2 hbx h32
      have ySub := fun w AX cX h1 h2 => VecE.sub AX D cX d n xs ys w hxn hym h1 h2 h32
      have yTimes := fun w AX cX h1 => VecE.times AX cX n p xs w hxn h1 h32
      have yRef1 := fun w h1 h2 => Ref02.add A D c d n 1 xs ys w hxn hym h1 h2 hbx hby h32 (by omega)
      have yRefN := fun w h1 h2 => Ref02.add A D c d n 4294967295 xs ys w hxn hym h1 h2 hbx hby h32 (by omega)
      have yRefZ := fun w A6 h1 h2 => Ref02.add A6 A n c n p (List.replicate n 0) xs w (by simp) hxn h1 h2 (Ref02.zeros_bits n) hbx h32 (by omega)
      have eA := fun A1 c1 A2 c2 w h1 h2 => Ref02.same A1 A2 c1 c2 n n (vAdd xs ys) (Ref02.vLin 1 xs ys) w (vAdd_length hxn hym) (Ref02.vLin_length hxn hym) h1 h2 (by omega) (by omega) true (by rw [Ref02.vLin_one]; simp)
      have eS := fun A1 c1 A2 c2 w h1 h2 => Ref02.same A1 A2 c1 c2 n n (vSub xs ys) (Ref02.vLin 4294967295 xs ys) w (vSub_length hxn hym) (Ref02.vLin_length hxn hym) h1 h2 (by omega) (by omega) true (by rw [Ref02.vLin_neg]; simp)
      have eT := fun A1 c1 A2 c2 w h1 h2 => Ref02.same A1 A2 c1 c2 n n (vTimes p xs) (Ref02.vLin p (List.replicate n 0) xs) w (by simp [vTimes, hxn]) (Ref02.vLin_length (by simp) hxn) h1 h2 (by omega) (by omega) true (by rw [zeros_lin hxn]; simp)
      rcases HQ with ⟨hq40, nZero⟩ | ⟨hq40, yZero⟩
      all_goals
        go_enter Tryd.func3, Tryd.ntmps3
        go_wp2_with (first
          | (at_builtin; refine App.copy .u32 (W.heap.size + 1) rfl _ _ 22 rfl 23 i0 _ 4 Tryd.underlying22 hi hz0 hz1 hz2 rfl rfl (by simp) A n c xs rfl hxn hx.to (by unfold maxLen; omega) (by omega) ?_; intro AX cX wX RX SX)
          | (go_at_call 8; ((with_reducible refine (yAdd _ _ _ RX.to hy.to).mono ?_); rintro e w1 ⟨A1, c1, rfl, R1, S1⟩; have hk := box (RB.to (w' := w1)); obtain ⟨hk0, hk1⟩ := hk))
          | (go_at_call 8; ((with_reducible refine (nAdd _ _ _ RX.to hy.to).mono ?_); rintro e w1 ⟨rfl, S1⟩; have hk := box (RB.to (w' := w1)); obtain ⟨hk0, hk1⟩ := hk))
          | (go_at_call 9; ((with_reducible refine (yRef1 _ hx.to hy.to).mono ?_); rintro e w2 ⟨A2, c2, rfl, R2, S2⟩; have hk := box (RB.to (w' := w2)); obtain ⟨hk0, hk1⟩ := hk))
          | (go_at_call 9; ((with_reducible refine (nRef _ _ _ _ _).mono ?_); rintro e w2 ⟨rfl, S2⟩; have hk := box (RB.to (w' := w2)); obtain ⟨hk0, hk1⟩ := hk))
          | (go_at_call 10; ((with_reducible refine (ySub _ _ _ RX.to hy.to).mono ?_); rintro e w3 ⟨A3, c3, rfl, R3, S3⟩; have hk := box (RB.to (w' := w3)); obtain ⟨hk0, hk1⟩ := hk))
          | (go_at_call 10; ((with_reducible refine (nSub _ _ _).mono ?_); rintro e w3 ⟨rfl, S3⟩; have hk := box (RB.to (w' := w3)); obtain ⟨hk0, hk1⟩ := hk))
          | (go_at_call 9; ((with_reducible refine (yRefN _ hx.to hy.to).mono ?_); rintro e w4 ⟨A4, c4, rfl, R4, S4⟩; have hk := box (RB.to (w' := w4)); obtain ⟨hk0, hk1⟩ := hk))
          | (go_at_call 11; ((with_reducible refine (yTimes _ _ _ RX.to).mono ?_); rintro e w5 ⟨A5, c5, rfl, R5, S5⟩; have hk := box (RB.to (w' := w5)); obtain ⟨hk0, hk1⟩ := hk))
          | (go_at_call 11; ((with_reducible refine (nTimes _ _ _).mono ?_); rintro e w5 ⟨rfl, S5⟩; have hk := box (RB.to (w' := w5)); obtain ⟨hk0, hk1⟩ := hk))
          | (at_make; refine App.make .u32 (by simp [Region.wanted, yielded]) _ _ 22 rfl 23 i0 4 Tryd.underlying22 hi hz0 hz1 hz2 _ _ _ _ n rfl rfl rfl rfl (by omega) (by unfold maxLen; omega) ?_; intro w6 R6 S6; have hk := box (RB.to (w' := w6)); obtain ⟨hk0, hk1⟩ := hk)
          | (go_at_call 9; ((with_reducible refine (yRefZ _ _ R6.to hx.to).mono ?_); rintro e w7 ⟨A7, c7, rfl, R7, S7⟩; have hk := box (RB.to (w' := w7)); obtain ⟨hk0, hk1⟩ := hk))
          | (go_at_call 9; ((with_reducible refine (nRefZ _ _ _ _).mono ?_); rintro e w7 ⟨rfl, S7⟩; have hk := box (RB.to (w' := w7)); obtain ⟨hk0, hk1⟩ := hk))
          | (go_at_call 12; ((with_reducible refine (eA _ _ _ _ _ R1.to R2.to).mono ?_); rintro e w' ⟨rfl, t, rfl⟩))
          | (go_at_call 12; ((with_reducible refine (eS _ _ _ _ _ R3.to R4.to).mono ?_); rintro e w' ⟨rfl, t, rfl⟩))
          | (go_at_call 12; ((with_reducible refine (eT _ _ _ _ _ R5.to R7.to).mono ?_); rintro e w' ⟨rfl, t, rfl⟩))
          | (go_at_call 12; ((with_reducible refine (eN _).mono ?_); rintro e w' ⟨rfl, t, rfl⟩))
          | (go_at_call 13; ((with_reducible refine (Num02.some_ 1 _ hL.to).mono ?_); rintro e w' ⟨rfl, S⟩; have hk := box (RB.to (w' := w')); obtain ⟨hk0, hk1⟩ := hk))
          | (go_at_call 14; ((with_reducible refine (yZero _).mono ?_); rintro e w8 ⟨A8, c8, rfl, R8, S8⟩))
          | (go_at_call 14; ((with_reducible refine (nZero _).mono ?_); rintro e w8 ⟨rfl, S8⟩))
          | (at_make; refine App.make .u32 (by simp [Region.wanted, yielded]) _ _ 22 rfl 23 i0 4 Tryd.underlying22 hi hz0 hz1 hz2 _ _ _ _ (q % 40).toNat rfl rfl hzn.out hzn.out (by omega) (by unfold maxLen; omega) ?_; intro w9 R9 S9)
          | (go_at_call 12; ((with_reducible refine (eZ _ _ _ _ _ R8.to R9.to).mono ?_); rintro e w' ⟨rfl, t, rfl⟩))
          | (go_at_call 15; ((with_reducible refine (sV _ hx.to hy.to).mono ?_); rintro e w' ⟨rfl, t, rfl⟩))
          | (go_at_call 12; ((with_reducible refine (sR _ hx.to hy.to).mono ?_); rintro e w' ⟨rfl, t, rfl⟩))
          | (go_at_call 12; ((with_reducible refine (sX _ _ _ RX.to hx.to).mono ?_); rintro e w' ⟨rfl, t, rfl⟩))
          | (go_at_call 7; ((with_reducible refine (Sure02.sure_any _ hL.to).mono ?_); rintro e w' ⟨rfl, S⟩)))
        go_ret
        exact ⟨rfl, Step.of inferInstance⟩
    · have nAdd := fun w AX cX h1 h2 => VecE.addNo AX D cX d n m xs ys w hxn hym h1 h2 (.inr hmn)
      have nSub := fun w AX cX => VecE.subNo AX D cX d n m w (.inr hmn)
      have yTimes := fun w AX cX h1 => VecE.times AX cX n p xs w hxn h1 h32
      have nRef := fun w A c q D => Ref02.addNo A D c d n m q w (.inr hmn)
      have yRefZ := fun w A6 h1 h2 => Ref02.add A6 A n c n p (List.replicate n 0) xs w (by simp) hxn h1 h2 (Ref02.zeros_bits n) hbx h32 (by omega)
      have eT := fun A1 c1 A2 c2 w h1 h2 => Ref02.same A1 A2 c1 c2 n n (vTimes p xs) (Ref02.vLin p (List.replicate n 0) xs) w (by simp [vTimes, hxn]) (Ref02.vLin_length (by simp) hxn) h1 h2 (by omega) (by omega) true (by rw [zeros_lin hxn]; simp)
      rcases HQ with ⟨hq40, nZero⟩ | ⟨hq40, yZero⟩
      all_goals
        go_enter Tryd.func3, Tryd.ntmps3
        go_wp2_with (first
          | (at_builtin; refine App.copy .u32 (W.heap.size + 1) rfl _ _ 22 rfl 23 i0 _ 4 Tryd.underlying22 hi hz0 hz1 hz2 rfl rfl (by simp) A n c xs rfl hxn hx.to (by unfold maxLen; omega) (by omega) ?_; intro AX cX wX RX SX)
          | (go_at_call 8; ((with_reducible refine (yAdd _ _ _ RX.to hy.to).mono ?_); rintro e w1 ⟨A1, c1, rfl, R1, S1⟩; have hk := box (RB.to (w' := w1)); obtain ⟨hk0, hk1⟩ := hk))
          | (go_at_call 8; ((with_reducible refine (nAdd _ _ _ RX.to hy.to).mono ?_); rintro e w1 ⟨rfl, S1⟩; have hk := box (RB.to (w' := w1)); obtain ⟨hk0, hk1⟩ := hk))
          | (go_at_call 9; ((with_reducible refine (yRef1 _ hx.to hy.to).mono ?_); rintro e w2 ⟨A2, c2, rfl, R2, S2⟩; have hk := box (RB.to (w' := w2)); obtain ⟨hk0, hk1⟩ := hk))
          | (go_at_call 9; ((with_reducible refine (nRef _ _ _ _ _).mono ?_); rintro e w2 ⟨rfl, S2⟩; have hk := box (RB.to (w' := w2)); obtain ⟨hk0, hk1⟩ := hk))
          | (go_at_call 10; ((with_reducible refine (ySub _ _ _ RX.to hy.to).mono ?_); rintro e w3 ⟨A3, c3, rfl, R3, S3⟩; have hk := box (RB.to (w' := w3)); obtain ⟨hk0, hk1⟩ := hk))
          | (go_at_call 10; ((with_reducible refine (nSub _ _ _).mono ?_); rintro e w3 ⟨rfl, S3⟩; have hk := box (RB.to (w' := w3)); obtain ⟨hk0, hk1⟩ := hk))
          | (go_at_call 9; ((with_reducible refine (yRefN _ hx.to hy.to).mono ?_); rintro e w4 ⟨A4, c4, rfl, R4, S4⟩; have hk := box (RB.to (w' := w4)); obtain ⟨hk0, hk1⟩ := hk))
          | (go_at_call 11; ((with_reducible refine (yTimes _ _ _ RX.to).mono ?_); rintro e w5 ⟨A5, c5, rfl, R5, S5⟩; have hk := box (RB.to (w' := w5)); obtain ⟨hk0, hk1⟩ := hk))
          | (go_at_call 11; ((with_reducible refine (nTimes _ _ _).mono ?_); rintro e w5 ⟨rfl, S5⟩; have hk := box (RB.to (w' := w5)); obtain ⟨hk0, hk1⟩ := hk))
          | (at_make; refine App.make .u32 (by simp [Region.wanted, yielded]) _ _ 22 rfl 23 i0 4 Tryd.underlying22 hi hz0 hz1 hz2 _ _ _ _ n rfl rfl rfl rfl (by omega) (by unfold maxLen; omega) ?_; intro w6 R6 S6; have hk := box (RB.to (w' := w6)); obtain ⟨hk0, hk1⟩ := hk)
          | (go_at_call 9; ((with_reducible refine (yRefZ _ _ R6.to hx.to).mono ?_); rintro e w7 ⟨A7, c7, rfl, R7, S7⟩; have hk := box (RB.to (w' := w7)); obtain ⟨hk0, hk1⟩ := hk))
          | (go_at_call 9; ((with_reducible refine (nRefZ _ _ _ _).mono ?_); rintro e w7 ⟨rfl, S7⟩; have hk := box (RB.to (w' := w7)); obtain ⟨hk0, hk1⟩ := hk))
          | (go_at_call 12; ((with_reducible refine (eA _ _ _ _ _ R1.to R2.to).mono ?_); rintro e w' ⟨rfl, t, rfl⟩))
          | (go_at_call 12; ((with_reducible refine (eS _ _ _ _ _ R3.to R4.to).mono ?_); rintro e w' ⟨rfl, t, rfl⟩))
          | (go_at_call 12; ((with_reducible refine (eT _ _ _ _ _ R5.to R7.to).mono ?_); rintro e w' ⟨rfl, t, rfl⟩))
          | (go_at_call 12; ((with_reducible refine (eN _).mono ?_); rintro e w' ⟨rfl, t, rfl⟩))
          | (go_at_call 13; ((with_reducible refine (Num02.some_ 1 _ hL.to).mono ?_); rintro e w' ⟨rfl, S⟩; have hk := box (RB.to (w' := w')); obtain ⟨hk0, hk1⟩ := hk))
          | (go_at_call 14; ((with_reducible refine (yZero _).mono ?_); rintro e w8 ⟨A8, c8, rfl, R8, S8⟩))
          | (go_at_call 14; ((with_reducible refine (nZero _).mono ?_); rintro e w8 ⟨rfl, S8⟩))
          | (at_make; refine App.make .u32 (by simp [Region.wanted, yielded]) _ _ 22 rfl 23 i0 4 Tryd.underlying22 hi hz0 hz1 hz2 _ _ _ _ (q % 40).toNat rfl rfl hzn.out hzn.out (by omega) (by unfold maxLen; omega) ?_; intro w9 R9 S9)
          | (go_at_call 12; ((with_reducible refine (eZ _ _ _ _ _ R8.to R9.to).mono ?_); rintro e w' ⟨rfl, t, rfl⟩))
          | (go_at_call 15; ((with_reducible refine (sV _ hx.to hy.to).mono ?_); rintro e w' ⟨rfl, t, rfl⟩))
          | (go_at_call 12; ((with_reducible refine (sR _ hx.to hy.to).mono ?_); rintro e w' ⟨rfl, t, rfl⟩))
          | (go_at_call 12; ((with_reducible refine (sX _ _ _ RX.to hx.to).mono ?_); rintro e w' ⟨rfl, t, rfl⟩))
          | (go_at_call 7; ((with_reducible refine (Sure02.sure_any _ hL.to).mono ?_); rintro e w' ⟨rfl, S⟩)))
        go_ret
        exact ⟨rfl, Step.of inferInstance⟩
    · have nAdd := fun w AX cX h1 h2 => VecE.addNo AX D cX d n m xs ys w hxn hym h1 h2 (.inl h32)
      have nSub := fun w AX cX => VecE.subNo AX D cX d n m w (.inl h32)
      have nTimes := fun w AX cX => VecE.timesNo AX cX n p w h32
      have nRef := fun w A c q D => Ref02.addNo A D c d n m q w (.inl h32)
      have nRefZ := fun w A6 A c => Ref02.addNo A6 A n c n n p w (.inl h32)
      rcases HQ with ⟨hq40, nZero⟩ | ⟨hq40, yZero⟩
      all_goals
        go_enter Tryd.func3, Tryd.ntmps3
        go_wp2_with (first
          | (at_builtin; refine App.copy .u32 (W.heap.size + 1) rfl _ _ 22 rfl 23 i0 _ 4 Tryd.underlying22 hi hz0 hz1 hz2 rfl rfl (by simp) A n c xs rfl hxn hx.to (by unfold maxLen; omega) (by omega) ?_; intro AX cX wX RX SX)
          | (go_at_call 8; ((with_reducible refine (yAdd _ _ _ RX.to hy.to).mono ?_); rintro e w1 ⟨A1, c1, rfl, R1, S1⟩; have hk := box (RB.to (w' := w1)); obtain ⟨hk0, hk1⟩ := hk))
          | (go_at_call 8; ((with_reducible refine (nAdd _ _ _ RX.to hy.to).mono ?_); rintro e w1 ⟨rfl, S1⟩; have hk := box (RB.to (w' := w1)); obtain ⟨hk0, hk1⟩ := hk))
          | (go_at_call 9; ((with_reducible refine (yRef1 _ hx.to hy.to).mono ?_); rintro e w2 ⟨A2, c2, rfl, R2, S2⟩; have hk := box (RB.to (w' := w2)); obtain ⟨hk0, hk1⟩ := hk))
          | (go_at_call 9; ((with_reducible refine (nRef _ _ _ _ _).mono ?_); rintro e w2 ⟨rfl, S2⟩; have hk := box (RB.to (w' := w2)); obtain ⟨hk0, hk1⟩ := hk))
          | (go_at_call 10; ((with_reducible refine (ySub _ _ _ RX.to hy.to).mono ?_); rintro e w3 ⟨A3, c3, rfl, R3, S3⟩; have hk := box (RB.to (w' := w3)); obtain ⟨hk0, hk1⟩ := hk))
          | (go_at_call 10; ((with_reducible refine (nSub _ _ _).mono ?_); rintro e w3 ⟨rfl, S3⟩; have hk := box (RB.to (w' := w3)); obtain ⟨hk0, hk1⟩ := hk))
          | (go_at_call 9; ((with_reducible refine (yRefN _ hx.to hy.to).mono ?_); rintro e w4 ⟨A4, c4, rfl, R4, S4⟩; have hk := box (RB.to (w' := w4)); obtain ⟨hk0, hk1⟩ := hk))
          | (go_at_call 11; ((with_reducible refine (yTimes _ _ _ RX.to).mono ?_); rintro e w5 ⟨A5, c5, rfl, R5, S5⟩; have hk := box (RB.to (w' := w5)); obtain ⟨hk0, hk1⟩ := hk))
          | (go_at_call 11; ((with_reducible refine (nTimes _ _ _).mono ?_); rintro e w5 ⟨rfl, S5⟩; have hk := box (RB.to (w' := w5)); obtain ⟨hk0, hk1⟩ := hk))
          | (at_make; refine App.make .u32 (by simp [Region.wanted, yielded]) _ _ 22 rfl 23 i0 4 Tryd.underlying22 hi hz0 hz1 hz2 _ _ _ _ n rfl rfl rfl rfl (by omega) (by unfold maxLen; omega) ?_; intro w6 R6 S6; have hk := box (RB.to (w' := w6)); obtain ⟨hk0, hk1⟩ := hk)
          | (go_at_call 9; ((with_reducible refine (yRefZ _ _ R6.to hx.to).mono ?_); rintro e w7 ⟨A7, c7, rfl, R7, S7⟩; have hk := box (RB.to (w' := w7)); obtain ⟨hk0, hk1⟩ := hk))
          | (go_at_call 9; ((with_reducible refine (nRefZ _ _ _ _).mono ?_); rintro e w7 ⟨rfl, S7⟩; have hk := box (RB.to (w' := w7)); obtain ⟨hk0, hk1⟩ := hk))
          | (go_at_call 12; ((with_reducible refine (eA _ _ _ _ _ R1.to R2.to).mono ?_); rintro e w' ⟨rfl, t, rfl⟩))
          | (go_at_call 12; ((with_reducible refine (eS _ _ _ _ _ R3.to R4.to).mono ?_); rintro e w' ⟨rfl, t, rfl⟩))
          | (go_at_call 12; ((with_reducible refine (eT _ _ _ _ _ R5.to R7.to).mono ?_); rintro e w' ⟨rfl, t, rfl⟩))
          | (go_at_call 12; ((with_reducible refine (eN _).mono ?_); rintro e w' ⟨rfl, t, rfl⟩))
          | (go_at_call 13; ((with_reducible refine (Num02.some_ 1 _ hL.to).mono ?_); rintro e w' ⟨rfl, S⟩; have hk := box (RB.to (w' := w')); obtain ⟨hk0, hk1⟩ := hk))
          | (go_at_call 14; ((with_reducible refine (yZero _).mono ?_); rintro e w8 ⟨A8, c8, rfl, R8, S8⟩))
          | (go_at_call 14; ((with_reducible refine (nZero _).mono ?_); rintro e w8 ⟨rfl, S8⟩))
          | (at_make; refine App.make .u32 (by simp [Region.wanted, yielded]) _ _ 22 rfl 23 i0 4 Tryd.underlying22 hi hz0 hz1 hz2 _ _ _ _ (q % 40).toNat rfl rfl hzn.out hzn.out (by omega) (by unfold maxLen; omega) ?_; intro w9 R9 S9)
          | (go_at_call 12; ((with_reducible refine (eZ _ _ _ _ _ R8.to R9.to).mono ?_); rintro e w' ⟨rfl, t, rfl⟩))
          | (go_at_call 15; ((with_reducible refine (sV _ hx.to hy.to).mono ?_); rintro e w' ⟨rfl, t, rfl⟩))
          | (go_at_call 12; ((with_reducible refine (sR _ hx.to hy.to).mono ?_); rintro e w' ⟨rfl, t, rfl⟩))
          | (go_at_call 12; ((with_reducible refine (sX _ _ _ RX.to hx.to).mono ?_); rintro e w' ⟨rfl, t, rfl⟩))
          | (go_at_call 7; ((with_reducible refine (Sure02.sure_any _ hL.to).mono ?_); rintro e w' ⟨rfl, S⟩)))
        go_ret
        exact ⟨rfl, Step.of inferInstance⟩
end LawVecTells
end Go.Proofs.YthplidolnffaaaaDoor
