/- Layer 8, the program's: a number's bytes behind a list, what a seed and a salt, and a list, are bound to. Conditions: sha.k reads as laid; lengths as stated. -/
import Derived.Test.YtkcldacdpoiecaaDoorBuf
import Derived.Test.YtkcldacdpoiecaaDoorPkT
import Derived.Test.YtkcldacdpoiecaaDoorPkS
import Derived.Deep.RegionHeld3
namespace Go.Proofs.YtkcldacdpoiecaaDoor
open Go.RowKit Go.Lib
namespace Se
open SlR Sh Sp Pg
/-- Bytes of the call's own, from block B on. -/
abbrev Ow (w : World) (B : Nat) (v : Value) (n : Nat) (xs : List Nat) : Prop := ApE.Own .u8 5 w B v n (NL xs)
theorem Ow.app {w : World} {B n : Nat} {v : Value} {xs ys : List Nat} (h : ApE.Own .u8 5 w B v n (NL xs ++ NL ys)) : Ow w B v n (xs ++ ys) := by
  unfold Ow
  rw [NL_app]
  exact h
theorem Ow.lit1 (w : World) (B H a : Nat) (z : Int) (hB : B ≤ w.heap.size) (hH : w.heap.size = H) (hz : z = (a : Int)) : Ow (w.alloc (.cells #[.int .u8 z] 5 (0, 0))) B (.slice (some ⟨H, 0, none⟩) 1 1) 1 [a] := by
  subst hH
  subst hz
  exact World.ownsRow_lit w _ 1 hB (by unfold maxLen; omega) rfl
theorem Ow.lit3 (w : World) (B H a b c : Nat) (x y z : Int) (hB : B ≤ w.heap.size) (hH : w.heap.size = H) (hx : x = (a : Int)) (hy : y = (b : Int)) (hz : z = (c : Int)) : Ow (w.alloc (.cells #[.int .u8 x, .int .u8 y, .int .u8 z] 5 (0, 0))) B (.slice (some ⟨H, 0, none⟩) 3 3) 3 [a, b, c] := by
  subst hH
  subst hx
  subst hy
  subst hz
  exact World.ownsRow_lit w _ 3 hB (by unfold maxLen; omega) rfl
set_option maxHeartbeats 3200000 in
set_option maxRecDepth 100000 in
theorem spell_any (W w : World) [e0 : Ext W w] (v : Value) (n : Nat) (xs : List Nat) (x k : Nat) (hx : Hid (x < 18446744073709551616)) (hk : k ≤ 8) (hv : Ow w W.heap.size v n xs) (hn : n ≤ 1000000) :
    Calls Tryd.prog 25 #[v, .int .u64 x, .int .i64 k] w fun e w' => ∃ A c, e = .returned (.slice A (n + k) c) ∧ Ow w' W.heap.size (.slice A (n + k) c) (n + k) (xs ++ spl x k) ∧ Step W w' := by
  obtain ⟨i0, hi, hz0, hz1, hz2⟩ := info_parts infoB
  have kI : (k : Int) ≤ 8 := by omega
  have k2 : IntKind.i64.wrap ((k : Int) - 1) = (k : Int) - 1 := by simp [IntKind.wrap, IntKind.bits, IntKind.signed]; omega
  have HV := Lib.hid hv
  have S0 : Hid (Step W w) := Lib.hid (Step.of e0)
  clear hv
  go_enter Tryd.func25, Tryd.ntmps25
  go_wp2
  go_loopw [0, 7] (fun v i wr => ∃ (j L : Nat) (zs : List Nat), j ≤ 8 ∧ i = .int .i64 ((j : Int) - 1) ∧ Hid (L + j = n + k ∧ zs ++ spl x j = xs ++ spl x k ∧ Ow wr W.heap.size v L zs) ∧ Hid (Step W wr)) (fun _ i _ => (intOf i + 1).toNat)
  case atStart => exact ⟨k, n, xs, hk, by rfl, Lib.hid ⟨rfl, rfl, HV.out⟩, S0⟩
  case round =>
    obtain ⟨j, L, zs, hj, rfl, hH, S⟩ := hrel
    have SW : Step W wr := S.out
    obtain ⟨A, c, rfl⟩ := own_form hH.out.2.2
    have hL : L ≤ 1000008 := by have := hH.out.1; omega
    clear HV S0 S
    rcases (by omega : j = 0 ∨ j = 1 ∨ j = 2 ∨ j = 3 ∨ j = 4 ∨ j = 5 ∨ j = 6 ∨ j = 7 ∨ j = 8) with rfl | rfl | rfl | rfl | rfl | rfl | rfl | rfl | rfl
    · have hLn : L = n + k := by have := hH.out.1; omega
      subst hLn
      have hB : Hid (Ow wr W.heap.size (.slice A (n + k) c) (n + k) (xs ++ spl x k)) := Lib.hid (by
        have h1 := hH.out.2.1
        have h2 := hH.out.2.2
        rw [show spl x 0 = [] from rfl, List.append_nil] at h1
        rw [← h1]
        exact h2)
      go_wp2
      go_ret
      exact ⟨A, c, rfl, hB.out, SW⟩
    · have hM := Lib.hid (spl_move zs xs x 0 k hH.out.2.1)
      have hxx := hx
      go_wp2_with (at_builtin; refine ApE.wpE .u8 W wr (by rfl) _ _ 37 (by rfl) 5 i0 _ 1 Tryd.underlying37 hi hz0 hz1 hz2 rfl _ L (NL zs) (by rfl) hH.out.2.2 _ 1 1 (NL [x / 256 ^ 0 % 256]) (by rfl) rfl (lit1U _ _ _ _ _ (by have := hxx.out; simp; try omega) (by simp)) (by omega) (by omega) ?_; intro A4 c4 w4 O4 S4)
      go_roundw
      case rel => exact ⟨0, L + 1, _, by omega, by go_num, Lib.hid ⟨by have := hH.out.1; omega, hM.out, Ow.app O4⟩, Lib.hid S4⟩
      case measure => simp [intOf]
    · have hM := Lib.hid (spl_move zs xs x 1 k hH.out.2.1)
      have hxx := hx
      go_wp2_with (at_builtin; refine ApE.wpE .u8 W wr (by rfl) _ _ 37 (by rfl) 5 i0 _ 1 Tryd.underlying37 hi hz0 hz1 hz2 rfl _ L (NL zs) (by rfl) hH.out.2.2 _ 1 1 (NL [x / 256 ^ 1 % 256]) (by rfl) rfl (lit1U _ _ _ _ _ (by have := hxx.out; simp; try omega) (by simp)) (by omega) (by omega) ?_; intro A4 c4 w4 O4 S4)
      go_roundw
      case rel => exact ⟨1, L + 1, _, by omega, by go_num, Lib.hid ⟨by have := hH.out.1; omega, hM.out, Ow.app O4⟩, Lib.hid S4⟩
      case measure => simp [intOf]
    · have hM := Lib.hid (spl_move zs xs x 2 k hH.out.2.1)
      have hxx := hx
      go_wp2_with (at_builtin; refine ApE.wpE .u8 W wr (by rfl) _ _ 37 (by rfl) 5 i0 _ 1 Tryd.underlying37 hi hz0 hz1 hz2 rfl _ L (NL zs) (by rfl) hH.out.2.2 _ 1 1 (NL [x / 256 ^ 2 % 256]) (by rfl) rfl (lit1U _ _ _ _ _ (by have := hxx.out; simp; try omega) (by simp)) (by omega) (by omega) ?_; intro A4 c4 w4 O4 S4)
      go_roundw
      case rel => exact ⟨2, L + 1, _, by omega, by go_num, Lib.hid ⟨by have := hH.out.1; omega, hM.out, Ow.app O4⟩, Lib.hid S4⟩
      case measure => simp [intOf]
    · have hM := Lib.hid (spl_move zs xs x 3 k hH.out.2.1)
      have hxx := hx
      go_wp2_with (at_builtin; refine ApE.wpE .u8 W wr (by rfl) _ _ 37 (by rfl) 5 i0 _ 1 Tryd.underlying37 hi hz0 hz1 hz2 rfl _ L (NL zs) (by rfl) hH.out.2.2 _ 1 1 (NL [x / 256 ^ 3 % 256]) (by rfl) rfl (lit1U _ _ _ _ _ (by have := hxx.out; simp; try omega) (by simp)) (by omega) (by omega) ?_; intro A4 c4 w4 O4 S4)
      go_roundw
      case rel => exact ⟨3, L + 1, _, by omega, by go_num, Lib.hid ⟨by have := hH.out.1; omega, hM.out, Ow.app O4⟩, Lib.hid S4⟩
      case measure => simp [intOf]
    · have hM := Lib.hid (spl_move zs xs x 4 k hH.out.2.1)
      have hxx := hx
      go_wp2_with (at_builtin; refine ApE.wpE .u8 W wr (by rfl) _ _ 37 (by rfl) 5 i0 _ 1 Tryd.underlying37 hi hz0 hz1 hz2 rfl _ L (NL zs) (by rfl) hH.out.2.2 _ 1 1 (NL [x / 256 ^ 4 % 256]) (by rfl) rfl (lit1U _ _ _ _ _ (by have := hxx.out; simp; try omega) (by simp)) (by omega) (by omega) ?_; intro A4 c4 w4 O4 S4)
      go_roundw
      case rel => exact ⟨4, L + 1, _, by omega, by go_num, Lib.hid ⟨by have := hH.out.1; omega, hM.out, Ow.app O4⟩, Lib.hid S4⟩
      case measure => simp [intOf]
    · have hM := Lib.hid (spl_move zs xs x 5 k hH.out.2.1)
      have hxx := hx
      go_wp2_with (at_builtin; refine ApE.wpE .u8 W wr (by rfl) _ _ 37 (by rfl) 5 i0 _ 1 Tryd.underlying37 hi hz0 hz1 hz2 rfl _ L (NL zs) (by rfl) hH.out.2.2 _ 1 1 (NL [x / 256 ^ 5 % 256]) (by rfl) rfl (lit1U _ _ _ _ _ (by have := hxx.out; simp; try omega) (by simp)) (by omega) (by omega) ?_; intro A4 c4 w4 O4 S4)
      go_roundw
      case rel => exact ⟨5, L + 1, _, by omega, by go_num, Lib.hid ⟨by have := hH.out.1; omega, hM.out, Ow.app O4⟩, Lib.hid S4⟩
      case measure => simp [intOf]
    · have hM := Lib.hid (spl_move zs xs x 6 k hH.out.2.1)
      have hxx := hx
      go_wp2_with (at_builtin; refine ApE.wpE .u8 W wr (by rfl) _ _ 37 (by rfl) 5 i0 _ 1 Tryd.underlying37 hi hz0 hz1 hz2 rfl _ L (NL zs) (by rfl) hH.out.2.2 _ 1 1 (NL [x / 256 ^ 6 % 256]) (by rfl) rfl (lit1U _ _ _ _ _ (by have := hxx.out; simp; try omega) (by simp)) (by omega) (by omega) ?_; intro A4 c4 w4 O4 S4)
      go_roundw
      case rel => exact ⟨6, L + 1, _, by omega, by go_num, Lib.hid ⟨by have := hH.out.1; omega, hM.out, Ow.app O4⟩, Lib.hid S4⟩
      case measure => simp [intOf]
    · have hM := Lib.hid (spl_move zs xs x 7 k hH.out.2.1)
      have hxx := hx
      go_wp2_with (at_builtin; refine ApE.wpE .u8 W wr (by rfl) _ _ 37 (by rfl) 5 i0 _ 1 Tryd.underlying37 hi hz0 hz1 hz2 rfl _ L (NL zs) (by rfl) hH.out.2.2 _ 1 1 (NL [x / 256 ^ 7 % 256]) (by rfl) rfl (lit1U _ _ _ _ _ (by have := hxx.out; simp; try omega) (by simp)) (by omega) (by omega) ?_; intro A4 c4 w4 O4 S4)
      go_roundw
      case rel => exact ⟨7, L + 1, _, by omega, by go_num, Lib.hid ⟨by have := hH.out.1; omega, hM.out, Ow.app O4⟩, Lib.hid S4⟩
      case measure => simp [intOf]
theorem spell8 (W w : World) (e0 : Ext W w) (v : Value) (n : Nat) (xs : List Nat) (x : Nat) (hx : Hid (x < 18446744073709551616)) (hv : Ow w W.heap.size v n xs) (hn : n ≤ 1000000) :
    Calls Tryd.prog 25 #[v, .int .u64 x, .int .i64 8] w fun e w' => ∃ A c, e = .returned (.slice A (n + 8) c) ∧ Ow w' W.heap.size (.slice A (n + 8) c) (n + 8) (xs ++ spl x 8) ∧ Step W w' :=
  spell_any W w v n xs x 8 hx (by omega) hv hn
theorem spell2 (W w : World) (e0 : Ext W w) (v : Value) (n : Nat) (xs : List Nat) (x : Nat) (hx : Hid (x < 18446744073709551616)) (hv : Ow w W.heap.size v n xs) (hn : n ≤ 1000000) :
    Calls Tryd.prog 25 #[v, .int .u64 x, .int .i64 2] w fun e w' => ∃ A c, e = .returned (.slice A (n + 2) c) ∧ Ow w' W.heap.size (.slice A (n + 2) c) (n + 2) (xs ++ spl x 2) ∧ Step W w' :=
  spell_any W w v n xs x 2 hx (by omega) hv hn
/-- What a seed and a salt are summed as. -/
def sdt (x y : Nat) : List Nat := [83] ++ spl x 8 ++ spl y 8
theorem sdt_len (x y : Nat) : (sdt x y).length = 17 := by simp [sdt, spl_len]
theorem sdt_b8 (x y : Nat) : B8 (sdt x y) := b8_app (b8_app (b8_mem (by simp)) (spl_b8 x 8)) (spl_b8 y 8)
def sdB (x y : Nat) : Byt := ⟨sdt x y, sdt_b8 x y, by rw [sdt_len]; omega⟩
/-- What they are bound to. -/
def sdS (x y : Nat) : List Nat := Sh.sum (sdt x y)
theorem sdS_len (x y : Nat) : (sdS x y).length = 32 := sum_fine _
set_option maxHeartbeats 3200000 in
set_option maxRecDepth 100000 in
theorem of_any (x y : Nat) (w : World) (hx : Hid (x < 18446744073709551616)) (hy : Hid (y < 18446744073709551616)) (hL : LaidK w) :
    Calls Tryd.prog 16 #[.int .u64 x, .int .u64 y] w fun e w' => e = .returned (.agg (vl .u8 (sdS x y)).toArray) ∧ Step w w' := by
  obtain ⟨Z3, hZ3⟩ : ∃ Z, zs.toArray = Z := ⟨_, rfl⟩
  have hz3 : Hid (∀ w, (zeroValue 22).run Tryd.prog w = .ok (.agg Z3) w) := Lib.hid (hZ3 ▸ zero32)
  have hsz3 : Z3.size = 32 := by rw [← hZ3]; rfl
  clear hZ3
  have T0 := Lg.there_new w Z3 22 32 hsz3
  have c1 : ∀ (w1 : World), Ext (w.alloc (.cells Z3 22)) w1 → ∀ v, Ow w1 (w.alloc (.cells Z3 22)).heap.size v 1 [83] → Calls Tryd.prog 25 #[v, .int .u64 x, .int .i64 8] w1 fun e w' => ∃ A c, e = .returned (.slice A 9 c) ∧ Ow w' (w.alloc (.cells Z3 22)).heap.size (.slice A 9 c) 9 ([83] ++ spl x 8) ∧ Step (w.alloc (.cells Z3 22)) w' :=
    fun w1 e v h => spell8 _ w1 e v 1 [83] x hx h (by omega)
  have c2 : ∀ (w1 : World), Ext (w.alloc (.cells Z3 22)) w1 → ∀ v, Ow w1 (w.alloc (.cells Z3 22)).heap.size v 9 ([83] ++ spl x 8) → Calls Tryd.prog 25 #[v, .int .u64 y, .int .i64 8] w1 fun e w' => ∃ A c, e = .returned (.slice A 17 c) ∧ Ow w' (w.alloc (.cells Z3 22)).heap.size (.slice A 17 c) 17 (sdt x y) ∧ Step (w.alloc (.cells Z3 22)) w' :=
    fun w1 e v h => spell8 _ w1 e v 9 _ y hy h (by omega)
  have cS : ∀ (w : World) (A : Option Addr) (c : Nat), 17 ≤ c → R8 w A (sdt x y) → LaidK w → Calls Tryd.prog 20 #[.slice A 17 c] w fun e w' => e = .returned (.agg (vl .u8 (sdS x y)).toArray) ∧ Step w w' :=
    fun w A c hc h1 hL => of_dev A c 17 (sdB x y) w (sdt_len x y) hc h1 hL
  have lF : (vl .u8 (sdS x y)).length = 32 := by rw [vl_len, sdS_len]
  have oF := Lib.hid (vl_one .u8 (sdS x y))
  generalize vl .u8 (sdS x y) = F at cS lF oF
  have eF : F.toArray.size = 32 := lF
  generalize sdt x y = T at c2 cS
  generalize [83] ++ spl x 8 = T1 at c1 c2
  clear hx hy
  go_enter Tryd.func16, Tryd.ntmps16
  go_wp2_with (first
    | refine Lg.wpAlloc (by rfl) 22 (by rfl) Z3 hz3.out ?_
    | (go_at_call 25; ((with_reducible refine (c1 _ inferInstance _ (Ow.lit1 _ _ _ _ _ (by simp) (by simp) (by simp))).mono ?_); rintro e w3 ⟨A3, d3, rfl, O3, S3⟩))
    | (go_at_call 25; ((with_reducible refine (c2 _ inferInstance _ (ApE.own_ext O3 inferInstance)).mono ?_); rintro e w4 ⟨A4, d4, rfl, O4, S4⟩))
    | (go_at_call 20; ((with_reducible refine (cS _ _ _ (ApE.capped O4) (Row.of_own O4) hL.to).mono ?_); rintro e w5 ⟨rfl, S5⟩; have T5 : w5.there w.heap.size 0 32 := there_under T0 (inferInstance : Ext (w.alloc (Obj.cells Z3 22)) w5).h (by simp)))
    | refine wpList_store_mid (by rfl) 22 (.tmp 4) (.tmp 10) (by rfl) w.heap.size 0 F.toArray (by rfl) (by rfl) (by rw [eF]; exact T5) (by rw [eF]; exact size32) oF.out ?_)
  refine bodyPost_ret (results_one (by rfl) _ _ w.heap.size 0 F _ (by rfl) (World.rangeAt_setCells_same _ _ _ _ (by rw [lF]; exact T5)) Tryd.underlying22 rfl (by rw [lF]; exact size32)) (by rfl) ?_
  exact ⟨rfl, ⟨Lg.below_setCells (Nat.le_refl _) _ _ _ (inferInstance : Ext w w5).h⟩⟩
end Se
end Go.Proofs.YtkcldacdpoiecaaDoor
