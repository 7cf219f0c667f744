/- Layer 8, the document's: what a seed and a salt, and a list, are summed as. Conditions: at most 31 rows of at most 300 bytes. -/
import Derived.Test.YtkcldacdpoiecaaDoorSealB
import Derived.Test.YtkcldacdpoiecaaDoorApG
namespace Go.Proofs.YtkcldacdpoiecaaDoor
open Go.RowKit Go.Lib
namespace Se
open SlR Sh Sp Pg
/-- The divisors, one behind the other. -/
def pw (j : Nat) : Nat := if j < 8 then 256 ^ (7 - j) else 0
theorem pw_step (j : Nat) (h : j < 8) : pw j / 256 = pw (j + 1) := by
  rcases (by omega : j = 0 ∨ j = 1 ∨ j = 2 ∨ j = 3 ∨ j = 4 ∨ j = 5 ∨ j = 6 ∨ j = 7) with rfl | rfl | rfl | rfl | rfl | rfl | rfl | rfl <;> rfl
theorem pw_pos (j : Nat) (h : j < 8) : 0 < pw j := by
  rcases (by omega : j = 0 ∨ j = 1 ∨ j = 2 ∨ j = 3 ∨ j = 4 ∨ j = 5 ∨ j = 6 ∨ j = 7) with rfl | rfl | rfl | rfl | rfl | rfl | rfl | rfl <;> decide
theorem pw_lt (j : Nat) : pw j < 18446744073709551616 := by
  by_cases h : j < 8
  · rcases (by omega : j = 0 ∨ j = 1 ∨ j = 2 ∨ j = 3 ∨ j = 4 ∨ j = 5 ∨ j = 6 ∨ j = 7) with rfl | rfl | rfl | rfl | rfl | rfl | rfl | rfl <;> decide
  · unfold pw; rw [if_neg h]; decide
theorem spl_take (x j : Nat) (h : j < 8) : (spl x 8).take j ++ [x / pw j % 256] = (spl x 8).take (j + 1) := by
  rcases (by omega : j = 0 ∨ j = 1 ∨ j = 2 ∨ j = 3 ∨ j = 4 ∨ j = 5 ∨ j = 6 ∨ j = 7) with rfl | rfl | rfl | rfl | rfl | rfl | rfl | rfl <;> rfl
theorem quo_eq (x q : Nat) (hx : x < 18446744073709551616) : IntKind.u64.wrap ((x : Int) / (q : Int)) = ((x / q : Nat) : Int) := by
  have h := Nat.div_le_self x q
  have e : (x : Int) / (q : Int) = ((x / q : Nat) : Int) := (Int.natCast_ediv x q).symm
  rw [e]
  generalize x / q = m at h
  rw [IntKind.wrap_u64]
  omega
theorem rem_eq (x q : Nat) (hx : x < 18446744073709551616) : (IntKind.u64.wrap ((x : Int) / (q : Int))).tmod 256 % 256 = (x : Int) / (q : Int) % 256 := by
  rw [quo_eq x q hx]
  have e : (x : Int) / (q : Int) = ((x / q : Nat) : Int) := (Int.natCast_ediv x q).symm
  rw [e]
  generalize x / q = m
  rw [Int.tmod_eq_emod_of_nonneg (by omega)]
  omega
/-- The text so far: behind the letter none, one, or both. -/
def sdk (x y : Nat) : Nat → List Nat
  | 0 => [83]
  | 1 => [83] ++ spl x 8
  | _ => sdt x y
/-- What holds behind each append: the text's own bytes, and the two numbers behind block G, apart from these. -/
def Inv (w : World) (B G : Nat) (x y : Nat) (v : Value) (L : Nat) (xs : List Nat) : Prop := Ow w B v L xs ∧ v.ownBlock ≠ some G ∧ G < w.heap.size ∧ w.cell? ⟨G, 0, none⟩ = some (.int .u64 (x : Nat)) ∧ w.cell? ⟨G, 1, none⟩ = some (.int .u64 (y : Nat))
theorem Inv.step {w w' : World} {B G x y L l : Nat} {v v' : Value} {xs ys : List Nat} (h : Inv w B G x y v L xs) (k : ApG.Kept w w' v v') (o : ApE.Own .u8 5 w' B v' (L + l) (NL xs ++ NL ys)) : Inv w' B G x y v' (L + l) (xs ++ ys) :=
  ⟨Ow.app o, (k.2 G h.2.2.1 h.2.1).1, Nat.lt_of_lt_of_le h.2.2.1 k.1, (k.cell h.2.2.1 h.2.1 0).trans h.2.2.2.1, (k.cell h.2.2.1 h.2.1 1).trans h.2.2.2.2⟩
set_option maxHeartbeats 6400000 in
set_option maxRecDepth 100000 in
theorem rtext_any (x y : Nat) (w : World) (hx : Hid (x < 18446744073709551616)) (hy : Hid (y < 18446744073709551616)) :
    Calls Tryd.prog 19 #[.int .u64 x, .int .u64 y] w fun e w' => ∃ A c, e = .returned (.slice A 17 c) ∧ Ow w' w.heap.size (.slice A 17 c) 17 (sdt x y) ∧ Step w w' := by
  obtain ⟨i0, hi, hz0, hz1, hz2⟩ := info_parts infoB
  go_enter Tryd.func19, Tryd.ntmps19
  go_wp2
  have I0 : Hid (Inv ((w.alloc (Obj.cells #[Value.int IntKind.u8 83] 5)).alloc (Obj.cells #[Value.int IntKind.u64 ↑x, Value.int IntKind.u64 ↑y] 45)) w.heap.size (w.heap.size + 1) x y (.slice (some ⟨w.heap.size, 0, none⟩) 1 1) 1 [83]) := by
    refine Lib.hid ⟨ApE.own_ext (Ow.lit1 w w.heap.size w.heap.size 83 83 (Nat.le_refl _) rfl rfl) inferInstance, ?_, ?_, ?_, ?_⟩
    · intro h
      simp [Value.ownBlock] at h
    · simp
    · simp
    · simp
  have S0 : Hid (Step w ((w.alloc (Obj.cells #[Value.int IntKind.u8 83] 5)).alloc (Obj.cells #[Value.int IntKind.u64 ↑x, Value.int IntKind.u64 ↑y] 45))) := Lib.hid (Step.of inferInstance)
  have hG : w.heap.size < w.heap.size + 1 := by omega
  generalize (w.alloc (Obj.cells #[Value.int IntKind.u8 83] 5)).alloc (Obj.cells #[Value.int IntKind.u64 ↑x, Value.int IntKind.u64 ↑y] 45) = W1 at I0 S0 ⊢
  generalize w.heap.size + 1 = G at *
  clear hG
  go_loopw [5, 7] (fun v i wr => ∃ k : Nat, k ≤ 2 ∧ i = .int .i64 k ∧ Hid (Inv wr w.heap.size G x y v (1 + 8 * k) (sdk x y k)) ∧ Hid (Step w wr)) (fun _ i _ => 2 - (intOf i).toNat)
  case atStart => exact ⟨0, Nat.zero_le _, rfl, I0, S0⟩
  case round =>
    obtain ⟨k, hk, hi0, hI, hS⟩ := hrel
    clear I0 S0
    obtain ⟨A1, c1, rfl⟩ := own_form hI.out.1
    rcases (by omega : k = 0 ∨ k = 1 ∨ k = 2) with rfl | rfl | rfl
    · obtain rfl : _ = Value.int .i64 0 := hi0
      have wx : ∃ w9, w9 = wr := ⟨_, rfl⟩
      obtain ⟨w9, hw9⟩ := wx
      subst hw9
      have hI0 : Hid (Inv w9 w.heap.size G x y (.slice A1 1 c1) (1 + 0) (sdk x y 0 ++ (spl x 8).take 0)) := Lib.hid (by rw [List.take_zero, List.append_nil]; exact hI.out)
      have hend : Hid (∀ (wi : World) (v : Value), Inv wi w.heap.size G x y v (1 + 8) (sdk x y 0 ++ (spl x 8).take 8) → Inv wi w.heap.size G x y v (1 + 8 * 1) (sdk x y 1)) := Lib.hid (fun wi v h => h)
      clear hI
      go_wp2
      go_loopw [5, 8, 9] (fun v q i wi => ∃ j : Nat, j ≤ 8 ∧ i = .int .i64 j ∧ q = .int .u64 (pw j : Nat) ∧ Hid (Inv wi w.heap.size G x y v (1 + j) (sdk x y 0 ++ (spl x 8).take j)) ∧ Hid (Step w wi)) (fun _ _ i _ => 8 - (intOf i).toNat)
      case atStart => exact ⟨0, Nat.zero_le _, rfl, by rfl, hI0, hS⟩
      case round =>
        obtain ⟨j, hj, rfl, rfl, hJ, hT⟩ := hrel
        obtain ⟨A2, c2, rfl⟩ := own_form hJ.out.1
        have SW : Step w wr := hT.out
        clear hI0 hT hS
        by_cases hlt : j < 8
        · have hq := pw_pos j hlt
          have hqs := Lib.hid (pw_step j hlt)
          have hX := Lib.hid (spl_take x j hlt)
          have hc := hJ.out.2.2.2.1
          have hux := hx
          have hq64 := Lib.hid (pw_lt j)
          generalize pw j = q at hq hqs hX hq64
          have hqq := hq64
          have hqI : ¬ (q : Int) = 0 := by omega
          have hqI2 : 0 < (q : Int) := by omega
          go_wp2_with (at_builtin; refine ApG.wp .u8 w wr (by rfl) _ _ 37 (by rfl) 5 i0 _ 1 Tryd.underlying37 hi hz0 hz1 hz2 rfl _ (1 + j) (NL (sdk x y 0 ++ (spl x 8).take j)) (by rfl) hJ.out.1 _ 1 1 (NL [x / q % 256]) (by rfl) rfl (lit1U _ _ _ _ _ (by simp; try exact rem_eq _ _ hux.out) (by simp)) (by omega) (by omega) ?_; intro A4 c4 w4 O4 S4 K4)
          go_roundw
          case rel => exact ⟨j + 1, by omega, by go_num, by rw [← hqs.out]; exact int_eq (quo_eq q 256 hqq.out), Lib.hid (by have := hJ.out.step K4 O4; rw [List.append_assoc, hX.out] at this; exact this), Lib.hid S4⟩
          case measure => simp [intOf]; omega
        · have hj8 : j = 8 := by omega
          subst hj8
          have hE := Lib.hid (hend.out _ _ hJ.out)
          have hS2 : Hid (Step w wr) := Lib.hid SW
          clear hJ
          go_wp2
          go_roundw
          case rel => exact ⟨1, by omega, by go_num, hE, hS2⟩
          case measure => simp [intOf]
    · obtain rfl : _ = Value.int .i64 1 := hi0
      have wx : ∃ w9, w9 = wr := ⟨_, rfl⟩
      obtain ⟨w9, hw9⟩ := wx
      subst hw9
      have hI0 : Hid (Inv w9 w.heap.size G x y (.slice A1 9 c1) (9 + 0) (sdk x y 1 ++ (spl y 8).take 0)) := Lib.hid (by rw [List.take_zero, List.append_nil]; exact hI.out)
      have hend : Hid (∀ (wi : World) (v : Value), Inv wi w.heap.size G x y v (9 + 8) (sdk x y 1 ++ (spl y 8).take 8) → Inv wi w.heap.size G x y v (1 + 8 * 2) (sdk x y 2)) := Lib.hid (fun wi v h => h)
      clear hI
      go_wp2
      go_loopw [5, 8, 9] (fun v q i wi => ∃ j : Nat, j ≤ 8 ∧ i = .int .i64 j ∧ q = .int .u64 (pw j : Nat) ∧ Hid (Inv wi w.heap.size G x y v (9 + j) (sdk x y 1 ++ (spl y 8).take j)) ∧ Hid (Step w wi)) (fun _ _ i _ => 8 - (intOf i).toNat)
      case atStart => exact ⟨0, Nat.zero_le _, rfl, by rfl, hI0, hS⟩
      case round =>
        obtain ⟨j, hj, rfl, rfl, hJ, hT⟩ := hrel
        obtain ⟨A2, c2, rfl⟩ := own_form hJ.out.1
        have SW : Step w wr := hT.out
        clear hI0 hT hS
        by_cases hlt : j < 8
        · have hq := pw_pos j hlt
          have hqs := Lib.hid (pw_step j hlt)
          have hX := Lib.hid (spl_take y j hlt)
          have hc := hJ.out.2.2.2.2
          have hux := hy
          have hq64 := Lib.hid (pw_lt j)
          generalize pw j = q at hq hqs hX hq64
          have hqq := hq64
          have hqI : ¬ (q : Int) = 0 := by omega
          have hqI2 : 0 < (q : Int) := by omega
          go_wp2_with (at_builtin; refine ApG.wp .u8 w wr (by rfl) _ _ 37 (by rfl) 5 i0 _ 1 Tryd.underlying37 hi hz0 hz1 hz2 rfl _ (9 + j) (NL (sdk x y 1 ++ (spl y 8).take j)) (by rfl) hJ.out.1 _ 1 1 (NL [y / q % 256]) (by rfl) rfl (lit1U _ _ _ _ _ (by simp; try exact rem_eq _ _ hux.out) (by simp)) (by omega) (by omega) ?_; intro A4 c4 w4 O4 S4 K4)
          go_roundw
          case rel => exact ⟨j + 1, by omega, by go_num, by rw [← hqs.out]; exact int_eq (quo_eq q 256 hqq.out), Lib.hid (by have := hJ.out.step K4 O4; rw [List.append_assoc, hX.out] at this; exact this), Lib.hid S4⟩
          case measure => simp [intOf]; omega
        · have hj8 : j = 8 := by omega
          subst hj8
          have hE := Lib.hid (hend.out _ _ hJ.out)
          have hS2 : Hid (Step w wr) := Lib.hid SW
          clear hJ
          go_wp2
          go_roundw
          case rel => exact ⟨2, by omega, by go_num, hE, hS2⟩
          case measure => simp [intOf]
    · obtain rfl : _ = Value.int .i64 2 := hi0
      have hB : Hid (Ow wr w.heap.size (.slice A1 17 c1) 17 (sdt x y)) := Lib.hid hI.out.1
      have SW : Step w wr := hS.out
      clear hI hS
      go_wp2
      go_ret
      exact ⟨_, _, rfl, hB.out, SW⟩
end Se
end Go.Proofs.YtkcldacdpoiecaaDoor
