/- Layer 7: a number of the field out of a seed, and the child, the program's. Conditions: sha.k reads as laid. -/
import Derived.Test.YtmjbbaekdbiopaaDoorPgK
import Derived.Test.YtmjbbaekdbiopaaDoorPkF
namespace Go.Proofs.YtmjbbaekdbiopaaDoor
open Go.RowKit Go.Lib
namespace Pg
open SlR Sh Sp Mc
/-- The first eight bytes of a block as a number of the field. -/
def numP (x : Nat) (s : ByteArray) (i : Nat) : Nat := nb ((blkP x s i).take 8) % FpM.P
/-- What is wrong: ErrArg. -/
def errArg : Value := .iface 68 (.int .i64 1)
theorem row_part {w : World} {g o n : Nat} {s : List Nat} (hg : g < w.heap.size) (h : w.rangeAt g 0 (vl .u8 s)) : R8 w (some ⟨g, o, none⟩) ((s.drop o).take n) := fun j x hx => by
  refine ⟨_, rfl, hg, ?_⟩
  have hx2 : (NL s)[o + j]? = some x := by
    unfold NL at hx ⊢
    rw [List.getElem?_map] at hx ⊢
    by_cases hj : j < n
    · rw [List.getElem?_take_of_lt hj, List.getElem?_drop] at hx
      exact hx
    · rw [List.getElem?_take, if_neg hj] at hx
      cases hx
  have := h (o + j) (.int .u8 x) (by unfold vl; rw [List.getElem?_map]; unfold NL at hx2; rw [List.getElem?_map] at hx2; cases hq : s[o + j]? with
    | none => rw [hq] at hx2; cases hx2
    | some v => rw [hq] at hx2; cases hx2; rfl)
  rw [Addr.add_mid]
  rwa [Nat.zero_add] at this
set_option maxHeartbeats 3200000 in
set_option maxRecDepth 100000 in
theorem num_yes (x : Nat) (s : ByteArray) (i : Nat) (w : World) (hx : Hid (x < 18446744073709551616)) (hs : lab s = true) (hi : i ≤ 1048576) (hL : LaidK w) :
    Calls Tryd.prog 48 #[.int .u64 x, .string s, .int .i64 i] w fun e w' => e = .returned (.tuple #[.int .u64 (numP x s i : Nat), .nilIface]) ∧ Step w w' := by
  obtain ⟨Z3, hZ3⟩ : ∃ Z, zs.toArray = Z := ⟨_, rfl⟩
  have hz3 : Hid (∀ w, (zeroValue 44).run Tryd.prog w = .ok (.agg Z3) w) := Lib.hid (hZ3 ▸ zero32)
  have hsz3 : Z3.size = 32 := by rw [← hZ3]; rfl
  clear hZ3
  have hl := lab_size hs
  have iI : (i : Int) ≤ 1048576 := by omega
  have dL := fun (w : World) => label_any s w
  rw [hs] at dL
  have dB := fun (w : World) (h : LaidK w) => block_dev x s i w hx hl hi h
  have b8 := blkP_b8 x s i (by omega)
  have len := blkP_len x s i
  have dN := fun (A : Option Addr) (c : Nat) (w : World) (h : R8 w A ((blkP x s i).take 8)) => number_any A c 8 ((blkP x s i).take 8) w (by rw [List.length_take, len]; rfl) (by omega) h (by have := b8_part b8 0 8; simpa using this)
  have dF := fun (w : World) => FpC.of_any (nb ((blkP x s i).take 8)) w
  have lF : (vl .u8 (blkP x s i)).length = 32 := by rw [vl_len, blkP_len]
  have oF := Lib.hid (vl_one .u8 (blkP x s i))
  have rF : ∀ (w : World) (g : Nat), g < w.heap.size → w.rangeAt g 0 (vl .u8 (blkP x s i)) → R8 w (some ⟨g, 0, none⟩) ((blkP x s i).take 8) := fun w g hg h => by
    have := row_part (o := 0) (n := 8) hg h
    simpa using this
  have hR : Hid (FpM.fOf (nb ((blkP x s i).take 8)) = numP x s i) := Lib.hid rfl
  rw [hR.out] at dF
  generalize vl .u8 (blkP x s i) = F at dB lF oF rF
  generalize (blkP x s i).take 8 = b at dN dF rF
  generalize numP x s i = r at dF
  generalize nb b = q at dN dF
  clear hR b8 len hx
  go_enter Tryd.func48, Tryd.ntmps48
  go_wp2_with (first
    | (go_at_call 64; ((with_reducible refine (dL _).mono ?_); rintro e w2 ⟨rfl, S2⟩))
    | refine Lg.wpAlloc (by rfl) 44 (by rfl) Z3 hz3.out ?_
    | (go_at_call 65; ((with_reducible refine (dB _ hL.to).mono ?_); rintro e w3 ⟨rfl, S3⟩; obtain ⟨W3, st3, X3, R3, l3⟩ := store_new w3 Z3 F hsz3 lF oF.out))
    | (go_at_call 66; ((with_reducible refine (dN _ _ _ (rF _ _ l3 R3)).mono ?_); rintro e w4 ⟨rfl, rfl⟩))
    | (go_at_call 12; ((with_reducible refine (dF _).mono ?_); rintro e w5 ⟨rfl, rfl⟩)))
  go_ret2
  exact ⟨rfl, Step.of inferInstance⟩
set_option maxHeartbeats 3200000 in
set_option maxRecDepth 100000 in
theorem num_no (x : Nat) (s : ByteArray) (i : Int) (w : World) (h : lab s = false ∨ i < 0 ∨ 1048576 < i) :
    Calls Tryd.prog 48 #[.int .u64 x, .string s, .int .i64 i] w fun e w' => e = .returned (.tuple #[.int .u64 0, errArg]) ∧ Step w w' := by
  have dL := fun (w : World) => label_any s w
  rcases (by
    rcases h with h | h | h
    · exact .inl h
    · cases hs : lab s
      · exact .inl rfl
      · exact .inr (.inl ⟨rfl, h⟩)
    · cases hs : lab s
      · exact .inl rfl
      · exact .inr (.inr ⟨rfl, by omega, h⟩) : lab s = false ∨ (lab s = true ∧ i < 0) ∨ (lab s = true ∧ ¬ i < 0 ∧ 1048576 < i)) with h1 | ⟨h1, h2⟩ | ⟨h1, h2, h3⟩
  all_goals
    rw [h1] at dL
    clear h1 h
    go_enter Tryd.func48, Tryd.ntmps48
    go_wp2_with (go_at_call 64; ((with_reducible refine (dL _).mono ?_); rintro e w2 ⟨rfl, S2⟩))
    go_ret2
    exact ⟨rfl, Step.of inferInstance⟩
theorem child_yes (x : Nat) (s : ByteArray) (w : World) (hx : Hid (x < 18446744073709551616)) (hs : lab s = true) (hL : LaidK w) :
    Calls Tryd.prog 50 #[.int .u64 x, .string s] w fun e w' => e = .returned (.tuple #[.int .u64 (numP x s 0 : Nat), .nilIface]) ∧ Step w w' := by
  have dN := fun (w : World) (hL : LaidK w) => num_yes x s 0 w hx hs (by omega) hL
  rw [show ((0 : Nat) : Int) = 0 from rfl] at dN
  generalize numP x s 0 = r at dN
  go_enter Tryd.func50, Tryd.ntmps50
  go_wp2_with (go_at_call 48; ((with_reducible refine (dN _ hL.to).mono ?_); rintro e w2 ⟨rfl, S2⟩))
  go_ret2
  exact ⟨rfl, Step.of inferInstance⟩
theorem child_no (x : Nat) (s : ByteArray) (w : World) (hs : lab s = false) :
    Calls Tryd.prog 50 #[.int .u64 x, .string s] w fun e w' => e = .returned (.tuple #[.int .u64 0, errArg]) ∧ Step w w' := by
  have dN := fun (w : World) => num_no x s 0 w (.inl hs)
  unfold errArg at dN
  go_enter Tryd.func50, Tryd.ntmps50
  go_wp2_with (go_at_call 48; ((with_reducible refine (dN _).mono ?_); rintro e w2 ⟨rfl, S2⟩))
  go_ret2
  exact ⟨rfl, Step.of inferInstance⟩
end Pg
end Go.Proofs.YtmjbbaekdbiopaaDoor
