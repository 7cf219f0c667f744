/- The document's own answers of layer 7 (package caucusref07): numbers of the field. Conditions: the label has at most 1000 bytes. -/
import Derived.Test.YtmjbbaekdbiopaaDoorPgR
namespace Go.Proofs.YtmjbbaekdbiopaaDoor
open Go.RowKit Go.Lib
namespace Pg
open SlR Sh Sp Mc
theorem mul256 (v : Nat) (h : v < 72057594037927936) : IntKind.u64.wrap (256 * (v : Int)) = 256 * (v : Int) := by rw [IntKind.wrap_u64]; omega
theorem add256 (v b : Nat) (h : v < 72057594037927936) (hb : b < 256) : IntKind.u64.wrap (256 * (v : Int) + (b : Int)) = ((v * 256 + b : Nat) : Int) := by rw [IntKind.wrap_u64]; omega
set_option maxHeartbeats 3200000 in
set_option maxRecDepth 100000 in
theorem rnum_yes (x : Nat) (s : ByteArray) (i : Nat) (w : World) (hx : Hid (x < 18446744073709551616)) (hs : lab s = true) (hi : i ≤ 1048576) :
    Calls Tryd.prog 49 #[.int .u64 x, .string s, .int .i64 i] w fun e w' => e = .returned (.tuple #[.int .u64 (numP x s i : Nat), .bool true]) ∧ Step w w' := by
  obtain ⟨Z3, hZ3⟩ : ∃ Z, zs.toArray = Z := ⟨_, rfl⟩
  have hz3 : Hid (∀ w, (zeroValue 44).run Tryd.prog w = .ok (.agg Z3) w) := Lib.hid (hZ3 ▸ zero32)
  have hsz3 : Z3.size = 32 := by rw [← hZ3]; rfl
  clear hZ3
  have hl := lab_size hs
  have iI : (i : Int) ≤ 1048576 := by omega
  have dL := fun (w : World) => rlabel_any s w (by omega)
  rw [hs] at dL
  have dB := fun (w : World) => rblock_dev x s i w hx (by omega) hi
  have b8 := blkP_b8 x s i (by omega)
  have len := blkP_len x s i
  have lF : (vl .u8 (blkP x s i)).length = 32 := by rw [vl_len, blkP_len]
  have oF := Lib.hid (vl_one .u8 (blkP x s i))
  have hlt := Lib.hid (fun k (h : k ≤ (blkP x s i).length) => nb_lt (blkP x s i) b8 k h)
  have hR : Hid (nb ((blkP x s i).take 8) % 2305843009213693951 = numP x s i) := Lib.hid rfl
  have cF : Hid (∀ k, k < 32 → (vl .u8 (blkP x s i))[k]? = some (.int .u8 ((blkP x s i).getD k 0 : Nat))) := Lib.hid fun k hk => vl_at .u8 _ k (by rw [len]; exact hk)
  generalize vl .u8 (blkP x s i) = F at dB lF oF cF
  generalize blkP x s i = b at hlt hR cF b8 len
  generalize numP x s i = r at hR
  clear hx
  go_enter Tryd.func49, Tryd.ntmps49
  go_wp2_with (first
    | (go_at_call 67; ((with_reducible refine (dL _).mono ?_); rintro e w2 ⟨rfl, rfl⟩))
    | refine Lg.wpAlloc (by rfl) 44 (by rfl) Z3 hz3.out ?_
    | (go_at_call 68; ((with_reducible refine (dB _).mono ?_); rintro e w3 ⟨rfl, S3⟩; obtain ⟨W3, st3, X3, R3, l3⟩ := store_new w3 Z3 F hsz3 lF oF.out)))
  generalize hG : w3.heap.size = G at R3 ⊢
  have SW : Hid (Below w2.heap.size w2 W3) := Lib.hid (inferInstance : Ext w2 W3).h
  have R3' := Lib.hid R3
  clear st3 X3 S3 hG l3 R3 oF
  go_loopw [9, 10] (fun v k wr => ∃ j : Nat, wr = W3 ∧ j ≤ 8 ∧ k = .int .i64 j ∧ v = .int .u64 (nb (b.take j) : Nat)) (fun _ k _ => 8 - (intOf k).toNat)
  case atStart => exact ⟨0, rfl, Nat.zero_le _, rfl, rfl⟩
  case round =>
    obtain ⟨j, rfl, hj, rfl, rfl⟩ := hrel
    by_cases hlt8 : j < 8
    · have hc := R3'.out j _ (cF.out j (by omega))
      rw [Nat.zero_add] at hc
      have hx := b8 j
      have hv : nb (b.take j) < 72057594037927936 := Nat.lt_of_lt_of_le (hlt.out j (by omega)) (Nat.le_trans (Nat.pow_le_pow_right (by omega) (by omega : j ≤ 7)) (by decide))
      have hX : Hid (nb (b.take (j + 1)) = nb (b.take j) * 256 + b.getD j 0) := Lib.hid (by rw [take_snocN b j (by omega), nb_snoc])
      have h1 := mul256 _ hv
      have h2 := add256 _ _ hv hx
      have jI : (j : Int) < 8 := by omega
      have jI2 : (j : Int) < 32 := by omega
      clear hv
      generalize nb (b.take j) = v at h1 h2 hX
      generalize b.getD j 0 = y at hc hX hx h2
      go_wp2
      go_roundw
      case rel => exact ⟨j + 1, trivial, by omega, by go_num, by rw [hX.out]; simp⟩
      case measure => simp [intOf]; omega
    · have hj8 : j = 8 := by omega
      subst hj8
      have hR2 : Hid (((nb (b.take 8) : Nat) : Int).tmod 2305843009213693951 = ((r : Nat) : Int)) := Lib.hid (by rw [Int.tmod_eq_emod_of_nonneg (by omega), ← hR.out]; rfl)
      generalize nb (b.take 8) = v at hR2
      clear hR hlt
      go_wp2
      go_ret2
      refine ⟨?_, ⟨SW.out⟩⟩
      rw [← hR2.out]
      first | rfl | (simp; done) | (trace_state; fail)
set_option maxHeartbeats 3200000 in
set_option maxRecDepth 100000 in
theorem rnum_no (x : Nat) (s : ByteArray) (i : Int) (w : World) (hs : s.size ≤ 1000) (h : lab s = false ∨ i < 0 ∨ 1048576 < i) :
    Calls Tryd.prog 49 #[.int .u64 x, .string s, .int .i64 i] w fun e w' => e = .returned (.tuple #[.int .u64 0, .bool false]) ∧ Step w w' := by
  have dL := fun (w : World) => rlabel_any s w hs
  rcases (by
    rcases h with h | h | h
    · exact .inl h
    · cases hs : lab s
      · exact .inl rfl
      · exact .inr (.inl ⟨rfl, h⟩)
    · cases hs : lab s
      · exact .inl rfl
      · exact .inr (.inr ⟨rfl, by omega, h⟩) : lab s = false ∨ (lab s = true ∧ i < 0) ∨ (lab s = true ∧ ¬ i < 0 ∧ 1048576 < i)) with h1 | ⟨h1, h2⟩ | ⟨h1, h2, h3⟩
  all_goals
    rw [h1] at dL
    clear h1 h
    go_enter Tryd.func49, Tryd.ntmps49
    go_wp2_with (go_at_call 67; ((with_reducible refine (dL _).mono ?_); rintro e w2 ⟨rfl, rfl⟩))
    go_ret2
    exact ⟨rfl, Step.of inferInstance⟩
end Pg
end Go.Proofs.YtmjbbaekdbiopaaDoor
