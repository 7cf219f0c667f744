/- The document's own answers of layer 7 (package caucusref07): a block. Conditions: the label has at most 1000 bytes; the place is from 0 to 2^20. -/
import Derived.Test.YtmjbbaekdbiopaaDoorPgX
import Derived.Test.YtmjbbaekdbiopaaDoorPkR
namespace Go.Proofs.YtmjbbaekdbiopaaDoor
open Go.RowKit Go.Lib
namespace Pg
open SlR Sh Sp Mc
/-- What a number is divided by, as many bytes being left. -/
def pw : Nat → Int
  | 0 => 0
  | 1 => 1
  | 2 => 256
  | 3 => 65536
  | 4 => 16777216
  | 5 => 4294967296
  | 6 => 1099511627776
  | 7 => 281474976710656
  | 8 => 72057594037927936
  | _ => 0
theorem byU (z : Int) (_h0 : 0 ≤ z) (_h1 : z < 18446744073709551616) : (IntKind.u64.wrap z).tmod 256 % 256 = z % 256 := by rw [IntKind.wrap_u64, Int.tmod_eq_emod_of_nonneg (by omega)]; omega
theorem lit5 (w : World) (H : Nat) (t : TypeId) (a b c d : Int) (ys : List Nat) (hz : [0, a, b, c, d] = NL ys) (h : w.heap.size = H) : R8 (w.alloc (.cells #[.int .u8 0, .int .u8 a, .int .u8 b, .int .u8 c, .int .u8 d] t (0, 0))) (some ⟨H, 0, none⟩) ys := by
  unfold R8
  rw [← hz]
  exact Row.litN w H t [0, a, b, c, d] h
set_option maxHeartbeats 6400000 in
set_option maxRecDepth 100000 in
theorem rblock_dev (x : Nat) (s : ByteArray) (i : Nat) (w : World) (hx : Hid (x < 18446744073709551616)) (hs : s.size ≤ 1000) (hi : i ≤ 1048576) :
    Calls Tryd.prog 68 #[.int .u64 x, .string s, .int .i64 i] w fun e w' => e = .returned (.agg (vl .u8 (blkP x s i)).toArray) ∧ Step w w' := by
  obtain ⟨Z3, hZ3⟩ : ∃ Z, zs.toArray = Z := ⟨_, rfl⟩
  have hz3 : Hid (∀ w, (zeroValue 44).run Tryd.prog w = .ok (.agg Z3) w) := Lib.hid (hZ3 ▸ zero32)
  have hsz3 : Z3.size = 32 := by rw [← hZ3]; rfl
  clear hZ3
  have T0 := Lg.there_new w Z3 44 32 hsz3
  have hsI : (s.size : Int) ≤ 1000 := by omega
  have iI : (i : Int) ≤ 1048576 := by omega
  have lT := btx_len s i
  have cM : ∀ (w : World) (A : Option Addr) (c : Nat) (A2 : Option Addr) (c2 : Nat), R8 w A (spl x 8) → R8 w A2 (bl s ++ (0 :: spl i 4)) → Calls Tryd.prog 40 #[.slice A 8 c, .slice A2 (s.size + 5) c2] w fun e w' => e = .returned (.agg (vl .u8 (blkP x s i)).toArray) ∧ Step w w' :=
    fun w A c A2 c2 h1 h2 => by
      have e : bl s ++ (0 :: spl i 4) = btx s i := by unfold btx; rw [List.append_assoc]; rfl
      rw [e] at h2
      exact rof_any ofC A c 8 (spl x 8) A2 c2 (s.size + 5) (btx s i) w (spl_len x 8) (by omega) h1 (spl_b8 x 8) lT (by omega) h2 (btx_b8 s i)
  have lF : (vl .u8 (blkP x s i)).length = 32 := by rw [vl_len, blkP_len]
  have oF := Lib.hid (vl_one .u8 (blkP x s i))
  generalize vl .u8 (blkP x s i) = F at cM lF oF
  have eF : F.toArray.size = 32 := lF
  have CM := Lib.hid cM
  have hT : Hid ([(0 : Int), (i : Int) / 16777216, (i : Int) / 65536 % 256, (i : Int) / 256 % 256, (i : Int) % 256] = NL (0 :: spl i 4)) := Lib.hid (by
    simp only [NL, spl, List.map_cons, List.map_nil]
    simp only [List.cons.injEq, and_true]
    refine ⟨rfl, ?_, ?_, ?_, ?_⟩ <;> simp <;> omega)
  clear cM lT
  go_enter Tryd.func68, Tryd.ntmps68
  go_wp2_with (refine Lg.wpAlloc (by rfl) 44 (by rfl) Z3 hz3.out ?_)
  obtain ⟨W, hW⟩ : ∃ W, w.alloc (.cells Z3 44) = W := ⟨_, rfl⟩
  have hWs : Hid (W.heap.size = w.heap.size + 1) := Lib.hid (by rw [← hW]; simp)
  have hBW : Hid (Below w.heap.size w W) := Lib.hid (by rw [← hW]; exact (inferInstance : Ext w (w.alloc (.cells Z3 44))).h)
  rw [hW] at T0 ⊢
  have T0' := Lib.hid T0
  clear hW T0
  go_loopw [7, 8, 9] (fun v p k wr => ∃ (j L : Nat) (zs : List Nat), j ≤ 8 ∧ p = .int .u64 (pw j) ∧ k = .int .i64 ((8 : Int) - j) ∧ Hid (L + j = 8 ∧ zs ++ spl x j = [] ++ spl x 8 ∧ Buf wr W.heap.size v L zs) ∧ Hid (Step W wr)) (fun _ _ k _ => (8 - intOf k).toNat)
  case atStart => exact ⟨8, 0, [], Nat.le_refl _, rfl, by rfl, Lib.hid ⟨rfl, rfl, Buf.nil _ _⟩, Lib.hid (Step.of inferInstance)⟩
  case round =>
    obtain ⟨j, L, zs, hj, rfl, rfl, hH, S⟩ := hrel
    have SW : Step W wr := S.out
    obtain ⟨A, c, rfl⟩ := hH.out.2.2.form
    have hL : L ≤ 8 := by have := hH.out.1; omega
    clear S
    rcases (by omega : j = 0 ∨ j = 1 ∨ j = 2 ∨ j = 3 ∨ j = 4 ∨ j = 5 ∨ j = 6 ∨ j = 7 ∨ j = 8) with rfl | rfl | rfl | rfl | rfl | rfl | rfl | rfl | rfl
    · have hLn : L = 8 := by have := hH.out.1; omega
      subst hLn
      have hB : Hid (Buf wr W.heap.size (.slice A 8 c) 8 (spl x 8)) := Lib.hid (by
        have h1 := hH.out.2.1
        have h2 := hH.out.2.2
        rw [show spl x 0 = [] from rfl, List.append_nil, List.nil_append] at h1
        rw [← h1]
        exact h2)
      have p0 : pw 0 = 0 := rfl
      obtain ⟨A1, c1, W1, hcv, hB1', S1⟩ := conv s wr
      have hP : Hid (Hdr.Apart (.slice A 8 c) (.slice A1 s.size c1)) := Lib.hid fun g h1 h2 => by
        have := (hB.out.block g h1).2
        have := (hB1'.block g h2).1
        omega
      have hB1 : Hid (Buf W1 W.heap.size (.slice A1 s.size c1) s.size (bl s)) := Lib.hid (hB1'.base SW.h.size)
      have hB2 : Hid (Buf W1 W.heap.size (.slice A 8 c) 8 (spl x 8)) := Lib.hid hB.out.to
      have cM := CM.out
      clear hB1' hH CM hB hx
      generalize spl x 8 = K at cM hB2
      generalize hN : (0 :: spl i 4) = T at cM hT
      have lN : T.length = 5 := by rw [← hN]; rfl
      clear hN
      generalize s.size = n at hcv hB1 cM hsI hs hP
      generalize bl s = b at hB1 cM
      have aft : ∀ w5, Step W w5 → w5.there w.heap.size 0 32 := fun w5 S5 => there_under T0'.out S5.h (by rw [hWs.out]; omega)
      have AFT := Lib.hid aft
      clear aft
      go_wp2_with (first
        | (at_builtin; refine Buf.wp W W1 (by rfl) _ _ (by rfl) _ (.slice A 8 c) n 8 b K (by rfl) hB1.out hB2.out hP.out _ 5 5 T (by rfl) lN (by omega) (lit5 _ _ _ _ _ _ _ _ (by rw [← hT.out]) (by simp)) (by omega) ?_; intro A2 c2 w2 O2 U2 P2 S2)
        | (go_at_call 40; ((with_reducible refine (cM _ _ _ _ _ U2.row.to O2.row.to).mono ?_); rintro e w5 ⟨rfl, S5⟩; have T5 := AFT.out w5 (Step.of inferInstance)))
        | refine wpList_store_mid (by rfl) 44 (.tmp 6) (.tmp 45) (by rfl) w.heap.size 0 F.toArray (by rfl) (by rfl) (by rw [eF]; exact T5) (by rw [eF]; exact size32) oF.out ?_)
      refine bodyPost_ret (results_one (by rfl) _ _ w.heap.size 0 F _ (by rfl) (World.rangeAt_setCells_same _ _ _ _ (by rw [lF]; exact T5)) Tryd.underlying44 rfl (by rw [lF]; exact size32)) (by rfl) ?_
      exact ⟨rfl, ⟨Lg.below_setCells (Nat.le_refl _) _ _ _ (hBW.out.trans ((inferInstance : Ext W w5).h.mono hBW.out.size))⟩⟩
    · have hM := Lib.hid (spl_move zs [] x 0 8 hH.out.2.1)
      have hxx := hx
      have p0 : pw 1 = 1 := rfl
      go_wp2_with (at_builtin; refine Buf.wp W wr (by rfl) _ _ (by rfl) _ (.slice none 0 0) L 0 zs [] (by rfl) hH.out.2.2 (Buf.nil _ _) (Hdr.Apart.nil _) _ 1 1 [x / 256 ^ 0 % 256] (by rfl) rfl (by omega) (lit1U _ _ _ _ _ (by have := hxx.out; simp; exact byU _ (by omega) (by omega)) (by simp)) (by omega) ?_; intro A4 c4 w4 O4 U4 P4 S4)
      go_roundw
      case rel => exact ⟨0, L + 1, _, by omega, by rfl, by rfl, Lib.hid ⟨by have := hH.out.1; omega, hM.out, O4⟩, Lib.hid S4⟩
      case measure => simp [intOf]
    · have hM := Lib.hid (spl_move zs [] x 1 8 hH.out.2.1)
      have hxx := hx
      have p0 : pw 2 = 256 := rfl
      go_wp2_with (at_builtin; refine Buf.wp W wr (by rfl) _ _ (by rfl) _ (.slice none 0 0) L 0 zs [] (by rfl) hH.out.2.2 (Buf.nil _ _) (Hdr.Apart.nil _) _ 1 1 [x / 256 ^ 1 % 256] (by rfl) rfl (by omega) (lit1U _ _ _ _ _ (by have := hxx.out; simp; exact byU _ (by omega) (by omega)) (by simp)) (by omega) ?_; intro A4 c4 w4 O4 U4 P4 S4)
      go_roundw
      case rel => exact ⟨1, L + 1, _, by omega, by rfl, by rfl, Lib.hid ⟨by have := hH.out.1; omega, hM.out, O4⟩, Lib.hid S4⟩
      case measure => simp [intOf]
    · have hM := Lib.hid (spl_move zs [] x 2 8 hH.out.2.1)
      have hxx := hx
      have p0 : pw 3 = 65536 := rfl
      go_wp2_with (at_builtin; refine Buf.wp W wr (by rfl) _ _ (by rfl) _ (.slice none 0 0) L 0 zs [] (by rfl) hH.out.2.2 (Buf.nil _ _) (Hdr.Apart.nil _) _ 1 1 [x / 256 ^ 2 % 256] (by rfl) rfl (by omega) (lit1U _ _ _ _ _ (by have := hxx.out; simp; exact byU _ (by omega) (by omega)) (by simp)) (by omega) ?_; intro A4 c4 w4 O4 U4 P4 S4)
      go_roundw
      case rel => exact ⟨2, L + 1, _, by omega, by rfl, by rfl, Lib.hid ⟨by have := hH.out.1; omega, hM.out, O4⟩, Lib.hid S4⟩
      case measure => simp [intOf]
    · have hM := Lib.hid (spl_move zs [] x 3 8 hH.out.2.1)
      have hxx := hx
      have p0 : pw 4 = 16777216 := rfl
      go_wp2_with (at_builtin; refine Buf.wp W wr (by rfl) _ _ (by rfl) _ (.slice none 0 0) L 0 zs [] (by rfl) hH.out.2.2 (Buf.nil _ _) (Hdr.Apart.nil _) _ 1 1 [x / 256 ^ 3 % 256] (by rfl) rfl (by omega) (lit1U _ _ _ _ _ (by have := hxx.out; simp; exact byU _ (by omega) (by omega)) (by simp)) (by omega) ?_; intro A4 c4 w4 O4 U4 P4 S4)
      go_roundw
      case rel => exact ⟨3, L + 1, _, by omega, by rfl, by rfl, Lib.hid ⟨by have := hH.out.1; omega, hM.out, O4⟩, Lib.hid S4⟩
      case measure => simp [intOf]
    · have hM := Lib.hid (spl_move zs [] x 4 8 hH.out.2.1)
      have hxx := hx
      have p0 : pw 5 = 4294967296 := rfl
      go_wp2_with (at_builtin; refine Buf.wp W wr (by rfl) _ _ (by rfl) _ (.slice none 0 0) L 0 zs [] (by rfl) hH.out.2.2 (Buf.nil _ _) (Hdr.Apart.nil _) _ 1 1 [x / 256 ^ 4 % 256] (by rfl) rfl (by omega) (lit1U _ _ _ _ _ (by have := hxx.out; simp; exact byU _ (by omega) (by omega)) (by simp)) (by omega) ?_; intro A4 c4 w4 O4 U4 P4 S4)
      go_roundw
      case rel => exact ⟨4, L + 1, _, by omega, by rfl, by rfl, Lib.hid ⟨by have := hH.out.1; omega, hM.out, O4⟩, Lib.hid S4⟩
      case measure => simp [intOf]
    · have hM := Lib.hid (spl_move zs [] x 5 8 hH.out.2.1)
      have hxx := hx
      have p0 : pw 6 = 1099511627776 := rfl
      go_wp2_with (at_builtin; refine Buf.wp W wr (by rfl) _ _ (by rfl) _ (.slice none 0 0) L 0 zs [] (by rfl) hH.out.2.2 (Buf.nil _ _) (Hdr.Apart.nil _) _ 1 1 [x / 256 ^ 5 % 256] (by rfl) rfl (by omega) (lit1U _ _ _ _ _ (by have := hxx.out; simp; exact byU _ (by omega) (by omega)) (by simp)) (by omega) ?_; intro A4 c4 w4 O4 U4 P4 S4)
      go_roundw
      case rel => exact ⟨5, L + 1, _, by omega, by rfl, by rfl, Lib.hid ⟨by have := hH.out.1; omega, hM.out, O4⟩, Lib.hid S4⟩
      case measure => simp [intOf]
    · have hM := Lib.hid (spl_move zs [] x 6 8 hH.out.2.1)
      have hxx := hx
      have p0 : pw 7 = 281474976710656 := rfl
      go_wp2_with (at_builtin; refine Buf.wp W wr (by rfl) _ _ (by rfl) _ (.slice none 0 0) L 0 zs [] (by rfl) hH.out.2.2 (Buf.nil _ _) (Hdr.Apart.nil _) _ 1 1 [x / 256 ^ 6 % 256] (by rfl) rfl (by omega) (lit1U _ _ _ _ _ (by have := hxx.out; simp; exact byU _ (by omega) (by omega)) (by simp)) (by omega) ?_; intro A4 c4 w4 O4 U4 P4 S4)
      go_roundw
      case rel => exact ⟨6, L + 1, _, by omega, by rfl, by rfl, Lib.hid ⟨by have := hH.out.1; omega, hM.out, O4⟩, Lib.hid S4⟩
      case measure => simp [intOf]
    · have hM := Lib.hid (spl_move zs [] x 7 8 hH.out.2.1)
      have hxx := hx
      have p0 : pw 8 = 72057594037927936 := rfl
      go_wp2_with (at_builtin; refine Buf.wp W wr (by rfl) _ _ (by rfl) _ (.slice none 0 0) L 0 zs [] (by rfl) hH.out.2.2 (Buf.nil _ _) (Hdr.Apart.nil _) _ 1 1 [x / 256 ^ 7 % 256] (by rfl) rfl (by omega) (lit1U _ _ _ _ _ (by have := hxx.out; simp; exact byU _ (by omega) (by omega)) (by simp)) (by omega) ?_; intro A4 c4 w4 O4 U4 P4 S4)
      go_roundw
      case rel => exact ⟨7, L + 1, _, by omega, by rfl, by rfl, Lib.hid ⟨by have := hH.out.1; omega, hM.out, O4⟩, Lib.hid S4⟩
      case measure => simp [intOf]
end Pg
end Go.Proofs.YtmjbbaekdbiopaaDoor
