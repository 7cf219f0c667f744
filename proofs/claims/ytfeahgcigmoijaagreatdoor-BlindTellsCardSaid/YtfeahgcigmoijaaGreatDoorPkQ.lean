/- Several texts in one, each with its own word ahead. -/
import Derived.Test.YtfeahgcigmoijaaGreatDoorPkP
import Derived.Test.YtfeahgcigmoijaaGreatDoorPkR
/- The document's own answers of layer 7 (package caucusref07): a block. Conditions: the label has at most 1000 bytes; the place is from 0 to 2^20. -/
namespace Go.Proofs.YtfeahgcigmoijaaGreatDoor
open Go.RowKit Go.Lib
namespace Pg
open SlR Sh Sp Mc
/-- What a number is divided by, as many bytes being left. -/
def pw : Nat → Int
  | 0 => 0
  | 1 => 1
  | 2 => 256
  | 3 => 65536
  | 4 => 16777216
  | 5 => 4294967296
  | 6 => 1099511627776
  | 7 => 281474976710656
  | 8 => 72057594037927936
  | _ => 0
theorem byU (z : Int) (_h0 : 0 ≤ z) (_h1 : z < 18446744073709551616) : (IntKind.u64.wrap z).tmod 256 % 256 = z % 256 := by rw [IntKind.wrap_u64, Int.tmod_eq_emod_of_nonneg (by omega)]; omega
theorem lit5 (w : World) (H : Nat) (t : TypeId) (a b c d : Int) (ys : List Nat) (hz : [0, a, b, c, d] = NL ys) (h : w.heap.size = H) : R8 (w.alloc (.cells #[.int .u8 0, .int .u8 a, .int .u8 b, .int .u8 c, .int .u8 d] t (0, 0))) (some ⟨H, 0, none⟩) ys := by
  unfold R8
  rw [← hz]
  exact Row.litN w H t [0, a, b, c, d] h
set_option maxHeartbeats 6400000 in
set_option maxRecDepth 100000 in
theorem rblock_dev (x : Nat) (s : ByteArray) (i : Nat) (w : World) (hx : Hid (x < 18446744073709551616)) (hs : s.size ≤ 1000) (hi : i ≤ 1048576) :
    Calls Tryz.prog 24 #[.int .u64 x, .string s, .int .i64 i] w fun e w' => e = .returned (.agg (vl .u8 (blkP x s i)).toArray) ∧ Step w w' := by
  obtain ⟨Z3, hZ3⟩ : ∃ Z, zs.toArray = Z := ⟨_, rfl⟩
  have hz3 : Hid (∀ w, (zeroValue 62).run Tryz.prog w = .ok (.agg Z3) w) := Lib.hid (hZ3 ▸ zero32)
  have hsz3 : Z3.size = 32 := by rw [← hZ3]; rfl
  clear hZ3
  have T0 := Lg.there_new w Z3 62 32 hsz3
  have hsI : (s.size : Int) ≤ 1000 := by omega
  have iI : (i : Int) ≤ 1048576 := by omega
  have lT := btx_len s i
  have cM : ∀ (w : World) (A : Option Addr) (c : Nat) (A2 : Option Addr) (c2 : Nat), R8 w A (spl x 8) → R8 w A2 (bl s ++ (0 :: spl i 4)) → Calls Tryz.prog 48 #[.slice A 8 c, .slice A2 (s.size + 5) c2] w fun e w' => e = .returned (.agg (vl .u8 (blkP x s i)).toArray) ∧ Step w w' :=
    fun w A c A2 c2 h1 h2 => by
      have e : bl s ++ (0 :: spl i 4) = btx s i := by unfold btx; rw [List.append_assoc]; rfl
      rw [e] at h2
      exact rof_any ofC A c 8 (spl x 8) A2 c2 (s.size + 5) (btx s i) w (spl_len x 8) (by omega) h1 (spl_b8 x 8) lT (by omega) h2 (btx_b8 s i)
  have lF : (vl .u8 (blkP x s i)).length = 32 := by rw [vl_len, blkP_len]
  have oF := Lib.hid (vl_one .u8 (blkP x s i))
  generalize vl .u8 (blkP x s i) = F at cM lF oF
  have eF : F.toArray.size = 32 := lF
  have CM := Lib.hid cM
  have hT : Hid ([(0 : Int), (i : Int) / 16777216, (i : Int) / 65536 % 256, (i : Int) / 256 % 256, (i : Int) % 256] = NL (0 :: spl i 4)) := Lib.hid (by
    simp only [NL, spl, List.map_cons, List.map_nil]
    simp only [List.cons.injEq, and_true]
    refine ⟨rfl, ?_, ?_, ?_, ?_⟩ <;> simp <;> omega)
  clear cM lT
  go_enter Tryz.func24, Tryz.ntmps24
  go_wp2_with (refine Lg.wpAlloc (by rfl) 62 (by rfl) Z3 hz3.out ?_)
  obtain ⟨W, hW⟩ : ∃ W, w.alloc (.cells Z3 62) = W := ⟨_, rfl⟩
  have hWs : Hid (W.heap.size = w.heap.size + 1) := Lib.hid (by rw [← hW]; simp)
  have hBW : Hid (Below w.heap.size w W) := Lib.hid (by rw [← hW]; exact (inferInstance : Ext w (w.alloc (.cells Z3 62))).h)
  rw [hW] at T0 ⊢
  have T0' := Lib.hid T0
  clear hW T0
  go_loopw [7, 8, 9] (fun v p k wr => ∃ (j L : Nat) (zs : List Nat), j ≤ 8 ∧ p = .int .u64 (pw j) ∧ k = .int .i64 ((8 : Int) - j) ∧ Hid (L + j = 8 ∧ zs ++ spl x j = [] ++ spl x 8 ∧ Buf wr W.heap.size v L zs) ∧ Hid (Step W wr)) (fun _ _ k _ => (8 - intOf k).toNat)
  case atStart => exact ⟨8, 0, [], Nat.le_refl _, rfl, by rfl, Lib.hid ⟨rfl, rfl, Buf.nil _ _⟩, Lib.hid (Step.of inferInstance)⟩
  case round =>
    obtain ⟨j, L, zs, hj, rfl, rfl, hH, S⟩ := hrel
    have SW : Step W wr := S.out
    obtain ⟨A, c, rfl⟩ := hH.out.2.2.form
    have hL : L ≤ 8 := by have := hH.out.1; omega
    clear S
    rcases (by omega : j = 0 ∨ j = 1 ∨ j = 2 ∨ j = 3 ∨ j = 4 ∨ j = 5 ∨ j = 6 ∨ j = 7 ∨ j = 8) with rfl | rfl | rfl | rfl | rfl | rfl | rfl | rfl | rfl
    · have hLn : L = 8 := by have := hH.out.1; omega
      subst hLn
      have hB : Hid (Buf wr W.heap.size (.slice A 8 c) 8 (spl x 8)) := Lib.hid (by
        have h1 := hH.out.2.1
        have h2 := hH.out.2.2
        rw [show spl x 0 = [] from rfl, List.append_nil, List.nil_append] at h1
        rw [← h1]
        exact h2)
      have p0 : pw 0 = 0 := rfl
      obtain ⟨A1, c1, W1, hcv, hB1', S1⟩ := conv s wr
      have hP : Hid (Hdr.Apart (.slice A 8 c) (.slice A1 s.size c1)) := Lib.hid fun g h1 h2 => by
        have := (hB.out.block g h1).2
        have := (hB1'.block g h2).1
        omega
      have hB1 : Hid (Buf W1 W.heap.size (.slice A1 s.size c1) s.size (bl s)) := Lib.hid (hB1'.base SW.h.size)
      have hB2 : Hid (Buf W1 W.heap.size (.slice A 8 c) 8 (spl x 8)) := Lib.hid hB.out.to
      have cM := CM.out
      clear hB1' hH CM hB hx
      generalize spl x 8 = K at cM hB2
      generalize hN : (0 :: spl i 4) = T at cM hT
      have lN : T.length = 5 := by rw [← hN]; rfl
      clear hN
      generalize s.size = n at hcv hB1 cM hsI hs hP
      generalize bl s = b at hB1 cM
      have aft : ∀ w5, Step W w5 → w5.there w.heap.size 0 32 := fun w5 S5 => there_under T0'.out S5.h (by rw [hWs.out]; omega)
      have AFT := Lib.hid aft
      clear aft
      go_wp2_with (first
        | (at_builtin; refine Buf.wp W W1 (by rfl) _ _ (by rfl) _ (.slice A 8 c) n 8 b K (by rfl) hB1.out hB2.out hP.out _ 5 5 T (by rfl) lN (by omega) (lit5 _ _ _ _ _ _ _ _ (by rw [← hT.out]) (by simp)) (by omega) ?_; intro A2 c2 w2 O2 U2 P2 S2)
        | (go_at_call 48; ((with_reducible refine (cM _ _ _ _ _ U2.row.to O2.row.to).mono ?_); rintro e w5 ⟨rfl, S5⟩; have T5 := AFT.out w5 (Step.of inferInstance)))
        | refine wpList_store_mid (by rfl) 62 (.tmp 6) (.tmp 45) (by rfl) w.heap.size 0 F.toArray (by rfl) (by rfl) (by rw [eF]; exact T5) (by rw [eF]; exact size32) oF.out ?_)
      refine bodyPost_ret (results_one (by rfl) _ _ w.heap.size 0 F _ (by rfl) (World.rangeAt_setCells_same _ _ _ _ (by rw [lF]; exact T5)) Tryz.underlying62 rfl (by rw [lF]; exact size32)) (by rfl) ?_
      exact ⟨rfl, ⟨Lg.below_setCells (Nat.le_refl _) _ _ _ (hBW.out.trans ((inferInstance : Ext W w5).h.mono hBW.out.size))⟩⟩
    · have hM := Lib.hid (spl_move zs [] x 0 8 hH.out.2.1)
      have hxx := hx
      have p0 : pw 1 = 1 := rfl
      go_wp2_with (at_builtin; refine Buf.wp W wr (by rfl) _ _ (by rfl) _ (.slice none 0 0) L 0 zs [] (by rfl) hH.out.2.2 (Buf.nil _ _) (Hdr.Apart.nil _) _ 1 1 [x / 256 ^ 0 % 256] (by rfl) rfl (by omega) (lit1U _ _ _ _ _ (by have := hxx.out; simp; exact byU _ (by omega) (by omega)) (by simp)) (by omega) ?_; intro A4 c4 w4 O4 U4 P4 S4)
      go_roundw
      case rel => exact ⟨0, L + 1, _, by omega, by rfl, by rfl, Lib.hid ⟨by have := hH.out.1; omega, hM.out, O4⟩, Lib.hid S4⟩
      case measure => simp [intOf]
    · have hM := Lib.hid (spl_move zs [] x 1 8 hH.out.2.1)
      have hxx := hx
      have p0 : pw 2 = 256 := rfl
      go_wp2_with (at_builtin; refine Buf.wp W wr (by rfl) _ _ (by rfl) _ (.slice none 0 0) L 0 zs [] (by rfl) hH.out.2.2 (Buf.nil _ _) (Hdr.Apart.nil _) _ 1 1 [x / 256 ^ 1 % 256] (by rfl) rfl (by omega) (lit1U _ _ _ _ _ (by have := hxx.out; simp; exact byU _ (by omega) (by omega)) (by simp)) (by omega) ?_; intro A4 c4 w4 O4 U4 P4 S4)
      go_roundw
      case rel => exact ⟨1, L + 1, _, by omega, by rfl, by rfl, Lib.hid ⟨by have := hH.out.1; omega, hM.out, O4⟩, Lib.hid S4⟩
      case measure => simp [intOf]
    · have hM := Lib.hid (spl_move zs [] x 2 8 hH.out.2.1)
      have hxx := hx
      have p0 : pw 3 = 65536 := rfl
      go_wp2_with (at_builtin; refine Buf.wp W wr (by rfl) _ _ (by rfl) _ (.slice none 0 0) L 0 zs [] (by rfl) hH.out.2.2 (Buf.nil _ _) (Hdr.Apart.nil _) _ 1 1 [x / 256 ^ 2 % 256] (by rfl) rfl (by omega) (lit1U _ _ _ _ _ (by have := hxx.out; simp; exact byU _ (by omega) (by omega)) (by simp)) (by omega) ?_; intro A4 c4 w4 O4 U4 P4 S4)
      go_roundw
      case rel => exact ⟨2, L + 1, _, by omega, by rfl, by rfl, Lib.hid ⟨by have := hH.out.1; omega, hM.out, O4⟩, Lib.hid S4⟩
      case measure => simp [intOf]
    · have hM := Lib.hid (spl_move zs [] x 3 8 hH.out.2.1)
      have hxx := hx
      have p0 : pw 4 = 16777216 := rfl
      go_wp2_with (at_builtin; refine Buf.wp W wr (by rfl) _ _ (by rfl) _ (.slice none 0 0) L 0 zs [] (by rfl) hH.out.2.2 (Buf.nil _ _) (Hdr.Apart.nil _) _ 1 1 [x / 256 ^ 3 % 256] (by rfl) rfl (by omega) (lit1U _ _ _ _ _ (by have := hxx.out; simp; exact byU _ (by omega) (by omega)) (by simp)) (by omega) ?_; intro A4 c4 w4 O4 U4 P4 S4)
      go_roundw
      case rel => exact ⟨3, L + 1, _, by omega, by rfl, by rfl, Lib.hid ⟨by have := hH.out.1; omega, hM.out, O4⟩, Lib.hid S4⟩
      case measure => simp [intOf]
    · have hM := Lib.hid (spl_move zs [] x 4 8 hH.out.2.1)
      have hxx := hx
      have p0 : pw 5 = 4294967296 := rfl
      go_wp2_with (at_builtin; refine Buf.wp W wr (by rfl) _ _ (by rfl) _ (.slice none 0 0) L 0 zs [] (by rfl) hH.out.2.2 (Buf.nil _ _) (Hdr.Apart.nil _) _ 1 1 [x / 256 ^ 4 % 256] (by rfl) rfl (by omega) (lit1U _ _ _ _ _ (by have := hxx.out; simp; exact byU _ (by omega) (by omega)) (by simp)) (by omega) ?_; intro A4 c4 w4 O4 U4 P4 S4)
      go_roundw
      case rel => exact ⟨4, L + 1, _, by omega, by rfl, by rfl, Lib.hid ⟨by have := hH.out.1; omega, hM.out, O4⟩, Lib.hid S4⟩
      case measure => simp [intOf]
    · have hM := Lib.hid (spl_move zs [] x 5 8 hH.out.2.1)
      have hxx := hx
      have p0 : pw 6 = 1099511627776 := rfl
      go_wp2_with (at_builtin; refine Buf.wp W wr (by rfl) _ _ (by rfl) _ (.slice none 0 0) L 0 zs [] (by rfl) hH.out.2.2 (Buf.nil _ _) (Hdr.Apart.nil _) _ 1 1 [x / 256 ^ 5 % 256] (by rfl) rfl (by omega) (lit1U _ _ _ _ _ (by have := hxx.out; simp; exact byU _ (by omega) (by omega)) (by simp)) (by omega) ?_; intro A4 c4 w4 O4 U4 P4 S4)
      go_roundw
      case rel => exact ⟨5, L + 1, _, by omega, by rfl, by rfl, Lib.hid ⟨by have := hH.out.1; omega, hM.out, O4⟩, Lib.hid S4⟩
      case measure => simp [intOf]
    · have hM := Lib.hid (spl_move zs [] x 6 8 hH.out.2.1)
      have hxx := hx
      have p0 : pw 7 = 281474976710656 := rfl
      go_wp2_with (at_builtin; refine Buf.wp W wr (by rfl) _ _ (by rfl) _ (.slice none 0 0) L 0 zs [] (by rfl) hH.out.2.2 (Buf.nil _ _) (Hdr.Apart.nil _) _ 1 1 [x / 256 ^ 6 % 256] (by rfl) rfl (by omega) (lit1U _ _ _ _ _ (by have := hxx.out; simp; exact byU _ (by omega) (by omega)) (by simp)) (by omega) ?_; intro A4 c4 w4 O4 U4 P4 S4)
      go_roundw
      case rel => exact ⟨6, L + 1, _, by omega, by rfl, by rfl, Lib.hid ⟨by have := hH.out.1; omega, hM.out, O4⟩, Lib.hid S4⟩
      case measure => simp [intOf]
    · have hM := Lib.hid (spl_move zs [] x 7 8 hH.out.2.1)
      have hxx := hx
      have p0 : pw 8 = 72057594037927936 := rfl
      go_wp2_with (at_builtin; refine Buf.wp W wr (by rfl) _ _ (by rfl) _ (.slice none 0 0) L 0 zs [] (by rfl) hH.out.2.2 (Buf.nil _ _) (Hdr.Apart.nil _) _ 1 1 [x / 256 ^ 7 % 256] (by rfl) rfl (by omega) (lit1U _ _ _ _ _ (by have := hxx.out; simp; exact byU _ (by omega) (by omega)) (by simp)) (by omega) ?_; intro A4 c4 w4 O4 U4 P4 S4)
      go_roundw
      case rel => exact ⟨7, L + 1, _, by omega, by rfl, by rfl, Lib.hid ⟨by have := hH.out.1; omega, hM.out, O4⟩, Lib.hid S4⟩
      case measure => simp [intOf]
end Pg
end Go.Proofs.YtfeahgcigmoijaaGreatDoor
/- The document's own answers of layer 7 (package caucusref07): numbers of the field. Conditions: the label has at most 1000 bytes. -/
namespace Go.Proofs.YtfeahgcigmoijaaGreatDoor
open Go.RowKit Go.Lib
namespace Pg
open SlR Sh Sp Mc
theorem mul256 (v : Nat) (h : v < 72057594037927936) : IntKind.u64.wrap (256 * (v : Int)) = 256 * (v : Int) := by rw [IntKind.wrap_u64]; omega
theorem add256 (v b : Nat) (h : v < 72057594037927936) (hb : b < 256) : IntKind.u64.wrap (256 * (v : Int) + (b : Int)) = ((v * 256 + b : Nat) : Int) := by rw [IntKind.wrap_u64]; omega
end Pg
end Go.Proofs.YtfeahgcigmoijaaGreatDoor
/- The document's own answers of layer 7 (package caucusref07): so many numbers. Conditions: the label has at most 1000 bytes. -/
namespace Go.Proofs.YtfeahgcigmoijaaGreatDoor
open Go.RowKit Go.Lib
namespace Pg
open SlR Sh Sp Mc
/-- So many blocks, one behind the other. -/
def alP (x : Nat) (s : ByteArray) : Nat → List Nat
  | 0 => []
  | k + 1 => alP x s k ++ blkP x s k
theorem alP_len (x : Nat) (s : ByteArray) : ∀ k, (alP x s k).length = 32 * k
  | 0 => rfl
  | k + 1 => by rw [alP, List.length_append, alP_len x s k, blkP_len]; omega
theorem alP_b8 (x : Nat) (s : ByteArray) (hs : s.size ≤ 1000) : ∀ k, B8 (alP x s k)
  | 0 => b8_mem (by simp [alP])
  | k + 1 => b8_app (alP_b8 x s hs k) (blkP_b8 x s k hs)
theorem alP_at (x : Nat) (s : ByteArray) (a b : Nat) (hb : b < 32) : ∀ k, a < k → (alP x s k).getD (32 * a + b) 0 = (blkP x s a).getD b 0
  | 0, h => absurd h (Nat.not_lt_zero _)
  | k + 1, h => by
    rw [alP]
    by_cases e : a = k
    · subst e
      rw [List.getD_eq_getElem?_getD, List.getElem?_append_right (by rw [alP_len]; omega), alP_len, List.getD_eq_getElem?_getD]
      congr 2
      omega
    · rw [← alP_at x s a b hb k (by omega), List.getD_eq_getElem?_getD, List.getD_eq_getElem?_getD, List.getElem?_append_left (by rw [alP_len]; omega)]
theorem wds_al (x : Nat) (s : ByteArray) (k n : Nat) (h : n ≤ 8 * k) : wds (alP x s k) n = wsP x s n := by
  unfold wds wsP
  refine List.map_congr_left fun j hj => ?_
  have hj := List.mem_range.1 hj
  unfold wP wd
  have e : ∀ b, b < 4 → 4 * j + b = 32 * (j / 8) + (4 * (j % 8) + b) := fun b _ => by omega
  have g : ∀ b, b < 4 → (alP x s k).getD (4 * j + b) 0 = (blkP x s (j / 8)).getD (4 * (j % 8) + b) 0 := fun b hb => by
    rw [e b hb, alP_at x s (j / 8) (4 * (j % 8) + b) (by omega) k (by omega)]
  have g0 := g 0 (by omega)
  rw [Nat.add_zero, Nat.add_zero] at g0
  rw [g0, g 1 (by omega), g 2 (by omega), g 3 (by omega)]
set_option maxHeartbeats 6400000 in
set_option maxRecDepth 100000 in
theorem rwords_yes (x : Nat) (s : ByteArray) (n : Nat) (w : World) (hx : Hid (x < 18446744073709551616)) (hs : lab s = true) (hn : n ≤ 32) :
    Calls Tryz.prog 9 #[.int .u64 x, .string s, .int .i64 n] w fun e w' => ∃ A c, e = .returned (.tuple #[.slice A n c, .bool true]) ∧ R32 w' A (wsP x s n) ∧ Step w w' := by
  obtain ⟨i0, hi, hz0, hz1, hz2⟩ := info_parts infoW
  obtain ⟨Z3, hZ3⟩ : ∃ Z, zs.toArray = Z := ⟨_, rfl⟩
  have hz3 : Hid (∀ w, (zeroValue 62).run Tryz.prog w = .ok (.agg Z3) w) := Lib.hid (hZ3 ▸ zero32)
  have hsz3 : Z3.size = 32 := by rw [← hZ3]; rfl
  clear hZ3
  have hl := lab_size hs
  have nI : (n : Int) ≤ 32 := by omega
  have dL := fun (w : World) => rlabel_any s w (by omega)
  rw [hs] at dL
  have r4n : IntKind.i64.wrap (4 * (n : Int)) = 4 * (n : Int) := by simp [IntKind.wrap, IntKind.bits, IntKind.signed]; omega
  go_enter Tryz.func9, Tryz.ntmps9
  go_wp2_with (go_at_call 23; ((with_reducible refine (dL _).mono ?_); rintro e w0 ⟨rfl, rfl⟩))
  have hlH := Lib.hid hl
  clear hs hl dL
  go_loopw [8, 9] (fun v i wr => ∃ k L : Nat, k ≤ 4 ∧ i = .int .i64 k ∧ Hid (L = 32 * k ∧ Buf wr w0.heap.size v L (alP x s k)) ∧ Hid (Step w0 wr)) (fun _ i _ => 4 - (intOf i).toNat)
  case atStart => exact ⟨0, 0, Nat.zero_le _, rfl, Lib.hid ⟨rfl, Buf.nil _ _⟩, Lib.hid (Step.of inferInstance)⟩
  case round =>
    obtain ⟨k, L, hk, rfl, hH, S⟩ := hrel
    have SW : Step w0 wr := S.out
    obtain ⟨A, c, rfl⟩ := hH.out.2.form
    have hL : L ≤ 128 := by have := hH.out.1; omega
    have kI : (k : Int) ≤ 4 := by omega
    have r32 : IntKind.i64.wrap (32 * (k : Int)) = 32 * (k : Int) := by simp [IntKind.wrap, IntKind.bits, IntKind.signed]; omega
    by_cases hlt : 8 * k < n
    · have hc : 32 * (k : Int) < 4 * (n : Int) := by omega
      have dB := fun (w : World) => rblock_dev x s k w hx (by have := hlH.out; omega) (by omega)
      have len := blkP_len x s k
      have lF : (vl .u8 (blkP x s k)).length = 32 := by rw [vl_len, blkP_len]
      have oF := Lib.hid (vl_one .u8 (blkP x s k))
      have rF : ∀ (w : World) (g : Nat), g < w.heap.size → w.rangeAt g 0 (vl .u8 (blkP x s k)) → R8 w (some ⟨g, 0, none⟩) (blkP x s k) := fun w g => row_range
      have hA : Hid (alP x s (k + 1) = alP x s k ++ blkP x s k) := Lib.hid rfl
      generalize vl .u8 (blkP x s k) = F at dB lF oF rF
      generalize blkP x s k = b at len rF hA
      have k4 : Hid (k + 1 ≤ 4) := Lib.hid (by omega)
      clear hlt
      go_wp2_with (first
        | refine Lg.wpAlloc (by rfl) 62 (by rfl) Z3 hz3.out ?_
        | (go_at_call 24; ((with_reducible refine (dB _).mono ?_); rintro e w3 ⟨rfl, S3⟩; obtain ⟨W3, st3, X3, R3, l3⟩ := store_new w3 Z3 F hsz3 lF oF.out))
        | (at_builtin; refine Buf.wp w0 wr (by rfl) _ _ (by rfl) _ (.slice none 0 0) L 0 (alP x s k) [] (by rfl) hH.out.2 (Buf.nil _ _) (Hdr.Apart.nil _) _ 32 32 b (by rfl) len (by omega) (rF _ _ l3 R3) (by omega) ?_; intro A4 c4 w4 O4 U4 P4 S4))
      go_roundw
      case rel => exact ⟨k + 1, L + 32, k4.out, by go_num, Lib.hid ⟨by have := hH.out.1; omega, by rw [hA.out]; exact O4⟩, Lib.hid S4⟩
      case measure => have := k4.out; simp [intOf]; omega
    · have hc : ¬ 32 * (k : Int) < 4 * (n : Int) := by omega
      obtain ⟨w9, h9⟩ : ∃ w9, w9 = wr := ⟨_, rfl⟩
      subst h9
      have hr := hH.out.2.row
      have hb := Lib.hid (alP_b8 x s (by have := hlH.out; omega) k)
      have len : (alP x s k).length = L := by rw [alP_len]; exact hH.out.1.symm
      have hW : Hid (wds (alP x s k) n = wsP x s n) := Lib.hid (wds_al x s k n (by omega))
      have hLn : Hid (4 * n ≤ L) := Lib.hid (by have := hH.out.1; omega)
      clear hH hlt S
      generalize alP x s k = bs at hr hb len hW
      have S9 : Hid (Below w0.heap.size w0 w9) := Lib.hid SW.h
      clear SW
      go_wp2
      go_loopw [11, 12] (fun v i wr => ∃ j : Nat, j ≤ n ∧ i = .int .i64 j ∧ Hid (ApE.Own .u32 51 wr w9.heap.size v j (NL (wds bs j))) ∧ Step w9 wr) (fun _ i _ => n - (intOf i).toNat)
      case atStart => exact ⟨0, Nat.zero_le _, rfl, Lib.hid (World.ownsRow_nil _ _ _ _), Step.of inferInstance⟩
      case round =>
        obtain ⟨j, hj, rfl, HO, S⟩ := hrel
        obtain ⟨A', c', rfl⟩ := own_form HO.out
        by_cases hlt : j < n
        · obtain ⟨q, hq⟩ : ∃ q, q = 4 * j := ⟨_, rfl⟩
          have jI : (j : Int) < n := by omega
          have hq3 : q + 3 < L := by have := hLn.out; omega
          have hlI : (q : Int) + 3 < (L : Int) := by omega
          have hlI2 : (q : Int) + 2 < (L : Int) := by omega
          have hlI1 : (q : Int) + 1 < (L : Int) := by omega
          have hlI0 : (q : Int) < (L : Int) := by omega
          have hNI : (L : Int) ≤ 128 := by omega
          have r0 : IntKind.i64.wrap (4 * (j : Int)) = (q : Int) := by simp [IntKind.wrap, IntKind.bits, IntKind.signed]; omega
          have p1 : (0 : Int) ≤ (q : Int) + 1 := by omega
          have p2 : (0 : Int) ≤ (q : Int) + 2 := by omega
          have p3 : (0 : Int) ≤ (q : Int) + 3 := by omega
          have r1 : IntKind.i64.wrap ((q : Int) + 1) = (q : Int) + 1 := by simp [IntKind.wrap, IntKind.bits, IntKind.signed]; omega
          have r2 : IntKind.i64.wrap ((q : Int) + 2) = (q : Int) + 2 := by simp [IntKind.wrap, IntKind.bits, IntKind.signed]; omega
          have r3 : IntKind.i64.wrap ((q : Int) + 3) = (q : Int) + 3 := by simp [IntKind.wrap, IntKind.bits, IntKind.signed]; omega
          have q1 : ((q : Int) + 1).toNat = q + 1 := by omega
          have q2 : ((q : Int) + 2).toNat = q + 2 := by omega
          have q3 : ((q : Int) + 3).toNat = q + 3 := by omega
          obtain ⟨ad, rfl, hab, hc0⟩ := Row.atN hr (j := q) (by omega)
          obtain ⟨_, e, _, hc1⟩ := Row.atN hr (j := q + 1) (by omega)
          cases e
          obtain ⟨_, e, _, hc2⟩ := Row.atN hr (j := q + 2) (by omega)
          cases e
          obtain ⟨_, e, _, hc3⟩ := Row.atN hr (j := q + 3) (by omega)
          cases e
          rw [add_pos_] at hc1 hc2 hc3
          have hc2 : w9.cell? ⟨ad.block, ad.off + (q + 2), none⟩ = some (.int .u8 (bs.getD (q + 2) 0 : Nat)) := hc2
          have hc3 : w9.cell? ⟨ad.block, ad.off + (q + 3), none⟩ = some (.int .u8 (bs.getD (q + 3) 0 : Nat)) := hc3
          have hX : Hid (wds bs j ++ [wd bs j] = wds bs (j + 1)) := Lib.hid (wds_succ bs j).symm
          have hw : Hid (wd bs j = 16777216 * bs.getD q 0 + 65536 * bs.getD (q + 1) 0 + 256 * bs.getD (q + 2) 0 + bs.getD (q + 3) 0) := Lib.hid (by rw [hq]; rfl)
          have b0 := hb.out q
          have b1 := hb.out (q + 1)
          have b2 := hb.out (q + 2)
          have b3 := hb.out (q + 3)
          generalize bs.getD q 0 = x0 at hc0 hw b0
          generalize bs.getD (q + 1) 0 = x1 at hc1 hw b1
          generalize bs.getD (q + 2) 0 = x2 at hc2 hw b2
          generalize bs.getD (q + 3) 0 = x3 at hc3 hw b3
          have bl : (ad.add q).block < w9.heap.size := by rw [blockAdd]; exact hab
          have hj1 : Hid (j + 1 ≤ n) := Lib.hid hlt
          clear hr hlt hq hb hW
          go_wp2
          go_region_held3 (fun w' => w'.cell? (ad.add q) = some (.int .u8 x0) ∧ w'.cell? ⟨ad.block, ad.off + (q + 1), none⟩ = some (.int .u8 x1) ∧ w'.cell? ⟨ad.block, ad.off + (q + 2), none⟩ = some (.int .u8 x2) ∧ w'.cell? ⟨ad.block, ad.off + (q + 3), none⟩ = some (.int .u8 x3) ∧ Step w9 w')
            (exact ⟨((Step.of (w := w9) inferInstance).h.cell bl).trans hc0, ((Step.of (w := w9) inferInstance).h.cell (p := ⟨ad.block, ad.off + (q + 1), none⟩) hab).trans hc1, ((Step.of (w := w9) inferInstance).h.cell (p := ⟨ad.block, ad.off + (q + 2), none⟩) hab).trans hc2, ((Step.of (w := w9) inferInstance).h.cell (p := ⟨ad.block, ad.off + (q + 3), none⟩) hab).trans hc3, Step.of inferInstance⟩)
            ((refine ApE.stepE .u32 w9 wr (by rfl) _ _ 22 (by rfl) 51 i0 _ 4 Tryz.underlying22 hi hz0 hz1 hz2 rfl _ j (NL (wds bs j)) (by rfl) HO.out _ 1 1 _ (by rfl) rfl (Row.lit1 _ _ _ _ (by simp)) (by omega) (by omega) ?_; intro A4 c4 w4 O4 S4))
          go_wp2
          go_roundw
          case rel => exact ⟨j + 1, hj1.out, by go_num, Lib.hid (by
            rw [← hX.out, NL_app]
            have e : wd bs j = 16777216 * x0 + 65536 * x1 + 256 * x2 + x3 := hw.out
            exact own_last O4 (by rw [e]; simp only [IntKind.wrap_u32]; omega)), Step.of inferInstance⟩
          case measure => have := hj1.out; simp [intOf]; omega
        · have hjn : j = n := by omega
          subst hjn
          have R : Hid (R32 wr A' (wsP x s j)) := Lib.hid (by
            have h := HO.out
            rw [hW.out] at h
            exact Row.of_own h)
          clear hr HO hW hb
          go_wp2
          go_ret2
          exact ⟨_, _, rfl, R.out, ⟨S9.out.trans (S.h.mono S9.out.size)⟩⟩
set_option maxHeartbeats 3200000 in
set_option maxRecDepth 100000 in
theorem rwords_no (x : Nat) (s : ByteArray) (n : Int) (w : World) (hs : s.size ≤ 1000) (h : lab s = false ∨ n < 0 ∨ 32 < n) :
    Calls Tryz.prog 9 #[.int .u64 x, .string s, .int .i64 n] w fun e w' => e = .returned (.tuple #[.slice none 0 0, .bool false]) ∧ Step w w' := by
  have dL := fun (w : World) => rlabel_any s w hs
  rcases (by
    rcases h with h | h | h
    · exact .inl h
    · cases hs : lab s
      · exact .inl rfl
      · exact .inr (.inl ⟨rfl, h⟩)
    · cases hs : lab s
      · exact .inl rfl
      · exact .inr (.inr ⟨rfl, by omega, h⟩) : lab s = false ∨ (lab s = true ∧ n < 0) ∨ (lab s = true ∧ ¬ n < 0 ∧ 32 < n)) with h1 | ⟨h1, h2⟩ | ⟨h1, h2, h3⟩
  all_goals
    rw [h1] at dL
    clear h1 h
    go_enter Tryz.func9, Tryz.ntmps9
    go_wp2_with (go_at_call 23; ((with_reducible refine (dL _).mono ?_); rintro e w2 ⟨rfl, rfl⟩))
    go_ret2
    exact ⟨rfl, Step.of inferInstance⟩
end Pg
end Go.Proofs.YtfeahgcigmoijaaGreatDoor
