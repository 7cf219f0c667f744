/- Layer 7: a block of a seed and a label, the program's. Conditions: sha.k reads as laid; the label is one; the place is from 0 to 2^20. -/
import Derived.Test.YtmjbbaekdbiopaaDoorPgS
import Derived.Test.YtmjbbaekdbiopaaDoorPkM
namespace Go.Proofs.YtmjbbaekdbiopaaDoor
open Go.RowKit Go.Lib
namespace Pg
open SlR Sh Sp Mc
/-- What a block's text is. -/
def btx (s : ByteArray) (i : Nat) : List Nat := bl s ++ [0] ++ spl i 4
/-- A block. -/
def blkP (x : Nat) (s : ByteArray) (i : Nat) : List Nat := hm (spl x 8) (btx s i)
theorem blkP_len (x : Nat) (s : ByteArray) (i : Nat) : (blkP x s i).length = 32 := hm_len _ _
theorem bl_b8 (s : ByteArray) : B8 (bl s) := bl_lt s
theorem btx_b8 (s : ByteArray) (i : Nat) : B8 (btx s i) := b8_app (b8_app (bl_b8 s) (b8_mem (by simp))) (spl_b8 i 4)
theorem btx_len (s : ByteArray) (i : Nat) : (btx s i).length = s.size + 1 + 4 := by simp [btx, bl_len, spl_len]
theorem hm_b8 {k t : List Nat} (hk : B8 k) (hl : k.length ≤ 90000) (ht : B8 t) (hl2 : t.length ≤ 90000) : B8 (hm k t) := by
  have b8i : B8 (msk 54 (blk k) ++ t) := b8_inner hk (by omega) ht
  have li : (msk 54 (blk k) ++ t).length = 64 + t.length := by rw [List.length_append, msk_len, blk_len]
  have b8s : B8 (Sh.sum (msk 54 (blk k) ++ t)) := sum_b8 ⟨_, b8i, by omega⟩
  exact sum_b8 ⟨_, b8_app (msk_b8 92 (by omega) (blk_b8 hk (by omega))) b8s, by rw [List.length_append, msk_len, blk_len, sum_fine]; omega⟩
theorem blkP_b8 (x : Nat) (s : ByteArray) (i : Nat) (hs : s.size ≤ 1000) : B8 (blkP x s i) := hm_b8 (spl_b8 x 8) (by rw [spl_len]; omega) (btx_b8 s i) (by rw [btx_len]; omega)
theorem spell8 (W : World) (x : Nat) (hx : Hid (x < 18446744073709551616)) (w : World) (e0 : Ext W w) (u : Value) (m : Nat) (ys : List Nat) (hu : Buf w W.heap.size u m ys) :
    Calls Tryd.prog 84 #[.slice none 0 0, .int .u64 x, .int .i64 8] w fun e w' => ∃ A c, e = .returned (.slice A 8 c) ∧ Buf w' W.heap.size (.slice A 8 c) 8 (spl x 8) ∧ Buf w' W.heap.size u m ys ∧ Hdr.Apart u (.slice A 8 c) ∧ Step W w' := by
  have h := spell_any W w (.slice none 0 0) u 0 m [] ys x 8 hx (by omega) (Buf.nil _ _) hu (fun g _ h => by simp [Value.ownBlock] at h) (by omega)
  simpa using h
theorem spell4 (W : World) (x : Nat) (hx : Hid (x < 18446744073709551616)) (w : World) (e0 : Ext W w) (v u : Value) (n m : Nat) (xs ys : List Nat) (hv : Buf w W.heap.size v n xs) (hu : Buf w W.heap.size u m ys) (ha : Hdr.Apart u v) (hn : n ≤ 1000) :
    Calls Tryd.prog 84 #[v, .int .u64 x, .int .i64 4] w fun e w' => ∃ A c, e = .returned (.slice A (n + 4) c) ∧ Buf w' W.heap.size (.slice A (n + 4) c) (n + 4) (xs ++ spl x 4) ∧ Buf w' W.heap.size u m ys ∧ Hdr.Apart u (.slice A (n + 4) c) ∧ Step W w' :=
  spell_any W w v u n m xs ys x 4 hx (by omega) hv hu ha hn
set_option maxHeartbeats 3200000 in
set_option maxRecDepth 100000 in
theorem block_dev (x : Nat) (s : ByteArray) (i : Nat) (w : World) (hx : Hid (x < 18446744073709551616)) (hs : s.size ≤ 64) (hi : i ≤ 1048576) (hL : LaidK w) :
    Calls Tryd.prog 65 #[.int .u64 x, .string s, .int .i64 i] w fun e w' => e = .returned (.agg (vl .u8 (blkP x s i)).toArray) ∧ Step w w' := by
  obtain ⟨Z3, hZ3⟩ : ∃ Z, zs.toArray = Z := ⟨_, rfl⟩
  have hz3 : Hid (∀ w, (zeroValue 44).run Tryd.prog w = .ok (.agg Z3) w) := Lib.hid (hZ3 ▸ zero32)
  have hsz3 : Z3.size = 32 := by rw [← hZ3]; rfl
  clear hZ3
  have T0 := Lg.there_new w Z3 44 32 hsz3
  obtain ⟨A1, c1, W1, hcv, hB1', S1⟩ := conv s (w.alloc (.cells Z3 44))
  have hB1 : Hid (Buf W1 (w.alloc (.cells Z3 44)).heap.size (.slice A1 s.size c1) s.size (bl s)) := Lib.hid hB1'
  clear hB1'
  have c8 := spell8 (w.alloc (.cells Z3 44)) x hx
  have d4 := spell4 (w.alloc (.cells Z3 44)) i (Lib.hid (by omega))
  have hsI : (s.size : Int) ≤ 64 := by omega
  have iI : (i : Int) ≤ 1048576 := by omega
  have lT := btx_len s i
  have cM : ∀ (w : World) (A : Option Addr) (c : Nat) (A2 : Option Addr) (c2 : Nat), 8 ≤ c → R8 w A (spl x 8) → R8 w A2 (bl s ++ [0] ++ spl i 4) → LaidK w → Calls Tryd.prog 43 #[.slice A 8 c, .slice A2 (s.size + 1 + 4) c2] w fun e w' => e = .returned (.agg (vl .u8 (blkP x s i)).toArray) ∧ Step w w' :=
    fun w A c A2 c2 hc h1 h2 hL => of_mac A c 8 (spl x 8) A2 c2 (s.size + 1 + 4) (btx s i) w (spl_len x 8) hc (by omega) h1 (spl_b8 x 8) lT (by omega) h2 (btx_b8 s i) hL
  have lF : (vl .u8 (blkP x s i)).length = 32 := by rw [vl_len, blkP_len]
  have oF := Lib.hid (vl_one .u8 (blkP x s i))
  generalize vl .u8 (blkP x s i) = F at cM lF oF
  have eF : F.toArray.size = 32 := lF
  generalize spl x 8 = K at c8 cM
  generalize hT : spl i 4 = T at d4 cM
  clear hT lT hx
  generalize s.size = n at hcv hB1 cM hsI hs
  generalize bl s = b at hB1 cM
  have hNil : ∀ v, Hdr.Apart (.slice none 0 0) v := Hdr.Apart.nil
  go_enter Tryd.func65, Tryd.ntmps65
  go_wp2_with (first
    | refine Lg.wpAlloc (by rfl) 44 (by rfl) Z3 hz3.out ?_
    | (at_builtin; refine Buf.wp (w.alloc (.cells Z3 44)) W1 (by rfl) _ _ (by rfl) _ (.slice none 0 0) n 0 b [] (by rfl) hB1.out (Buf.nil _ _) (hNil _) _ 1 1 [0] (by rfl) rfl (by omega) (lit1U _ _ _ _ _ rfl (by simp)) (by omega) ?_; intro A2 c2 w2 O2 U2 P2 S2; clear U2 P2)
    | (go_at_call 84; ((with_reducible refine (c8 _ inferInstance _ _ _ O2.to).mono ?_); rintro e w3 ⟨A3, c3, rfl, O3, U3, P3, S3⟩))
    | (go_at_call 84; ((with_reducible refine (d4 _ inferInstance _ _ _ _ _ _ U3.to O3.to P3.symm (by omega)).mono ?_); rintro e w4 ⟨A4, c4, rfl, O4, U4, P4, S4⟩))
    | (go_at_call 43; ((with_reducible refine (cM _ _ _ _ _ U4.cap U4.row.to O4.row.to hL.to).mono ?_); rintro e w5 ⟨rfl, S5⟩; have T5 : w5.there w.heap.size 0 32 := there_under T0 (inferInstance : Ext (w.alloc (Obj.cells Z3 44)) w5).h (by simp)))
    | refine wpList_store_mid (by rfl) 44 (.tmp 6) (.tmp 18) (by rfl) w.heap.size 0 F.toArray (by rfl) (by rfl) (by rw [eF]; exact T5) (by rw [eF]; exact size32) oF.out ?_)
  refine bodyPost_ret (results_one (by rfl) _ _ w.heap.size 0 F _ (by rfl) (World.rangeAt_setCells_same _ _ _ _ (by rw [lF]; exact T5)) Tryd.underlying44 rfl (by rw [lF]; exact size32)) (by rfl) ?_
  exact ⟨rfl, ⟨Lg.below_setCells (Nat.le_refl _) _ _ _ (inferInstance : Ext w w5).h⟩⟩
end Pg
end Go.Proofs.YtmjbbaekdbiopaaDoor
