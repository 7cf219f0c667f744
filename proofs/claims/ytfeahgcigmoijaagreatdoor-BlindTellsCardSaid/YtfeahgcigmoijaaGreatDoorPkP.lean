/- Several texts in one, each with its own word ahead. -/
import Derived.Test.YtfeahgcigmoijaaGreatDoorPkT
import Derived.Test.YtfeahgcigmoijaaGreatDoorBuf
import Derived.ArgAppend
import Derived.Laws.IdiomStrings
import Derived.LoopTactic
import Derived.Laws.RangeAny
import Derived.Test.YtfeahgcigmoijaaGreatDoorPkM
import Derived.Test.YtfeahgcigmoijaaGreatDoorPkF
import Derived.Test.YtfeahgcigmoijaaGreatDoorSlEq
/- Layer 7's small functions, the program's and the document's: labels, a number's bytes, bytes as a number. Conditions: what is handed in reads as bytes. -/
namespace Go.Proofs.YtfeahgcigmoijaaGreatDoor
open Go.RowKit Go.Lib
namespace Pg
open SlR Sh Sp
/-- May a byte be a label's? -/
def okB (b : Nat) : Bool := decide (32 ≤ b) && decide (b ≤ 126)
/-- Is a text a label? -/
def lab (s : ByteArray) : Bool := decide (s.size ≤ 64) && (bl s).all okB
theorem lab_size {s : ByteArray} (h : lab s = true) : s.size ≤ 64 := by unfold lab at h; simp at h; exact h.1
theorem lab_no {s : ByteArray} {j : Nat} (hj : j < s.size) (h : okB ((bl s).getD j 0) = false) : lab s = false := by
  unfold lab
  have : (bl s).all okB = false := by
    rw [List.all_eq_false]
    refine ⟨(bl s)[j]'(by rw [bl_len]; exact hj), List.getElem_mem _, ?_⟩
    rw [List.getD_eq_getElem?_getD, List.getElem?_eq_getElem (by rw [bl_len]; exact hj)] at h
    simpa using h
  rw [this, Bool.and_false]
theorem lab_yes {s : ByteArray} (hs : s.size ≤ 64) (h : ∀ j, j < s.size → okB ((bl s).getD j 0) = true) : lab s = true := by
  unfold lab
  rw [decide_eq_true hs, Bool.true_and, List.all_eq_true]
  intro x hx
  obtain ⟨j, hj, rfl⟩ := List.getElem_of_mem hx
  have := h j (by rw [← bl_len]; exact hj)
  rw [List.getD_eq_getElem?_getD, List.getElem?_eq_getElem hj] at this
  exact this
theorem lab_all {s : ByteArray} (h : ∀ j, j < s.size → okB ((bl s).getD j 0) = true) : lab s = decide (s.size ≤ 64) := by
  by_cases hs : s.size ≤ 64
  · rw [lab_yes hs h, decide_eq_true hs]
  · unfold lab; rw [decide_eq_false hs, Bool.false_and]
set_option maxHeartbeats 1600000 in
set_option maxRecDepth 100000 in
/-- The program's isLabel. -/
theorem label_any (s : ByteArray) (w : World) : Calls Tryz.prog 45 #[.string s] w fun e w' => e = .returned (.bool (lab s)) ∧ Step w w' := by
  by_cases hs : s.size ≤ 64
  · have hsI : (s.size : Int) ≤ 64 := by omega
    have hs2 := Lib.hid hs
    clear hs
    go_enter Tryz.func45, Tryz.ntmps45
    go_wp2
    go_loopw [2] (fun _ w' => ∃ pos : Nat, w' = w.iter s pos ∧ Hid (pos ≤ s.size ∧ ∀ j, j < pos → okB ((bl s).getD j 0) = true)) (fun _ w' => s.size - w'.iterPos w.heap.size)
    case atStart => exact ⟨0, rfl, Lib.hid ⟨Nat.zero_le _, fun j hj => absurd hj (Nat.not_lt_zero _)⟩⟩
    case round =>
      obtain ⟨pos, rfl, hok⟩ := hrel
      by_cases hp : pos < s.size
      · by_cases h128 : (bl s).getD pos 0 < 128
        · have hnx : ∀ ty, (Instr.next (.pointer (some ⟨w.heap.size, 0, none⟩)) true ty).run Tryz.prog (w.iter s pos) = .ok (.tuple #[.bool true, .int .i64 pos, .int .i32 ((bl s).getD pos 0 : Nat)]) (w.iter s (pos + 1)) := fun ty => by
            rw [run_next_ascii w s pos ty hp (by rw [bl_get s pos hp]; exact h128), bl_get s pos hp]
          have hk : Hid (okB ((bl s).getD pos 0) = (decide (32 ≤ (bl s).getD pos 0) && decide ((bl s).getD pos 0 ≤ 126))) := Lib.hid rfl
          generalize hb : (bl s).getD pos 0 = b at hnx hk h128
          have hb2 := Lib.hid hb
          clear hb
          rcases (by omega : (b : Int) < 32 ∨ (¬ (b : Int) < 32 ∧ 126 < (b : Int)) ∨ (¬ (b : Int) < 32 ∧ ¬ 126 < (b : Int))) with h1 | ⟨h1, h2⟩ | ⟨h1, h2⟩
          · have hl : Hid (lab s = false) := Lib.hid (lab_no hp (by rw [hb2.out, hk.out]; simp; omega))
            go_wp2
            go_ret
            exact ⟨by rw [hl.out]; rfl, Step.of (Ext.alloc (w := w) (a := w) _)⟩
          · have hl : Hid (lab s = false) := Lib.hid (lab_no hp (by rw [hb2.out, hk.out]; simp; omega))
            go_wp2
            go_ret
            exact ⟨by rw [hl.out]; rfl, Step.of (Ext.alloc (w := w) (a := w) _)⟩
          · have hl : Hid (okB b = true) := Lib.hid (by rw [hk.out]; simp; omega)
            have hl2 : Hid (pos + 1 ≤ s.size ∧ ∀ j, j < pos + 1 → okB ((bl s).getD j 0) = true) := Lib.hid ⟨hp, fun j hj => by
              by_cases e : j = pos
              · subst e; rw [hb2.out]; exact hl.out
              · exact hok.out.2 j (by omega)⟩
            go_wp2
            go_roundw
            case rel => exact ⟨pos + 1, rfl, hl2⟩
            case measure => simp; omega
        · have hd := decode_high s pos hp (by rw [bl_get s pos hp]; omega)
          have hle := decode_le s pos
          have hnx : ∀ ty, (Instr.next (.pointer (some ⟨w.heap.size, 0, none⟩)) true ty).run Tryz.prog (w.iter s pos) = _ := fun ty => run_next_any w s pos ty hp
          have hl : Hid (lab s = false) := Lib.hid (lab_no hp (by have h0 := h128; generalize (bl s).getD pos 0 = b at h0 ⊢; unfold okB; simp; omega))
          generalize (Utf8.decode s pos).2 = q at hnx hd
          generalize (Utf8.decode s pos).1 = r at hnx hd hle
          have h1 : ¬ r < 32 := by omega
          have h2 : 126 < r := by omega
          clear h128 hd
          go_wp2
          go_ret
          exact ⟨by rw [hl.out]; rfl, Step.of (Ext.alloc (w := w) (a := w) _)⟩
      · have hnx : ∀ ty, (Instr.next (.pointer (some ⟨w.heap.size, 0, none⟩)) true ty).run Tryz.prog (w.iter s pos) = _ := fun ty => run_next_end w s pos ty hp
        have hl : Hid (lab s = true) := Lib.hid (lab_yes hs2.out fun j hj => hok.out.2 j (by omega))
        go_wp2
        go_ret
        exact ⟨by rw [hl.out]; rfl, Step.of (Ext.alloc (w := w) (a := w) _)⟩
  · have h1 : ¬ (s.size : Int) ≤ 64 := by omega
    have hl : Hid (lab s = false) := Lib.hid (by unfold lab; rw [decide_eq_false hs, Bool.false_and])
    go_enter Tryz.func45, Tryz.ntmps45
    go_wp2
    go_ret
    exact ⟨by rw [hl.out]; rfl, Step.of inferInstance⟩
end Pg
end Go.Proofs.YtfeahgcigmoijaaGreatDoor
/- Layer 7's small functions, on: the document's labels, bytes as a number, a number's bytes. Conditions: what is handed in reads as bytes. -/
namespace Go.Proofs.YtfeahgcigmoijaaGreatDoor
open Go.RowKit Go.Lib
namespace Pg
open SlR Sh Sp
set_option maxHeartbeats 1600000 in
set_option maxRecDepth 100000 in
/-- The document's Label. -/
theorem rlabel_any (s : ByteArray) (w : World) (hs : s.size ≤ 1000) : Calls Tryz.prog 23 #[.string s] w fun e w' => e = .returned (.bool (lab s)) ∧ w' = w := by
  have hsI : (s.size : Int) ≤ 1000 := by omega
  clear hs
  go_enter Tryz.func23, Tryz.ntmps23
  go_wp2
  go_loopw [3] (fun i w' => ∃ pos : Nat, w' = w ∧ i = .int .i64 pos ∧ pos ≤ s.size ∧ Hid (∀ j, j < pos → okB ((bl s).getD j 0) = true)) (fun i _ => s.size - (intOf i).toNat)
  case atStart => exact ⟨0, rfl, rfl, Nat.zero_le _, Lib.hid fun j hj => absurd hj (Nat.not_lt_zero _)⟩
  case round =>
    obtain ⟨pos, rfl, rfl, hle, hok⟩ := hrel
    by_cases hp : pos < s.size
    · have hx : ∀ p, (s[pos]'p).toNat = (bl s).getD pos 0 := fun p => bl_get s pos p
      have hk : Hid (okB ((bl s).getD pos 0) = (decide (32 ≤ (bl s).getD pos 0) && decide ((bl s).getD pos 0 ≤ 126))) := Lib.hid rfl
      have h256 := bl_lt s pos
      generalize hb : (bl s).getD pos 0 = b at hx hk h256
      have hb2 := Lib.hid hb
      clear hb
      have hpI : (pos : Int) < s.size := by omega
      rcases (by omega : (b : Int) < 32 ∨ (¬ (b : Int) < 32 ∧ 126 < (b : Int)) ∨ (¬ (b : Int) < 32 ∧ ¬ 126 < (b : Int))) with h1 | ⟨h1, h2⟩ | ⟨h1, h2⟩
      · have hl : Hid (lab s = false) := Lib.hid (lab_no hp (by rw [hb2.out, hk.out]; simp; omega))
        go_wp2
        go_ret
        exact ⟨by rw [hl.out]; rfl, rfl⟩
      · have hl : Hid (lab s = false) := Lib.hid (lab_no hp (by rw [hb2.out, hk.out]; simp; omega))
        go_wp2
        go_ret
        exact ⟨by rw [hl.out]; rfl, rfl⟩
      · have hl : Hid (okB b = true) := Lib.hid (by rw [hk.out]; simp; omega)
        have hl2 : Hid (∀ j, j < pos + 1 → okB ((bl s).getD j 0) = true) := Lib.hid fun j hj => by
          by_cases e : j = pos
          · subst e; rw [hb2.out]; exact hl.out
          · exact hok.out j (by omega)
        go_wp2
        go_roundw
        case rel => exact ⟨pos + 1, trivial, by go_num, hp, hl2⟩
        case measure => simp [intOf]; omega
    · have hl : Hid (lab s = decide (s.size ≤ 64)) := Lib.hid (lab_all fun j hj => hok.out j (by omega))
      go_wp2
      go_ret
      exact ⟨by rw [hl.out]; simp; omega, rfl⟩
def nb (l : List Nat) : Nat := l.foldl (fun v b => v * 256 + b) 0
theorem nb_snoc (l : List Nat) (b : Nat) : nb (l ++ [b]) = nb l * 256 + b := by simp [nb]
theorem nb_lt (l : List Nat) (hb : B8 l) : ∀ k, k ≤ l.length → nb (l.take k) < 256 ^ k
  | 0, _ => by simp [nb]
  | k + 1, h => by
    have ih := nb_lt l hb k (by omega)
    rw [take_snocN l k (by omega), nb_snoc, Nat.pow_succ]
    have := hb k
    omega
theorem shl8 (v : Nat) (h : v < 72057594037927936) : IntKind.u64.wrap ((v : Int) * 256) = (v : Int) * 256 := by rw [IntKind.wrap_u64]; omega
theorem or8 (v b : Nat) (h : v < 72057594037927936) (hb : b < 256) : bits .or .u64 ((v : Int) * 256) (b : Int) = ((v * 256 + b : Nat) : Int) := by
  have e : (v : Int) * 256 = ((v * 256 : Nat) : Int) := by simp
  rw [e]
  show IntKind.u64.wrap ((BitVec.ofInt 64 ((v * 256 : Nat) : Int) ||| BitVec.ofInt 64 (b : Int)).toNat : Int) = _
  have o : v * 256 ||| b = v * 256 + b := by
    have := Nat.two_pow_add_eq_or_of_lt (i := 8) (b := b) (by omega) v
    rw [show 2 ^ 8 * v = v * 256 by omega] at this
    exact this.symm
  rw [BitVec.toNat_or, BitVec.ofInt_natCast, BitVec.ofInt_natCast, BitVec.toNat_ofNat, BitVec.toNat_ofNat, Nat.mod_eq_of_lt (by omega), Nat.mod_eq_of_lt (by omega), o, IntKind.wrap_u64]
  omega
set_option maxHeartbeats 1600000 in
set_option maxRecDepth 100000 in
/-- Bytes as a number. -/
theorem number_any (A : Option Addr) (c n : Nat) (bs : List Nat) (w : World) (hn : bs.length = n) (hn2 : n ≤ 8) (hr : R8 w A bs) (hb : B8 bs) :
    Calls Tryz.prog 47 #[.slice A n c] w fun e w' => e = .returned (.int .u64 (nb bs : Nat)) ∧ w' = w := by
  have hlt := Lib.hid (fun k (h : k ≤ bs.length) => nb_lt bs hb k h)
  go_enter Tryz.func47, Tryz.ntmps47
  go_wp2
  go_loopw [3, 8] (fun v i w' => ∃ k : Nat, w' = w ∧ k ≤ n ∧ i = .int .i64 k ∧ v = .int .u64 (nb (bs.take k) : Nat)) (fun _ i _ => n - (intOf i).toNat)
  case atStart => exact ⟨0, rfl, Nat.zero_le _, rfl, rfl⟩
  case round =>
    obtain ⟨k, rfl, hk, rfl, rfl⟩ := hrel
    by_cases hp : k < n
    · obtain ⟨ad, rfl, hab, hc⟩ := Row.atN hr (j := k) (by omega)
      have hx := hb k
      have hv : nb (bs.take k) < 72057594037927936 := Nat.lt_of_lt_of_le (hlt.out k (by omega)) (Nat.le_trans (Nat.pow_le_pow_right (by omega) (by omega : k ≤ 7)) (by decide))
      have hX : Hid (nb (bs.take (k + 1)) = nb (bs.take k) * 256 + bs.getD k 0) := Lib.hid (by rw [take_snocN bs k (by omega), nb_snoc])
      have hs := shl8 _ hv
      have ho := or8 _ _ hv hx
      have hv2 := Lib.hid hv
      clear hv hr
      generalize nb (bs.take k) = v at hs ho hX hv2
      generalize bs.getD k 0 = x at hc hX hx ho
      go_wp2
      go_roundw
      case rel => exact ⟨k + 1, trivial, by omega, by go_num, by rw [hX.out]; simp⟩
      case measure => simp [intOf]; omega
    · have hkn : k = n := by omega
      subst hkn
      have hT : bs.take k = bs := List.take_of_length_le (by omega)
      rw [hT]
      clear hr
      go_wp2
      go_ret
      exact ⟨rfl, rfl⟩
end Pg
end Go.Proofs.YtfeahgcigmoijaaGreatDoor
/- Layer 7: a number's bytes behind a list (package prg's spell). Conditions: lengths as stated. -/
namespace Go.Proofs.YtfeahgcigmoijaaGreatDoor
open Go.RowKit Go.Lib
namespace Pg
open SlR Sh Sp
set_option maxHeartbeats 3200000 in
set_option maxRecDepth 100000 in
theorem spell_any (W w : World) [e0 : Ext W w] (v u : Value) (n m : Nat) (xs ys : List Nat) (x k : Nat) (hx : Hid (x < 18446744073709551616)) (hk : k ≤ 8) (hv : Buf w W.heap.size v n xs) (hu : Buf w W.heap.size u m ys) (ha : Hdr.Apart u v) (hn : n ≤ 1000) :
    Calls Tryz.prog 66 #[v, .int .u64 x, .int .i64 k] w fun e w' => ∃ A c, e = .returned (.slice A (n + k) c) ∧ Buf w' W.heap.size (.slice A (n + k) c) (n + k) (xs ++ spl x k) ∧ Buf w' W.heap.size u m ys ∧ Hdr.Apart u (.slice A (n + k) c) ∧ Step W w' := by
  have kI : (k : Int) ≤ 8 := by omega
  have k2 : IntKind.i64.wrap ((k : Int) - 1) = (k : Int) - 1 := by simp [IntKind.wrap, IntKind.bits, IntKind.signed]; omega
  have HV := Lib.hid hv
  have HU := Lib.hid hu
  have HA := Lib.hid ha
  have S0 : Hid (Step W w) := Lib.hid (Step.of e0)
  clear hv hu ha
  go_enter Tryz.func66, Tryz.ntmps66
  go_wp2
  go_loopw [0, 7] (fun v i wr => ∃ (j L : Nat) (zs : List Nat), j ≤ 8 ∧ i = .int .i64 ((j : Int) - 1) ∧ Hid (L + j = n + k ∧ zs ++ spl x j = xs ++ spl x k ∧ Buf wr W.heap.size v L zs ∧ Buf wr W.heap.size u m ys ∧ Hdr.Apart u v) ∧ Hid (Step W wr)) (fun _ i _ => (intOf i + 1).toNat)
  case atStart => exact ⟨k, n, xs, hk, by rfl, Lib.hid ⟨rfl, rfl, HV.out, HU.out, HA.out⟩, S0⟩
  case round =>
    obtain ⟨j, L, zs, hj, rfl, hH, S⟩ := hrel
    have SW : Step W wr := S.out
    obtain ⟨A, c, rfl⟩ := hH.out.2.2.1.form
    have hL : L ≤ 1008 := by have := hH.out.1; omega
    clear HV HU HA S0 S
    rcases (by omega : j = 0 ∨ j = 1 ∨ j = 2 ∨ j = 3 ∨ j = 4 ∨ j = 5 ∨ j = 6 ∨ j = 7 ∨ j = 8) with rfl | rfl | rfl | rfl | rfl | rfl | rfl | rfl | rfl
    · have hLn : L = n + k := by have := hH.out.1; omega
      subst hLn
      have hB : Hid (Buf wr W.heap.size (.slice A (n + k) c) (n + k) (xs ++ spl x k)) := Lib.hid (by
        have h1 := hH.out.2.1
        have h2 := hH.out.2.2.1
        rw [show spl x 0 = [] from rfl, List.append_nil] at h1
        rw [← h1]
        exact h2)
      go_wp2
      go_ret
      exact ⟨A, c, rfl, hB.out, hH.out.2.2.2.1, hH.out.2.2.2.2, SW⟩
    · have hM := Lib.hid (spl_move zs xs x 0 k hH.out.2.1)
      have hxx := hx
      go_wp2_with (at_builtin; refine Buf.wp W wr (by rfl) _ _ (by rfl) _ u L m zs ys (by rfl) hH.out.2.2.1 hH.out.2.2.2.1 hH.out.2.2.2.2 _ 1 1 [x / 256 ^ 0 % 256] (by rfl) rfl (by omega) (lit1U _ _ _ _ _ (by have := hxx.out; simp; try omega) (by simp)) (by omega) ?_; intro A4 c4 w4 O4 U4 P4 S4)
      go_roundw
      case rel => exact ⟨0, L + 1, _, by omega, by go_num, Lib.hid ⟨by have := hH.out.1; omega, hM.out, O4, U4, P4⟩, Lib.hid S4⟩
      case measure => simp [intOf]
    · have hM := Lib.hid (spl_move zs xs x 1 k hH.out.2.1)
      have hxx := hx
      go_wp2_with (at_builtin; refine Buf.wp W wr (by rfl) _ _ (by rfl) _ u L m zs ys (by rfl) hH.out.2.2.1 hH.out.2.2.2.1 hH.out.2.2.2.2 _ 1 1 [x / 256 ^ 1 % 256] (by rfl) rfl (by omega) (lit1U _ _ _ _ _ (by have := hxx.out; simp; try omega) (by simp)) (by omega) ?_; intro A4 c4 w4 O4 U4 P4 S4)
      go_roundw
      case rel => exact ⟨1, L + 1, _, by omega, by go_num, Lib.hid ⟨by have := hH.out.1; omega, hM.out, O4, U4, P4⟩, Lib.hid S4⟩
      case measure => simp [intOf]
    · have hM := Lib.hid (spl_move zs xs x 2 k hH.out.2.1)
      have hxx := hx
      go_wp2_with (at_builtin; refine Buf.wp W wr (by rfl) _ _ (by rfl) _ u L m zs ys (by rfl) hH.out.2.2.1 hH.out.2.2.2.1 hH.out.2.2.2.2 _ 1 1 [x / 256 ^ 2 % 256] (by rfl) rfl (by omega) (lit1U _ _ _ _ _ (by have := hxx.out; simp; try omega) (by simp)) (by omega) ?_; intro A4 c4 w4 O4 U4 P4 S4)
      go_roundw
      case rel => exact ⟨2, L + 1, _, by omega, by go_num, Lib.hid ⟨by have := hH.out.1; omega, hM.out, O4, U4, P4⟩, Lib.hid S4⟩
      case measure => simp [intOf]
    · have hM := Lib.hid (spl_move zs xs x 3 k hH.out.2.1)
      have hxx := hx
      go_wp2_with (at_builtin; refine Buf.wp W wr (by rfl) _ _ (by rfl) _ u L m zs ys (by rfl) hH.out.2.2.1 hH.out.2.2.2.1 hH.out.2.2.2.2 _ 1 1 [x / 256 ^ 3 % 256] (by rfl) rfl (by omega) (lit1U _ _ _ _ _ (by have := hxx.out; simp; try omega) (by simp)) (by omega) ?_; intro A4 c4 w4 O4 U4 P4 S4)
      go_roundw
      case rel => exact ⟨3, L + 1, _, by omega, by go_num, Lib.hid ⟨by have := hH.out.1; omega, hM.out, O4, U4, P4⟩, Lib.hid S4⟩
      case measure => simp [intOf]
    · have hM := Lib.hid (spl_move zs xs x 4 k hH.out.2.1)
      have hxx := hx
      go_wp2_with (at_builtin; refine Buf.wp W wr (by rfl) _ _ (by rfl) _ u L m zs ys (by rfl) hH.out.2.2.1 hH.out.2.2.2.1 hH.out.2.2.2.2 _ 1 1 [x / 256 ^ 4 % 256] (by rfl) rfl (by omega) (lit1U _ _ _ _ _ (by have := hxx.out; simp; try omega) (by simp)) (by omega) ?_; intro A4 c4 w4 O4 U4 P4 S4)
      go_roundw
      case rel => exact ⟨4, L + 1, _, by omega, by go_num, Lib.hid ⟨by have := hH.out.1; omega, hM.out, O4, U4, P4⟩, Lib.hid S4⟩
      case measure => simp [intOf]
    · have hM := Lib.hid (spl_move zs xs x 5 k hH.out.2.1)
      have hxx := hx
      go_wp2_with (at_builtin; refine Buf.wp W wr (by rfl) _ _ (by rfl) _ u L m zs ys (by rfl) hH.out.2.2.1 hH.out.2.2.2.1 hH.out.2.2.2.2 _ 1 1 [x / 256 ^ 5 % 256] (by rfl) rfl (by omega) (lit1U _ _ _ _ _ (by have := hxx.out; simp; try omega) (by simp)) (by omega) ?_; intro A4 c4 w4 O4 U4 P4 S4)
      go_roundw
      case rel => exact ⟨5, L + 1, _, by omega, by go_num, Lib.hid ⟨by have := hH.out.1; omega, hM.out, O4, U4, P4⟩, Lib.hid S4⟩
      case measure => simp [intOf]
    · have hM := Lib.hid (spl_move zs xs x 6 k hH.out.2.1)
      have hxx := hx
      go_wp2_with (at_builtin; refine Buf.wp W wr (by rfl) _ _ (by rfl) _ u L m zs ys (by rfl) hH.out.2.2.1 hH.out.2.2.2.1 hH.out.2.2.2.2 _ 1 1 [x / 256 ^ 6 % 256] (by rfl) rfl (by omega) (lit1U _ _ _ _ _ (by have := hxx.out; simp; try omega) (by simp)) (by omega) ?_; intro A4 c4 w4 O4 U4 P4 S4)
      go_roundw
      case rel => exact ⟨6, L + 1, _, by omega, by go_num, Lib.hid ⟨by have := hH.out.1; omega, hM.out, O4, U4, P4⟩, Lib.hid S4⟩
      case measure => simp [intOf]
    · have hM := Lib.hid (spl_move zs xs x 7 k hH.out.2.1)
      have hxx := hx
      go_wp2_with (at_builtin; refine Buf.wp W wr (by rfl) _ _ (by rfl) _ u L m zs ys (by rfl) hH.out.2.2.1 hH.out.2.2.2.1 hH.out.2.2.2.2 _ 1 1 [x / 256 ^ 7 % 256] (by rfl) rfl (by omega) (lit1U _ _ _ _ _ (by have := hxx.out; simp; try omega) (by simp)) (by omega) ?_; intro A4 c4 w4 O4 U4 P4 S4)
      go_roundw
      case rel => exact ⟨7, L + 1, _, by omega, by go_num, Lib.hid ⟨by have := hH.out.1; omega, hM.out, O4, U4, P4⟩, Lib.hid S4⟩
      case measure => simp [intOf]
end Pg
end Go.Proofs.YtfeahgcigmoijaaGreatDoor
/- Layer 7: a block of a seed and a label, the program's. Conditions: sha.k reads as laid; the label is one; the place is from 0 to 2^20. -/
namespace Go.Proofs.YtfeahgcigmoijaaGreatDoor
open Go.RowKit Go.Lib
namespace Pg
open SlR Sh Sp Mc
/-- What a block's text is. -/
def btx (s : ByteArray) (i : Nat) : List Nat := bl s ++ [0] ++ spl i 4
/-- A block. -/
def blkP (x : Nat) (s : ByteArray) (i : Nat) : List Nat := hm (spl x 8) (btx s i)
theorem blkP_len (x : Nat) (s : ByteArray) (i : Nat) : (blkP x s i).length = 32 := hm_len _ _
theorem btx_b8 (s : ByteArray) (i : Nat) : B8 (btx s i) := b8_app (b8_app (bl_b8 s) (b8_mem (by simp))) (spl_b8 i 4)
theorem btx_len (s : ByteArray) (i : Nat) : (btx s i).length = s.size + 1 + 4 := by simp [btx, bl_len, spl_len]
theorem hm_b8 {k t : List Nat} (hk : B8 k) (hl : k.length ≤ 90000) (ht : B8 t) (hl2 : t.length ≤ 90000) : B8 (hm k t) := by
  have b8i : B8 (msk 54 (blk k) ++ t) := b8_inner hk (by omega) ht
  have li : (msk 54 (blk k) ++ t).length = 64 + t.length := by rw [List.length_append, msk_len, blk_len]
  have b8s : B8 (Sh.sum (msk 54 (blk k) ++ t)) := sum_b8 ⟨_, b8i, by omega⟩
  exact sum_b8 ⟨_, b8_app (msk_b8 92 (by omega) (blk_b8 hk (by omega))) b8s, by rw [List.length_append, msk_len, blk_len, sum_fine]; omega⟩
theorem blkP_b8 (x : Nat) (s : ByteArray) (i : Nat) (hs : s.size ≤ 1000) : B8 (blkP x s i) := hm_b8 (spl_b8 x 8) (by rw [spl_len]; omega) (btx_b8 s i) (by rw [btx_len]; omega)
theorem spell8 (W : World) (x : Nat) (hx : Hid (x < 18446744073709551616)) (w : World) (e0 : Ext W w) (u : Value) (m : Nat) (ys : List Nat) (hu : Buf w W.heap.size u m ys) :
    Calls Tryz.prog 66 #[.slice none 0 0, .int .u64 x, .int .i64 8] w fun e w' => ∃ A c, e = .returned (.slice A 8 c) ∧ Buf w' W.heap.size (.slice A 8 c) 8 (spl x 8) ∧ Buf w' W.heap.size u m ys ∧ Hdr.Apart u (.slice A 8 c) ∧ Step W w' := by
  have h := spell_any W w (.slice none 0 0) u 0 m [] ys x 8 hx (by omega) (Buf.nil _ _) hu (fun g _ h => by simp [Value.ownBlock] at h) (by omega)
  simpa using h
theorem spell4 (W : World) (x : Nat) (hx : Hid (x < 18446744073709551616)) (w : World) (e0 : Ext W w) (v u : Value) (n m : Nat) (xs ys : List Nat) (hv : Buf w W.heap.size v n xs) (hu : Buf w W.heap.size u m ys) (ha : Hdr.Apart u v) (hn : n ≤ 1000) :
    Calls Tryz.prog 66 #[v, .int .u64 x, .int .i64 4] w fun e w' => ∃ A c, e = .returned (.slice A (n + 4) c) ∧ Buf w' W.heap.size (.slice A (n + 4) c) (n + 4) (xs ++ spl x 4) ∧ Buf w' W.heap.size u m ys ∧ Hdr.Apart u (.slice A (n + 4) c) ∧ Step W w' :=
  spell_any W w v u n m xs ys x 4 hx (by omega) hv hu ha hn
set_option maxHeartbeats 3200000 in
set_option maxRecDepth 100000 in
theorem block_dev (x : Nat) (s : ByteArray) (i : Nat) (w : World) (hx : Hid (x < 18446744073709551616)) (hs : s.size ≤ 64) (hi : i ≤ 1048576) (hL : LaidK w) :
    Calls Tryz.prog 46 #[.int .u64 x, .string s, .int .i64 i] w fun e w' => e = .returned (.agg (vl .u8 (blkP x s i)).toArray) ∧ Step w w' := by
  obtain ⟨Z3, hZ3⟩ : ∃ Z, zs.toArray = Z := ⟨_, rfl⟩
  have hz3 : Hid (∀ w, (zeroValue 62).run Tryz.prog w = .ok (.agg Z3) w) := Lib.hid (hZ3 ▸ zero32)
  have hsz3 : Z3.size = 32 := by rw [← hZ3]; rfl
  clear hZ3
  have T0 := Lg.there_new w Z3 62 32 hsz3
  obtain ⟨A1, c1, W1, hcv, hB1', S1⟩ := conv s (w.alloc (.cells Z3 62))
  have hB1 : Hid (Buf W1 (w.alloc (.cells Z3 62)).heap.size (.slice A1 s.size c1) s.size (bl s)) := Lib.hid hB1'
  clear hB1'
  have c8 := spell8 (w.alloc (.cells Z3 62)) x hx
  have d4 := spell4 (w.alloc (.cells Z3 62)) i (Lib.hid (by omega))
  have hsI : (s.size : Int) ≤ 64 := by omega
  have iI : (i : Int) ≤ 1048576 := by omega
  have lT := btx_len s i
  have cM : ∀ (w : World) (A : Option Addr) (c : Nat) (A2 : Option Addr) (c2 : Nat), 8 ≤ c → R8 w A (spl x 8) → R8 w A2 (bl s ++ [0] ++ spl i 4) → LaidK w → Calls Tryz.prog 65 #[.slice A 8 c, .slice A2 (s.size + 1 + 4) c2] w fun e w' => e = .returned (.agg (vl .u8 (blkP x s i)).toArray) ∧ Step w w' :=
    fun w A c A2 c2 hc h1 h2 hL => of_mac A c 8 (spl x 8) A2 c2 (s.size + 1 + 4) (btx s i) w (spl_len x 8) hc (by omega) h1 (spl_b8 x 8) lT (by omega) h2 (btx_b8 s i) hL
  have lF : (vl .u8 (blkP x s i)).length = 32 := by rw [vl_len, blkP_len]
  have oF := Lib.hid (vl_one .u8 (blkP x s i))
  generalize vl .u8 (blkP x s i) = F at cM lF oF
  have eF : F.toArray.size = 32 := lF
  generalize spl x 8 = K at c8 cM
  generalize hT : spl i 4 = T at d4 cM
  clear hT lT hx
  generalize s.size = n at hcv hB1 cM hsI hs
  generalize bl s = b at hB1 cM
  have hNil : ∀ v, Hdr.Apart (.slice none 0 0) v := Hdr.Apart.nil
  go_enter Tryz.func46, Tryz.ntmps46
  go_wp2_with (first
    | refine Lg.wpAlloc (by rfl) 62 (by rfl) Z3 hz3.out ?_
    | (at_builtin; refine Buf.wp (w.alloc (.cells Z3 62)) W1 (by rfl) _ _ (by rfl) _ (.slice none 0 0) n 0 b [] (by rfl) hB1.out (Buf.nil _ _) (hNil _) _ 1 1 [0] (by rfl) rfl (by omega) (lit1U _ _ _ _ _ rfl (by simp)) (by omega) ?_; intro A2 c2 w2 O2 U2 P2 S2; clear U2 P2)
    | (go_at_call 66; ((with_reducible refine (c8 _ inferInstance _ _ _ O2.to).mono ?_); rintro e w3 ⟨A3, c3, rfl, O3, U3, P3, S3⟩))
    | (go_at_call 66; ((with_reducible refine (d4 _ inferInstance _ _ _ _ _ _ U3.to O3.to P3.symm (by omega)).mono ?_); rintro e w4 ⟨A4, c4, rfl, O4, U4, P4, S4⟩))
    | (go_at_call 65; ((with_reducible refine (cM _ _ _ _ _ U4.cap U4.row.to O4.row.to hL.to).mono ?_); rintro e w5 ⟨rfl, S5⟩; have T5 : w5.there w.heap.size 0 32 := there_under T0 (inferInstance : Ext (w.alloc (Obj.cells Z3 62)) w5).h (by simp)))
    | refine wpList_store_mid (by rfl) 62 (.tmp 6) (.tmp 18) (by rfl) w.heap.size 0 F.toArray (by rfl) (by rfl) (by rw [eF]; exact T5) (by rw [eF]; exact size32) oF.out ?_)
  refine bodyPost_ret (results_one (by rfl) _ _ w.heap.size 0 F _ (by rfl) (World.rangeAt_setCells_same _ _ _ _ (by rw [lF]; exact T5)) Tryz.underlying62 rfl (by rw [lF]; exact size32)) (by rfl) ?_
  exact ⟨rfl, ⟨Lg.below_setCells (Nat.le_refl _) _ _ _ (inferInstance : Ext w w5).h⟩⟩
end Pg
end Go.Proofs.YtfeahgcigmoijaaGreatDoor
/- Layer 7: a number of the field out of a seed, and the child, the program's. Conditions: sha.k reads as laid. -/
namespace Go.Proofs.YtfeahgcigmoijaaGreatDoor
open Go.RowKit Go.Lib
namespace Pg
open SlR Sh Sp Mc
/-- The first eight bytes of a block as a number of the field. -/
def numP (x : Nat) (s : ByteArray) (i : Nat) : Nat := nb ((blkP x s i).take 8) % FpM.P
/-- What is wrong: ErrArg. -/
def errArg : Value := .iface 77 (.int .i64 1)
theorem row_part {w : World} {g o n : Nat} {s : List Nat} (hg : g < w.heap.size) (h : w.rangeAt g 0 (vl .u8 s)) : R8 w (some ⟨g, o, none⟩) ((s.drop o).take n) := fun j x hx => by
  refine ⟨_, rfl, hg, ?_⟩
  have hx2 : (NL s)[o + j]? = some x := by
    unfold NL at hx ⊢
    rw [List.getElem?_map] at hx ⊢
    by_cases hj : j < n
    · rw [List.getElem?_take_of_lt hj, List.getElem?_drop] at hx
      exact hx
    · rw [List.getElem?_take, if_neg hj] at hx
      cases hx
  have := h (o + j) (.int .u8 x) (by unfold vl; rw [List.getElem?_map]; unfold NL at hx2; rw [List.getElem?_map] at hx2; cases hq : s[o + j]? with
    | none => rw [hq] at hx2; cases hx2
    | some v => rw [hq] at hx2; cases hx2; rfl)
  rw [Addr.add_mid]
  rwa [Nat.zero_add] at this
end Pg
end Go.Proofs.YtfeahgcigmoijaaGreatDoor
/- Layer 7: so many numbers out of a seed, the program's. Conditions: sha.k reads as laid. -/
namespace Go.Proofs.YtfeahgcigmoijaaGreatDoor
open Go.RowKit Go.Lib
namespace Pg
open SlR Sh Sp Mc
/-- The number at a place: of its block. -/
def wP (x : Nat) (s : ByteArray) (j : Nat) : Nat := wd (blkP x s (j / 8)) (j % 8)
def wsP (x : Nat) (s : ByteArray) (n : Nat) : List Nat := (List.range n).map (wP x s)
theorem wsP_len (x : Nat) (s : ByteArray) (n : Nat) : (wsP x s n).length = n := by simp [wsP]
theorem wsP_succ (x : Nat) (s : ByteArray) (n : Nat) : wsP x s (n + 1) = wsP x s n ++ [wP x s n] := by simp [wsP, List.range_succ]
/-- The first so many, and noughts. -/
def prt (x : Nat) (s : ByteArray) (n k : Nat) : List Nat := wsP x s k ++ List.replicate (n - k) 0
theorem prt_len (x : Nat) (s : ByteArray) (n k : Nat) (h : k ≤ n) : (prt x s n k).length = n := by simp [prt, wsP_len]; omega
theorem prt_end (x : Nat) (s : ByteArray) (n : Nat) : prt x s n n = wsP x s n := by simp [prt]
theorem prt_step (x : Nat) (s : ByteArray) (n k : Nat) (h : k < n) : (prt x s n k).set k (wP x s k) = prt x s n (k + 1) := by
  unfold prt
  rw [List.set_append, if_neg (by rw [wsP_len]; omega), wsP_len, Nat.sub_self, show n - k = (n - (k + 1)) + 1 by omega, List.replicate_succ, List.set_cons_zero, wsP_succ, List.append_assoc]
  rfl
theorem nb4 (b : List Nat) (k : Nat) (h : 4 * k + 4 ≤ b.length) : nb ((b.drop (4 * k)).take 4) = wd b k := by
  have e : (b.drop (4 * k)).take 4 = [b.getD (4 * k) 0, b.getD (4 * k + 1) 0, b.getD (4 * k + 2) 0, b.getD (4 * k + 3) 0] := by
    have g : ∀ j, j < 4 → b.getD (4 * k + j) 0 = ((b.drop (4 * k)).take 4).getD j 0 := fun j hj => by
      rw [List.getD_eq_getElem?_getD, List.getD_eq_getElem?_getD, List.getElem?_take_of_lt hj, List.getElem?_drop]
    have l : ((b.drop (4 * k)).take 4).length = 4 := by rw [List.length_take, List.length_drop]; omega
    rw [g 1 (by omega), g 2 (by omega), g 3 (by omega), show 4 * k = 4 * k + 0 from rfl, g 0 (by omega), Nat.add_zero]
    generalize (b.drop (4 * k)).take 4 = q at l
    match q, l with
    | [a, c, d, e], _ => rfl
  rw [e]
  unfold nb wd
  simp only [List.foldl_cons, List.foldl_nil]
  omega
theorem wd_lt {b : List Nat} (hb : B8 b) (k : Nat) : wd b k < 4294967296 := by
  have h0 := hb (4 * k); have h1 := hb (4 * k + 1); have h2 := hb (4 * k + 2); have h3 := hb (4 * k + 3)
  unfold wd
  omega
theorem own_parts {w : World} {B n g : Nat} {e : TypeId} {xs : List Value} (h : w.ownsRow B e 1 (.slice (some ⟨g, 0, none⟩) n n) n xs) : w.rangeAt g 0 xs ∧ w.there g 0 n := by
  obtain ⟨_, ⟨h1, _⟩ | ⟨g', c, cur, h1, hB, hg, hc, _, hs, ht⟩⟩ := h
  · cases h1
  · injection h1 with h2 _ h3
    injection h2 with h2
    injection h2 with h2 _ _
    subst h2
    subst h3
    refine ⟨fun j u hu => ?_, fun j hj => ⟨?_, ?_⟩⟩
    · rw [Nat.zero_add, cell_of_row w g j cur e _ hg]
      rw [← ht, List.getElem?_take] at hu
      split at hu
      · simpa using hu
      · cases hu
    · rw [cell_of_row w g _ cur e _ hg]
      have : 0 + j < cur.size := by omega
      rw [Array.getElem?_eq_getElem this]
      rfl
    · simp [World.frozen?, hg]
/-- What holds at the head of a round: the numbers so far behind g, the block at hand behind G. -/
def WInv (w wr : World) (x : Nat) (s : ByteArray) (n k g G : Nat) : Prop :=
  k ≤ n ∧ Below w.heap.size w wr ∧ wr.rangeAt g 0 (vl .u32 (prt x s n k)) ∧ wr.there g 0 n ∧ ∃ C : List Nat, C.length = 32 ∧ wr.rangeAt G 0 (vl .u8 C) ∧ wr.there G 0 32 ∧ (k % 8 ≠ 0 → C = blkP x s (k / 8))
theorem WInv.next {w wr : World} {x : Nat} {s : ByteArray} {n k g G : Nat} (hg : w.heap.size ≤ g) (hne : g ≠ G) (hk : k < n) (hB : Below w.heap.size w wr) (h1 : wr.rangeAt g 0 (vl .u32 (prt x s n k))) (h2 : wr.there g 0 n) (h3 : wr.rangeAt G 0 (vl .u8 (blkP x s (k / 8)))) (h4 : wr.there G 0 32) :
    WInv w (wr.setCell ⟨g, k, none⟩ (.int .u32 (wP x s k : Nat))) x s n (k + 1) g G := by
  refine ⟨hk, hB.setCell hg _, ?_, there_setCell h2 _ _, blkP x s (k / 8), blkP_len _ _ _, fun j u hu => ?_, there_setCell h4 _ _, fun h => by rw [show (k + 1) / 8 = k / 8 by omega]⟩
  · rw [← prt_step x s n k hk, ← vl_set]
    exact rangeAt_set h1 k _ (by rw [vl_len, prt_len _ _ _ _ (by omega)]; exact hk)
  · rw [World.cell?_setCell_other _ _ _ _ (by intro q; injection q with q _ _; exact hne q)]
    exact h3 j u hu
set_option maxHeartbeats 3200000 in
set_option maxRecDepth 100000 in
theorem words_yes (x : Nat) (s : ByteArray) (n : Nat) (w : World) (hx : Hid (x < 18446744073709551616)) (hs : lab s = true) (hn : n ≤ 32) (hL : LaidK w) :
    Calls Tryz.prog 22 #[.int .u64 x, .string s, .int .i64 n] w fun e w' => ∃ g, e = .returned (.tuple #[.slice (some ⟨g, 0, none⟩) n n, .nilIface]) ∧ R32 w' (some ⟨g, 0, none⟩) (wsP x s n) ∧ Step w w' := by
  obtain ⟨i0, hi, hz0, hz1, hz2⟩ := info_parts infoW
  obtain ⟨Z3, hZ3⟩ : ∃ Z, zs.toArray = Z := ⟨_, rfl⟩
  have hz3 : Hid (∀ w, (zeroValue 62).run Tryz.prog w = .ok (.agg Z3) w) := Lib.hid (hZ3 ▸ zero32)
  have hsz3 : Z3.size = 32 := by rw [← hZ3]; rfl
  have hZ3l : Hid (Z3.toList = vl .u8 (List.replicate 32 0)) := Lib.hid (by rw [← hZ3]; rfl)
  clear hZ3
  have hl := lab_size hs
  have nI : (n : Int) ≤ 32 := by omega
  have dL := fun (w : World) => label_any s w
  rw [hs] at dL
  go_enter Tryz.func22, Tryz.ntmps22
  go_wp2_with (first
    | (go_at_call 45; ((with_reducible refine (dL _).mono ?_); rintro e w2 ⟨rfl, S2⟩))
    | (at_make; refine wpList_make_full w2 rfl _ _ 22 rfl w2.heap.size 51 i0 _ 1 Tryz.underlying22 hi hz0 hz1 _ _ _ _ n rfl rfl rfl rfl (by rw [hz2]; omega) (by unfold maxLen; omega) (Nat.le_refl _) ?_; intro w1 O1 G1)
    | refine Lg.wpAlloc (by rfl) 62 (by rfl) Z3 hz3.out ?_)
  have P1 := own_parts O1
  rw [App.madeInts] at P1
  have g1 : w2.heap.size < w1.heap.size := by
    rcases O1.2 with ⟨h, _⟩ | ⟨g', c', cur, h, _, hg, _⟩
    · cases h
    · injection h with h _ _
      injection h with h
      injection h with h _ _
      subst h
      exact (Array.getElem?_eq_some_iff.1 hg).1
  have B1 : Below w.heap.size w (w1.alloc (.cells Z3 62)) := ((S2.h.grown G1 S2.h.size (fun q hq => by cases hq)).alloc (by have := S2.h.size; omega) _)
  have I0 : WInv w (w1.alloc (.cells Z3 62)) x s n 0 w2.heap.size w1.heap.size := by
    refine ⟨Nat.zero_le _, B1, ?_, World.there_alloc P1.2 _, List.replicate 32 0, rfl, ?_, Lg.there_new _ _ _ _ hsz3, fun h => absurd rfl h⟩
    · have : vl .u32 (prt x s n 0) = (List.replicate n 0).map (Value.int .u32) := by simp [vl, prt, wsP]
      rw [this]
      exact World.rangeAt_alloc P1.1 _
    · rw [← hZ3l.out]
      exact range_new _ _ _
  have gw : w.heap.size ≤ w2.heap.size := S2.h.size
  have Gw : w.heap.size ≤ w1.heap.size := by omega
  have hne : w2.heap.size ≠ w1.heap.size := by omega
  clear P1 O1 G1 B1 g1 S2 dL hs hZ3l hsz3 hz3
  generalize w1.alloc (.cells Z3 62) = W0 at I0 ⊢
  generalize w2.heap.size = g at I0 gw hne ⊢
  generalize w1.heap.size = G at I0 Gw hne ⊢
  have HI := Lib.hid I0
  have hgs := Lib.hid (And.intro gw (And.intro Gw hne))
  have dB := fun (i : Nat) (hi : i ≤ 1048576) (w : World) (h : LaidK w) => block_dev x s i w hx hl hi h
  clear I0 gw Gw hne hx
  go_loopw [28] (fun i wr => ∃ k : Nat, i = .int .i64 k ∧ Hid (WInv w wr x s n k g G)) (fun i _ => n - (intOf i).toNat)
  case atStart => exact ⟨0, rfl, HI⟩
  case round =>
    obtain ⟨k, rfl, hI⟩ := hrel
    clear HI
    have hkn := hI.out.1
    by_cases hlt : k < n
    · have q8 : k / 8 ≤ 1048576 := by omega
      have kI : (k : Int) < n := by omega
      have kI2 : (k : Int) < 32 := by omega
      have e8 : (k : Int) / 8 = ((k / 8 : Nat) : Int) := by omega
      have dBk := dB (k / 8) q8
      have lF : (vl .u8 (blkP x s (k / 8))).length = 32 := by rw [vl_len, blkP_len]
      have oF := Lib.hid (vl_one .u8 (blkP x s (k / 8)))
      have b8 := blkP_b8 x s (k / 8) (by omega)
      have len := blkP_len x s (k / 8)
      have vlt : wP x s k < 4294967296 := wd_lt b8 _
      have hw : IntKind.u32.wrap (wP x s k : Int) = (wP x s k : Int) := by rw [IntKind.wrap_u32]; omega
      have dN : ∀ (r : Nat), k % 8 = r → ∀ (A : Option Addr) (c : Nat) (w : World), R8 w A (((blkP x s (k / 8)).drop (4 * r)).take 4) → Calls Tryz.prog 47 #[.slice A 4 c] w fun e w' => e = .returned (.int .u64 (wP x s k : Nat)) ∧ w' = w := fun r hr A c w h => by
        have := number_any A c 4 _ w (by rw [List.length_take, List.length_drop, len]; omega) (by omega) h (b8_part b8 _ _)
        rw [nb4 _ _ (by rw [len]; omega)] at this
        unfold wP
        rw [hr]
        exact this
      have rN : ∀ (r o : Nat) (w : World), o = 4 * r → G < w.heap.size → w.rangeAt G 0 (vl .u8 (blkP x s (k / 8))) → R8 w (some ⟨G, o, none⟩) (((blkP x s (k / 8)).drop (4 * r)).take 4) := fun r o w ho hg h => by
        subst ho
        exact row_part hg h
      have nx : ∀ W : World, Below w.heap.size w W → W.rangeAt g 0 (vl .u32 (prt x s n k)) → W.there g 0 n → W.rangeAt G 0 (vl .u8 (blkP x s (k / 8))) → W.there G 0 32 → WInv w (W.setCell ⟨g, k, none⟩ (.int .u32 (wP x s k : Nat))) x s n (k + 1) g G := fun W h0 h1 h2 h3 h4 => WInv.next hgs.out.1 hgs.out.2.2 hlt h0 h1 h2 h3 h4
      have NX := Lib.hid nx
      have DN := Lib.hid dN
      have RN := Lib.hid rN
      clear nx dN rN b8 len vlt dB hkn
      obtain ⟨-, hB, hr1, ht1, C, hC, hr2, ht2, hCe⟩ := hI.out
      have SW : Step w wr := ⟨hB⟩
      have lg : g < wr.heap.size := by
        have := hr1 k _ (List.getElem?_eq_getElem (by rw [vl_len, prt_len _ _ _ _ (Nat.le_of_lt hlt)]; exact hlt))
        exact World.block_lt_of_cell? wr _ this
      have lG : G < wr.heap.size := by
        have := hr2 0 _ (List.getElem?_eq_getElem (by rw [vl_len, hC]; omega))
        exact World.block_lt_of_cell? wr _ this
      have hHB := Lib.hid (And.intro hB (And.intro hr1 (And.intro ht1 (And.intro hr2 (And.intro ht2 (And.intro lg lG))))))
      have hCe2 := Lib.hid hCe
      clear hCe hB hr1 ht1 hr2 ht2 lg lG hI hC
      rcases (by omega : k % 8 = 0 ∨ k % 8 = 1 ∨ k % 8 = 2 ∨ k % 8 = 3 ∨ k % 8 = 4 ∨ k % 8 = 5 ∨ k % 8 = 6 ∨ k % 8 = 7) with hr | hr | hr | hr | hr | hr | hr | hr
      · have m8 : (k : Int) % 8 = 0 := by omega
        have dN := DN.out 0 hr
        have rN := fun (w : World) => RN.out 0 0 w rfl
        have hlt2 := Lib.hid hlt
        have hr0 := Lib.hid hr
        generalize hv : wP x s k = v at dN hw NX
        generalize hF : vl .u8 (blkP x s (k / 8)) = F at dBk lF oF rN NX
        have eF : F.toArray.size = 32 := lF
        clear hv hF hr hlt hCe2 DN RN
        obtain ⟨q, hq⟩ : ∃ q, k / 8 = q := ⟨_, rfl⟩
        rw [hq] at e8 dBk rN dN
        clear hq
        -- what holds behind the store
        have aft : ∀ w3, Step wr w3 → w3.there G 0 32 ∧ ∃ W3, w3.setCells G 0 F.toArray.toList = W3 ∧ Below w.heap.size w W3 ∧ W3.rangeAt g 0 (vl .u32 (prt x s n k)) ∧ W3.there g 0 n ∧ W3.rangeAt G 0 F ∧ W3.there G 0 32 ∧ G < W3.heap.size ∧ (∃ u, W3.cell? ⟨g, k, none⟩ = some u) ∧ W3.frozen? ⟨g, k, none⟩ = false := fun w3 S3 => by
          obtain ⟨hB, hr1, ht1, hr2, ht2, lg, lG⟩ := hHB.out
          have t3 := there_under ht2 S3.h lG
          have tg := World.there_setCells (there_under ht1 S3.h lg) G 0 F.toArray.toList
          have k3 := tg k hlt2.out
          rw [Nat.zero_add] at k3
          refine ⟨t3, _, rfl, Lg.below_setCells hgs.out.2.1 _ _ _ (hB.trans (S3.h.mono hB.size)), World.rangeAt_setCells_apart (range_under hr1 S3.h lg) _ _ _ (.inl hgs.out.2.2), tg, World.rangeAt_setCells_same _ _ _ _ (by rw [lF]; exact t3), World.there_setCells t3 _ _ _, by rw [setCells_size]; exact Nat.lt_of_lt_of_le lG S3.h.size, Option.isSome_iff_exists.1 k3.1, k3.2⟩
        have AFT := Lib.hid aft
        clear aft hHB
        go_wp2_with (first
          | (go_at_call 46; ((with_reducible refine (dBk _ hL.to).mono ?_); rintro e w3 ⟨rfl, S3⟩; obtain ⟨t3, W3, e3, B3, r3, t4, r4, t5, l5, ⟨u5, c5⟩, f5⟩ := AFT.out w3 S3))
          | (refine wpList_store_mid (by rfl) 62 (.tmp 9) (.tmp 38) (by rfl) G 0 F.toArray (by rfl) (by rfl) (by rw [eF]; exact t3) (by rw [eF]; exact size32) oF.out ?_; rw [e3])
          | (go_at_call 47; ((with_reducible refine (dN _ _ _ (rN _ l5 r4)).mono ?_); rintro e w4 ⟨rfl, rfl⟩)))
        go_roundw
        case rel => exact ⟨k + 1, by go_num, Lib.hid (NX.out _ B3 r3 t4 r4 t5)⟩
        case measure => simp [intOf]; omega
      · have m8 : (k : Int) % 8 = 1 := by omega
        have dN := DN.out 1 hr
        have rN := RN.out 1 4
        have hC := hCe2.out (by omega)
        subst hC
        have hlt2 := Lib.hid hlt
        generalize hv : wP x s k = v at dN hw NX
        obtain ⟨B3, r3, t4, r4, t5, l4, l5⟩ := hHB.out
        have k3 := t4 k hlt
        rw [Nat.zero_add] at k3
        obtain ⟨u5, c5⟩ := Option.isSome_iff_exists.1 k3.1
        have f5 := k3.2
        have H4 := Lib.hid (rN wr rfl l5 r4)
        have HN := Lib.hid (NX.out wr B3 r3 t4 r4 t5)
        clear hv hr hlt hCe2 DN RN NX hHB k3 r3 t4 r4 t5 dBk lF oF rN B3
        go_wp2_with (go_at_call 47; ((with_reducible refine (dN _ _ _ H4.out).mono ?_); rintro e w4 ⟨rfl, rfl⟩))
        go_roundw
        case rel => exact ⟨k + 1, by go_num, HN⟩
        case measure => have := hlt2.out; simp [intOf]; omega
      · have m8 : (k : Int) % 8 = 2 := by omega
        have dN := DN.out 2 hr
        have rN := RN.out 2 8
        have hC := hCe2.out (by omega)
        subst hC
        have hlt2 := Lib.hid hlt
        generalize hv : wP x s k = v at dN hw NX
        obtain ⟨B3, r3, t4, r4, t5, l4, l5⟩ := hHB.out
        have k3 := t4 k hlt
        rw [Nat.zero_add] at k3
        obtain ⟨u5, c5⟩ := Option.isSome_iff_exists.1 k3.1
        have f5 := k3.2
        have H4 := Lib.hid (rN wr rfl l5 r4)
        have HN := Lib.hid (NX.out wr B3 r3 t4 r4 t5)
        clear hv hr hlt hCe2 DN RN NX hHB k3 r3 t4 r4 t5 dBk lF oF rN B3
        go_wp2_with (go_at_call 47; ((with_reducible refine (dN _ _ _ H4.out).mono ?_); rintro e w4 ⟨rfl, rfl⟩))
        go_roundw
        case rel => exact ⟨k + 1, by go_num, HN⟩
        case measure => have := hlt2.out; simp [intOf]; omega
      · have m8 : (k : Int) % 8 = 3 := by omega
        have dN := DN.out 3 hr
        have rN := RN.out 3 12
        have hC := hCe2.out (by omega)
        subst hC
        have hlt2 := Lib.hid hlt
        generalize hv : wP x s k = v at dN hw NX
        obtain ⟨B3, r3, t4, r4, t5, l4, l5⟩ := hHB.out
        have k3 := t4 k hlt
        rw [Nat.zero_add] at k3
        obtain ⟨u5, c5⟩ := Option.isSome_iff_exists.1 k3.1
        have f5 := k3.2
        have H4 := Lib.hid (rN wr rfl l5 r4)
        have HN := Lib.hid (NX.out wr B3 r3 t4 r4 t5)
        clear hv hr hlt hCe2 DN RN NX hHB k3 r3 t4 r4 t5 dBk lF oF rN B3
        go_wp2_with (go_at_call 47; ((with_reducible refine (dN _ _ _ H4.out).mono ?_); rintro e w4 ⟨rfl, rfl⟩))
        go_roundw
        case rel => exact ⟨k + 1, by go_num, HN⟩
        case measure => have := hlt2.out; simp [intOf]; omega
      · have m8 : (k : Int) % 8 = 4 := by omega
        have dN := DN.out 4 hr
        have rN := RN.out 4 16
        have hC := hCe2.out (by omega)
        subst hC
        have hlt2 := Lib.hid hlt
        generalize hv : wP x s k = v at dN hw NX
        obtain ⟨B3, r3, t4, r4, t5, l4, l5⟩ := hHB.out
        have k3 := t4 k hlt
        rw [Nat.zero_add] at k3
        obtain ⟨u5, c5⟩ := Option.isSome_iff_exists.1 k3.1
        have f5 := k3.2
        have H4 := Lib.hid (rN wr rfl l5 r4)
        have HN := Lib.hid (NX.out wr B3 r3 t4 r4 t5)
        clear hv hr hlt hCe2 DN RN NX hHB k3 r3 t4 r4 t5 dBk lF oF rN B3
        go_wp2_with (go_at_call 47; ((with_reducible refine (dN _ _ _ H4.out).mono ?_); rintro e w4 ⟨rfl, rfl⟩))
        go_roundw
        case rel => exact ⟨k + 1, by go_num, HN⟩
        case measure => have := hlt2.out; simp [intOf]; omega
      · have m8 : (k : Int) % 8 = 5 := by omega
        have dN := DN.out 5 hr
        have rN := RN.out 5 20
        have hC := hCe2.out (by omega)
        subst hC
        have hlt2 := Lib.hid hlt
        generalize hv : wP x s k = v at dN hw NX
        obtain ⟨B3, r3, t4, r4, t5, l4, l5⟩ := hHB.out
        have k3 := t4 k hlt
        rw [Nat.zero_add] at k3
        obtain ⟨u5, c5⟩ := Option.isSome_iff_exists.1 k3.1
        have f5 := k3.2
        have H4 := Lib.hid (rN wr rfl l5 r4)
        have HN := Lib.hid (NX.out wr B3 r3 t4 r4 t5)
        clear hv hr hlt hCe2 DN RN NX hHB k3 r3 t4 r4 t5 dBk lF oF rN B3
        go_wp2_with (go_at_call 47; ((with_reducible refine (dN _ _ _ H4.out).mono ?_); rintro e w4 ⟨rfl, rfl⟩))
        go_roundw
        case rel => exact ⟨k + 1, by go_num, HN⟩
        case measure => have := hlt2.out; simp [intOf]; omega
      · have m8 : (k : Int) % 8 = 6 := by omega
        have dN := DN.out 6 hr
        have rN := RN.out 6 24
        have hC := hCe2.out (by omega)
        subst hC
        have hlt2 := Lib.hid hlt
        generalize hv : wP x s k = v at dN hw NX
        obtain ⟨B3, r3, t4, r4, t5, l4, l5⟩ := hHB.out
        have k3 := t4 k hlt
        rw [Nat.zero_add] at k3
        obtain ⟨u5, c5⟩ := Option.isSome_iff_exists.1 k3.1
        have f5 := k3.2
        have H4 := Lib.hid (rN wr rfl l5 r4)
        have HN := Lib.hid (NX.out wr B3 r3 t4 r4 t5)
        clear hv hr hlt hCe2 DN RN NX hHB k3 r3 t4 r4 t5 dBk lF oF rN B3
        go_wp2_with (go_at_call 47; ((with_reducible refine (dN _ _ _ H4.out).mono ?_); rintro e w4 ⟨rfl, rfl⟩))
        go_roundw
        case rel => exact ⟨k + 1, by go_num, HN⟩
        case measure => have := hlt2.out; simp [intOf]; omega
      · have m8 : (k : Int) % 8 = 7 := by omega
        have dN := DN.out 7 hr
        have rN := RN.out 7 28
        have hC := hCe2.out (by omega)
        subst hC
        have hlt2 := Lib.hid hlt
        generalize hv : wP x s k = v at dN hw NX
        obtain ⟨B3, r3, t4, r4, t5, l4, l5⟩ := hHB.out
        have k3 := t4 k hlt
        rw [Nat.zero_add] at k3
        obtain ⟨u5, c5⟩ := Option.isSome_iff_exists.1 k3.1
        have f5 := k3.2
        have H4 := Lib.hid (rN wr rfl l5 r4)
        have HN := Lib.hid (NX.out wr B3 r3 t4 r4 t5)
        clear hv hr hlt hCe2 DN RN NX hHB k3 r3 t4 r4 t5 dBk lF oF rN B3
        go_wp2_with (go_at_call 47; ((with_reducible refine (dN _ _ _ H4.out).mono ?_); rintro e w4 ⟨rfl, rfl⟩))
        go_roundw
        case rel => exact ⟨k + 1, by go_num, HN⟩
        case measure => have := hlt2.out; simp [intOf]; omega
    · have : k = n := by omega
      subst this
      have R : R32 wr (some ⟨g, 0, none⟩) (wsP x s k) := fun j y hy => by
        have hr1 := hI.out.2.2.1
        rw [prt_end] at hr1
        have hc := hr1 j (.int .u32 y) (by unfold vl; rw [List.getElem?_map]; unfold NL at hy; rw [List.getElem?_map] at hy; cases hq : (wsP x s k)[j]? with
          | none => rw [hq] at hy; cases hy
          | some v => rw [hq] at hy; cases hy; rfl)
        refine ⟨_, rfl, World.block_lt_of_cell? wr ⟨g, 0 + j, none⟩ hc, ?_⟩
        rw [Addr.add_mid]
        exact hc
      go_wp2
      go_ret2
      exact ⟨_, rfl, R, ⟨hI.out.2.1⟩⟩
end Pg
end Go.Proofs.YtfeahgcigmoijaaGreatDoor
/- Layer 7: what the program's Words answers where it must not; whether two rows of 32 bits are the same, in growing worlds. No condition. -/
namespace Go.Proofs.YtfeahgcigmoijaaGreatDoor
open Go.RowKit Go.Lib
namespace Pg
open SlR Sh Sp Mc
set_option maxHeartbeats 3200000 in
set_option maxRecDepth 100000 in
theorem words_no (x : Nat) (s : ByteArray) (n : Int) (w : World) (h : lab s = false ∨ n < 0 ∨ 32 < n) :
    Calls Tryz.prog 22 #[.int .u64 x, .string s, .int .i64 n] w fun e w' => e = .returned (.tuple #[.slice none 0 0, errArg]) ∧ Step w w' := by
  have dL := fun (w : World) => label_any s w
  rcases (by
    rcases h with h | h | h
    · exact .inl h
    · cases hs : lab s
      · exact .inl rfl
      · exact .inr (.inl ⟨rfl, h⟩)
    · cases hs : lab s
      · exact .inl rfl
      · exact .inr (.inr ⟨rfl, by omega, h⟩) : lab s = false ∨ (lab s = true ∧ n < 0) ∨ (lab s = true ∧ ¬ n < 0 ∧ 32 < n)) with h1 | ⟨h1, h2⟩ | ⟨h1, h2, h3⟩
  all_goals
    rw [h1] at dL
    clear h1 h
    go_enter Tryz.func22, Tryz.ntmps22
    go_wp2_with (go_at_call 45; ((with_reducible refine (dL _).mono ?_); rintro e w2 ⟨rfl, S2⟩))
    go_ret2
    exact ⟨rfl, Step.of inferInstance⟩
theorem NL_eq {xs ys : List Nat} : NL xs = NL ys ↔ xs = ys := by
  constructor
  · intro h
    unfold NL at h
    exact List.map_inj_right (fun a b e => by omega) |>.1 h
  · rintro rfl; rfl
theorem same (A D : Option Addr) (c d n m : Nat) (xs ys : List Nat) (w : World) (hxn : xs.length = n) (hym : ys.length = m) (hx : R32 w A xs) (hy : R32 w D ys) (hl : n ≤ 2000000000) (hl2 : m ≤ 2000000000) (b : Bool) (hb : decide (xs = ys) = b) :
    Calls Tryz.prog 17 #[.slice A n c, .slice D m d] w fun e w' => e = .returned (.bool b) ∧ Step w w' := by
  subst hb
  refine (SlEq.same_any A D c d n m w.heap.size (NL xs) (NL ys) w (by rw [NL_len, hxn]) (by rw [NL_len, hym]) hx hy hl hl2).mono fun e w' ⟨h1, t, h2⟩ => ⟨by rw [h1, decide_eq_decide.2 NL_eq], ?_⟩
  subst h2
  exact Step.of inferInstance
theorem rsame (A D : Option Addr) (c d n m : Nat) (xs ys : List Nat) (w : World) (hxn : xs.length = n) (hym : ys.length = m) (hx : R32 w A xs) (hy : R32 w D ys) (hl : n ≤ 2000000000) (hl2 : m ≤ 2000000000) (b : Bool) (hb : decide (xs = ys) = b) :
    Calls Tryz.prog 13 #[.slice A n c, .slice D m d] w fun e w' => e = .returned (.bool b) ∧ Step w w' := by
  subst hb
  have := SlEq.ref_any A D c d n m w.heap.size (NL xs) (NL ys) w (by rw [NL_len, hxn]) (by rw [NL_len, hym]) hx hy hl hl2
  refine this.mono fun e w' h => ?_
  obtain ⟨h1, h2⟩ := h
  refine ⟨by rw [h1, decide_eq_decide.2 NL_eq], ?_⟩
  first
    | (obtain ⟨t, h2⟩ := h2; subst h2; exact Step.of inferInstance)
    | (subst h2; exact Step.of inferInstance)
end Pg
end Go.Proofs.YtfeahgcigmoijaaGreatDoor
