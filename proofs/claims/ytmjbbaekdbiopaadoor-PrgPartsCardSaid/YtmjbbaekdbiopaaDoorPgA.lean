/- Layer 7's small functions, the program's and the document's: labels, a number's bytes, bytes as a number. Conditions: what is handed in reads as bytes. -/
import Derived.Test.YtmjbbaekdbiopaaDoorPgB
import Derived.LoopTactic
import Derived.Laws.RangeAny
namespace Go.Proofs.YtmjbbaekdbiopaaDoor
open Go.RowKit Go.Lib
namespace Pg
open SlR Sh Sp
/-- May a byte be a label's? -/
def okB (b : Nat) : Bool := decide (32 ≤ b) && decide (b ≤ 126)
/-- Is a text a label? -/
def lab (s : ByteArray) : Bool := decide (s.size ≤ 64) && (bl s).all okB
theorem bl_len (s : ByteArray) : (bl s).length = s.size := by simp [bl]
theorem lab_size {s : ByteArray} (h : lab s = true) : s.size ≤ 64 := by unfold lab at h; simp at h; exact h.1
theorem lab_no {s : ByteArray} {j : Nat} (hj : j < s.size) (h : okB ((bl s).getD j 0) = false) : lab s = false := by
  unfold lab
  have : (bl s).all okB = false := by
    rw [List.all_eq_false]
    refine ⟨(bl s)[j]'(by rw [bl_len]; exact hj), List.getElem_mem _, ?_⟩
    rw [List.getD_eq_getElem?_getD, List.getElem?_eq_getElem (by rw [bl_len]; exact hj)] at h
    simpa using h
  rw [this, Bool.and_false]
theorem lab_yes {s : ByteArray} (hs : s.size ≤ 64) (h : ∀ j, j < s.size → okB ((bl s).getD j 0) = true) : lab s = true := by
  unfold lab
  rw [decide_eq_true hs, Bool.true_and, List.all_eq_true]
  intro x hx
  obtain ⟨j, hj, rfl⟩ := List.getElem_of_mem hx
  have := h j (by rw [← bl_len]; exact hj)
  rw [List.getD_eq_getElem?_getD, List.getElem?_eq_getElem hj] at this
  exact this
theorem lab_all {s : ByteArray} (h : ∀ j, j < s.size → okB ((bl s).getD j 0) = true) : lab s = decide (s.size ≤ 64) := by
  by_cases hs : s.size ≤ 64
  · rw [lab_yes hs h, decide_eq_true hs]
  · unfold lab; rw [decide_eq_false hs, Bool.false_and]
theorem bl_get (s : ByteArray) (i : Nat) (p : i < s.size) : (s[i]'p).toNat = (bl s).getD i 0 := bl_at s i i rfl p
theorem bl_lt (s : ByteArray) (i : Nat) : (bl s).getD i 0 < 256 := by
  by_cases p : i < s.size
  · rw [← bl_get s i p]; exact UInt8.toNat_lt _
  · rw [List.getD_eq_getElem?_getD, List.getElem?_eq_none (by rw [bl_len]; omega)]; exact Nat.zero_lt_succ _
set_option maxHeartbeats 1600000 in
set_option maxRecDepth 100000 in
/-- The program's isLabel. -/
theorem label_any (s : ByteArray) (w : World) : Calls Tryd.prog 64 #[.string s] w fun e w' => e = .returned (.bool (lab s)) ∧ Step w w' := by
  by_cases hs : s.size ≤ 64
  · have hsI : (s.size : Int) ≤ 64 := by omega
    have hs2 := Lib.hid hs
    clear hs
    go_enter Tryd.func64, Tryd.ntmps64
    go_wp2
    go_loopw [2] (fun _ w' => ∃ pos : Nat, w' = w.iter s pos ∧ Hid (pos ≤ s.size ∧ ∀ j, j < pos → okB ((bl s).getD j 0) = true)) (fun _ w' => s.size - w'.iterPos w.heap.size)
    case atStart => exact ⟨0, rfl, Lib.hid ⟨Nat.zero_le _, fun j hj => absurd hj (Nat.not_lt_zero _)⟩⟩
    case round =>
      obtain ⟨pos, rfl, hok⟩ := hrel
      by_cases hp : pos < s.size
      · by_cases h128 : (bl s).getD pos 0 < 128
        · have hnx : ∀ ty, (Instr.next (.pointer (some ⟨w.heap.size, 0, none⟩)) true ty).run Tryd.prog (w.iter s pos) = .ok (.tuple #[.bool true, .int .i64 pos, .int .i32 ((bl s).getD pos 0 : Nat)]) (w.iter s (pos + 1)) := fun ty => by
            rw [run_next_ascii w s pos ty hp (by rw [bl_get s pos hp]; exact h128), bl_get s pos hp]
          have hk : Hid (okB ((bl s).getD pos 0) = (decide (32 ≤ (bl s).getD pos 0) && decide ((bl s).getD pos 0 ≤ 126))) := Lib.hid rfl
          generalize hb : (bl s).getD pos 0 = b at hnx hk h128
          have hb2 := Lib.hid hb
          clear hb
          rcases (by omega : (b : Int) < 32 ∨ (¬ (b : Int) < 32 ∧ 126 < (b : Int)) ∨ (¬ (b : Int) < 32 ∧ ¬ 126 < (b : Int))) with h1 | ⟨h1, h2⟩ | ⟨h1, h2⟩
          · have hl : Hid (lab s = false) := Lib.hid (lab_no hp (by rw [hb2.out, hk.out]; simp; omega))
            go_wp2
            go_ret
            exact ⟨by rw [hl.out]; rfl, Step.of (Ext.alloc (w := w) (a := w) _)⟩
          · have hl : Hid (lab s = false) := Lib.hid (lab_no hp (by rw [hb2.out, hk.out]; simp; omega))
            go_wp2
            go_ret
            exact ⟨by rw [hl.out]; rfl, Step.of (Ext.alloc (w := w) (a := w) _)⟩
          · have hl : Hid (okB b = true) := Lib.hid (by rw [hk.out]; simp; omega)
            have hl2 : Hid (pos + 1 ≤ s.size ∧ ∀ j, j < pos + 1 → okB ((bl s).getD j 0) = true) := Lib.hid ⟨hp, fun j hj => by
              by_cases e : j = pos
              · subst e; rw [hb2.out]; exact hl.out
              · exact hok.out.2 j (by omega)⟩
            go_wp2
            go_roundw
            case rel => exact ⟨pos + 1, rfl, hl2⟩
            case measure => simp; omega
        · have hd := decode_high s pos hp (by rw [bl_get s pos hp]; omega)
          have hle := decode_le s pos
          have hnx : ∀ ty, (Instr.next (.pointer (some ⟨w.heap.size, 0, none⟩)) true ty).run Tryd.prog (w.iter s pos) = _ := fun ty => run_next_any w s pos ty hp
          have hl : Hid (lab s = false) := Lib.hid (lab_no hp (by have h0 := h128; generalize (bl s).getD pos 0 = b at h0 ⊢; unfold okB; simp; omega))
          generalize (Utf8.decode s pos).2 = q at hnx hd
          generalize (Utf8.decode s pos).1 = r at hnx hd hle
          have h1 : ¬ r < 32 := by omega
          have h2 : 126 < r := by omega
          clear h128 hd
          go_wp2
          go_ret
          exact ⟨by rw [hl.out]; rfl, Step.of (Ext.alloc (w := w) (a := w) _)⟩
      · have hnx : ∀ ty, (Instr.next (.pointer (some ⟨w.heap.size, 0, none⟩)) true ty).run Tryd.prog (w.iter s pos) = _ := fun ty => run_next_end w s pos ty hp
        have hl : Hid (lab s = true) := Lib.hid (lab_yes hs2.out fun j hj => hok.out.2 j (by omega))
        go_wp2
        go_ret
        exact ⟨by rw [hl.out]; rfl, Step.of (Ext.alloc (w := w) (a := w) _)⟩
  · have h1 : ¬ (s.size : Int) ≤ 64 := by omega
    have hl : Hid (lab s = false) := Lib.hid (by unfold lab; rw [decide_eq_false hs, Bool.false_and])
    go_enter Tryd.func64, Tryd.ntmps64
    go_wp2
    go_ret
    exact ⟨by rw [hl.out]; rfl, Step.of inferInstance⟩
end Pg
end Go.Proofs.YtmjbbaekdbiopaaDoor
