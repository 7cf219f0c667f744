/- Layer 7's small functions, on: the document's labels, bytes as a number, a number's bytes. Conditions: what is handed in reads as bytes. -/
import Derived.Test.YtmjbbaekdbiopaaDoorPgA
namespace Go.Proofs.YtmjbbaekdbiopaaDoor
open Go.RowKit Go.Lib
namespace Pg
open SlR Sh Sp
set_option maxHeartbeats 1600000 in
set_option maxRecDepth 100000 in
/-- The document's Label. -/
theorem rlabel_any (s : ByteArray) (w : World) (hs : s.size ≤ 1000) : Calls Tryd.prog 67 #[.string s] w fun e w' => e = .returned (.bool (lab s)) ∧ w' = w := by
  have hsI : (s.size : Int) ≤ 1000 := by omega
  clear hs
  go_enter Tryd.func67, Tryd.ntmps67
  go_wp2
  go_loopw [3] (fun i w' => ∃ pos : Nat, w' = w ∧ i = .int .i64 pos ∧ pos ≤ s.size ∧ Hid (∀ j, j < pos → okB ((bl s).getD j 0) = true)) (fun i _ => s.size - (intOf i).toNat)
  case atStart => exact ⟨0, rfl, rfl, Nat.zero_le _, Lib.hid fun j hj => absurd hj (Nat.not_lt_zero _)⟩
  case round =>
    obtain ⟨pos, rfl, rfl, hle, hok⟩ := hrel
    by_cases hp : pos < s.size
    · have hx : ∀ p, (s[pos]'p).toNat = (bl s).getD pos 0 := fun p => bl_get s pos p
      have hk : Hid (okB ((bl s).getD pos 0) = (decide (32 ≤ (bl s).getD pos 0) && decide ((bl s).getD pos 0 ≤ 126))) := Lib.hid rfl
      have h256 := bl_lt s pos
      generalize hb : (bl s).getD pos 0 = b at hx hk h256
      have hb2 := Lib.hid hb
      clear hb
      have hpI : (pos : Int) < s.size := by omega
      rcases (by omega : (b : Int) < 32 ∨ (¬ (b : Int) < 32 ∧ 126 < (b : Int)) ∨ (¬ (b : Int) < 32 ∧ ¬ 126 < (b : Int))) with h1 | ⟨h1, h2⟩ | ⟨h1, h2⟩
      · have hl : Hid (lab s = false) := Lib.hid (lab_no hp (by rw [hb2.out, hk.out]; simp; omega))
        go_wp2
        go_ret
        exact ⟨by rw [hl.out]; rfl, rfl⟩
      · have hl : Hid (lab s = false) := Lib.hid (lab_no hp (by rw [hb2.out, hk.out]; simp; omega))
        go_wp2
        go_ret
        exact ⟨by rw [hl.out]; rfl, rfl⟩
      · have hl : Hid (okB b = true) := Lib.hid (by rw [hk.out]; simp; omega)
        have hl2 : Hid (∀ j, j < pos + 1 → okB ((bl s).getD j 0) = true) := Lib.hid fun j hj => by
          by_cases e : j = pos
          · subst e; rw [hb2.out]; exact hl.out
          · exact hok.out j (by omega)
        go_wp2
        go_roundw
        case rel => exact ⟨pos + 1, trivial, by go_num, hp, hl2⟩
        case measure => simp [intOf]; omega
    · have hl : Hid (lab s = decide (s.size ≤ 64)) := Lib.hid (lab_all fun j hj => hok.out j (by omega))
      go_wp2
      go_ret
      exact ⟨by rw [hl.out]; simp; omega, rfl⟩
def nb (l : List Nat) : Nat := l.foldl (fun v b => v * 256 + b) 0
theorem nb_snoc (l : List Nat) (b : Nat) : nb (l ++ [b]) = nb l * 256 + b := by simp [nb]
theorem nb_lt (l : List Nat) (hb : B8 l) : ∀ k, k ≤ l.length → nb (l.take k) < 256 ^ k
  | 0, _ => by simp [nb]
  | k + 1, h => by
    have ih := nb_lt l hb k (by omega)
    rw [take_snocN l k (by omega), nb_snoc, Nat.pow_succ]
    have := hb k
    omega
theorem shl8 (v : Nat) (h : v < 72057594037927936) : IntKind.u64.wrap ((v : Int) * 256) = (v : Int) * 256 := by rw [IntKind.wrap_u64]; omega
theorem or8 (v b : Nat) (h : v < 72057594037927936) (hb : b < 256) : bits .or .u64 ((v : Int) * 256) (b : Int) = ((v * 256 + b : Nat) : Int) := by
  have e : (v : Int) * 256 = ((v * 256 : Nat) : Int) := by simp
  rw [e]
  show IntKind.u64.wrap ((BitVec.ofInt 64 ((v * 256 : Nat) : Int) ||| BitVec.ofInt 64 (b : Int)).toNat : Int) = _
  have o : v * 256 ||| b = v * 256 + b := by
    have := Nat.two_pow_add_eq_or_of_lt (i := 8) (b := b) (by omega) v
    rw [show 2 ^ 8 * v = v * 256 by omega] at this
    exact this.symm
  rw [BitVec.toNat_or, BitVec.ofInt_natCast, BitVec.ofInt_natCast, BitVec.toNat_ofNat, BitVec.toNat_ofNat, Nat.mod_eq_of_lt (by omega), Nat.mod_eq_of_lt (by omega), o, IntKind.wrap_u64]
  omega
set_option maxHeartbeats 1600000 in
set_option maxRecDepth 100000 in
/-- Bytes as a number. -/
theorem number_any (A : Option Addr) (c n : Nat) (bs : List Nat) (w : World) (hn : bs.length = n) (hn2 : n ≤ 8) (hr : R8 w A bs) (hb : B8 bs) :
    Calls Tryd.prog 66 #[.slice A n c] w fun e w' => e = .returned (.int .u64 (nb bs : Nat)) ∧ w' = w := by
  have hlt := Lib.hid (fun k (h : k ≤ bs.length) => nb_lt bs hb k h)
  go_enter Tryd.func66, Tryd.ntmps66
  go_wp2
  go_loopw [3, 8] (fun v i w' => ∃ k : Nat, w' = w ∧ k ≤ n ∧ i = .int .i64 k ∧ v = .int .u64 (nb (bs.take k) : Nat)) (fun _ i _ => n - (intOf i).toNat)
  case atStart => exact ⟨0, rfl, Nat.zero_le _, rfl, rfl⟩
  case round =>
    obtain ⟨k, rfl, hk, rfl, rfl⟩ := hrel
    by_cases hp : k < n
    · obtain ⟨ad, rfl, hab, hc⟩ := Row.atN hr (j := k) (by omega)
      have hx := hb k
      have hv : nb (bs.take k) < 72057594037927936 := Nat.lt_of_lt_of_le (hlt.out k (by omega)) (Nat.le_trans (Nat.pow_le_pow_right (by omega) (by omega : k ≤ 7)) (by decide))
      have hX : Hid (nb (bs.take (k + 1)) = nb (bs.take k) * 256 + bs.getD k 0) := Lib.hid (by rw [take_snocN bs k (by omega), nb_snoc])
      have hs := shl8 _ hv
      have ho := or8 _ _ hv hx
      have hv2 := Lib.hid hv
      clear hv hr
      generalize nb (bs.take k) = v at hs ho hX hv2
      generalize bs.getD k 0 = x at hc hX hx ho
      go_wp2
      go_roundw
      case rel => exact ⟨k + 1, trivial, by omega, by go_num, by rw [hX.out]; simp⟩
      case measure => simp [intOf]; omega
    · have hkn : k = n := by omega
      subst hkn
      have hT : bs.take k = bs := List.take_of_length_le (by omega)
      rw [hT]
      clear hr
      go_wp2
      go_ret
      exact ⟨rfl, rfl⟩
end Pg
end Go.Proofs.YtmjbbaekdbiopaaDoor
