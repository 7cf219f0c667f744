/- The document's own answers of layer 6 (package caucusref06): a key's block. Conditions: what is handed in reads as bytes; sha.k reads as laid. -/
import Derived.Test.YtkihhflmgceckaaDoorMacD
namespace Go.Proofs.YtkihhflmgceckaaDoor
open Go.RowKit Go.Lib
namespace Mc
open SlR Sh Sp
/-- So many bytes of a list, and noughts behind. -/
def part64 (s : List Nat) (j : Nat) : List Nat := s.take j ++ List.replicate (64 - j) 0
theorem part64_len (s : List Nat) (j : Nat) (h : j ≤ s.length) (h2 : s.length ≤ 64) : (part64 s j).length = 64 := by simp [part64]; omega
theorem part64_zero (s : List Nat) : part64 s 0 = List.replicate 64 0 := by simp [part64]
theorem part64_end (s : List Nat) : part64 s s.length = fill s := by simp [part64, fill]
theorem part64_step (s : List Nat) (j : Nat) (h : j < s.length) (h2 : s.length ≤ 64) : (part64 s j).set j (s.getD j 0) = part64 s (j + 1) := by
  unfold part64
  have l : (s.take j).length = j := by rw [List.length_take]; omega
  have e : s.take (j + 1) = s.take j ++ [s[j]] := by rw [List.take_add_one, List.getElem?_eq_getElem h]; rfl
  rw [List.set_append, if_neg (by omega), l, Nat.sub_self, e, List.getD_eq_getElem?_getD, List.getElem?_eq_getElem h, show 64 - j = (64 - (j + 1)) + 1 by omega, List.replicate_succ, List.append_assoc]
  rfl
theorem row_set' {k : IntKind} {w : World} {g : Nat} {xs : List Int} (h : Row k w (some ⟨g, 0, none⟩) xs) (p : Addr) (u : Value) (hp : p.block ≠ g) : Row k (w.setCell p u) (some ⟨g, 0, none⟩) xs := fun j x hx => by
  obtain ⟨ad, h1, h2, h3⟩ := h j x hx
  cases h1
  refine ⟨_, rfl, by rw [World.size_setCell]; exact h2, ?_⟩
  rw [World.cell?_setCell_other _ _ _ _ (fun e => hp (by rw [e, blockAdd]))]
  exact h3
/-- What an array of bytes in a block of its own reads as a slice. -/
theorem row_range {w : World} {g : Nat} {s : List Nat} (hg : g < w.heap.size) (h : w.rangeAt g 0 (vl .u8 s)) : R8 w (some ⟨g, 0, none⟩) s := fun j x hx => by
  refine ⟨_, rfl, hg, ?_⟩
  have := h j (.int .u8 x) (by unfold vl; rw [List.getElem?_map]; unfold NL at hx; rw [List.getElem?_map] at hx; cases hq : s[j]? with
    | none => rw [hq] at hx; cases hx
    | some v => rw [hq] at hx; cases hx; rfl)
  rw [Addr.add_mid]
  exact this
/-- The document's sum as a contract. -/
abbrev OfC : Prop := ∀ (A : Option Addr) (c n : Nat) (b : List Nat) (w : World), b.length = n → n ≤ 90000 → R8 w A b → B8 b →
  Calls Tryd.prog 9 #[.slice A n c] w fun e w' => e = .returned (.agg (vl .u8 (Sh.sum b)).toArray) ∧ Step w w'
/-- One round: a byte goes over. -/
theorem copy_round (w wr : World) (G j x : Nat) (s : List Nat) (hG : w.heap.size = G) (hj : j < s.length) (h64 : s.length ≤ 64) (hx : s.getD j 0 = x)
    (t0 : wr.there G 0 64) (t1 : wr.there (G + 1) 0 64) (r1 : wr.rangeAt (G + 1) 0 (vl .u8 (part64 s j))) (B : Below w.heap.size w wr) :
    (wr.setCell ⟨G + 1, j, none⟩ (.int .u8 (x : Nat))).there G 0 64 ∧ (wr.setCell ⟨G + 1, j, none⟩ (.int .u8 (x : Nat))).there (G + 1) 0 64 ∧
      (wr.setCell ⟨G + 1, j, none⟩ (.int .u8 (x : Nat))).rangeAt (G + 1) 0 (vl .u8 (part64 s (j + 1))) ∧ Below w.heap.size w (wr.setCell ⟨G + 1, j, none⟩ (.int .u8 (x : Nat))) :=
  ⟨there_setCell t0 _ _, there_setCell t1 _ _, by
    rw [← part64_step s j hj h64, hx, ← vl_set]
    exact rangeAt_set r1 j _ (by rw [vl_len, part64_len s j (by omega) h64]; omega), B.setCell (by show w.heap.size ≤ G + 1; omega) _⟩
set_option maxHeartbeats 3200000 in
set_option maxRecDepth 100000 in
/-- caucusref06.Block of a key of at most 64 bytes. -/
theorem rblock_lo (A : Option Addr) (c n : Nat) (b : List Nat) (w : World) (hn : b.length = n) (hl : n ≤ 64) (hr : R8 w A b) :
    Calls Tryd.prog 18 #[.slice A n c] w fun e w' => e = .returned (.agg (vl .u8 (blk b)).toArray) ∧ Step w w' := by
  obtain ⟨Z, hZ⟩ : ∃ Z, (vl .u8 (List.replicate 64 0)).toArray = Z := ⟨_, rfl⟩
  have hz : Hid (∀ w, (zeroValue 37).run Tryd.prog w = .ok (.agg Z) w) := Lib.hid (hZ ▸ zero64)
  have hsz : Z.size = 64 := by rw [← hZ]; rfl
  have hZl : Hid (vl .u8 (List.replicate 64 0) = Z.toList) := Lib.hid (by rw [← hZ])
  clear hZ
  have h1 : (n : Int) ≤ 64 := by omega
  have eB : Hid (vl .u8 (part64 b n) = vl .u8 (blk b)) := Lib.hid (by
    rw [← hn, part64_end]
    unfold blk key
    rw [if_pos (by omega)])
  have T0 := World.there_alloc (Lg.there_new w Z 37 64 hsz) (Obj.cells Z 37)
  have T1 := Lg.there_new (w.alloc (Obj.cells Z 37)) Z 37 64 hsz
  have R1 : ((w.alloc (Obj.cells Z 37)).alloc (Obj.cells Z 37)).rangeAt (w.alloc (Obj.cells Z 37)).heap.size 0 (vl .u8 (part64 b 0)) := by
    rw [part64_zero, hZl.out]
    exact range_new _ Z 37
  have z1 : (w.alloc (Obj.cells Z 37)).heap.size = w.heap.size + 1 := by simp
  have BW : Below w.heap.size w ((w.alloc (Obj.cells Z 37)).alloc (Obj.cells Z 37)) := (inferInstance : Ext w ((w.alloc (Obj.cells Z 37)).alloc (Obj.cells Z 37))).h
  rw [z1] at T1 R1
  clear z1
  go_enter Tryd.func18, Tryd.ntmps18
  go_wp2_with (first
    | refine Lg.wpAlloc (by rfl) 37 (by rfl) Z hz.out ?_)
  generalize (w.alloc (Obj.cells Z 37)).alloc (Obj.cells Z 37) = W at T0 T1 R1 BW ⊢
  obtain ⟨G, hG⟩ : ∃ G, w.heap.size = G := ⟨_, rfl⟩
  rw [hG] at T0 T1 R1 ⊢
  have hl2 := Lib.hid hl
  clear hl hZl hsz
  go_loopw [6] (fun i wr => ∃ j : Nat, Hid (j ≤ n) ∧ i = .int .i64 j ∧ wr.there G 0 64 ∧ wr.there (G + 1) 0 64 ∧ wr.rangeAt (G + 1) 0 (vl .u8 (part64 b j)) ∧ Below w.heap.size w wr) (fun i _ => n - (intOf i).toNat)
  case atStart => exact ⟨0, Lib.hid (Nat.zero_le _), rfl, T0, T1, R1, BW⟩
  case round =>
    obtain ⟨j, hj, rfl, t0, t1, r1, B⟩ := hrel
    by_cases hlt : j < n
    · obtain ⟨ad, hA, hla, hc⟩ := Row.atN (Row.to (e := ⟨B⟩) hr) (j := j) (by rw [hn]; exact hlt)
      subst hA
      have hxx : Hid (b.getD j 0 = b.getD j 0) := Lib.hid rfl
      generalize hx : b.getD j 0 = x at hc
      have hx2 := Lib.hid hx
      clear hx hxx
      have j64 : j < 64 := by have := hl2.out; omega
      obtain ⟨u, ec⟩ := Option.isSome_iff_exists.1 (t1 j j64).1
      have hf := (t1 j j64).2
      rw [Nat.zero_add] at ec hf
      have jI : (j : Int) < n := by omega
      have jI2 : (j : Int) < 64 := by omega
      have hlt2 := Lib.hid hlt
      clear hlt j64
      go_wp2
      go_roundw
      case rel =>
        obtain ⟨q1, q2, q3, q4⟩ := copy_round w wr G j x b hG (by rw [hn]; exact hlt2.out) (by rw [hn]; exact hl2.out) hx2.out t0 t1 r1 B
        exact ⟨j + 1, Lib.hid (by have := hlt2.out; omega), by go_num, q1, q2, q3, q4⟩
      case measure => have := hlt2.out; simp [intOf]; omega
    · have hjn : j = n := by have := hj.out; omega
      subst hjn
      have oB := Lib.hid (vl_one .u8 (blk b))
      have lB : (vl .u8 (blk b)).length = 64 := by rw [vl_len, blk_len]
      rw [eB.out] at r1
      clear eB
      generalize hE : vl .u8 (blk b) = E at r1 oB lB
      have hE2 := Lib.hid hE
      clear hE
      have eE : E.toArray.size = 64 := lB
      go_wp2_with (first
        | refine wpList_load_mid (by rfl) 37 (.tmp 3) (by rfl) (G + 1) 0 (by rfl) E _ r1 Tryd.underlying37 rfl (by rw [lB]; exact size64) ?_
        | refine wpList_store_mid (by rfl) 37 (.tmp 2) (.tmp 26) (by rfl) G 0 E.toArray (by rfl) (by rfl) (by rw [eE]; exact t0) (by rw [eE]; exact size64) oB.out ?_)
      refine bodyPost_ret (results_one (by rfl) _ _ G 0 E _ (by rfl) (World.rangeAt_setCells_same _ _ _ _ (by rw [lB]; exact t0)) Tryd.underlying37 rfl (by rw [lB]; exact size64)) (by rfl) ?_
      exact ⟨by rw [hE2.out], ⟨Lg.below_setCells (by omega) _ _ _ B⟩⟩
end Mc
end Go.Proofs.YtkihhflmgceckaaDoor
