/- Several texts in one, each with its own word ahead. -/
import Derived.Test.YtfeahgcigmoijaaGreatDoorPkM
import Derived.Test.YtfeahgcigmoijaaGreatDoorPkA
import Derived.Test.YtfeahgcigmoijaaGreatDoorRef05i
/- The document's own answers of layer 6 (package caucusref06): a key's block. Conditions: what is handed in reads as bytes; sha.k reads as laid. -/
namespace Go.Proofs.YtfeahgcigmoijaaGreatDoor
open Go.RowKit Go.Lib
namespace Mc
open SlR Sh Sp
/-- So many bytes of a list, and noughts behind. -/
def part64 (s : List Nat) (j : Nat) : List Nat := s.take j ++ List.replicate (64 - j) 0
theorem part64_len (s : List Nat) (j : Nat) (h : j ≤ s.length) (h2 : s.length ≤ 64) : (part64 s j).length = 64 := by simp [part64]; omega
theorem part64_zero (s : List Nat) : part64 s 0 = List.replicate 64 0 := by simp [part64]
theorem part64_end (s : List Nat) : part64 s s.length = fill s := by simp [part64, fill]
theorem part64_step (s : List Nat) (j : Nat) (h : j < s.length) (h2 : s.length ≤ 64) : (part64 s j).set j (s.getD j 0) = part64 s (j + 1) := by
  unfold part64
  have l : (s.take j).length = j := by rw [List.length_take]; omega
  have e : s.take (j + 1) = s.take j ++ [s[j]] := by rw [List.take_add_one, List.getElem?_eq_getElem h]; rfl
  rw [List.set_append, if_neg (by omega), l, Nat.sub_self, e, List.getD_eq_getElem?_getD, List.getElem?_eq_getElem h, show 64 - j = (64 - (j + 1)) + 1 by omega, List.replicate_succ, List.append_assoc]
  rfl
theorem row_set' {k : IntKind} {w : World} {g : Nat} {xs : List Int} (h : Row k w (some ⟨g, 0, none⟩) xs) (p : Addr) (u : Value) (hp : p.block ≠ g) : Row k (w.setCell p u) (some ⟨g, 0, none⟩) xs := fun j x hx => by
  obtain ⟨ad, h1, h2, h3⟩ := h j x hx
  cases h1
  refine ⟨_, rfl, by rw [World.size_setCell]; exact h2, ?_⟩
  rw [World.cell?_setCell_other _ _ _ _ (fun e => hp (by rw [e, blockAdd]))]
  exact h3
/-- What an array of bytes in a block of its own reads as a slice. -/
theorem row_range {w : World} {g : Nat} {s : List Nat} (hg : g < w.heap.size) (h : w.rangeAt g 0 (vl .u8 s)) : R8 w (some ⟨g, 0, none⟩) s := fun j x hx => by
  refine ⟨_, rfl, hg, ?_⟩
  have := h j (.int .u8 x) (by unfold vl; rw [List.getElem?_map]; unfold NL at hx; rw [List.getElem?_map] at hx; cases hq : s[j]? with
    | none => rw [hq] at hx; cases hx
    | some v => rw [hq] at hx; cases hx; rfl)
  rw [Addr.add_mid]
  exact this
/-- The document's sum as a contract. -/
abbrev OfC : Prop := ∀ (A : Option Addr) (c n : Nat) (b : List Nat) (w : World), b.length = n → n ≤ 90000 → R8 w A b → B8 b →
  Calls Tryz.prog 68 #[.slice A n c] w fun e w' => e = .returned (.agg (vl .u8 (Sh.sum b)).toArray) ∧ Step w w'
/-- One round: a byte goes over. -/
theorem copy_round (w wr : World) (G j x : Nat) (s : List Nat) (hG : w.heap.size = G) (hj : j < s.length) (h64 : s.length ≤ 64) (hx : s.getD j 0 = x)
    (t0 : wr.there G 0 64) (t1 : wr.there (G + 1) 0 64) (r1 : wr.rangeAt (G + 1) 0 (vl .u8 (part64 s j))) (B : Below w.heap.size w wr) :
    (wr.setCell ⟨G + 1, j, none⟩ (.int .u8 (x : Nat))).there G 0 64 ∧ (wr.setCell ⟨G + 1, j, none⟩ (.int .u8 (x : Nat))).there (G + 1) 0 64 ∧
      (wr.setCell ⟨G + 1, j, none⟩ (.int .u8 (x : Nat))).rangeAt (G + 1) 0 (vl .u8 (part64 s (j + 1))) ∧ Below w.heap.size w (wr.setCell ⟨G + 1, j, none⟩ (.int .u8 (x : Nat))) :=
  ⟨there_setCell t0 _ _, there_setCell t1 _ _, by
    rw [← part64_step s j hj h64, hx, ← vl_set]
    exact rangeAt_set r1 j _ (by rw [vl_len, part64_len s j (by omega) h64]; omega), B.setCell (by show w.heap.size ≤ G + 1; omega) _⟩
set_option maxHeartbeats 3200000 in
set_option maxRecDepth 100000 in
/-- caucusref06.Block of a key of at most 64 bytes. -/
theorem rblock_lo (A : Option Addr) (c n : Nat) (b : List Nat) (w : World) (hn : b.length = n) (hl : n ≤ 64) (hr : R8 w A b) :
    Calls Tryz.prog 67 #[.slice A n c] w fun e w' => e = .returned (.agg (vl .u8 (blk b)).toArray) ∧ Step w w' := by
  obtain ⟨Z, hZ⟩ : ∃ Z, (vl .u8 (List.replicate 64 0)).toArray = Z := ⟨_, rfl⟩
  have hz : Hid (∀ w, (zeroValue 109).run Tryz.prog w = .ok (.agg Z) w) := Lib.hid (hZ ▸ zero64)
  have hsz : Z.size = 64 := by rw [← hZ]; rfl
  have hZl : Hid (vl .u8 (List.replicate 64 0) = Z.toList) := Lib.hid (by rw [← hZ])
  clear hZ
  have h1 : (n : Int) ≤ 64 := by omega
  have eB : Hid (vl .u8 (part64 b n) = vl .u8 (blk b)) := Lib.hid (by
    rw [← hn, part64_end]
    unfold blk key
    rw [if_pos (by omega)])
  have T0 := World.there_alloc (Lg.there_new w Z 109 64 hsz) (Obj.cells Z 109)
  have T1 := Lg.there_new (w.alloc (Obj.cells Z 109)) Z 109 64 hsz
  have R1 : ((w.alloc (Obj.cells Z 109)).alloc (Obj.cells Z 109)).rangeAt (w.alloc (Obj.cells Z 109)).heap.size 0 (vl .u8 (part64 b 0)) := by
    rw [part64_zero, hZl.out]
    exact range_new _ Z 109
  have z1 : (w.alloc (Obj.cells Z 109)).heap.size = w.heap.size + 1 := by simp
  have BW : Below w.heap.size w ((w.alloc (Obj.cells Z 109)).alloc (Obj.cells Z 109)) := (inferInstance : Ext w ((w.alloc (Obj.cells Z 109)).alloc (Obj.cells Z 109))).h
  rw [z1] at T1 R1
  clear z1
  go_enter Tryz.func67, Tryz.ntmps67
  go_wp2_with (first
    | refine Lg.wpAlloc (by rfl) 109 (by rfl) Z hz.out ?_)
  generalize (w.alloc (Obj.cells Z 109)).alloc (Obj.cells Z 109) = W at T0 T1 R1 BW ⊢
  obtain ⟨G, hG⟩ : ∃ G, w.heap.size = G := ⟨_, rfl⟩
  rw [hG] at T0 T1 R1 ⊢
  have hl2 := Lib.hid hl
  clear hl hZl hsz
  go_loopw [6] (fun i wr => ∃ j : Nat, Hid (j ≤ n) ∧ i = .int .i64 j ∧ wr.there G 0 64 ∧ wr.there (G + 1) 0 64 ∧ wr.rangeAt (G + 1) 0 (vl .u8 (part64 b j)) ∧ Below w.heap.size w wr) (fun i _ => n - (intOf i).toNat)
  case atStart => exact ⟨0, Lib.hid (Nat.zero_le _), rfl, T0, T1, R1, BW⟩
  case round =>
    obtain ⟨j, hj, rfl, t0, t1, r1, B⟩ := hrel
    by_cases hlt : j < n
    · obtain ⟨ad, hA, hla, hc⟩ := Row.atN (Row.to (e := ⟨B⟩) hr) (j := j) (by rw [hn]; exact hlt)
      subst hA
      have hxx : Hid (b.getD j 0 = b.getD j 0) := Lib.hid rfl
      generalize hx : b.getD j 0 = x at hc
      have hx2 := Lib.hid hx
      clear hx hxx
      have j64 : j < 64 := by have := hl2.out; omega
      obtain ⟨u, ec⟩ := Option.isSome_iff_exists.1 (t1 j j64).1
      have hf := (t1 j j64).2
      rw [Nat.zero_add] at ec hf
      have jI : (j : Int) < n := by omega
      have jI2 : (j : Int) < 64 := by omega
      have hlt2 := Lib.hid hlt
      clear hlt j64
      go_wp2
      go_roundw
      case rel =>
        obtain ⟨q1, q2, q3, q4⟩ := copy_round w wr G j x b hG (by rw [hn]; exact hlt2.out) (by rw [hn]; exact hl2.out) hx2.out t0 t1 r1 B
        exact ⟨j + 1, Lib.hid (by have := hlt2.out; omega), by go_num, q1, q2, q3, q4⟩
      case measure => have := hlt2.out; simp [intOf]; omega
    · have hjn : j = n := by have := hj.out; omega
      subst hjn
      have oB := Lib.hid (vl_one .u8 (blk b))
      have lB : (vl .u8 (blk b)).length = 64 := by rw [vl_len, blk_len]
      rw [eB.out] at r1
      clear eB
      generalize hE : vl .u8 (blk b) = E at r1 oB lB
      have hE2 := Lib.hid hE
      clear hE
      have eE : E.toArray.size = 64 := lB
      go_wp2_with (first
        | refine wpList_load_mid (by rfl) 109 (.tmp 3) (by rfl) (G + 1) 0 (by rfl) E _ r1 Tryz.underlying109 rfl (by rw [lB]; exact size64) ?_
        | refine wpList_store_mid (by rfl) 109 (.tmp 2) (.tmp 26) (by rfl) G 0 E.toArray (by rfl) (by rfl) (by rw [eE]; exact t0) (by rw [eE]; exact size64) oB.out ?_)
      refine bodyPost_ret (results_one (by rfl) _ _ G 0 E _ (by rfl) (World.rangeAt_setCells_same _ _ _ _ (by rw [lB]; exact t0)) Tryz.underlying109 rfl (by rw [lB]; exact size64)) (by rfl) ?_
      exact ⟨by rw [hE2.out], ⟨Lg.below_setCells (by omega) _ _ _ B⟩⟩
end Mc
end Go.Proofs.YtfeahgcigmoijaaGreatDoor
/- caucusref06.Block of any key. Conditions: what is handed in reads as bytes; the document's sum as a contract. -/
namespace Go.Proofs.YtfeahgcigmoijaaGreatDoor
open Go.RowKit Go.Lib
namespace Mc
open SlR Sh Sp
set_option maxHeartbeats 3200000 in
set_option maxRecDepth 100000 in
/-- caucusref06.Block of a key of more than 64 bytes. -/
theorem rblock_hi (hOf : OfC) (A : Option Addr) (c n : Nat) (b : List Nat) (w : World) (hn : b.length = n) (hl : ¬ n ≤ 64) (hn2 : n ≤ 90000) (hr : R8 w A b) (hb : B8 b) :
    Calls Tryz.prog 67 #[.slice A n c] w fun e w' => e = .returned (.agg (vl .u8 (blk b)).toArray) ∧ Step w w' := by
  obtain ⟨Z, hZ⟩ : ∃ Z, (vl .u8 (List.replicate 64 0)).toArray = Z := ⟨_, rfl⟩
  have hz : Hid (∀ w, (zeroValue 109).run Tryz.prog w = .ok (.agg Z) w) := Lib.hid (hZ ▸ zero64)
  have hsz : Z.size = 64 := by rw [← hZ]; rfl
  have hZl : Hid (vl .u8 (List.replicate 64 0) = Z.toList) := Lib.hid (by rw [← hZ])
  clear hZ
  obtain ⟨Z3, hZ3⟩ : ∃ Z, zs.toArray = Z := ⟨_, rfl⟩
  have hz3 : Hid (∀ w, (zeroValue 62).run Tryz.prog w = .ok (.agg Z3) w) := Lib.hid (hZ3 ▸ zero32)
  have hsz3 : Z3.size = 32 := by rw [← hZ3]; rfl
  clear hZ3
  have h1 : ¬ (n : Int) ≤ 64 := by omega
  have ls : (Sh.sum b).length = 32 := sum_fine b
  have eB : Hid (vl .u8 (part64 (Sh.sum b) 32) = vl .u8 (blk b)) := Lib.hid (by
    rw [← ls, part64_end]
    unfold blk key
    rw [if_neg (by omega)])
  have cO := fun (w : World) (h : R8 w A b) => hOf A c n b w hn hn2 h hb
  have lC : (vl .u8 (Sh.sum b)).length = 32 := by rw [vl_len, ls]
  have oC := Lib.hid (vl_one .u8 (Sh.sum b))
  have rO : ∀ (w : World) (g : Nat), g < w.heap.size → w.rangeAt g 0 (vl .u8 (Sh.sum b)) → R8 w (some ⟨g, 0, none⟩) (Sh.sum b) := fun w g => row_range
  generalize hD : vl .u8 (Sh.sum b) = D at cO lC oC rO
  clear hD
  have T0 := World.there_alloc (Lg.there_new w Z 109 64 hsz) (Obj.cells Z 109)
  have T1 := Lg.there_new (w.alloc (Obj.cells Z 109)) Z 109 64 hsz
  have R1 : ((w.alloc (Obj.cells Z 109)).alloc (Obj.cells Z 109)).rangeAt (w.alloc (Obj.cells Z 109)).heap.size 0 (vl .u8 (part64 (Sh.sum b) 0)) := by
    rw [part64_zero, hZl.out]
    exact range_new _ Z 109
  have z1 : (w.alloc (Obj.cells Z 109)).heap.size = w.heap.size + 1 := by simp
  have z2 : ((w.alloc (Obj.cells Z 109)).alloc (Obj.cells Z 109)).heap.size = w.heap.size + 2 := by simp
  rw [z1] at T1 R1
  clear z1
  go_enter Tryz.func67, Tryz.ntmps67
  go_wp2_with (first
    | refine Lg.wpAlloc (by rfl) 109 (by rfl) Z hz.out ?_
    | refine Lg.wpAlloc (by rfl) 62 (by rfl) Z3 hz3.out ?_
    | (go_at_call 68; ((with_reducible refine (cO _ hr.to).mono ?_); rintro e w2 ⟨rfl, S2⟩; obtain ⟨W2, st2, X2, R2, l2⟩ := store_new w2 Z3 D hsz3 lC oC.out)))
  have E2 : Below (w.heap.size + 2) ((w.alloc (Obj.cells Z 109)).alloc (Obj.cells Z 109)) W2 := by
    have := (inferInstance : Ext ((w.alloc (Obj.cells Z 109)).alloc (Obj.cells Z 109)) W2).h
    rwa [z2] at this
  have g2 : w.heap.size + 2 ≤ w2.heap.size := by
    have := S2.h.size
    omega
  have T02 : W2.there w.heap.size 0 64 := there_under T0 E2 (by omega)
  have T12 : W2.there (w.heap.size + 1) 0 64 := there_under T1 E2 (by omega)
  have R12 : W2.rangeAt (w.heap.size + 1) 0 (vl .u8 (part64 (Sh.sum b) 0)) := range_under R1 E2 (by omega)
  have RS : R8 W2 (some ⟨w2.heap.size, 0, none⟩) (Sh.sum b) := rO _ _ l2 R2
  have BW : Below w.heap.size w W2 := (inferInstance : Ext w W2).h
  obtain ⟨g, hg⟩ : ∃ g, w2.heap.size = g := ⟨_, rfl⟩
  rw [hg] at RS g2 ⊢
  obtain ⟨G, hG⟩ : ∃ G, w.heap.size = G := ⟨_, rfl⟩
  rw [hG] at T02 T12 R12 g2 ⊢
  have hg2 := Lib.hid g2
  clear hl hZl hsz st2 R2 l2 hg g2 E2 T0 T1 R1 z2 rO cO hr
  generalize Sh.sum b = s at R12 RS ls eB
  go_loopw [6] (fun i wr => ∃ j : Nat, Hid (j ≤ 32) ∧ i = .int .i64 j ∧ wr.there G 0 64 ∧ wr.there (G + 1) 0 64 ∧ wr.rangeAt (G + 1) 0 (vl .u8 (part64 s j)) ∧ R8 wr (some ⟨g, 0, none⟩) s ∧ Below w.heap.size w wr) (fun i _ => 32 - (intOf i).toNat)
  case atStart => exact ⟨0, Lib.hid (Nat.zero_le _), rfl, T02, T12, R12, RS, BW⟩
  case round =>
    obtain ⟨j, hj, rfl, t0, t1, r1, rs, B⟩ := hrel
    by_cases hlt : j < 32
    · have hc : wr.cell? ⟨g, j, none⟩ = some (.int .u8 (s.getD j 0 : Nat)) := by
        obtain ⟨_, e, _, h⟩ := Row.atN rs (j := j) (by rw [ls]; exact hlt)
        cases e
        rw [Addr.add_mid, Nat.zero_add] at h
        exact h
      generalize hx : s.getD j 0 = x at hc
      have hx2 := Lib.hid hx
      clear hx
      obtain ⟨u, ec⟩ := Option.isSome_iff_exists.1 (t1 j (by omega)).1
      have hf := (t1 j (by omega)).2
      rw [Nat.zero_add] at ec hf
      have jI : (j : Int) < 32 := by omega
      have jI2 : (j : Int) < 64 := by omega
      have hlt2 := Lib.hid hlt
      clear hlt
      go_wp2
      go_roundw
      case rel =>
        obtain ⟨q1, q2, q3, q4⟩ := copy_round w wr G j x s hG (by rw [ls]; exact hlt2.out) (by omega) hx2.out t0 t1 r1 B
        exact ⟨j + 1, Lib.hid (by have := hlt2.out; omega), by go_num, q1, q2, q3, row_set' rs _ _ (by have := hg2.out; show G + 1 ≠ g; omega), q4⟩
      case measure => have := hlt2.out; simp [intOf]; omega
    · have hjn : j = 32 := by have := hj.out; omega
      subst hjn
      have oB := Lib.hid (vl_one .u8 (blk b))
      have lB : (vl .u8 (blk b)).length = 64 := by rw [vl_len, blk_len]
      rw [eB.out] at r1
      clear eB
      generalize hE : vl .u8 (blk b) = E at r1 oB lB
      have hE2 := Lib.hid hE
      clear hE
      have eE : E.toArray.size = 64 := lB
      go_wp2_with (first
        | refine wpList_load_mid (by rfl) 109 (.tmp 3) (by rfl) (G + 1) 0 (by rfl) E _ r1 Tryz.underlying109 rfl (by rw [lB]; exact size64) ?_
        | refine wpList_store_mid (by rfl) 109 (.tmp 2) (.tmp 26) (by rfl) G 0 E.toArray (by rfl) (by rfl) (by rw [eE]; exact t0) (by rw [eE]; exact size64) oB.out ?_)
      refine bodyPost_ret (results_one (by rfl) _ _ G 0 E _ (by rfl) (World.rangeAt_setCells_same _ _ _ _ (by rw [lB]; exact t0)) Tryz.underlying109 rfl (by rw [lB]; exact size64)) (by rfl) ?_
      exact ⟨by rw [hE2.out], ⟨Lg.below_setCells (by omega) _ _ _ B⟩⟩
theorem rblock_any (hOf : OfC) (A : Option Addr) (c n : Nat) (b : List Nat) (w : World) (hn : b.length = n) (hn2 : n ≤ 90000) (hr : R8 w A b) (hb : B8 b) :
    Calls Tryz.prog 67 #[.slice A n c] w fun e w' => e = .returned (.agg (vl .u8 (blk b)).toArray) ∧ Step w w' := by
  by_cases hl : n ≤ 64
  · exact rblock_lo A c n b w hn hl hr
  · exact rblock_hi hOf A c n b w hn hl hn2 hr hb
end Mc
end Go.Proofs.YtfeahgcigmoijaaGreatDoor
/- caucusref06.Of: the document's sum with a key. Conditions: what is handed in reads as bytes; the document's sum as a contract. -/
namespace Go.Proofs.YtfeahgcigmoijaaGreatDoor
open Go.RowKit Go.Lib
namespace Mc
open SlR Sh Sp
set_option maxHeartbeats 3200000 in
set_option maxRecDepth 100000 in
theorem rof_any (hOf : OfC) (A : Option Addr) (c n : Nat) (k : List Nat) (A2 : Option Addr) (c2 m : Nat) (t : List Nat) (w : World) (hn : k.length = n) (hn2 : n ≤ 80000) (hr : R8 w A k) (hb : B8 k) (hm2 : t.length = m) (hm3 : m ≤ 80000) (hr2 : R8 w A2 t) (hb2 : B8 t) :
    Calls Tryz.prog 48 #[.slice A n c, .slice A2 m c2] w fun e w' => e = .returned (.agg (vl .u8 (hm k t)).toArray) ∧ Step w w' := by
  obtain ⟨i0, hi, hz0, hz1, hz2⟩ := info_parts infoB
  obtain ⟨Z6, hZ6⟩ : ∃ Z, (vl .u8 (List.replicate 64 0)).toArray = Z := ⟨_, rfl⟩
  have hz6 : Hid (∀ w, (zeroValue 109).run Tryz.prog w = .ok (.agg Z6) w) := Lib.hid (hZ6 ▸ zero64)
  have hsz6 : Z6.size = 64 := by rw [← hZ6]; rfl
  clear hZ6
  obtain ⟨Z3, hZ3⟩ : ∃ Z, zs.toArray = Z := ⟨_, rfl⟩
  have hz3 : Hid (∀ w, (zeroValue 62).run Tryz.prog w = .ok (.agg Z3) w) := Lib.hid (hZ3 ▸ zero32)
  have hsz3 : Z3.size = 32 := by rw [← hZ3]; rfl
  clear hZ3
  have kb := blk_b8 hb (by omega)
  have kl := blk_len k
  have b8i : B8 (msk 54 (blk k) ++ t) := b8_inner hb (by omega) hb2
  have li : (msk 54 (blk k) ++ t).length = 64 + m := by rw [List.length_append, msk_len, kl, hm2]
  have b8s : B8 (Sh.sum (msk 54 (blk k) ++ t)) := sum_b8 ⟨_, b8i, by omega⟩
  have b8o : B8 (msk 92 (blk k) ++ Sh.sum (msk 54 (blk k) ++ t)) := b8_app (msk_b8 92 (by omega) kb) b8s
  have ls : (Sh.sum (msk 54 (blk k) ++ t)).length = 32 := sum_fine _
  have lo : (msk 92 (blk k) ++ Sh.sum (msk 54 (blk k) ++ t)).length = 64 + 32 := by rw [List.length_append, msk_len, kl, ls]
  have cB := fun (w : World) (h : R8 w A k) => rblock_any hOf A c n k w hn (by omega) h hb
  have cO1 := fun (A : Option Addr) (c : Nat) (w : World) (h : R8 w A (msk 54 (blk k) ++ t)) => hOf A c (64 + m) _ w li (by omega) h b8i
  have cO2 : ∀ (A : Option Addr) (c : Nat) (w : World), R8 w A (msk 92 (blk k) ++ Sh.sum (msk 54 (blk k) ++ t)) → Calls Tryz.prog 68 #[.slice A 96 c] w fun e w' => e = .returned (.agg (vl .u8 (hm k t)).toArray) ∧ Step w w' := fun (A : Option Addr) (c : Nat) (w : World) h => hOf A c (64 + 32) _ w lo (by omega) h b8o
  have lE : (vl .u8 (blk k)).length = 64 := by rw [vl_len, kl]
  have oE := Lib.hid (vl_one .u8 (blk k))
  have cE : Hid (∀ j, j < 64 → (vl .u8 (blk k))[j]? = some (.int .u8 ((blk k).getD j 0 : Nat))) := Lib.hid fun j hj => vl_at _ _ _ (by rw [kl]; exact hj)
  have lI : (vl .u8 (Sh.sum (msk 54 (blk k) ++ t))).length = 32 := by rw [vl_len, ls]
  have oI := Lib.hid (vl_one .u8 (Sh.sum (msk 54 (blk k) ++ t)))
  have rI : ∀ (w : World) (g : Nat), g < w.heap.size → w.rangeAt g 0 (vl .u8 (Sh.sum (msk 54 (blk k) ++ t))) → R8 w (some ⟨g, 0, none⟩) (Sh.sum (msk 54 (blk k) ++ t)) := fun w g => row_range
  have lF : (vl .u8 (hm k t)).length = 32 := by rw [vl_len, hm_len]
  have oF := Lib.hid (vl_one .u8 (hm k t))
  generalize vl .u8 (hm k t) = F at cO2 lF oF ⊢
  generalize vl .u8 (Sh.sum (msk 54 (blk k) ++ t)) = I at cO1 lI oI rI
  generalize vl .u8 (blk k) = E at cB lE oE cE
  generalize hsI : Sh.sum (msk 54 (blk k) ++ t) = sI at cO2 rI ls
  have eF : F.toArray.size = 32 := lF
  have T0 := Lg.there_new w Z3 62 32 hsz3
  clear b8i li b8s b8o lo hsI hOf
  generalize blk k = bs at *
  go_enter Tryz.func48, Tryz.ntmps48
  go_wp2_with (first
    | refine Lg.wpAlloc (by rfl) 109 (by rfl) Z6 hz6.out ?_
    | refine Lg.wpAlloc (by rfl) 62 (by rfl) Z3 hz3.out ?_
    | (go_at_call 67; ((with_reducible refine (cB _ hr.to).mono ?_); rintro e w2 ⟨rfl, S2⟩; obtain ⟨W2, st2, X2, R2, l2⟩ := store_new64 w2 Z6 E hsz6 lE oE.out)))
  have BW : Step w W2 := Step.of inferInstance
  have T2 : W2.there w.heap.size 0 32 := there_under T0 (inferInstance : Ext (w.alloc (Obj.cells Z3 62)) W2).h (by simp)
  have g0 : w.heap.size < W2.heap.size := by
    have := (inferInstance : Ext (w.alloc (Obj.cells Z3 62)) W2).h.size
    simp at this
    omega
  generalize hg : w2.heap.size = g at R2 l2 st2 ⊢
  generalize hG : w.heap.size = G at T2 g0 ⊢
  clear hg st2 X2 S2 T0 oE cB hr
  go_loopw [6, 7, 8] (fun u v i wr => ∃ j : Nat, Hid (j ≤ 64) ∧ i = .int .i64 j ∧ Hid (ApE.Own .u8 5 wr W2.heap.size u j (NL (msk 54 (bs.take j)))) ∧ Hid (ApE.Own .u8 5 wr W2.heap.size v j (NL (msk 92 (bs.take j)))) ∧ Hid (Hdr.Apart u v) ∧ Step W2 wr) (fun _ _ i _ => 64 - (intOf i).toNat)
  case atStart => exact ⟨0, Lib.hid (Nat.zero_le _), rfl, Lib.hid (World.ownsRow_nil _ _ _ _), Lib.hid (World.ownsRow_nil _ _ _ _), Lib.hid (Hdr.Apart.nil _), Step.of inferInstance⟩
  case round =>
    obtain ⟨j, hj, rfl, hu, hv, ha, S⟩ := hrel
    obtain ⟨A5, c5, rfl⟩ := own_form hu.out
    obtain ⟨A6, c6, rfl⟩ := own_form hv.out
    by_cases hlt : j < 64
    · have hx1 := Lib.hid (msk_snoc 54 bs j (by omega))
      have hx2 := Lib.hid (msk_snoc 92 bs j (by omega))
      have hxl := kb j
      have f1 : Hid (bits .xor .u8 ((bs.getD j 0 : Nat) : Int) 54 = ((bs.getD j 0 ^^^ 54 : Nat) : Int)) := Lib.hid (xor8_form (bs.getD j 0) 54 hxl (by omega))
      have f2 : Hid (bits .xor .u8 ((bs.getD j 0 : Nat) : Int) 92 = ((bs.getD j 0 ^^^ 92 : Nat) : Int)) := Lib.hid (xor8_form (bs.getD j 0) 92 hxl (by omega))
      have hc : ∀ w', Ext W2 w' → w'.cell? ⟨g, j, none⟩ = some (.int .u8 (bs.getD j 0 : Nat)) := fun w' X => by
        have := range_under R2 X.h l2 j _ (cE.out j hlt)
        rwa [Nat.zero_add] at this
      generalize bs.getD j 0 = x at hx1 hx2 hxl f1 f2 hc
      have hc1 := hc wr inferInstance
      have jI : (j : Int) < 64 := by omega
      have hlt2 := Lib.hid hlt
      clear hlt
      go_wp2_with (first
        | (at_builtin; refine ApT.wp .u8 W2 wr (by rfl) (.tmp 16) (.tmp 21) 61 (by rfl) 5 i0 _ 1 Tryz.underlying61 hi hz0 hz1 hz2 rfl _ _ j j _ _ (by rfl) hu.out hv.out ha.out.symm _ 1 1 _ (by rfl) rfl (Row.lit1 _ _ _ _ (by simp)) (by have := hlt2.out; omega) (by omega) ?_; intro A7 c7 w7 O7 P7 a7 S7; have hc2 := hc w7 inferInstance)
        | (at_builtin; refine ApT.wp .u8 W2 w7 (by rfl) (.tmp 23) (.tmp 28) 61 (by rfl) 5 i0 _ 1 Tryz.underlying61 hi hz0 hz1 hz2 rfl _ _ j (j + 1) _ _ (by rfl) P7 O7 a7.symm _ 1 1 _ (by rfl) rfl (Row.lit1 _ _ _ _ (by simp)) (by have := hlt2.out; omega) (by omega) ?_; intro A8 c8 w8 O8 P8 a8 S8))
      go_roundw
      case rel => exact ⟨j + 1, Lib.hid (by have := hlt2.out; omega), by go_num, Lib.hid (by
        rw [← hx1.out, NL_app]
        rw [f1.out] at P8
        exact P8), Lib.hid (by
        rw [← hx2.out, NL_app]
        rw [f2.out] at O8
        exact O8), Lib.hid a8, Step.of inferInstance⟩
      case measure => have := hlt2.out; simp [intOf]; omega
    · have hj64 : j = 64 := by have := hj.out; omega
      subst hj64
      have hT : bs.take 64 = bs := List.take_of_length_le (by omega)
      rw [hT] at hu hv
      clear hT cE kb
      go_wp2_with (first
        | (at_builtin; refine ApT.wp .u8 W2 wr (by rfl) (.tmp 30) (.tmp 31) 61 (by rfl) 5 i0 _ 1 Tryz.underlying61 hi hz0 hz1 hz2 rfl _ _ 64 64 _ _ (by rfl) hu.out hv.out ha.out.symm A2 m c2 (NL t) (by rfl) (by rw [NL_len]; exact hm2) hr2.to (by omega) (by omega) ?_; intro A7 c7 w7 O7 P7 a7 S7; have R7 : R8 w7 A7 (msk 54 bs ++ t) := by (unfold R8; rw [NL_app]; exact Row.of_own O7))
        | (go_at_call 68; ((with_reducible refine (cO1 _ _ _ R7).mono ?_); rintro e w8 ⟨rfl, S8⟩; obtain ⟨W8, st8, X8, R8', l8⟩ := store_new w8 Z3 I hsz3 lI oI.out; have RI := rI _ _ l8 R8'))
        | refine Lg.wpAlloc (by rfl) 62 (by rfl) Z3 hz3.out ?_
        | (at_builtin; refine ApT.wp .u8 W2 w7 (by rfl) (.tmp 34) (.tmp 35) 61 (by rfl) 5 i0 _ 1 Tryz.underlying61 hi hz0 hz1 hz2 rfl _ _ 64 (64 + m) _ _ (by rfl) P7 O7 a7.symm _ 32 32 (NL sI) (by rfl) (by rw [NL_len]; exact ls) RI.to (by omega) (by omega) ?_; intro A9 c9 w9 O9 P9 a9 S9; have R9 : R8 w9 A9 (msk 92 bs ++ sI) := by (unfold R8; rw [NL_app]; exact Row.of_own O9))
        | (go_at_call 68; ((with_reducible refine (cO2 _ _ _ R9).mono ?_); rintro e w10 ⟨rfl, S10⟩; have T10 : w10.there G 0 32 := there_under T2 (inferInstance : Ext W2 w10).h g0; have B10 : Below w.heap.size w w10 := (inferInstance : Ext w w10).h))
        | refine wpList_store_mid (by rfl) 62 (.tmp 4) (.tmp 37) (by rfl) G 0 F.toArray (by rfl) (by rfl) (by rw [eF]; exact T10) (by rw [eF]; exact size32) oF.out ?_)
      refine bodyPost_ret (results_one (by rfl) _ _ G 0 F _ (by rfl) (World.rangeAt_setCells_same _ _ _ _ (by rw [lF]; exact T10)) Tryz.underlying62 rfl (by rw [lF]; exact size32)) (by rfl) ?_
      exact ⟨rfl, ⟨Lg.below_setCells (by omega) _ _ _ B10⟩⟩
end Mc
end Go.Proofs.YtfeahgcigmoijaaGreatDoor
/- The document's sum as a contract, from its walk. No condition of its own. -/
namespace Go.Proofs.YtfeahgcigmoijaaGreatDoor
open Go.RowKit Go.Lib
namespace Mc
open SlR Sh Sp
theorem ofC : OfC := fun A c n b w hn hn2 hr hb => of_any A c n b w hn hn2 hr (Lib.hid hb)
/-- Integers that are bytes, as naturals. -/
theorem row_nl {w : World} {A : Option Addr} {n : Nat} (xs : List Int) (hl : xs.length = n) (hr : Row .u8 w A xs) (bd : ∀ z ∈ xs, 0 ≤ z ∧ z < 256) : ∃ bs : List Nat, bs.length = n ∧ R8 w A bs ∧ B8 bs := by
  have e : xs = NL (xs.map Int.toNat) := by
    unfold NL
    rw [List.map_map]
    refine (List.map_id' xs).symm.trans (List.map_congr_left fun z hz => ?_)
    have := bd z hz
    exact (Int.toNat_of_nonneg this.1).symm
  have b8 : B8 (xs.map Int.toNat) := Sp.b8_mem fun x hx => by
    obtain ⟨z, hz, rfl⟩ := List.mem_map.1 hx
    have := bd z hz
    omega
  rw [e] at hr
  exact ⟨_, by simp [hl], hr, b8⟩
theorem arr_nl {n : Nat} (xs : List Int) (hl : xs.length = n) (h : ∀ z ∈ xs, 0 ≤ z ∧ z < 256) : ∃ bs : List Nat, bs.length = n ∧ B8 bs ∧ xs.map (Value.int .u8) = vl .u8 bs := by
  refine ⟨xs.map Int.toNat, by simp [hl], b8_mem fun x hx => ?_, ?_⟩
  · obtain ⟨z, hz, rfl⟩ := List.mem_map.1 hx
    have := h z hz
    omega
  · unfold vl
    rw [List.map_map]
    refine List.map_congr_left fun z hz => ?_
    have := h z hz
    show Value.int .u8 z = Value.int .u8 ((z.toNat : Nat) : Int)
    rw [Int.toNat_of_nonneg this.1]
end Mc
end Go.Proofs.YtfeahgcigmoijaaGreatDoor
