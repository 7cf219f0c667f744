/- The program's own blocks (package sha's block). Conditions: what is handed in reads as bytes, and the place is a block's. -/
import Derived.Test.YtkihhflmgceckaaDoorShWords
import Derived.Laws.CopyOwn
import Derived.Deep.RegionLaw
namespace Go.Proofs.YtkihhflmgceckaaDoor
open Go.RowKit Go.Lib
namespace Sp
open SlR Sh
/-- The byte at a place of what gets behind bytes. -/
def b1 (b : List Nat) (k : Nat) : Nat := if k < b.length then b.getD k 0 else 0
def b2 (b : List Nat) (k : Nat) : Nat := if k = b.length then 128 else b1 b k
def l1 (b : List Nat) (o : Nat) : List Nat := (List.range 64).map fun i => b1 b (o + i)
def l2 (b : List Nat) (o : Nat) : List Nat := (List.range 64).map fun i => b2 b (o + i)
def l3 (b : List Nat) (o j : Nat) : List Nat := (List.range 64).map fun i => if 56 ≤ i ∧ i < 56 + j then 8 * b.length / 256 ^ (63 - i) % 256 else b2 b (o + i)
theorem zero54 (w : World) : (zeroValue 37).run Tryd.prog w = .ok (.agg (vl .u8 (List.replicate 64 0)).toArray) w := Tryd.zeroValue37 w
theorem D_len (b : List Nat) (o : Nat) : (vl .u8 ((b.drop o).take 64)).length = min (b.length - o) 64 := by
  rw [vl_len, List.length_take, List.length_drop, Nat.min_comm]
theorem l1_eq (b : List Nat) (o : Nat) : splice (vl .u8 (List.replicate 64 0)) 0 (vl .u8 ((b.drop o).take 64)) = vl .u8 (l1 b o) := by
  have e : splice (List.replicate 64 0) 0 ((b.drop o).take 64) = l1 b o := by
    refine List.ext_getElem (by simp [splice, l1]; omega) fun i h1 h2 => ?_
    have hi : i < 64 := by simpa [l1] using h2
    simp only [splice, l1, List.getElem_map, List.getElem_range, List.take_zero, List.nil_append, Nat.zero_add, b1]
    rw [List.getElem_append]
    split
    · rename_i h
      rw [List.length_take, List.length_drop] at h
      rw [if_pos (by omega), List.getElem_take, List.getElem_drop, List.getD_eq_getElem?_getD, List.getElem?_eq_getElem (by omega)]
      rfl
    · rename_i h
      rw [List.length_take, List.length_drop] at h
      rw [if_neg (by omega), List.getElem_drop, List.getElem_replicate]
  rw [← e]
  unfold splice vl
  simp
theorem l2_set (b : List Nat) (o : Nat) (h : o ≤ b.length) (h2 : b.length < o + 64) : (l1 b o).set (b.length - o) 128 = l2 b o := by
  refine List.ext_getElem (by simp [l1, l2]) fun i h1 h2 => ?_
  have hi : i < 64 := by simpa [l2] using h2
  rw [List.getElem_set]
  by_cases e : b.length - o = i
  · subst e
    simp [l2, b2, show o + (b.length - o) = b.length by omega]
  · have e2 : ¬ o + i = b.length := by omega
    simp [l1, l2, e, b2, e2]
theorem l2_same (b : List Nat) (o : Nat) (h : b.length < o ∨ o + 64 ≤ b.length) : l1 b o = l2 b o := by
  refine List.ext_getElem (by simp [l1, l2]) fun i h1 h2 => ?_
  have hi : i < 64 := by simpa [l2] using h2
  have e2 : ¬ o + i = b.length := by omega
  simp [l1, l2, b2, e2]
theorem l3_zero (b : List Nat) (o : Nat) : l3 b o 0 = l2 b o := by
  refine List.ext_getElem (by simp [l3, l2]) fun i h1 h2 => ?_
  have e : ¬ (56 ≤ i ∧ i < 56 + 0) := by omega
  simp [l3, l2]
  omega
theorem l3_step (b : List Nat) (o j : Nat) (hj : j < 8) : (l3 b o j).set (56 + j) (8 * b.length / 256 ^ (7 - j) % 256) = l3 b o (j + 1) := by
  refine List.ext_getElem (by simp [l3]) fun i h1 h2 => ?_
  have hi : i < 64 := by simpa [l3] using h2
  rw [List.getElem_set]
  by_cases e : 56 + j = i
  · subst e
    simp [l3, show 63 - (56 + j) = 7 - j by omega]
  · have e2 : (56 ≤ i ∧ i < 56 + (j + 1)) ↔ (56 ≤ i ∧ i < 56 + j) := by omega
    simp only [l3, e, if_false, List.getElem_map, List.getElem_range]
    by_cases q : 56 ≤ i ∧ i < 56 + j
    · rw [if_pos q, if_pos (e2.2 q)]
    · rw [if_neg q, if_neg (fun h => q (e2.1 h))]
theorem l_len (b : List Nat) (o j : Nat) : (l1 b o).length = 64 ∧ (l2 b o).length = 64 ∧ (l3 b o j).length = 64 := by simp [l1, l2, l3]
theorem tail8 (x t : Nat) (hx : x < 4294967296) (ht : t < 8) : (bys [x / 4294967296, x % 4294967296])[t]? = some (x / 256 ^ (7 - t) % 256) := by
  rcases (by omega : t = 0 ∨ t = 1 ∨ t = 2 ∨ t = 3 ∨ t = 4 ∨ t = 5 ∨ t = 6 ∨ t = 7) with rfl | rfl | rfl | rfl | rfl | rfl | rfl | rfl <;> simp [bys, by4] <;> omega
theorem pad_at (b : List Nat) (k : Nat) (hb : b.length ≤ 100000) (hk : k < (pad b).length) : (pad b)[k]? = some (if (pad b).length ≤ k + 8 then 8 * b.length / 256 ^ ((pad b).length - 1 - k) % 256 else b2 b k) := by
  have hl := pad_len b
  by_cases h : (pad b).length ≤ k + 8
  · rw [if_pos h]
    have h8 : b.length + 1 + zn b.length ≤ k := by omega
    have hq : (b ++ [128] ++ List.replicate (zn b.length) 0).length = b.length + 1 + zn b.length := by
      simp
      omega
    have ht : k - (b.length + 1 + zn b.length) < 8 := by omega
    have e : 7 - (k - (b.length + 1 + zn b.length)) = (pad b).length - 1 - k := by omega
    rw [← e]
    unfold pad
    rw [List.getElem?_append_right (by simp; omega), hq, Nat.mul_comm b.length 8, tail8 _ _ (by omega) ht]
  · rw [if_neg h]
    have h8 : k < b.length + 1 + zn b.length := by omega
    unfold pad
    rw [List.getElem?_append_left (by simp; omega)]
    unfold b2 b1
    by_cases h1 : k < b.length
    · rw [if_neg (by omega), if_pos h1, List.append_assoc, List.getElem?_append_left h1, List.getD_eq_getElem?_getD, List.getElem?_eq_getElem h1]
      rfl
    · rw [if_neg h1]
      by_cases h2 : k = b.length
      · subst h2
        rw [if_pos rfl, List.append_assoc, List.getElem?_append_right (Nat.le_refl _), Nat.sub_self]
        rfl
      · rw [if_neg h2, List.getElem?_append_right (by simp; omega), List.getElem?_replicate]
        simp
        omega
theorem l_pad (b : List Nat) (o : Nat) (hb : b.length ≤ 100000) (ho : o < b.length + 9) (ho2 : o % 64 = 0) : (o + 64 < b.length + 9 → l2 b o = ((pad b).drop o).take 64) ∧ (b.length + 9 ≤ o + 64 → l3 b o 8 = ((pad b).drop o).take 64) := by
  have hl := pad_len b
  have hm := pad_mod b
  have hz : zn b.length < 64 := by unfold zn; omega
  constructor
  · intro h
    refine List.ext_getElem? fun i => ?_
    rw [List.getElem?_take, List.getElem?_drop]
    by_cases hi : i < 64
    · rw [if_pos hi, pad_at b (o + i) hb (by omega), if_neg (by omega)]
      simp [l2, hi]
    · rw [if_neg hi, List.getElem?_eq_none (by simp [l2]; omega)]
  · intro h
    refine List.ext_getElem? fun i => ?_
    rw [List.getElem?_take, List.getElem?_drop]
    by_cases hi : i < 64
    · have e : (pad b).length - 1 - (o + i) = 63 - i := by omega
      have e2 : (pad b).length ≤ o + i + 8 ↔ 56 ≤ i := by omega
      rw [if_pos hi, pad_at b (o + i) hb (by omega), e]
      by_cases h5 : 56 ≤ i
      · rw [if_pos (e2.2 h5)]
        simp [l3, hi, h5]
      · rw [if_neg (fun q => h5 (e2.1 q))]
        simp [l3, hi, h5]
    · rw [if_neg hi, List.getElem?_eq_none (by simp [l3]; omega)]
theorem l2_len (b : List Nat) (o : Nat) : (vl .u8 (l2 b o)).length = 64 := by rw [vl_len]; exact (l_len b o 0).2.1
theorem l3_len (b : List Nat) (o j : Nat) : (vl .u8 (l3 b o j)).length = 64 := by rw [vl_len]; exact (l_len b o j).2.2
theorem shift8 (b : List Nat) (nb k : Nat) (hn : b.length = nb) (hk : k < 8) : (8 : Int) * (nb : Int) / 2 ^ (56 - 8 * k) % 256 = ((8 * b.length / 256 ^ (7 - k) % 256 : Nat) : Int) := by
  have e : (2 : Nat) ^ (56 - 8 * k) = 256 ^ (7 - k) := by rw [show 56 - 8 * k = 8 * (7 - k) by omega, Nat.pow_mul]
  rw [hn, ← e, Int.natCast_emod, Int.natCast_ediv, Int.natCast_mul, Int.natCast_pow]
  rfl
theorem there_under {w w' : World} {B g n : Nat} (h : w.there g 0 n) (hb : Below B w w') (hg : g < B) : w'.there g 0 n := fun j hj => by
  rw [hb.cell (p := ⟨g, 0 + j, none⟩) hg, hb.frozen (p := ⟨g, 0 + j, none⟩) hg]
  exact h j hj
theorem range_block {w : World} {g : Nat} {cs : List Value} {t : TypeId} (h : w.heap[g]? = some (.cells cs.toArray t (0, 0))) : w.rangeAt g 0 cs := by
  have := World.rangeAt_of_block h 0 cs.length
  simpa using this
theorem there_block {w : World} {g n : Nat} {cs : List Value} {t : TypeId} (h : w.heap[g]? = some (.cells cs.toArray t (0, 0))) (hn : cs.length = n) : w.there g 0 n := fun j hj => by
  refine ⟨?_, ?_⟩
  · have := range_block h j _ (List.getElem?_eq_getElem (by omega))
    rw [this]
    rfl
  · have h2 : w.frozen? ⟨g, 0 + j, none⟩ = decide (0 ≤ 0 + j ∧ 0 + j < 0) := by
      simp [World.frozen?, h]
    rw [h2]
    simp
set_option maxHeartbeats 3200000 in
set_option maxRecDepth 100000 in
theorem block_dev (A : Option Addr) (c nb o : Nat) (b : List Nat) (w : World) (hn : b.length = nb) (hn2 : nb ≤ 100000) (hr : R8 w A b) (hc : nb ≤ c) (ho : o < nb + 9) (ho2 : Hid (o % 64 = 0)) :
    Calls Tryd.prog 35 #[.slice A nb c, .int .i64 o] w fun e w' => e = .returned (.agg (vl .u8 (((pad b).drop o).take 64)).toArray) ∧ Step w w' := by
  obtain ⟨Z, hZ⟩ : ∃ Z, (vl .u8 (List.replicate 64 0)) = Z := ⟨_, rfl⟩
  have hz : Hid (∀ w, (zeroValue 37).run Tryd.prog w = .ok (.agg Z.toArray) w) := Lib.hid (hZ ▸ zero54)
  have hsz : Z.length = 64 := by rw [← hZ]; rfl
  have hsz2 : Z.toArray.size = 64 := hsz
  have hzz : Hid (Z = vl .u8 (List.replicate 64 0)) := Lib.hid hZ.symm
  clear hZ
  obtain ⟨m, hm⟩ : ∃ m, Hid (m = min (nb - o) 64) := ⟨_, Lib.hid rfl⟩
  obtain ⟨D, hD⟩ : ∃ D, Hid (D = vl .u8 ((b.drop o).take 64)) := ⟨_, Lib.hid rfl⟩
  have lD : D.length = m := by rw [hD.out, D_len, hn, hm.out]
  have hD1 : Hid (∀ v ∈ D, v.oneCell' = true) := Lib.hid fun v hv => by
    rw [hD.out] at hv
    unfold vl at hv
    obtain ⟨a, -, rfl⟩ := List.mem_map.1 hv
    rfl
  have hSp : Hid (splice Z 0 D = vl .u8 (l1 b o)) := Lib.hid (by rw [hzz.out, hD.out, l1_eq])
  have pI : (nb : Int) ≤ 100000 := by omega
  have pI2 : (nb : Int) ≤ (c : Int) := by omega
  have hg2 : Hid ((((w.alloc (Obj.cells Z.toArray 37)).alloc (Obj.cells Z.toArray 37)).drew).heap[w.heap.size + 1]? = some (.cells Z.toArray 37 (0, 0))) := Lib.hid (heap_alloc2_new w _ _)
  have T2 : Hid ((((w.alloc (Obj.cells Z.toArray 37)).alloc (Obj.cells Z.toArray 37)).drew).there w.heap.size 0 64) := Lib.hid ((World.there_drew _ _ _ _).2 (World.there_alloc (Lg.there_new w Z.toArray 37 64 hsz2) _))
  have B2 : Hid (Below w.heap.size w (((w.alloc (Obj.cells Z.toArray 37)).alloc (Obj.cells Z.toArray 37)).drew)) := Lib.hid (inferInstance : Ext w (((w.alloc (Obj.cells Z.toArray 37)).alloc (Obj.cells Z.toArray 37)).drew)).h
  have src : Hid (0 < D.length → ∃ ad : Addr, A = some ad ∧ ∀ j v, D[j]? = some v → (((w.alloc (Obj.cells Z.toArray 37)).alloc (Obj.cells Z.toArray 37)).drew).cell? ((ad.add o).add j) = some v) := Lib.hid fun h => by
    obtain ⟨ad, hA, _, _⟩ := Row.atN hr (j := o) (by have := hm.out; omega)
    refine ⟨ad, hA, fun j v hv => ?_⟩
    have hj : j < D.length := (List.getElem?_eq_some_iff.1 hv).1
    have hoj : o + j < b.length := by have := hm.out; omega
    obtain ⟨_, e, hl, hcl⟩ := Row.atN hr (j := o + j) hoj
    rw [hA] at e
    cases e
    have e2 : (ad.add o).add j = ad.add (o + j) := by
      unfold Addr.add
      split <;> split <;> split <;> simp_all <;> omega
    rw [e2, B2.out.cell (by rw [blockAdd]; exact hl), hcl]
    rw [hD.out, vl_at _ _ _ (by rw [hD.out, vl_len] at hj; exact hj)] at hv
    rw [← hv, List.getD_eq_getElem?_getD, List.getD_eq_getElem?_getD, List.getElem?_take, if_pos (by have := hm.out; omega), List.getElem?_drop]
  have cs : (nb < o ∧ c = nb) ∨ (nb < o ∧ ¬ c = nb) ∨ (¬ nb < o ∧ c = o ∧ (o : Int) ≤ nb ∧ o ≤ nb ∧ (o : Int) ≤ c) ∨ (¬ nb < o ∧ ¬ c = o ∧ (o : Int) ≤ nb ∧ o ≤ nb ∧ (o : Int) ≤ c) := by omega
  have cs2 : Hid ((m = 64 ∧ o + 64 ≤ nb) ∨ (m < 64 ∧ o ≤ nb ∧ Hid (m = nb - o)) ∨ nb < o) := Lib.hid (by
    rcases (by have := hm.out; omega : (m = 64 ∧ o + 64 ≤ nb) ∨ (m < 64 ∧ o ≤ nb ∧ m = nb - o) ∨ nb < o) with h | ⟨h1, h2, h3⟩ | h
    · exact .inl h
    · exact .inr (.inl ⟨h1, h2, Lib.hid h3⟩)
    · exact .inr (.inr h))
  have lp := Lib.hid (l_pad b o (by omega) (by omega) ho2.out)
  clear hr hD
  go_enter Tryd.func35, Tryd.ntmps35
  go_wp2_with (first
    | refine Lg.wpAlloc (by rfl) 37 (by rfl) Z.toArray hz.out ?_)
  rcases cs with ⟨k1, k2⟩ | ⟨k1, k2⟩ | ⟨k1, k2, k3, k4, k5⟩ | ⟨k1, k2, k3, k4, k5⟩
  all_goals
    go_region_held3 (fun w' => Step w w')
      (exact Step.of inferInstance)
      ((refine step_copy_splice rfl (.tmp 9) (.tmp 15) 22 22 rfl 5 Tryd.underlying22 (by kernel_rfl) _ _ 64 64 _ _ rfl rfl (w.heap.size + 1) 0 Z 37 hg2.out D (by first | (rw [lD]; exact hm.out) | (rw [lD, hm.out]; simp; omega)) (fun h => ⟨rfl, by first | (obtain ⟨ad, rfl, h2⟩ := src.out h; exact ⟨_, rfl, h2⟩) | (have := hm.out; omega)⟩) (by rw [lD, hm.out, hsz]; omega) hD1.out (w.heap.size + 1) _ (Below.refl _ _) (by omega) ?_; intro w4 hg4 hb4; have S4 : Step w w4 := ⟨B2.out.trans (hb4.mono (by omega))⟩))
  all_goals
    clear src hD1 hz
    have T4 : w4.there w.heap.size 0 64 := there_under T2.out hb4 (by omega)
    have lS : (splice Z 0 D).length = 64 := by rw [hSp.out, vl_len]; exact (l_len b o 0).1
    have T5 : w4.there (w.heap.size + 1) 0 64 := there_block hg4.out lS
    have R5 := range_block hg4.out
    rw [hSp.out] at R5
    clear hg4 hb4 T2 hg2 B2 hSp lS
    generalize hG : w.heap.size = G at T4 T5 R5 ⊢
    by_cases X : nb + 9 ≤ o + 64
    all_goals
      have x1 : IntKind.i64.wrap ((o : Int) + 64) = (o : Int) + 64 := by simp [IntKind.wrap, IntKind.bits, IntKind.signed]; omega
      have x2 : IntKind.i64.wrap ((nb : Int) + 9) = (nb : Int) + 9 := by simp [IntKind.wrap, IntKind.bits, IntKind.signed]; omega
      rcases cs2.out with ⟨j1, j2⟩ | ⟨j1, j2, j3⟩ | j1
      all_goals
        first
        | (exfalso; omega)
        | (have hst : m < 64 ∧ o ≤ nb := ⟨j1, j2⟩
           obtain ⟨u, ec⟩ := Option.isSome_iff_exists.1 (T5 m j1).1
           have hf := (T5 m j1).2
           rw [Nat.zero_add] at ec hf
           have R6 : (w4.setCell ⟨G + 1, m, none⟩ (.int .u8 128)).rangeAt (G + 1) 0 (vl .u8 (l2 b o)) := by
             have := rangeAt_set R5 m (.int .u8 (128 : Nat)) (by rw [vl_len]; exact Nat.lt_of_lt_of_eq j1 (l_len b o 0).1.symm)
             rw [vl_set] at this
             have e := l2_set b o (by omega) (by have := j3.out; omega)
             rw [hn, ← j3.out] at e
             rw [← e]
             exact this
           have T6 := there_setCell T4 ⟨G + 1, m, none⟩ (.int .u8 128)
           have T7 := there_setCell T5 ⟨G + 1, m, none⟩ (.int .u8 128)
           have B6 : Below w.heap.size w (w4.setCell ⟨G + 1, m, none⟩ (.int .u8 128)) := S4.h.setCell (by show w.heap.size ≤ G + 1; omega) _
           first
           | (have x3 : (nb : Int) + 9 ≤ (o : Int) + 64 := by omega
              go_wp2
              clear R5 T4 T5 S4 ec hf
              generalize w4.setCell ⟨G + 1, m, none⟩ (.int .u8 128) = w5 at R6 T6 T7 B6 ⊢)
           | (have x3 : ¬ (nb : Int) + 9 ≤ (o : Int) + 64 := by omega
              have r6 := l2_len b o
              have e6 : Hid (vl .u8 (l2 b o) = vl .u8 (((pad b).drop o).take 64)) := Lib.hid (by rw [lp.out.1 (by omega)])
              have o6 := Lib.hid (vl_one .u8 (l2 b o))
              generalize vl .u8 (l2 b o) = F at R6 r6 e6 o6
              go_wp2_with (first
                | refine wpList_load_mid (by rfl) 37 (.tmp 5) (by rfl) (G + 1) 0 (by rfl) F _ R6 Tryd.underlying37 rfl (by rw [r6]; exact size54) ?_
                | refine wpList_store_mid (by rfl) 37 (.tmp 4) (.tmp 50) (by rfl) G 0 F.toArray (by rfl) (by rfl) (by rw [List.size_toArray, r6]; exact T6) (by rw [List.size_toArray, r6]; exact size54) o6.out ?_)
              refine bodyPost_ret (results_one (by rfl) _ _ G 0 F _ (by rfl) (World.rangeAt_setCells_same _ _ _ _ (by rw [r6]; exact T6)) Tryd.underlying37 rfl (by rw [r6]; exact size54)) (by rfl) ?_
              exact ⟨by rw [e6.out], ⟨Lg.below_setCells (by omega) _ _ _ B6⟩⟩))
        | (have hst : ¬ (m < 64 ∧ o ≤ nb) := by omega
           have R6 := R5
           rw [l2_same b o (by omega)] at R6
           have T6 := T4
           have T7 := T5
           have B6 := S4.h
           have y1 : ¬ (m : Int) < 64 ∨ ¬ (o : Int) ≤ (nb : Int) := by omega
           clear R5 T4 T5 S4
           obtain ⟨w5, h5⟩ : ∃ w5, w5 = w4 := ⟨_, rfl⟩
           subst h5
           first
           | (have x3 : (nb : Int) + 9 ≤ (o : Int) + 64 := by omega
              go_wp2)
           | (have x3 : ¬ (nb : Int) + 9 ≤ (o : Int) + 64 := by omega
              have r6 := l2_len b o
              have e6 : Hid (vl .u8 (l2 b o) = vl .u8 (((pad b).drop o).take 64)) := Lib.hid (by rw [lp.out.1 (by omega)])
              have o6 := Lib.hid (vl_one .u8 (l2 b o))
              generalize vl .u8 (l2 b o) = F at R6 r6 e6 o6
              go_wp2_with (first
                | refine wpList_load_mid (by rfl) 37 (.tmp 5) (by rfl) (G + 1) 0 (by rfl) F _ R6 Tryd.underlying37 rfl (by rw [r6]; exact size54) ?_
                | refine wpList_store_mid (by rfl) 37 (.tmp 4) (.tmp 50) (by rfl) G 0 F.toArray (by rfl) (by rfl) (by rw [List.size_toArray, r6]; exact T6) (by rw [List.size_toArray, r6]; exact size54) o6.out ?_)
              refine bodyPost_ret (results_one (by rfl) _ _ G 0 F _ (by rfl) (World.rangeAt_setCells_same _ _ _ _ (by rw [r6]; exact T6)) Tryd.underlying37 rfl (by rw [r6]; exact size54)) (by rfl) ?_
              exact ⟨by rw [e6.out], ⟨Lg.below_setCells (by omega) _ _ _ B6⟩⟩))
      all_goals
        rw [← l3_zero] at R6
        go_loopw [8, 37] (fun _ j wr => ∃ k : Nat, Hid (k ≤ 8) ∧ j = .int .i64 k ∧ wr.there G 0 64 ∧ wr.there (G + 1) 0 64 ∧ wr.rangeAt (G + 1) 0 (vl .u8 (l3 b o k)) ∧ Below w.heap.size w wr) (fun _ j _ => 8 - (intOf j).toNat)
        case atStart => exact ⟨0, Lib.hid (Nat.zero_le _), rfl, T6, T7, R6, B6⟩
        case round =>
          obtain ⟨k, hk, rfl, t1, t2, r2, B⟩ := hrel
          by_cases hlt : k < 8
          · obtain ⟨u, ec⟩ := Option.isSome_iff_exists.1 (t2 (56 + k) (by omega)).1
            have hf := (t2 (56 + k) (by omega)).2
            rw [Nat.zero_add] at ec hf
            have i1 : (8 : Int) * (k : Int) ≤ 56 := by omega
            have i2 : (k : Int) < 8 := by omega
            have hv : Hid ((8 : Int) * (nb : Int) / 2 ^ (56 - 8 * k) % 256 = ((8 * b.length / 256 ^ (7 - k) % 256 : Nat) : Int)) := Lib.hid (shift8 b nb k hn hlt)
            go_wp2
            go_roundw
            case rel => exact ⟨k + 1, Lib.hid (by omega), by go_num, there_setCell t1 _ _, there_setCell t2 _ _, by
              rw [hv.out, ← l3_step b o k hlt, ← vl_set]
              exact rangeAt_set r2 (56 + k) _ (by rw [l3_len]; omega), B.setCell (by show w.heap.size ≤ G + 1; omega) _⟩
            case measure => simp [intOf]; omega
          · have hk8 : k = 8 := by have := hk.out; omega
            subst hk8
            have r6 := l3_len b o 8
            have e6 : Hid (vl .u8 (l3 b o 8) = vl .u8 (((pad b).drop o).take 64)) := Lib.hid (by rw [lp.out.2 (by omega)])
            have o6 := Lib.hid (vl_one .u8 (l3 b o 8))
            generalize vl .u8 (l3 b o 8) = F at r2 r6 e6 o6
            go_wp2_with (first
              | refine wpList_load_mid (by rfl) 37 (.tmp 5) (by rfl) (G + 1) 0 (by rfl) F _ r2 Tryd.underlying37 rfl (by rw [r6]; exact size54) ?_
              | refine wpList_store_mid (by rfl) 37 (.tmp 4) (.tmp 50) (by rfl) G 0 F.toArray (by rfl) (by rfl) (by rw [List.size_toArray, r6]; exact t1) (by rw [List.size_toArray, r6]; exact size54) o6.out ?_)
            refine bodyPost_ret (results_one (by rfl) _ _ G 0 F _ (by rfl) (World.rangeAt_setCells_same _ _ _ _ (by rw [r6]; exact t1)) Tryd.underlying37 rfl (by rw [r6]; exact size54)) (by rfl) ?_
            exact ⟨by rw [e6.out], ⟨Lg.below_setCells (by omega) _ _ _ B⟩⟩
end Sp
end Go.Proofs.YtkihhflmgceckaaDoor
