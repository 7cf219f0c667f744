/- Several texts in one, each with its own word ahead. -/
import Derived.Test.YtfeahgcigmoijaaGreatDoorPkS
import Derived.Test.YtfeahgcigmoijaaGreatDoorPkA
import Derived.Laws.CopyOwn
import Derived.Deep.RegionLaw
import Derived.BigQuiet
import Derived.RangeFuncNested
import Derived.RangeFuncBound
import Derived.RangeFuncCalls
import Derived.RangeFuncLeaves
import Derived.Shelf.Abstract
import Derived.WalkKit
import Derived.OwnWalkIn
import Derived.TacticsInMore
import Derived.LoopNIn
import Derived.LoopIn
import Derived.Laws.BytesArg
import Derived.Lib.Bytealg
import Derived.ChangeKeysEq
import Derived.Laws.StructEq
/- The program's own turn of a word (package sha's rotr, math/bits.RotateLeft32). Conditions: the word fits 32 bits, the turn is one to 31. -/
namespace Go.Proofs.YtfeahgcigmoijaaGreatDoor
open Go.RowKit Go.Lib
namespace Sp
open SlR Sh
theorem or_rot {x n : Nat} (hx : x < 4294967296) (h : n ≤ 31) : (x * 2 ^ (32 - n) % 4294967296) ||| (x / 2 ^ n) = rot x n := by
  obtain ⟨e1, e2⟩ := pow_parts n h
  unfold rot
  rw [e1]
  have hm : x * 2 ^ (32 - n) % 4294967296 = x % 2 ^ n * 2 ^ (32 - n) := by
    rw [← e2, Nat.mul_comm (2 ^ n), Nat.mul_comm x, Nat.mul_mod_mul_left, Nat.mul_comm]
  have hd : x / 2 ^ n < 2 ^ (32 - n) := Nat.div_lt_of_lt_mul (by rw [e2]; exact hx)
  rw [hm, Nat.mul_comm, ← Nat.two_pow_add_eq_or_of_lt hd, Nat.add_comm]
theorem left_any (x n : Nat) (k : Int) (w : World) (hx : x < 4294967296) (hn : 1 ≤ n ∧ n ≤ 31) (hk : bits .and .u64 (IntKind.u64.wrap k) 31 = ((32 - n : Nat) : Int)) :
    Calls Tryz.prog 93 #[.int .u32 x, .int .i64 k] w fun e w' => e = .returned (.int .u32 (rot x n : Nat)) ∧ w' = w := by
  go_enter Tryz.func93, Tryz.ntmps93
  go_wp2
  go_ret
  refine ⟨congrArg (fun z => Ending.returned (Value.int .u32 z)) ?_, rfl⟩
  have e1 : 32 - (32 - n) = n := by omega
  have e2 : (x : Int) * 2 ^ (32 - n) % 4294967296 = ((x * 2 ^ (32 - n) % 4294967296 : Nat) : Int) := by rw [Int.natCast_emod, Int.natCast_mul, Int.natCast_pow]; rfl
  have e3 : (x : Int) / 2 ^ n = ((x / 2 ^ n : Nat) : Int) := by rw [Int.natCast_ediv, Int.natCast_pow]; rfl
  rw [e1, e2, e3, B3.or32 _ _ (Nat.mod_lt _ (by omega)) (Nat.lt_of_le_of_lt (Nat.div_le_self _ _) hx), or_rot hx hn.2]
theorem mask_neg (n : Nat) (hn : 1 ≤ n ∧ n ≤ 31) : bits .and .u64 (IntKind.u64.wrap (IntKind.i64.wrap (-(n : Int)))) 31 = ((32 - n : Nat) : Int) := by
  rcases (by omega : n = 1 ∨ n = 2 ∨ n = 3 ∨ n = 4 ∨ n = 5 ∨ n = 6 ∨ n = 7 ∨ n = 8 ∨ n = 9 ∨ n = 10 ∨ n = 11 ∨ n = 12 ∨ n = 13 ∨ n = 14 ∨ n = 15 ∨ n = 16 ∨ n = 17 ∨ n = 18 ∨ n = 19 ∨ n = 20 ∨ n = 21 ∨ n = 22 ∨ n = 23 ∨ n = 24 ∨ n = 25 ∨ n = 26 ∨ n = 27 ∨ n = 28 ∨ n = 29 ∨ n = 30 ∨ n = 31) with rfl | rfl | rfl | rfl | rfl | rfl | rfl | rfl | rfl | rfl | rfl | rfl | rfl | rfl | rfl | rfl | rfl | rfl | rfl | rfl | rfl | rfl | rfl | rfl | rfl | rfl | rfl | rfl | rfl | rfl | rfl <;> decide
theorem rotr_any (x n : Nat) (w : World) (hx : x < 4294967296) (hn : 1 ≤ n ∧ n ≤ 31) :
    Calls Tryz.prog 91 #[.int .u32 x, .int .i64 n] w fun e w' => e = .returned (.int .u32 (rot x n : Nat)) ∧ w' = w := by
  have c := left_any x n (IntKind.i64.wrap (-(n : Int))) w hx hn (mask_neg n hn)
  have e : IntKind.i64.wrap (-(n : Int)) = -(n : Int) := by simp [IntKind.wrap, IntKind.bits, IntKind.signed]; omega
  rw [e] at c
  go_enter Tryz.func91, Tryz.ntmps91
  go_wp2_with ((with_reducible refine c.mono ?_); rintro e w' ⟨rfl, rfl⟩)
  go_ret
  exact ⟨rfl, rfl⟩
end Sp
end Go.Proofs.YtfeahgcigmoijaaGreatDoor
/- The program's own words of a block (package sha's words). Conditions: what is handed in is 64 bytes. -/
namespace Go.Proofs.YtfeahgcigmoijaaGreatDoor
open Go.RowKit Go.Lib
namespace Sp
open SlR Sh
/-- One result, an array that lies in a cell of its own. -/
theorem results_one {P : Program} {fn : Func} {p : Tmp} {ty : TypeId} (h : fn.results = #[.cell p ty]) (tmps : Array Value) (w : World) (b o : Nat) (cs : List Value) (d : TypeDesc)
    (hp : tmps.getD p undef = .pointer (some ⟨b, o, none⟩)) (hc : w.rangeAt b o cs) (hu : P.underlying ty = some d) (hd : d.isRow = true) (hi : (P.info? ty).map (·.size) = some cs.length) :
    (results fn tmps).run P w = .ok (.agg cs.toArray) w := by
  have hp' : tmps[p]?.getD undef = .pointer (some ⟨b, o, none⟩) := by simpa using hp
  simp [results, h, hp', asAddr, run_loadVar_mid w b o ty cs d hc hu hd hi]
/-- An array's part, of one cell. -/
theorem run_index {P : Program} {t e : TypeId} {n : Nat} {cs : Array Value} {k : IntKind} {v : Value} (hu : P.underlying t = some (.array n e)) (hs : ∀ w, (sizeOf e).run P w = .ok 1 w) (ha : ∀ w, (isAgg e).run P w = .ok false w) (i : Nat) (hi : i < n) (hc : cs[i]? = some v) (w : World) :
    (Instr.index t (.agg cs) (.int k i)).run P w = .ok v w := by
  have h1 : (0 : Int) ≤ (i : Int) ∧ (i : Int) < (n : Int) := by omega
  simp [Instr.index, run_underlying hu, asIntOf, hs, part, ha, hc, Sem.run_bind, hi]
/-- A row of numbers as a row of values. -/
def vl (k : IntKind) (xs : List Nat) : List Value := xs.map fun v => Value.int k (v : Nat)
theorem vl_len (k : IntKind) (xs : List Nat) : (vl k xs).length = xs.length := by simp [vl]
theorem vl_one (k : IntKind) (xs : List Nat) : (vl k xs).toArray.all (·.oneCell') = true := all_oneCell_toArray fun v hv => by
  unfold vl at hv
  obtain ⟨a, -, rfl⟩ := List.mem_map.1 hv
  rfl
theorem vl_at (k : IntKind) (xs : List Nat) (i : Nat) (h : i < xs.length) : (vl k xs)[i]? = some (.int k (xs.getD i 0 : Nat)) := by
  unfold vl
  rw [List.getElem?_map, List.getD_eq_getElem?_getD, List.getElem?_eq_getElem h]
  rfl
theorem vl_set (k : IntKind) (xs : List Nat) (i x : Nat) : (vl k xs).set i (.int k (x : Nat)) = vl k (xs.set i x) := by
  unfold vl
  rw [List.map_set]
/-- Bytes as a word, as many as have come. -/
def pw (bs : List Nat) (j : Nat) : Nat → Nat
  | 0 => 0
  | m + 1 => pw bs j m * 256 + bs.getD (4 * j + m) 0
def pl (bs : List Nat) (i : Nat) : List Nat := (List.range 16).map fun j => pw bs j (min 4 (i - 4 * j))
theorem pw_lt {bs : List Nat} (h : B8 bs) (j : Nat) : ∀ m, pw bs j m < 256 ^ m
  | 0 => by simp [pw]
  | m + 1 => by
    have h1 := pw_lt h j m
    have h2 := h (4 * j + m)
    have h3 : (pw bs j m + 1) * 256 ≤ 256 ^ m * 256 := Nat.mul_le_mul_right 256 h1
    rw [pw, Nat.pow_succ]
    omega
theorem pw_wd (bs : List Nat) (j : Nat) : pw bs j 4 = wd bs j := by simp [pw, wd]; omega
theorem pl_at (bs : List Nat) (k q r : Nat) (hk : k = 4 * q + r) (hr : r < 4) (hq : q < 16) : (pl bs k).getD q 0 = pw bs q r := by
  have e : min 4 (k - 4 * q) = r := by omega
  unfold pl
  rw [List.getD_eq_getElem?_getD, List.getElem?_map, List.getElem?_range hq]
  simp [e]
theorem pl_step (bs : List Nat) (k q r : Nat) (hk : k = 4 * q + r) (hr : r < 4) : (pl bs k).set q (pw bs q (r + 1)) = pl bs (k + 1) := by
  refine List.ext_getElem (by simp [pl]) fun i h1 h2 => ?_
  have hi : i < 16 := by simpa [pl] using h2
  rw [List.getElem_set]
  by_cases e : q = i
  · subst e
    have e2 : min 4 (k + 1 - 4 * q) = r + 1 := by omega
    simp [pl, e2]
  · have e2 : min 4 (k + 1 - 4 * i) = min 4 (k - 4 * i) := by omega
    simp [pl, e, e2]
theorem pl_end (bs : List Nat) : pl bs 64 = wds bs 16 := by
  unfold pl wds
  refine List.map_congr_left fun j hj => ?_
  have hj := List.mem_range.1 hj
  rw [show min 4 (64 - 4 * j) = 4 by omega, pw_wd]
theorem pl_zero (bs : List Nat) : pl bs 0 = List.replicate 16 0 := by simp [pl, pw]; rfl
theorem or_byte (p x : Nat) (hp : p < 16777216) (hx : x < 256) : bits .or .u32 ((p : Int) * 256 % 4294967296) (x : Int) = ((p * 256 + x : Nat) : Int) := by
  have e : (p : Int) * 256 % 4294967296 = ((p * 256 : Nat) : Int) := by omega
  rw [e, B3.or32 _ _ (by omega) (by omega), show p * 256 = 2 ^ 8 * p by omega, Nat.two_pow_add_eq_or_of_lt (i := 8) (by omega)]
theorem pl_len (bs : List Nat) (i : Nat) : (pl bs i).length = 16 := by simp [pl]
theorem range_new (w : World) (C : Array Value) (t : TypeId) : (w.alloc (.cells C t)).rangeAt w.heap.size 0 C.toList := fun j v hv => by
  rw [Nat.zero_add, World.cell?_alloc_new]
  simpa using hv
theorem size54 : (Tryz.prog.info? 109).map (·.size) = some 64 := by kernel_rfl
theorem size41 : (Tryz.prog.info? 141).map (·.size) = some 16 := by kernel_rfl
theorem zero41 (w : World) : (zeroValue 141).run Tryz.prog w = .ok (.agg (vl .u32 (List.replicate 16 0)).toArray) w := Tryz.zeroValue141 w
set_option maxHeartbeats 3200000 in
set_option maxRecDepth 100000 in
theorem words_dev (bs : List Nat) (w : World) (hn : bs.length = 64) (hb : Hid (B8 bs)) :
    Calls Tryz.prog 89 #[.agg (vl .u8 bs).toArray] w fun e w' => e = .returned (.agg (vl .u32 (wds bs 16)).toArray) ∧ Step w w' := by
  obtain ⟨Z, hZ⟩ : ∃ Z, (vl .u32 (List.replicate 16 0)).toArray = Z := ⟨_, rfl⟩
  have hz : Hid (∀ w, (zeroValue 141).run Tryz.prog w = .ok (.agg Z) w) := Lib.hid (hZ ▸ zero41)
  have hsz : Z.size = 16 := by rw [← hZ]; rfl
  have hz0 : Hid (Z.toList = vl .u32 (pl bs 0)) := Lib.hid (by rw [← hZ, pl_zero])
  clear hZ
  obtain ⟨C, hC⟩ : ∃ C, Hid (C = vl .u8 bs) := ⟨_, Lib.hid rfl⟩
  have lC : C.length = 64 := by rw [hC.out, vl_len, hn]
  rw [← hC.out]
  go_enter Tryz.func89, Tryz.ntmps89
  have hR1 : (((w.alloc (Obj.cells C.toArray 109)).alloc (Obj.cells Z 141)).alloc (Obj.cells Z 141)).rangeAt w.heap.size 0 C := World.rangeAt_alloc (World.rangeAt_alloc (range_new w C.toArray 109) _) _
  go_wp2_with (first
    | refine Lg.wpAlloc (by rfl) 141 (by rfl) Z hz.out ?_
    | refine wpList_load_mid (by rfl) 109 (.tmp 1) (by rfl) w.heap.size 0 (by rfl) C _ hR1 Tryz.underlying109 rfl (by rw [lC]; exact size54) ?_)
  have T1 : (((w.alloc (Obj.cells C.toArray 109)).alloc (Obj.cells Z 141)).alloc (Obj.cells Z 141)).there (w.heap.size + 1) 0 16 := World.there_alloc (by have := Lg.there_new (w.alloc (Obj.cells C.toArray 109)) Z 141 16 hsz; simpa using this) _
  have T2 : (((w.alloc (Obj.cells C.toArray 109)).alloc (Obj.cells Z 141)).alloc (Obj.cells Z 141)).there (w.heap.size + 2) 0 16 := by have := Lg.there_new ((w.alloc (Obj.cells C.toArray 109)).alloc (Obj.cells Z 141)) Z 141 16 hsz; simpa using this
  have R2 : (((w.alloc (Obj.cells C.toArray 109)).alloc (Obj.cells Z 141)).alloc (Obj.cells Z 141)).rangeAt (w.heap.size + 2) 0 (vl .u32 (pl bs 0)) := by
    have := range_new ((w.alloc (Obj.cells C.toArray 109)).alloc (Obj.cells Z 141)) Z 141
    rw [hz0.out] at this
    simpa using this
  have S1 : Step w (((w.alloc (Obj.cells C.toArray 109)).alloc (Obj.cells Z 141)).alloc (Obj.cells Z 141)) := Step.of inferInstance
  clear hR1
  generalize (((w.alloc (Obj.cells C.toArray 109)).alloc (Obj.cells Z 141)).alloc (Obj.cells Z 141)) = w1 at T1 T2 R2 S1 ⊢
  generalize hG : w.heap.size = G at T1 T2 R2 ⊢
  have cC : ∀ j, j < 64 → C[j]? = some (.int .u8 (bs.getD j 0 : Nat)) := fun j hj => by rw [hC.out]; exact vl_at _ _ _ (by omega)
  go_loopw [4, 5, 7] (fun _ _ i wr => ∃ k : Nat, Hid (k ≤ 64) ∧ i = .int .i64 k ∧ wr.there (G + 1) 0 16 ∧ wr.there (G + 2) 0 16 ∧ wr.rangeAt (G + 2) 0 (vl .u32 (pl bs k)) ∧ Below w.heap.size w wr) (fun _ _ i _ => 64 - (intOf i).toNat)
  case atStart => exact ⟨0, Lib.hid (Nat.zero_le _), rfl, T1, T2, R2, S1.h⟩
  case round =>
    obtain ⟨k, hk, rfl, t1, t2, r2, B⟩ := hrel
    by_cases hlt : k < 64
    · obtain ⟨q, r, hqr, hr4, hq⟩ : ∃ q r, Hid (k = 4 * q + r) ∧ Hid (r < 4) ∧ q < 16 := ⟨k / 4, k % 4, Lib.hid (by omega), Lib.hid (by omega), by omega⟩
      have hck := cC k hlt
      have hbx := hb.out k
      have ec : wr.cell? ⟨G + 2, q, none⟩ = some (.int .u32 ((pl bs k).getD q 0 : Nat)) := by
        have := r2 q _ (vl_at _ _ q (by rw [pl_len]; exact hq))
        rw [Nat.zero_add] at this
        exact this
      have hf := (t2 q hq).2
      rw [Nat.zero_add] at hf
      have eq4 : (k : Int) / 4 = (q : Nat) := by have := hqr.out; have := hr4.out; omega
      have hp : Hid ((pl bs k).getD q 0 = pw bs q r) := Lib.hid (pl_at bs k q r hqr.out hr4.out hq)
      rw [hp.out] at ec
      generalize hxx : bs.getD k 0 = x at hck hbx
      have hxq : Hid (bs.getD k 0 = x) := Lib.hid hxx
      clear hxx
      have hxI : (x : Int) < 256 := by omega
      have pk : (k : Int) < 64 := by omega
      have hI : ∀ w, (Instr.index 109 (.agg C.toArray) (.int .i64 k)).run Tryz.prog w = .ok (.int .u8 (x : Nat)) w := run_index Tryz.underlying109 Tryz.sizeOf5 Tryz.isAgg5 k hlt (by rw [List.getElem?_toArray]; exact hck)
      have hv : bits .or .u32 ((pw bs q r : Nat) * 256 % 4294967296) (x : Nat) = ((pw bs q (r + 1) : Nat) : Int) := by
        have h3 : 256 ^ r ≤ 256 ^ 3 := Nat.pow_le_pow_right (by omega) (by have := hr4.out; omega)
        have hx2 : Hid (bs.getD (4 * q + r) 0 = x) := by rw [← hqr.out]; exact hxq
        rw [or_byte _ _ (Nat.lt_of_lt_of_le (pw_lt hb.out q r) h3) hbx, pw, hx2.out]
      have hv2 := Lib.hid hv
      clear hv
      go_wp2
      go_roundw
      case rel => exact ⟨k + 1, Lib.hid (by omega), by go_num, there_setCell t1 _ _, there_setCell t2 _ _, by
        rw [hv2.out, ← pl_step bs k q r hqr.out hr4.out, ← vl_set]
        exact rangeAt_set r2 q _ (by rw [vl_len, pl_len]; exact hq), B.setCell (by show w.heap.size ≤ G + 1 + 1; omega) _⟩
      case measure => simp [intOf]; omega
    · have hkn : k = 64 := by have := hk.out; omega
      subst hkn
      have lD : (vl .u32 (pl bs 64)).length = 16 := by rw [vl_len, pl_len]
      have hone := Lib.hid (vl_one .u32 (pl bs 64))
      have eD : Hid (vl .u32 (pl bs 64) = vl .u32 (wds bs 16)) := Lib.hid (by rw [pl_end])
      generalize vl .u32 (pl bs 64) = D at r2 lD hone eD
      go_wp2_with (first
        | refine wpList_load_mid (by rfl) 141 (.tmp 3) (by rfl) (G + 2) 0 (by rfl) D _ r2 Tryz.underlying141 rfl (by rw [lD]; exact size41) ?_
        | refine wpList_store_mid (by rfl) 141 (.tmp 2) (.tmp 23) (by rfl) (G + 1) 0 D.toArray (by rfl) (by rfl) (by rw [List.size_toArray, lD]; exact t1) (by rw [List.size_toArray, lD]; exact size41) hone.out ?_)
      refine bodyPost_ret (results_one (by rfl) _ _ (G + 1) 0 D _ (by rfl) (World.rangeAt_setCells_same _ _ _ _ (by rw [lD]; exact t1)) Tryz.underlying141 rfl (by rw [lD]; exact size41)) (by rfl) ?_
      exact ⟨by rw [eD.out], ⟨Lg.below_setCells (by omega) _ _ _ B⟩⟩
end Sp
end Go.Proofs.YtfeahgcigmoijaaGreatDoor
/- The program's own blocks (package sha's block). Conditions: what is handed in reads as bytes, and the place is a block's. -/
namespace Go.Proofs.YtfeahgcigmoijaaGreatDoor
open Go.RowKit Go.Lib
namespace Sp
open SlR Sh
/-- The byte at a place of what gets behind bytes. -/
def b1 (b : List Nat) (k : Nat) : Nat := if k < b.length then b.getD k 0 else 0
def b2 (b : List Nat) (k : Nat) : Nat := if k = b.length then 128 else b1 b k
def l1 (b : List Nat) (o : Nat) : List Nat := (List.range 64).map fun i => b1 b (o + i)
def l2 (b : List Nat) (o : Nat) : List Nat := (List.range 64).map fun i => b2 b (o + i)
def l3 (b : List Nat) (o j : Nat) : List Nat := (List.range 64).map fun i => if 56 ≤ i ∧ i < 56 + j then 8 * b.length / 256 ^ (63 - i) % 256 else b2 b (o + i)
theorem zero54 (w : World) : (zeroValue 109).run Tryz.prog w = .ok (.agg (vl .u8 (List.replicate 64 0)).toArray) w := Tryz.zeroValue109 w
theorem D_len (b : List Nat) (o : Nat) : (vl .u8 ((b.drop o).take 64)).length = min (b.length - o) 64 := by
  rw [vl_len, List.length_take, List.length_drop, Nat.min_comm]
theorem l1_eq (b : List Nat) (o : Nat) : splice (vl .u8 (List.replicate 64 0)) 0 (vl .u8 ((b.drop o).take 64)) = vl .u8 (l1 b o) := by
  have e : splice (List.replicate 64 0) 0 ((b.drop o).take 64) = l1 b o := by
    refine List.ext_getElem (by simp [splice, l1]; omega) fun i h1 h2 => ?_
    have hi : i < 64 := by simpa [l1] using h2
    simp only [splice, l1, List.getElem_map, List.getElem_range, List.take_zero, List.nil_append, Nat.zero_add, b1]
    rw [List.getElem_append]
    split
    · rename_i h
      rw [List.length_take, List.length_drop] at h
      rw [if_pos (by omega), List.getElem_take, List.getElem_drop, List.getD_eq_getElem?_getD, List.getElem?_eq_getElem (by omega)]
      rfl
    · rename_i h
      rw [List.length_take, List.length_drop] at h
      rw [if_neg (by omega), List.getElem_drop, List.getElem_replicate]
  rw [← e]
  unfold splice vl
  simp
theorem l2_set (b : List Nat) (o : Nat) (h : o ≤ b.length) (h2 : b.length < o + 64) : (l1 b o).set (b.length - o) 128 = l2 b o := by
  refine List.ext_getElem (by simp [l1, l2]) fun i h1 h2 => ?_
  have hi : i < 64 := by simpa [l2] using h2
  rw [List.getElem_set]
  by_cases e : b.length - o = i
  · subst e
    simp [l2, b2, show o + (b.length - o) = b.length by omega]
  · have e2 : ¬ o + i = b.length := by omega
    simp [l1, l2, e, b2, e2]
theorem l2_same (b : List Nat) (o : Nat) (h : b.length < o ∨ o + 64 ≤ b.length) : l1 b o = l2 b o := by
  refine List.ext_getElem (by simp [l1, l2]) fun i h1 h2 => ?_
  have hi : i < 64 := by simpa [l2] using h2
  have e2 : ¬ o + i = b.length := by omega
  simp [l1, l2, b2, e2]
theorem l3_zero (b : List Nat) (o : Nat) : l3 b o 0 = l2 b o := by
  refine List.ext_getElem (by simp [l3, l2]) fun i h1 h2 => ?_
  have e : ¬ (56 ≤ i ∧ i < 56 + 0) := by omega
  simp [l3, l2]
  omega
theorem l3_step (b : List Nat) (o j : Nat) (hj : j < 8) : (l3 b o j).set (56 + j) (8 * b.length / 256 ^ (7 - j) % 256) = l3 b o (j + 1) := by
  refine List.ext_getElem (by simp [l3]) fun i h1 h2 => ?_
  have hi : i < 64 := by simpa [l3] using h2
  rw [List.getElem_set]
  by_cases e : 56 + j = i
  · subst e
    simp [l3, show 63 - (56 + j) = 7 - j by omega]
  · have e2 : (56 ≤ i ∧ i < 56 + (j + 1)) ↔ (56 ≤ i ∧ i < 56 + j) := by omega
    simp only [l3, e, if_false, List.getElem_map, List.getElem_range]
    by_cases q : 56 ≤ i ∧ i < 56 + j
    · rw [if_pos q, if_pos (e2.2 q)]
    · rw [if_neg q, if_neg (fun h => q (e2.1 h))]
theorem l_len (b : List Nat) (o j : Nat) : (l1 b o).length = 64 ∧ (l2 b o).length = 64 ∧ (l3 b o j).length = 64 := by simp [l1, l2, l3]
theorem tail8 (x t : Nat) (hx : x < 4294967296) (ht : t < 8) : (bys [x / 4294967296, x % 4294967296])[t]? = some (x / 256 ^ (7 - t) % 256) := by
  rcases (by omega : t = 0 ∨ t = 1 ∨ t = 2 ∨ t = 3 ∨ t = 4 ∨ t = 5 ∨ t = 6 ∨ t = 7) with rfl | rfl | rfl | rfl | rfl | rfl | rfl | rfl <;> simp [bys, by4] <;> omega
theorem pad_at (b : List Nat) (k : Nat) (hb : b.length ≤ 100000) (hk : k < (pad b).length) : (pad b)[k]? = some (if (pad b).length ≤ k + 8 then 8 * b.length / 256 ^ ((pad b).length - 1 - k) % 256 else b2 b k) := by
  have hl := pad_len b
  by_cases h : (pad b).length ≤ k + 8
  · rw [if_pos h]
    have h8 : b.length + 1 + zn b.length ≤ k := by omega
    have hq : (b ++ [128] ++ List.replicate (zn b.length) 0).length = b.length + 1 + zn b.length := by
      simp
      omega
    have ht : k - (b.length + 1 + zn b.length) < 8 := by omega
    have e : 7 - (k - (b.length + 1 + zn b.length)) = (pad b).length - 1 - k := by omega
    rw [← e]
    unfold pad
    rw [List.getElem?_append_right (by simp; omega), hq, Nat.mul_comm b.length 8, tail8 _ _ (by omega) ht]
  · rw [if_neg h]
    have h8 : k < b.length + 1 + zn b.length := by omega
    unfold pad
    rw [List.getElem?_append_left (by simp; omega)]
    unfold b2 b1
    by_cases h1 : k < b.length
    · rw [if_neg (by omega), if_pos h1, List.append_assoc, List.getElem?_append_left h1, List.getD_eq_getElem?_getD, List.getElem?_eq_getElem h1]
      rfl
    · rw [if_neg h1]
      by_cases h2 : k = b.length
      · subst h2
        rw [if_pos rfl, List.append_assoc, List.getElem?_append_right (Nat.le_refl _), Nat.sub_self]
        rfl
      · rw [if_neg h2, List.getElem?_append_right (by simp; omega), List.getElem?_replicate]
        simp
        omega
theorem l_pad (b : List Nat) (o : Nat) (hb : b.length ≤ 100000) (ho : o < b.length + 9) (ho2 : o % 64 = 0) : (o + 64 < b.length + 9 → l2 b o = ((pad b).drop o).take 64) ∧ (b.length + 9 ≤ o + 64 → l3 b o 8 = ((pad b).drop o).take 64) := by
  have hl := pad_len b
  have hm := pad_mod b
  have hz : zn b.length < 64 := by unfold zn; omega
  constructor
  · intro h
    refine List.ext_getElem? fun i => ?_
    rw [List.getElem?_take, List.getElem?_drop]
    by_cases hi : i < 64
    · rw [if_pos hi, pad_at b (o + i) hb (by omega), if_neg (by omega)]
      simp [l2, hi]
    · rw [if_neg hi, List.getElem?_eq_none (by simp [l2]; omega)]
  · intro h
    refine List.ext_getElem? fun i => ?_
    rw [List.getElem?_take, List.getElem?_drop]
    by_cases hi : i < 64
    · have e : (pad b).length - 1 - (o + i) = 63 - i := by omega
      have e2 : (pad b).length ≤ o + i + 8 ↔ 56 ≤ i := by omega
      rw [if_pos hi, pad_at b (o + i) hb (by omega), e]
      by_cases h5 : 56 ≤ i
      · rw [if_pos (e2.2 h5)]
        simp [l3, hi, h5]
      · rw [if_neg (fun q => h5 (e2.1 q))]
        simp [l3, hi, h5]
    · rw [if_neg hi, List.getElem?_eq_none (by simp [l3]; omega)]
theorem l2_len (b : List Nat) (o : Nat) : (vl .u8 (l2 b o)).length = 64 := by rw [vl_len]; exact (l_len b o 0).2.1
theorem l3_len (b : List Nat) (o j : Nat) : (vl .u8 (l3 b o j)).length = 64 := by rw [vl_len]; exact (l_len b o j).2.2
theorem shift8 (b : List Nat) (nb k : Nat) (hn : b.length = nb) (hk : k < 8) : (8 : Int) * (nb : Int) / 2 ^ (56 - 8 * k) % 256 = ((8 * b.length / 256 ^ (7 - k) % 256 : Nat) : Int) := by
  have e : (2 : Nat) ^ (56 - 8 * k) = 256 ^ (7 - k) := by rw [show 56 - 8 * k = 8 * (7 - k) by omega, Nat.pow_mul]
  rw [hn, ← e, Int.natCast_emod, Int.natCast_ediv, Int.natCast_mul, Int.natCast_pow]
  rfl
theorem there_under {w w' : World} {B g n : Nat} (h : w.there g 0 n) (hb : Below B w w') (hg : g < B) : w'.there g 0 n := fun j hj => by
  rw [hb.cell (p := ⟨g, 0 + j, none⟩) hg, hb.frozen (p := ⟨g, 0 + j, none⟩) hg]
  exact h j hj
theorem range_block {w : World} {g : Nat} {cs : List Value} {t : TypeId} (h : w.heap[g]? = some (.cells cs.toArray t (0, 0))) : w.rangeAt g 0 cs := by
  have := World.rangeAt_of_block h 0 cs.length
  simpa using this
theorem there_block {w : World} {g n : Nat} {cs : List Value} {t : TypeId} (h : w.heap[g]? = some (.cells cs.toArray t (0, 0))) (hn : cs.length = n) : w.there g 0 n := fun j hj => by
  refine ⟨?_, ?_⟩
  · have := range_block h j _ (List.getElem?_eq_getElem (by omega))
    rw [this]
    rfl
  · have h2 : w.frozen? ⟨g, 0 + j, none⟩ = decide (0 ≤ 0 + j ∧ 0 + j < 0) := by
      simp [World.frozen?, h]
    rw [h2]
    simp
set_option maxHeartbeats 3200000 in
set_option maxRecDepth 100000 in
theorem block_dev (A : Option Addr) (c nb o : Nat) (b : List Nat) (w : World) (hn : b.length = nb) (hn2 : nb ≤ 100000) (hr : R8 w A b) (hc : nb ≤ c) (ho : o < nb + 9) (ho2 : Hid (o % 64 = 0)) :
    Calls Tryz.prog 90 #[.slice A nb c, .int .i64 o] w fun e w' => e = .returned (.agg (vl .u8 (((pad b).drop o).take 64)).toArray) ∧ Step w w' := by
  obtain ⟨Z, hZ⟩ : ∃ Z, (vl .u8 (List.replicate 64 0)) = Z := ⟨_, rfl⟩
  have hz : Hid (∀ w, (zeroValue 109).run Tryz.prog w = .ok (.agg Z.toArray) w) := Lib.hid (hZ ▸ zero54)
  have hsz : Z.length = 64 := by rw [← hZ]; rfl
  have hsz2 : Z.toArray.size = 64 := hsz
  have hzz : Hid (Z = vl .u8 (List.replicate 64 0)) := Lib.hid hZ.symm
  clear hZ
  obtain ⟨m, hm⟩ : ∃ m, Hid (m = min (nb - o) 64) := ⟨_, Lib.hid rfl⟩
  obtain ⟨D, hD⟩ : ∃ D, Hid (D = vl .u8 ((b.drop o).take 64)) := ⟨_, Lib.hid rfl⟩
  have lD : D.length = m := by rw [hD.out, D_len, hn, hm.out]
  have hD1 : Hid (∀ v ∈ D, v.oneCell' = true) := Lib.hid fun v hv => by
    rw [hD.out] at hv
    unfold vl at hv
    obtain ⟨a, -, rfl⟩ := List.mem_map.1 hv
    rfl
  have hSp : Hid (splice Z 0 D = vl .u8 (l1 b o)) := Lib.hid (by rw [hzz.out, hD.out, l1_eq])
  have pI : (nb : Int) ≤ 100000 := by omega
  have pI2 : (nb : Int) ≤ (c : Int) := by omega
  have hg2 : Hid ((((w.alloc (Obj.cells Z.toArray 109)).alloc (Obj.cells Z.toArray 109)).drew).heap[w.heap.size + 1]? = some (.cells Z.toArray 109 (0, 0))) := Lib.hid (heap_alloc2_new w _ _)
  have T2 : Hid ((((w.alloc (Obj.cells Z.toArray 109)).alloc (Obj.cells Z.toArray 109)).drew).there w.heap.size 0 64) := Lib.hid ((World.there_drew _ _ _ _).2 (World.there_alloc (Lg.there_new w Z.toArray 109 64 hsz2) _))
  have B2 : Hid (Below w.heap.size w (((w.alloc (Obj.cells Z.toArray 109)).alloc (Obj.cells Z.toArray 109)).drew)) := Lib.hid (inferInstance : Ext w (((w.alloc (Obj.cells Z.toArray 109)).alloc (Obj.cells Z.toArray 109)).drew)).h
  have src : Hid (0 < D.length → ∃ ad : Addr, A = some ad ∧ ∀ j v, D[j]? = some v → (((w.alloc (Obj.cells Z.toArray 109)).alloc (Obj.cells Z.toArray 109)).drew).cell? ((ad.add o).add j) = some v) := Lib.hid fun h => by
    obtain ⟨ad, hA, _, _⟩ := Row.atN hr (j := o) (by have := hm.out; omega)
    refine ⟨ad, hA, fun j v hv => ?_⟩
    have hj : j < D.length := (List.getElem?_eq_some_iff.1 hv).1
    have hoj : o + j < b.length := by have := hm.out; omega
    obtain ⟨_, e, hl, hcl⟩ := Row.atN hr (j := o + j) hoj
    rw [hA] at e
    cases e
    have e2 : (ad.add o).add j = ad.add (o + j) := by
      unfold Addr.add
      split <;> split <;> split <;> simp_all <;> omega
    rw [e2, B2.out.cell (by rw [blockAdd]; exact hl), hcl]
    rw [hD.out, vl_at _ _ _ (by rw [hD.out, vl_len] at hj; exact hj)] at hv
    rw [← hv, List.getD_eq_getElem?_getD, List.getD_eq_getElem?_getD, List.getElem?_take, if_pos (by have := hm.out; omega), List.getElem?_drop]
  have cs : (nb < o ∧ c = nb) ∨ (nb < o ∧ ¬ c = nb) ∨ (¬ nb < o ∧ c = o ∧ (o : Int) ≤ nb ∧ o ≤ nb ∧ (o : Int) ≤ c) ∨ (¬ nb < o ∧ ¬ c = o ∧ (o : Int) ≤ nb ∧ o ≤ nb ∧ (o : Int) ≤ c) := by omega
  have cs2 : Hid ((m = 64 ∧ o + 64 ≤ nb) ∨ (m < 64 ∧ o ≤ nb ∧ Hid (m = nb - o)) ∨ nb < o) := Lib.hid (by
    rcases (by have := hm.out; omega : (m = 64 ∧ o + 64 ≤ nb) ∨ (m < 64 ∧ o ≤ nb ∧ m = nb - o) ∨ nb < o) with h | ⟨h1, h2, h3⟩ | h
    · exact .inl h
    · exact .inr (.inl ⟨h1, h2, Lib.hid h3⟩)
    · exact .inr (.inr h))
  have lp := Lib.hid (l_pad b o (by omega) (by omega) ho2.out)
  clear hr hD
  go_enter Tryz.func90, Tryz.ntmps90
  go_wp2_with (first
    | refine Lg.wpAlloc (by rfl) 109 (by rfl) Z.toArray hz.out ?_)
  rcases cs with ⟨k1, k2⟩ | ⟨k1, k2⟩ | ⟨k1, k2, k3, k4, k5⟩ | ⟨k1, k2, k3, k4, k5⟩
  all_goals
    go_region_held3 (fun w' => Step w w')
      (exact Step.of inferInstance)
      ((refine step_copy_splice rfl (.tmp 9) (.tmp 15) 61 61 rfl 5 Tryz.underlying61 (by kernel_rfl) _ _ 64 64 _ _ rfl rfl (w.heap.size + 1) 0 Z 109 hg2.out D (by first | (rw [lD]; exact hm.out) | (rw [lD, hm.out]; simp; omega)) (fun h => ⟨rfl, by first | (obtain ⟨ad, rfl, h2⟩ := src.out h; exact ⟨_, rfl, h2⟩) | (have := hm.out; omega)⟩) (by rw [lD, hm.out, hsz]; omega) hD1.out (w.heap.size + 1) _ (Below.refl _ _) (by omega) ?_; intro w4 hg4 hb4; have S4 : Step w w4 := ⟨B2.out.trans (hb4.mono (by omega))⟩))
  all_goals
    clear src hD1 hz
    have T4 : w4.there w.heap.size 0 64 := there_under T2.out hb4 (by omega)
    have lS : (splice Z 0 D).length = 64 := by rw [hSp.out, vl_len]; exact (l_len b o 0).1
    have T5 : w4.there (w.heap.size + 1) 0 64 := there_block hg4.out lS
    have R5 := range_block hg4.out
    rw [hSp.out] at R5
    clear hg4 hb4 T2 hg2 B2 hSp lS
    generalize hG : w.heap.size = G at T4 T5 R5 ⊢
    by_cases X : nb + 9 ≤ o + 64
    all_goals
      have x1 : IntKind.i64.wrap ((o : Int) + 64) = (o : Int) + 64 := by simp [IntKind.wrap, IntKind.bits, IntKind.signed]; omega
      have x2 : IntKind.i64.wrap ((nb : Int) + 9) = (nb : Int) + 9 := by simp [IntKind.wrap, IntKind.bits, IntKind.signed]; omega
      rcases cs2.out with ⟨j1, j2⟩ | ⟨j1, j2, j3⟩ | j1
      all_goals
        first
        | (exfalso; omega)
        | (have hst : m < 64 ∧ o ≤ nb := ⟨j1, j2⟩
           obtain ⟨u, ec⟩ := Option.isSome_iff_exists.1 (T5 m j1).1
           have hf := (T5 m j1).2
           rw [Nat.zero_add] at ec hf
           have R6 : (w4.setCell ⟨G + 1, m, none⟩ (.int .u8 128)).rangeAt (G + 1) 0 (vl .u8 (l2 b o)) := by
             have := rangeAt_set R5 m (.int .u8 (128 : Nat)) (by rw [vl_len]; exact Nat.lt_of_lt_of_eq j1 (l_len b o 0).1.symm)
             rw [vl_set] at this
             have e := l2_set b o (by omega) (by have := j3.out; omega)
             rw [hn, ← j3.out] at e
             rw [← e]
             exact this
           have T6 := there_setCell T4 ⟨G + 1, m, none⟩ (.int .u8 128)
           have T7 := there_setCell T5 ⟨G + 1, m, none⟩ (.int .u8 128)
           have B6 : Below w.heap.size w (w4.setCell ⟨G + 1, m, none⟩ (.int .u8 128)) := S4.h.setCell (by show w.heap.size ≤ G + 1; omega) _
           first
           | (have x3 : (nb : Int) + 9 ≤ (o : Int) + 64 := by omega
              go_wp2
              clear R5 T4 T5 S4 ec hf
              generalize w4.setCell ⟨G + 1, m, none⟩ (.int .u8 128) = w5 at R6 T6 T7 B6 ⊢)
           | (have x3 : ¬ (nb : Int) + 9 ≤ (o : Int) + 64 := by omega
              have r6 := l2_len b o
              have e6 : Hid (vl .u8 (l2 b o) = vl .u8 (((pad b).drop o).take 64)) := Lib.hid (by rw [lp.out.1 (by omega)])
              have o6 := Lib.hid (vl_one .u8 (l2 b o))
              generalize vl .u8 (l2 b o) = F at R6 r6 e6 o6
              go_wp2_with (first
                | refine wpList_load_mid (by rfl) 109 (.tmp 5) (by rfl) (G + 1) 0 (by rfl) F _ R6 Tryz.underlying109 rfl (by rw [r6]; exact size54) ?_
                | refine wpList_store_mid (by rfl) 109 (.tmp 4) (.tmp 50) (by rfl) G 0 F.toArray (by rfl) (by rfl) (by rw [List.size_toArray, r6]; exact T6) (by rw [List.size_toArray, r6]; exact size54) o6.out ?_)
              refine bodyPost_ret (results_one (by rfl) _ _ G 0 F _ (by rfl) (World.rangeAt_setCells_same _ _ _ _ (by rw [r6]; exact T6)) Tryz.underlying109 rfl (by rw [r6]; exact size54)) (by rfl) ?_
              exact ⟨by rw [e6.out], ⟨Lg.below_setCells (by omega) _ _ _ B6⟩⟩))
        | (have hst : ¬ (m < 64 ∧ o ≤ nb) := by omega
           have R6 := R5
           rw [l2_same b o (by omega)] at R6
           have T6 := T4
           have T7 := T5
           have B6 := S4.h
           have y1 : ¬ (m : Int) < 64 ∨ ¬ (o : Int) ≤ (nb : Int) := by omega
           clear R5 T4 T5 S4
           obtain ⟨w5, h5⟩ : ∃ w5, w5 = w4 := ⟨_, rfl⟩
           subst h5
           first
           | (have x3 : (nb : Int) + 9 ≤ (o : Int) + 64 := by omega
              go_wp2)
           | (have x3 : ¬ (nb : Int) + 9 ≤ (o : Int) + 64 := by omega
              have r6 := l2_len b o
              have e6 : Hid (vl .u8 (l2 b o) = vl .u8 (((pad b).drop o).take 64)) := Lib.hid (by rw [lp.out.1 (by omega)])
              have o6 := Lib.hid (vl_one .u8 (l2 b o))
              generalize vl .u8 (l2 b o) = F at R6 r6 e6 o6
              go_wp2_with (first
                | refine wpList_load_mid (by rfl) 109 (.tmp 5) (by rfl) (G + 1) 0 (by rfl) F _ R6 Tryz.underlying109 rfl (by rw [r6]; exact size54) ?_
                | refine wpList_store_mid (by rfl) 109 (.tmp 4) (.tmp 50) (by rfl) G 0 F.toArray (by rfl) (by rfl) (by rw [List.size_toArray, r6]; exact T6) (by rw [List.size_toArray, r6]; exact size54) o6.out ?_)
              refine bodyPost_ret (results_one (by rfl) _ _ G 0 F _ (by rfl) (World.rangeAt_setCells_same _ _ _ _ (by rw [r6]; exact T6)) Tryz.underlying109 rfl (by rw [r6]; exact size54)) (by rfl) ?_
              exact ⟨by rw [e6.out], ⟨Lg.below_setCells (by omega) _ _ _ B6⟩⟩))
      all_goals
        rw [← l3_zero] at R6
        go_loopw [8, 37] (fun _ j wr => ∃ k : Nat, Hid (k ≤ 8) ∧ j = .int .i64 k ∧ wr.there G 0 64 ∧ wr.there (G + 1) 0 64 ∧ wr.rangeAt (G + 1) 0 (vl .u8 (l3 b o k)) ∧ Below w.heap.size w wr) (fun _ j _ => 8 - (intOf j).toNat)
        case atStart => exact ⟨0, Lib.hid (Nat.zero_le _), rfl, T6, T7, R6, B6⟩
        case round =>
          obtain ⟨k, hk, rfl, t1, t2, r2, B⟩ := hrel
          by_cases hlt : k < 8
          · obtain ⟨u, ec⟩ := Option.isSome_iff_exists.1 (t2 (56 + k) (by omega)).1
            have hf := (t2 (56 + k) (by omega)).2
            rw [Nat.zero_add] at ec hf
            have i1 : (8 : Int) * (k : Int) ≤ 56 := by omega
            have i2 : (k : Int) < 8 := by omega
            have hv : Hid ((8 : Int) * (nb : Int) / 2 ^ (56 - 8 * k) % 256 = ((8 * b.length / 256 ^ (7 - k) % 256 : Nat) : Int)) := Lib.hid (shift8 b nb k hn hlt)
            go_wp2
            go_roundw
            case rel => exact ⟨k + 1, Lib.hid (by omega), by go_num, there_setCell t1 _ _, there_setCell t2 _ _, by
              rw [hv.out, ← l3_step b o k hlt, ← vl_set]
              exact rangeAt_set r2 (56 + k) _ (by rw [l3_len]; omega), B.setCell (by show w.heap.size ≤ G + 1; omega) _⟩
            case measure => simp [intOf]; omega
          · have hk8 : k = 8 := by have := hk.out; omega
            subst hk8
            have r6 := l3_len b o 8
            have e6 : Hid (vl .u8 (l3 b o 8) = vl .u8 (((pad b).drop o).take 64)) := Lib.hid (by rw [lp.out.2 (by omega)])
            have o6 := Lib.hid (vl_one .u8 (l3 b o 8))
            generalize vl .u8 (l3 b o 8) = F at r2 r6 e6 o6
            go_wp2_with (first
              | refine wpList_load_mid (by rfl) 109 (.tmp 5) (by rfl) (G + 1) 0 (by rfl) F _ r2 Tryz.underlying109 rfl (by rw [r6]; exact size54) ?_
              | refine wpList_store_mid (by rfl) 109 (.tmp 4) (.tmp 50) (by rfl) G 0 F.toArray (by rfl) (by rfl) (by rw [List.size_toArray, r6]; exact t1) (by rw [List.size_toArray, r6]; exact size54) o6.out ?_)
            refine bodyPost_ret (results_one (by rfl) _ _ G 0 F _ (by rfl) (World.rangeAt_setCells_same _ _ _ _ (by rw [r6]; exact t1)) Tryz.underlying109 rfl (by rw [r6]; exact size54)) (by rfl) ?_
            exact ⟨by rw [e6.out], ⟨Lg.below_setCells (by omega) _ _ _ B⟩⟩
end Sp
end Go.Proofs.YtfeahgcigmoijaaGreatDoor
/- The program's own spread of a block's words (package sha's spread). Conditions: sixteen words. -/
namespace Go.Proofs.YtfeahgcigmoijaaGreatDoor
open Go.RowKit Go.Lib
namespace Sp
open SlR Sh
theorem e1_form (y : Nat) (h : y < 4294967296) : bits .xor .u32 (bits .xor .u32 (rot y 17 : Nat) (rot y 19 : Nat)) ((y : Int) / 1024) = ((e1 y : Nat) : Int) := by
  have h1 := rot_lt h (show 17 ≤ 31 by omega)
  have h2 := rot_lt h (show 19 ≤ 31 by omega)
  rw [B3.xor32 _ _ h1 h2, show (y : Int) / 1024 = ((y / 1024 : Nat) : Int) by omega, B3.xor32 _ _ (B3.xor_lt h1 h2) (by omega)]
  rfl
theorem e0_form (y : Nat) (h : y < 4294967296) : bits .xor .u32 (bits .xor .u32 (rot y 7 : Nat) (rot y 18 : Nat)) ((y : Int) / 8) = ((e0 y : Nat) : Int) := by
  have h1 := rot_lt h (show 7 ≤ 31 by omega)
  have h2 := rot_lt h (show 18 ≤ 31 by omega)
  rw [B3.xor32 _ _ h1 h2, show (y : Int) / 8 = ((y / 8 : Nat) : Int) by omega, B3.xor32 _ _ (B3.xor_lt h1 h2) (by omega)]
  rfl
theorem zero43 (w : World) : (zeroValue 143).run Tryz.prog w = .ok (.agg (vl .u32 (List.replicate 64 0)).toArray) w := Tryz.zeroValue143 w
theorem size43 : (Tryz.prog.info? 143).map (·.size) = some 64 := by kernel_rfl
/-- The words so far, and zeros behind them. -/
def sl (V : List Nat) (k : Nat) : List Nat := ext V k ++ List.replicate (48 - k) 0
theorem sl_len (V : List Nat) (k : Nat) (hV : V.length = 16) (hk : k ≤ 48) : (vl .u32 (sl V k)).length = 64 := by
  rw [vl_len, sl, List.length_append, ext_len, List.length_replicate]
  omega
theorem sl_zero (V : List Nat) (hV : V.length = 16) : splice (vl .u32 (List.replicate 64 0)) 0 (vl .u32 V) = vl .u32 (sl V 0) := by
  unfold splice sl vl
  rw [List.take_zero, List.nil_append, List.length_map, hV, List.map_append, ← List.map_drop, List.drop_replicate]
  rfl
theorem sl_step (V : List Nat) (k : Nat) (hV : V.length = 16) (hk : k < 48) : (sl V k).set (16 + k) (nx (ext V k)) = sl V (k + 1) := by
  have l : (ext V k).length = 16 + k := by rw [ext_len, hV]
  unfold sl
  rw [List.set_append_right _ _ (by omega), l, Nat.sub_self, show 48 - k = (48 - (k + 1)) + 1 by omega, List.replicate_succ, List.set_cons_zero, ext]
  simp
theorem sl_at (V : List Nat) (k j : Nat) (hj : j < (ext V k).length) : (sl V k).getD j 0 = (ext V k).getD j 0 := by
  unfold sl
  rw [List.getD_eq_getElem?_getD, List.getD_eq_getElem?_getD, List.getElem?_append_left hj]
theorem sl_end (V : List Nat) : sl V 48 = ext V 48 := by simp [sl]
set_option maxHeartbeats 3200000 in
set_option maxRecDepth 100000 in
theorem spread_dev (V : List Nat) (w : World) (hV : V.length = 16) (hb : Hid (B32 V)) :
    Calls Tryz.prog 86 #[.agg (vl .u32 V).toArray] w fun e w' => e = .returned (.agg (vl .u32 (ext V 48)).toArray) ∧ Step w w' := by
  obtain ⟨Z, hZ⟩ : ∃ Z, (vl .u32 (List.replicate 64 0)) = Z := ⟨_, rfl⟩
  have hz : Hid (∀ w, (zeroValue 143).run Tryz.prog w = .ok (.agg Z.toArray) w) := Lib.hid (hZ ▸ zero43)
  have hsz : Z.length = 64 := by rw [← hZ]; rfl
  have hsz2 : Z.toArray.size = 64 := hsz
  have hzz : Hid (Z = vl .u32 (List.replicate 64 0)) := Lib.hid hZ.symm
  clear hZ
  obtain ⟨C, hC⟩ : ∃ C, Hid (C = vl .u32 V) := ⟨_, Lib.hid rfl⟩
  have lC : C.length = 16 := by rw [hC.out, vl_len, hV]
  have hC1 : Hid (∀ v ∈ C, v.oneCell' = true) := Lib.hid fun v hv => by
    rw [hC.out] at hv
    unfold vl at hv
    obtain ⟨a, -, rfl⟩ := List.mem_map.1 hv
    rfl
  have hSp : Hid (splice Z 0 C = vl .u32 (sl V 0)) := Lib.hid (by rw [hzz.out, hC.out, sl_zero V hV])
  rw [← hC.out]
  obtain ⟨w3, h3⟩ : ∃ w3, w3 = ((((w.alloc (Obj.cells C.toArray 141)).alloc (Obj.cells Z.toArray 143)).alloc (Obj.cells Z.toArray 143)).drew) := ⟨_, rfl⟩
  have hg3 : Hid (w3.heap[w.heap.size + 2]? = some (.cells Z.toArray 143 (0, 0))) := Lib.hid (by
    rw [h3]
    have := heap_alloc2_new (w.alloc (Obj.cells C.toArray 141)) (Obj.cells Z.toArray 143) (Obj.cells Z.toArray 143)
    have e : (w.alloc (Obj.cells C.toArray 141)).heap.size + 1 = w.heap.size + 2 := by simp
    rw [e] at this
    exact this)
  have hg1 : Hid (∀ j v, C[j]? = some v → w3.cell? ((⟨w.heap.size, 0, none⟩ : Addr).add j) = some v) := Lib.hid fun j v hv => by
    have R := World.rangeAt_alloc (World.rangeAt_alloc (range_new w C.toArray 141) (Obj.cells Z.toArray 143)) (Obj.cells Z.toArray 143)
    have := (World.rangeAt_drew _ _ _ _).2 R
    rw [h3, Addr.add_mid]
    exact this j v hv
  have T3 : Hid (w3.there (w.heap.size + 1) 0 64) := Lib.hid (by
    rw [h3]
    refine (World.there_drew _ _ _ _).2 (World.there_alloc ?_ _)
    have := Lg.there_new (w.alloc (Obj.cells C.toArray 141)) Z.toArray 143 64 hsz2
    simpa using this)
  have B3' : Hid (Below w.heap.size w w3) := Lib.hid (by
    rw [h3]
    exact (inferInstance : Ext w ((((w.alloc (Obj.cells C.toArray 141)).alloc (Obj.cells Z.toArray 143)).alloc (Obj.cells Z.toArray 143)).drew)).h)
  have hh3 := Lib.hid h3.symm
  clear h3
  go_enter Tryz.func86, Tryz.ntmps86
  go_wp2_with (first
    | refine Lg.wpAlloc (by rfl) 143 (by rfl) Z.toArray hz.out ?_)
  go_region_held3 (fun w' => Step w w')
    (exact Step.of inferInstance)
    ((rw [hh3.out]; refine step_copy_splice rfl (.tmp 7) (.tmp 8) 22 22 rfl 51 Tryz.underlying22 (by kernel_rfl) _ _ 64 64 _ _ rfl rfl (w.heap.size + 2) 0 Z 143 hg3.out C (by rw [lC]; rfl) (fun h => ⟨rfl, ⟨_, rfl, hg1.out⟩⟩) (by rw [lC, hsz]; omega) hC1.out (w.heap.size + 2) _ (Below.refl _ _) (by omega) ?_; intro w4 hg4 hb4; have S4 : Step w w4 := ⟨B3'.out.trans (hb4.mono (by omega))⟩))
  have T4 : w4.there (w.heap.size + 1) 0 64 := there_under T3.out hb4 (by omega)
  have lS : (splice Z 0 C).length = 64 := by rw [hSp.out, sl_len V 0 hV (by omega)]
  have T5 : w4.there (w.heap.size + 2) 0 64 := there_block hg4.out lS
  have R5 := range_block hg4.out
  rw [hSp.out] at R5
  clear hg4 hb4 hg3 hg1 T3 hSp lS B3' hh3 hC1
  have e2 : w.heap.size + 1 + 1 = w.heap.size + 2 := rfl
  generalize hG : w.heap.size = G at T4 T5 R5 ⊢
  have B4 := S4.h
  go_wp2
  go_loopw [4, 5, 6] (fun i _ _ wr => ∃ k t : Nat, Hid (t = 16 + k) ∧ Hid (k ≤ 48) ∧ i = .int .i64 t ∧ wr.there (G + 1) 0 64 ∧ wr.there (G + 2) 0 64 ∧ wr.rangeAt (G + 2) 0 (vl .u32 (sl V k)) ∧ Below w.heap.size w wr) (fun i _ _ _ => 64 - (intOf i).toNat)
  case atStart => exact ⟨0, 16, Lib.hid rfl, Lib.hid (Nat.zero_le _), rfl, T4, T5, R5, B4⟩
  case round =>
    obtain ⟨k, t, ht, hk, rfl, t1, t2, r2, B⟩ := hrel
    by_cases hlt : t < 64
    · have lX : (ext V k).length = t := by rw [ext_len, hV, ht.out]
      have lX2 : (sl V k).length = 64 := by rw [← vl_len .u32, sl_len V k hV hk.out]
      have t16 : 16 ≤ t := by have := ht.out; omega
      have cel : ∀ j, j < t → wr.cell? ⟨G + 2, j, none⟩ = some (.int .u32 ((ext V k).getD j 0 : Nat)) := fun j hj => by
        have := r2 j _ (vl_at .u32 (sl V k) j (by omega))
        rw [Nat.zero_add, sl_at V k j (by omega)] at this
        exact this
      have bX := ext_B32 hb.out k
      have hX : Hid (nx (ext V k) = md [e1 ((ext V k).getD (t - 2) 0), (ext V k).getD (t - 7) 0, e0 ((ext V k).getD (t - 15) 0), (ext V k).getD (t - 16) 0]) := Lib.hid (by unfold nx; rw [lX]; rfl)
      have c15 := cel (t - 15) (by omega)
      have c2' := cel (t - 2) (by omega)
      have c7 := cel (t - 7) (by omega)
      have c16 := cel (t - 16) (by omega)
      have b15 := bX (t - 15)
      have b2 := bX (t - 2)
      have b7 := bX (t - 7)
      have b16 := bX (t - 16)
      clear cel bX
      generalize (ext V k).getD (t - 15) 0 = x at hX c15 b15
      generalize (ext V k).getD (t - 2) 0 = y at hX c2' b2
      generalize (ext V k).getD (t - 7) 0 = x7 at hX c7 b7
      generalize (ext V k).getD (t - 16) 0 = x16 at hX c16 b16
      obtain ⟨u, ec⟩ := Option.isSome_iff_exists.1 (t2 t hlt).1
      have hf := (t2 t hlt).2
      rw [Nat.zero_add] at ec hf
      have q15 : ((t : Int) - 15).toNat = t - 15 := by omega
      have q2 : ((t : Int) - 2).toNat = t - 2 := by omega
      have q7 : ((t : Int) - 7).toNat = t - 7 := by omega
      have q16 : ((t : Int) - 16).toNat = t - 16 := by omega
      generalize t - 15 = j15 at q15 c15
      generalize t - 2 = j2 at q2 c2'
      generalize t - 7 = j7 at q7 c7
      generalize t - 16 = j16 at q16 c16
      have tI : (t : Int) < 64 := by omega
      have tI2 : (16 : Int) ≤ (t : Int) := by omega
      have p15 : (0 : Int) ≤ (t : Int) - 15 := by omega
      have p2 : (0 : Int) ≤ (t : Int) - 2 := by omega
      have p7 : (0 : Int) ≤ (t : Int) - 7 := by omega
      have p16 : (0 : Int) ≤ (t : Int) - 16 := by omega
      have l15 : (t : Int) - 15 < 64 := by omega
      have l2 : (t : Int) - 2 < 64 := by omega
      have l7 : (t : Int) - 7 < 64 := by omega
      have l16 : (t : Int) - 16 < 64 := by omega
      have n7 : (7 : Int) ≤ (t : Int) := by omega
      have n15 : (15 : Int) ≤ (t : Int) := by omega
      have n2 : (2 : Int) ≤ (t : Int) := by omega
      have w7 : IntKind.i64.wrap ((t : Int) - 7) = (t : Int) - 7 := by simp [IntKind.wrap, IntKind.bits, IntKind.signed]; omega
      have w16 : IntKind.i64.wrap ((t : Int) - 16) = (t : Int) - 16 := by simp [IntKind.wrap, IntKind.bits, IntKind.signed]; omega
      have w15 : IntKind.i64.wrap ((t : Int) - 15) = (t : Int) - 15 := by simp [IntKind.wrap, IntKind.bits, IntKind.signed]; omega
      have w2 : IntKind.i64.wrap ((t : Int) - 2) = (t : Int) - 2 := by simp [IntKind.wrap, IntKind.bits, IntKind.signed]; omega
      clear hlt t16
      have r17 : ∀ w, Calls Tryz.prog 91 #[.int .u32 y, .int .i64 17] w fun e w' => e = .returned (.int .u32 (rot y 17 : Nat)) ∧ w' = w := fun w => rotr_any y 17 w b2 (by omega)
      have r19 : ∀ w, Calls Tryz.prog 91 #[.int .u32 y, .int .i64 19] w fun e w' => e = .returned (.int .u32 (rot y 19 : Nat)) ∧ w' = w := fun w => rotr_any y 19 w b2 (by omega)
      have r7 : ∀ w, Calls Tryz.prog 91 #[.int .u32 x, .int .i64 7] w fun e w' => e = .returned (.int .u32 (rot x 7 : Nat)) ∧ w' = w := fun w => rotr_any x 7 w b15 (by omega)
      have r18 : ∀ w, Calls Tryz.prog 91 #[.int .u32 x, .int .i64 18] w fun e w' => e = .returned (.int .u32 (rot x 18 : Nat)) ∧ w' = w := fun w => rotr_any x 18 w b15 (by omega)
      have h2g : G + 2 < wr.heap.size := by
        have h := c2'
        unfold World.cell? at h
        apply Classical.byContradiction
        intro hn
        rw [Array.getElem?_eq_none (by simpa using hn)] at h
        cases h
      have hv : Hid ((bits .xor .u32 (bits .xor .u32 (rot y 17 : Nat) (rot y 19 : Nat)) ((y : Int) / 1024) + (x7 : Int) + bits .xor .u32 (bits .xor .u32 (rot x 7 : Nat) (rot x 18 : Nat)) ((x : Int) / 8) + (x16 : Int)) % 4294967296 = ((nx (ext V k) : Nat) : Int)) := Lib.hid (by
        rw [hX.out, e1_form y b2, e0_form x b15]
        unfold md
        simp only [sm]
        omega)
      go_wp2
      go_region_held3 (fun w' => w'.cell? ⟨G + 2, j15, none⟩ = some (.int .u32 x) ∧ Step wr w')
        (exact ⟨((Step.of (w := wr) inferInstance).h.cell (p := ⟨G + 2, j15, none⟩) h2g).trans c15, Step.of inferInstance⟩)
        (first
          | ((with_reducible refine (r7 _).mono ?_); rintro e w' ⟨rfl, rfl⟩)
          | ((with_reducible refine (r18 _).mono ?_); rintro e w' ⟨rfl, rfl⟩))
      go_wp2
      go_region_held3 (fun w' => w'.cell? ⟨G + 2, j2, none⟩ = some (.int .u32 y) ∧ Step wr w')
        (exact ⟨((Step.of (w := wr) inferInstance).h.cell (p := ⟨G + 2, j2, none⟩) h2g).trans c2', Step.of inferInstance⟩)
        (first
          | ((with_reducible refine (r17 _).mono ?_); rintro e w' ⟨rfl, rfl⟩)
          | ((with_reducible refine (r19 _).mono ?_); rintro e w' ⟨rfl, rfl⟩))
      go_wp2
      go_region
      go_wp2
      go_roundw
      case rel => exact ⟨k + 1, t + 1, Lib.hid (by have := ht.out; omega), Lib.hid (by have := ht.out; omega), by go_num, by simp only [World.there_drew]; exact there_setCell t1 _ _, by simp only [World.there_drew]; exact there_setCell t2 _ _, by
        simp only [World.rangeAt_drew]
        rw [hv.out, ← sl_step V k hV (by have := ht.out; omega), ← vl_set, ← ht.out]
        exact rangeAt_set r2 t _ (by rw [sl_len V k hV hk.out]; omega), (((B.setCell (by show w.heap.size ≤ G + 1 + 1; omega) _).drew).drew).drew⟩
      case measure => simp [intOf]; omega
    · have hk48 : k = 48 := by have := ht.out; have := hk.out; omega
      subst hk48
      have r6 := sl_len V 48 hV (by omega)
      have e6 : Hid (vl .u32 (sl V 48) = vl .u32 (ext V 48)) := Lib.hid (by rw [sl_end])
      have o6 := Lib.hid (vl_one .u32 (sl V 48))
      generalize vl .u32 (sl V 48) = F at r2 r6 e6 o6
      have ht64 : t = 64 := by have := ht.out; omega
      subst ht64
      go_wp2_with (first
        | refine wpList_load_mid (by rfl) 143 (.tmp 3) (by rfl) (G + 2) 0 (by rfl) F _ r2 Tryz.underlying143 rfl (by rw [r6]; exact size43) ?_
        | refine wpList_store_mid (by rfl) 143 (.tmp 2) (.tmp 63) (by rfl) (G + 1) 0 F.toArray (by rfl) (by rfl) (by rw [List.size_toArray, r6]; exact t1) (by rw [List.size_toArray, r6]; exact size43) o6.out ?_)
      refine bodyPost_ret (results_one (by rfl) _ _ (G + 1) 0 F _ (by rfl) (World.rangeAt_setCells_same _ _ _ _ (by rw [r6]; exact t1)) Tryz.underlying143 rfl (by rw [r6]; exact size43)) (by rfl) ?_
      exact ⟨by rw [e6.out], ⟨Lg.below_setCells (by omega) _ _ _ B⟩⟩
end Sp
end Go.Proofs.YtfeahgcigmoijaaGreatDoor
/- The program's own round of a block (package sha's turn). Conditions: eight words, sixty-four words, and the listed variable sha.k reads as laid. -/
namespace Go.Proofs.YtfeahgcigmoijaaGreatDoor
open Go.RowKit Go.Lib
namespace Sp
open SlR Sh
/-- What the listed variable holds. -/
def LaidK (w : World) : Prop := R32 w (some ⟨3, 0, none⟩) KL
theorem LaidK.to {w w' : World} (h : LaidK w) [e : Ext w w'] : LaidK w' := Row.to h
theorem x3_form {p q r : Nat} (hp : p < 4294967296) (hq : q < 4294967296) (hr : r < 4294967296) : bits .xor .u32 (bits .xor .u32 (p : Nat) (q : Nat)) (r : Nat) = (((p ^^^ q) ^^^ r : Nat) : Int) := by
  rw [B3.xor32 _ _ hp hq, B3.xor32 _ _ (B3.xor_lt hp hq) hr]
theorem E1_lt {e : Nat} (h : e < 4294967296) : E1 e < 4294967296 := B3.xor_lt (B3.xor_lt (rot_lt h (by omega)) (rot_lt h (by omega))) (rot_lt h (by omega))
theorem E0_lt {e : Nat} (h : e < 4294967296) : E0 e < 4294967296 := B3.xor_lt (B3.xor_lt (rot_lt h (by omega)) (rot_lt h (by omega))) (rot_lt h (by omega))
theorem E1_form {e : Nat} (h : e < 4294967296) : bits .xor .u32 (bits .xor .u32 (rot e 6 : Nat) (rot e 11 : Nat)) (rot e 25 : Nat) = ((E1 e : Nat) : Int) := x3_form (rot_lt h (by omega)) (rot_lt h (by omega)) (rot_lt h (by omega))
theorem E0_form {e : Nat} (h : e < 4294967296) : bits .xor .u32 (bits .xor .u32 (rot e 2 : Nat) (rot e 13 : Nat)) (rot e 22 : Nat) = ((E0 e : Nat) : Int) := x3_form (rot_lt h (by omega)) (rot_lt h (by omega)) (rot_lt h (by omega))
theorem chf_lt {e f g : Nat} (he : e < 4294967296) (hf : f < 4294967296) (hg : g < 4294967296) : chf e f g < 4294967296 := B3.or_lt (B3.and_lt he hf) (B3.and_lt (by omega) hg)
theorem mjf_form (a b c : Nat) (ha : a < 4294967296) (hb : b < 4294967296) (hc : c < 4294967296) : bits .or .u32 (bits .or .u32 (bits .and .u32 (a : Nat) (b : Nat)) (bits .and .u32 (a : Nat) (c : Nat))) (bits .and .u32 (b : Nat) (c : Nat)) = ((mjf a b c : Nat) : Int) := by
  rw [B3.and32 _ _ ha hb, B3.and32 _ _ ha hc, B3.and32 _ _ hb hc, B3.or32 _ _ (B3.and_lt ha hb) (B3.and_lt ha hc), B3.or32 _ _ (B3.or_lt (B3.and_lt ha hb) (B3.and_lt ha hc)) (B3.and_lt hb hc)]
  rfl
theorem not_form (e : Nat) (he : e < 4294967296) : bits .xor .u32 (if IntKind.u32.signed = true then -1 else IntKind.u32.max) (e : Nat) = ((4294967295 - e : Nat) : Int) := by
  have h1 : (if IntKind.u32.signed = true then (-1 : Int) else IntKind.u32.max) = ((4294967295 : Nat) : Int) := by decide
  have h2 : (4294967295 : Nat) ^^^ e = 4294967295 - e := by
    have h3 : ((BitVec.allOnes 32) ^^^ (BitVec.ofNat 32 e)).toNat = 4294967295 - e := by
      rw [BitVec.allOnes_xor, BitVec.toNat_not, BitVec.toNat_ofNat, Nat.mod_eq_of_lt (by omega)]
    rw [BitVec.toNat_xor, BitVec.toNat_ofNat, Nat.mod_eq_of_lt (by omega : e < 2 ^ 32)] at h3
    exact h3
  rw [h1, B3.xor32 _ _ (by omega) he, h2]
theorem ch_form (e f g : Nat) (he : e < 4294967296) (hf : f < 4294967296) (hg : g < 4294967296) : bits .or .u32 (bits .and .u32 (e : Nat) (f : Nat)) (bits .and .u32 (bits .xor .u32 (if IntKind.u32.signed = true then -1 else IntKind.u32.max) (e : Nat)) (g : Nat)) = ((chf e f g : Nat) : Int) := by
  rw [not_form e he, B3.and32 _ _ he hf, B3.and32 _ _ (by omega) hg, B3.or32 _ _ (B3.and_lt he hf) (B3.and_lt (by omega) hg)]
  rfl
theorem md5 (p q r s u : Nat) : ((p : Int) + (q : Nat) + (r : Nat) + (s : Nat) + (u : Nat)) % 4294967296 = ((md [p, q, r, s, u] : Nat) : Int) := by
  unfold md
  simp only [sm]
  omega
theorem md2 (p q : Nat) : ((p : Int) + (q : Nat)) % 4294967296 = ((md [p, q] : Nat) : Int) := by
  unfold md
  simp only [sm]
  omega
theorem md_lt (xs : List Nat) : md xs < 4294967296 := Nat.mod_lt _ (by omega)
theorem size37 : (Tryz.prog.info? 137).map (·.size) = some 8 := by kernel_rfl
theorem zero37 (w : World) : (zeroValue 137).run Tryz.prog w = .ok (.agg (vl .u32 (List.replicate 8 0)).toArray) w := Tryz.zeroValue137 w
/-- Eight words and what a block has made of them, as far as place i. -/
def ad8 (S R : List Nat) (i : Nat) : List Nat := (List.range 8).map fun j => if j < i then md [S.getD j 0, R.getD j 0] else S.getD j 0
theorem ad8_len (S R : List Nat) (i : Nat) : (vl .u32 (ad8 S R i)).length = 8 := by simp [vl, ad8]
theorem ad8_zero (S R : List Nat) (h : S.length = 8) : ad8 S R 0 = S := by
  refine List.ext_getElem (by simp [ad8, h]) fun i h1 h2 => ?_
  simp [ad8, List.getElem?_eq_getElem h2]
theorem ad8_step (S R : List Nat) (i : Nat) : (ad8 S R i).set i (md [S.getD i 0, R.getD i 0]) = ad8 S R (i + 1) := by
  refine List.ext_getElem (by simp [ad8]) fun j h1 h2 => ?_
  rw [List.getElem_set]
  by_cases e : i = j
  · subst e
    simp [ad8]
  · have e2 : j < i + 1 ↔ j < i := by omega
    simp [ad8, e, e2]
theorem ad8_at (S R : List Nat) (i : Nat) (h : i < 8) : (ad8 S R i).getD i 0 = S.getD i 0 := by
  rw [List.getD_eq_getElem?_getD]
  simp [ad8, h]
theorem ad8_end (S R : List Nat) : ad8 S R 8 = (List.range 8).map fun i => md [S.getD i 0, R.getD i 0] := by
  unfold ad8
  refine List.map_congr_left fun j hj => ?_
  rw [if_pos (List.mem_range.1 hj)]
theorem range_under {w w' : World} {B g : Nat} {cs : List Value} (h : w.rangeAt g 0 cs) (hb : Below B w w') (hg : g < B) : w'.rangeAt g 0 cs := fun j v hv => by
  rw [hb.cell (p := ⟨g, 0 + j, none⟩) hg]
  exact h j v hv
theorem b32_8 {a b c d e f g h : Nat} (ha : a < 4294967296) (hb : b < 4294967296) (hc : c < 4294967296) (hd : d < 4294967296) (he : e < 4294967296) (hf : f < 4294967296) (hg : g < 4294967296) (hh : h < 4294967296) : B32 [a, b, c, d, e, f, g, h] := fun i => by
  match i with
  | 0 => exact ha
  | 1 => exact hb
  | 2 => exact hc
  | 3 => exact hd
  | 4 => exact he
  | 5 => exact hf
  | 6 => exact hg
  | 7 => exact hh
  | i + 8 => show (0 : Nat) < _; omega
theorem rnd_fine (w v : List Nat) (t : Nat) (h : B32 v) : (rnd w v t).length = 8 ∧ B32 (rnd w v t) := by
  unfold rnd
  dsimp only
  exact ⟨rfl, b32_8 (md_lt _) (h 0) (h 1) (h 2) (md_lt _) (h 4) (h 5) (h 6)⟩
theorem run_fine (S W : List Nat) (hS : S.length = 8) (bS : B32 S) (t : Nat) : (run W S t).length = 8 ∧ B32 (run W S t) := by
  induction t with
  | zero => exact ⟨hS, bS⟩
  | succ t ih => exact rnd_fine W (run W S t) t ih.2
set_option maxHeartbeats 3200000 in
set_option maxRecDepth 100000 in
theorem turn_dev (S W : List Nat) (w : World) (hS : S.length = 8) (hW : W.length = 64) (bS : Hid (B32 S)) (bW : Hid (B32 W)) (hL : LaidK w) :
    Calls Tryz.prog 85 #[.agg (vl .u32 S).toArray, .agg (vl .u32 W).toArray] w fun e w' => e = .returned (.agg (vl .u32 (ad8 S (run W S 64) 8)).toArray) ∧ Step w w' := by
  obtain ⟨Z, hZ⟩ : ∃ Z, (vl .u32 (List.replicate 8 0)) = Z := ⟨_, rfl⟩
  have hz : Hid (∀ w, (zeroValue 137).run Tryz.prog w = .ok (.agg Z.toArray) w) := Lib.hid (hZ ▸ zero37)
  have hsz : Z.toArray.size = 8 := by rw [← hZ]; rfl
  clear hZ
  obtain ⟨C, hC⟩ : ∃ C, Hid (C = vl .u32 S) := ⟨_, Lib.hid rfl⟩
  have lC : C.length = 8 := by rw [hC.out, vl_len, hS]
  obtain ⟨D, hD⟩ : ∃ D, Hid (D = vl .u32 W) := ⟨_, Lib.hid rfl⟩
  have lD : D.length = 64 := by rw [hD.out, vl_len, hW]
  rw [← hC.out, ← hD.out]
  obtain ⟨w1, h1⟩ : ∃ w1, w1 = (((w.alloc (Obj.cells C.toArray 137)).alloc (Obj.cells D.toArray 143)).alloc (Obj.cells Z.toArray 137)) := ⟨_, rfl⟩
  have R1 : w1.rangeAt w.heap.size 0 C := by
    rw [h1]
    exact World.rangeAt_alloc (World.rangeAt_alloc (range_new w C.toArray 137) _) _
  have T1 : w1.there w.heap.size 0 8 := by
    rw [h1]
    exact World.there_alloc (World.there_alloc (Lg.there_new w C.toArray 137 8 lC) _) _
  have R2 : w1.rangeAt (w.heap.size + 1) 0 D := by
    rw [h1]
    refine World.rangeAt_alloc ?_ _
    have := range_new (w.alloc (Obj.cells C.toArray 137)) D.toArray 143
    simpa using this
  have T3 : w1.there (w.heap.size + 2) 0 8 := by
    rw [h1]
    have := Lg.there_new ((w.alloc (Obj.cells C.toArray 137)).alloc (Obj.cells D.toArray 143)) Z.toArray 137 8 hsz
    simpa using this
  have S1 : Step w w1 := by
    rw [h1]
    exact Step.of inferInstance
  have hL1 : LaidK w1 := hL.to
  have s1 : w.heap.size + 3 ≤ w1.heap.size := by rw [h1]; simp
  have hh1 := Lib.hid h1.symm
  clear h1 hL
  have cS : ∀ j, j < 8 → w1.cell? ⟨w.heap.size, j, none⟩ = some (.int .u32 (S.getD j 0 : Nat)) := fun j hj => by
    have := R1 j (.int .u32 (S.getD j 0 : Nat)) (by rw [hC.out]; exact vl_at _ _ _ (by omega))
    rw [Nat.zero_add] at this
    exact this
  obtain ⟨a0, ha0⟩ : ∃ x, Hid (x = S.getD 0 0) := ⟨_, Lib.hid rfl⟩
  have c0 := cS 0 (by omega)
  rw [← ha0.out] at c0
  obtain ⟨a1, ha1⟩ : ∃ x, Hid (x = S.getD 1 0) := ⟨_, Lib.hid rfl⟩
  have c1 := cS 1 (by omega)
  rw [← ha1.out] at c1
  obtain ⟨a2, ha2⟩ : ∃ x, Hid (x = S.getD 2 0) := ⟨_, Lib.hid rfl⟩
  have c2 := cS 2 (by omega)
  rw [← ha2.out] at c2
  obtain ⟨a3, ha3⟩ : ∃ x, Hid (x = S.getD 3 0) := ⟨_, Lib.hid rfl⟩
  have c3 := cS 3 (by omega)
  rw [← ha3.out] at c3
  obtain ⟨a4, ha4⟩ : ∃ x, Hid (x = S.getD 4 0) := ⟨_, Lib.hid rfl⟩
  have c4 := cS 4 (by omega)
  rw [← ha4.out] at c4
  obtain ⟨a5, ha5⟩ : ∃ x, Hid (x = S.getD 5 0) := ⟨_, Lib.hid rfl⟩
  have c5 := cS 5 (by omega)
  rw [← ha5.out] at c5
  obtain ⟨a6, ha6⟩ : ∃ x, Hid (x = S.getD 6 0) := ⟨_, Lib.hid rfl⟩
  have c6 := cS 6 (by omega)
  rw [← ha6.out] at c6
  obtain ⟨a7, ha7⟩ : ∃ x, Hid (x = S.getD 7 0) := ⟨_, Lib.hid rfl⟩
  have c7 := cS 7 (by omega)
  rw [← ha7.out] at c7
  go_enter Tryz.func85, Tryz.ntmps85
  go_wp2_with (first
    | refine Lg.wpAlloc (by rfl) 137 (by rfl) Z.toArray hz.out ?_)
  rw [hh1.out]
  generalize hG : w.heap.size = G at R1 T1 R2 T3 c0 c1 c2 c3 c4 c5 c6 c7 ⊢
  go_quiet (fail)
  go_wp2
  go_quiet (fail)
  go_wp2_with (first
    | refine wpList_load_mid (by rfl) 143 (.tmp 3) (by rfl) (G + 1) 0 (by rfl) D _ R2 Tryz.underlying143 rfl (by rw [lD]; exact size43) ?_)
  have RF := Lib.hid (run_fine S W hS bS.out)
  go_loopw [5, 6, 7, 8, 9, 10, 11, 12, 40] (fun p5 p6 p7 p8 p9 p10 p11 p12 i wr => ∃ t : Nat, Hid (t ≤ 64) ∧ i = .int .i64 t ∧ p5 = .int .u32 ((run W S t).getD 0 0 : Nat) ∧ p6 = .int .u32 ((run W S t).getD 1 0 : Nat) ∧ p7 = .int .u32 ((run W S t).getD 2 0 : Nat) ∧ p8 = .int .u32 ((run W S t).getD 3 0 : Nat) ∧ p9 = .int .u32 ((run W S t).getD 4 0 : Nat) ∧ p10 = .int .u32 ((run W S t).getD 5 0 : Nat) ∧ p11 = .int .u32 ((run W S t).getD 6 0 : Nat) ∧ p12 = .int .u32 ((run W S t).getD 7 0 : Nat) ∧ wr.there G 0 8 ∧ wr.rangeAt G 0 C ∧ wr.there (G + 2) 0 8 ∧ LaidK wr ∧ Below w.heap.size w wr) (fun _ _ _ _ _ _ _ _ i _ => 64 - (intOf i).toNat)
  case atStart =>
    rw [ha0.out, ha1.out, ha2.out, ha3.out, ha4.out, ha5.out, ha6.out, ha7.out]
    exact ⟨0, Lib.hid (Nat.zero_le _), rfl, rfl, rfl, rfl, rfl, rfl, rfl, rfl, rfl, there_under T1 (inferInstance : Ext w1 _).h (by omega), range_under R1 (inferInstance : Ext w1 _).h (by omega), there_under T3 (inferInstance : Ext w1 _).h (by omega), hL1.to, (inferInstance : Ext w _).h⟩
  case round =>
    obtain ⟨t, ht, rfl, rfl, rfl, rfl, rfl, rfl, rfl, rfl, rfl, t1, r1, t3, hLr, B⟩ := hrel
    by_cases hlt : t < 64
    · obtain ⟨lb1, lb2⟩ := RF.out t
      have hR : Hid (run W S (t + 1) = rnd W (run W S t) t) := Lib.hid rfl
      have hx : D[t]? = some (.int .u32 (W.getD t 0 : Nat)) := by rw [hD.out]; exact vl_at _ _ _ (by omega)
      have ck : wr.cell? ⟨3, t, none⟩ = some (.int .u32 (KL.getD t 0 : Nat)) := by
        obtain ⟨_, e, _, h⟩ := Row.atN hLr (j := t) hlt
        cases e
        rw [Addr.add_mid, Nat.zero_add] at h
        exact h
      have b0 := lb2 0
      have b1 := lb2 1
      have b2 := lb2 2
      have b3 := lb2 3
      have b4 := lb2 4
      have b5 := lb2 5
      have b6 := lb2 6
      have b7 := lb2 7
      have bx := bW.out t
      clear lb1 lb2
      unfold rnd at hR
      generalize (run W S t).getD 0 0 = v0 at hR b0 ⊢
      generalize (run W S t).getD 1 0 = v1 at hR b1 ⊢
      generalize (run W S t).getD 2 0 = v2 at hR b2 ⊢
      generalize (run W S t).getD 3 0 = v3 at hR b3 ⊢
      generalize (run W S t).getD 4 0 = v4 at hR b4 ⊢
      generalize (run W S t).getD 5 0 = v5 at hR b5 ⊢
      generalize (run W S t).getD 6 0 = v6 at hR b6 ⊢
      generalize (run W S t).getD 7 0 = v7 at hR b7 ⊢
      generalize W.getD t 0 = xt at hR hx bx
      generalize KL.getD t 0 = kt at hR ck
      have hI : ∀ w, (Instr.index 143 (.agg D.toArray) (.int .i64 t)).run Tryz.prog w = .ok (.int .u32 (xt : Nat)) w := run_index Tryz.underlying143 Tryz.sizeOf51 Tryz.isAgg51 t hlt (by rw [List.getElem?_toArray]; exact hx)
      have r6 : ∀ w, Calls Tryz.prog 91 #[.int .u32 v4, .int .i64 6] w fun e w' => e = .returned (.int .u32 (rot v4 6 : Nat)) ∧ w' = w := fun w => rotr_any v4 6 w b4 (by omega)
      have r11 : ∀ w, Calls Tryz.prog 91 #[.int .u32 v4, .int .i64 11] w fun e w' => e = .returned (.int .u32 (rot v4 11 : Nat)) ∧ w' = w := fun w => rotr_any v4 11 w b4 (by omega)
      have r25 : ∀ w, Calls Tryz.prog 91 #[.int .u32 v4, .int .i64 25] w fun e w' => e = .returned (.int .u32 (rot v4 25 : Nat)) ∧ w' = w := fun w => rotr_any v4 25 w b4 (by omega)
      have r2 : ∀ w, Calls Tryz.prog 91 #[.int .u32 v0, .int .i64 2] w fun e w' => e = .returned (.int .u32 (rot v0 2 : Nat)) ∧ w' = w := fun w => rotr_any v0 2 w b0 (by omega)
      have r13 : ∀ w, Calls Tryz.prog 91 #[.int .u32 v0, .int .i64 13] w fun e w' => e = .returned (.int .u32 (rot v0 13 : Nat)) ∧ w' = w := fun w => rotr_any v0 13 w b0 (by omega)
      have r22 : ∀ w, Calls Tryz.prog 91 #[.int .u32 v0, .int .i64 22] w fun e w' => e = .returned (.int .u32 (rot v0 22 : Nat)) ∧ w' = w := fun w => rotr_any v0 22 w b0 (by omega)
      have tI : (t : Int) < 64 := by omega
      go_wp2_with (first
        | ((with_reducible refine (r6 _).mono ?_); rintro e w' ⟨rfl, rfl⟩)
        | ((with_reducible refine (r11 _).mono ?_); rintro e w' ⟨rfl, rfl⟩)
        | ((with_reducible refine (r25 _).mono ?_); rintro e w' ⟨rfl, rfl⟩)
        | ((with_reducible refine (r2 _).mono ?_); rintro e w' ⟨rfl, rfl⟩)
        | ((with_reducible refine (r13 _).mono ?_); rintro e w' ⟨rfl, rfl⟩)
        | ((with_reducible refine (r22 _).mono ?_); rintro e w' ⟨rfl, rfl⟩))
      go_roundw
      case rel =>
        rw [E1_form b4, ch_form v4 v5 v6 b4 b5 b6, E0_form b0, mjf_form v0 v1 v2 b0 b1 b2, md5, md2, md2, md2]
        refine ⟨t + 1, Lib.hid (by omega), by go_num, ?_⟩
        rw [hR.out]
        simp only [List.getD_cons_zero, List.getD_cons_succ]
        exact ⟨trivial, trivial, trivial, trivial, trivial, trivial, trivial, trivial, t1, r1, t3, hLr, B⟩
      case measure => simp [intOf]; omega
    · have ht64 : t = 64 := by have := ht.out; omega
      subst ht64
      obtain ⟨R, hR⟩ : ∃ R, Hid (R = run W S 64) := ⟨_, Lib.hid rfl⟩
      rw [← hR.out]
      obtain ⟨x0, hx0⟩ : ∃ x, Hid (x = R.getD 0 0) := ⟨_, Lib.hid rfl⟩
      obtain ⟨x1, hx1⟩ : ∃ x, Hid (x = R.getD 1 0) := ⟨_, Lib.hid rfl⟩
      obtain ⟨x2, hx2⟩ : ∃ x, Hid (x = R.getD 2 0) := ⟨_, Lib.hid rfl⟩
      obtain ⟨x3, hx3⟩ : ∃ x, Hid (x = R.getD 3 0) := ⟨_, Lib.hid rfl⟩
      obtain ⟨x4, hx4⟩ : ∃ x, Hid (x = R.getD 4 0) := ⟨_, Lib.hid rfl⟩
      obtain ⟨x5, hx5⟩ : ∃ x, Hid (x = R.getD 5 0) := ⟨_, Lib.hid rfl⟩
      obtain ⟨x6, hx6⟩ : ∃ x, Hid (x = R.getD 6 0) := ⟨_, Lib.hid rfl⟩
      obtain ⟨x7, hx7⟩ : ∃ x, Hid (x = R.getD 7 0) := ⟨_, Lib.hid rfl⟩
      rw [← hx0.out, ← hx1.out, ← hx2.out, ← hx3.out, ← hx4.out, ← hx5.out, ← hx6.out, ← hx7.out]
      have hE : Hid (∀ i, i < 8 → (#[Value.int .u32 (x0 : Nat), Value.int .u32 (x1 : Nat), Value.int .u32 (x2 : Nat), Value.int .u32 (x3 : Nat), Value.int .u32 (x4 : Nat), Value.int .u32 (x5 : Nat), Value.int .u32 (x6 : Nat), Value.int .u32 (x7 : Nat)] : Array Value)[i]? = some (.int .u32 (R.getD i 0 : Nat))) := Lib.hid fun i hi => by
        rcases (by omega : i = 0 ∨ i = 1 ∨ i = 2 ∨ i = 3 ∨ i = 4 ∨ i = 5 ∨ i = 6 ∨ i = 7) with rfl | rfl | rfl | rfl | rfl | rfl | rfl | rfl
        · rw [← hx0.out]; rfl
        · rw [← hx1.out]; rfl
        · rw [← hx2.out]; rfl
        · rw [← hx3.out]; rfl
        · rw [← hx4.out]; rfl
        · rw [← hx5.out]; rfl
        · rw [← hx6.out]; rfl
        · rw [← hx7.out]; rfl
      clear hx0 hx1 hx2 hx3 hx4 hx5 hx6 hx7 hLr RF hL1 R2 T1 R1 T3
      rw [hC.out, ← ad8_zero S R hS] at r1
      obtain ⟨w9, h9⟩ : ∃ w9, w9 = wr := ⟨_, rfl⟩
      subst h9
      go_wp2
      obtain ⟨AR, hAR⟩ : ∃ AR, (#[Value.int .u32 (x0 : Nat), Value.int .u32 (x1 : Nat), Value.int .u32 (x2 : Nat), Value.int .u32 (x3 : Nat), Value.int .u32 (x4 : Nat), Value.int .u32 (x5 : Nat), Value.int .u32 (x6 : Nat), Value.int .u32 (x7 : Nat)] : Array Value) = AR := ⟨_, rfl⟩
      rw [hAR] at hE
      rw [hAR]
      clear hAR
      go_loopw [21, 22, 115] (fun _ _ i wr => ∃ n : Nat, Hid (n ≤ 8) ∧ i = .int .i64 n ∧ wr.there G 0 8 ∧ wr.rangeAt G 0 (vl .u32 (ad8 S R n)) ∧ wr.there (G + 2) 0 8 ∧ Below w.heap.size w wr) (fun _ _ i _ => 8 - (intOf i).toNat)
      case atStart => exact ⟨0, Lib.hid (Nat.zero_le _), rfl, t1, r1, t3, B⟩
      case round =>
        obtain ⟨n, hn, rfl, t1, r1, t3, B⟩ := hrel
        by_cases hlt2 : n < 8
        · have hI : ∀ w, (Instr.index 137 (.agg AR) (.int .i64 n)).run Tryz.prog w = .ok (.int .u32 (R.getD n 0 : Nat)) w := run_index Tryz.underlying137 Tryz.sizeOf51 Tryz.isAgg51 n hlt2 (hE.out n hlt2)
          have hc : wr.cell? ⟨G, n, none⟩ = some (.int .u32 (S.getD n 0 : Nat)) := by
            have := r1 n _ (vl_at .u32 (ad8 S R n) n (by rw [← vl_len .u32, ad8_len]; exact hlt2))
            rw [Nat.zero_add, ad8_at S R n hlt2] at this
            exact this
          have hf := (t1 n hlt2).2
          rw [Nat.zero_add] at hf
          have hst := Lib.hid (ad8_step S R n)
          generalize S.getD n 0 = sn at hc hst
          generalize R.getD n 0 = rn at hI hst
          have nI : (n : Int) < 8 := by omega
          go_wp2
          go_roundw
          case rel => exact ⟨n + 1, Lib.hid (by omega), by go_num, there_setCell t1 _ _, by
            rw [md2, ← hst.out, ← vl_set]
            exact rangeAt_set r1 n _ (by rw [ad8_len]; exact hlt2), there_setCell t3 _ _, B.setCell (by show w.heap.size ≤ G; omega) _⟩
          case measure => simp [intOf]; omega
        · have hn8 : n = 8 := by have := hn.out; omega
          subst hn8
          have r6 := ad8_len S R 8
          have e6 : Hid (vl .u32 (ad8 S R 8) = vl .u32 (ad8 S (run W S 64) 8)) := Lib.hid (by rw [hR.out])
          have o6 := Lib.hid (vl_one .u32 (ad8 S R 8))
          generalize vl .u32 (ad8 S R 8) = F at r1 r6 e6 o6
          go_wp2_with (first
            | refine wpList_load_mid (by rfl) 137 (.tmp 2) (by rfl) G 0 (by rfl) F _ r1 Tryz.underlying137 rfl (by rw [r6]; exact size37) ?_
            | refine wpList_store_mid (by rfl) 137 (.tmp 4) (.tmp 126) (by rfl) (G + 2) 0 F.toArray (by rfl) (by rfl) (by rw [List.size_toArray, r6]; exact t3) (by rw [List.size_toArray, r6]; exact size37) o6.out ?_)
          refine bodyPost_ret (results_one (by rfl) _ _ (G + 2) 0 F _ (by rfl) (World.rangeAt_setCells_same _ _ _ _ (by rw [r6]; exact t3)) Tryz.underlying137 rfl (by rw [r6]; exact size37)) (by rfl) ?_
          exact ⟨by rw [e6.out], ⟨Lg.below_setCells (by omega) _ _ _ B⟩⟩
end Sp
end Go.Proofs.YtfeahgcigmoijaaGreatDoor
/- The program's own iterator over blocks (package sha's blocks). Conditions: what is handed in reads as bytes. -/
namespace Go.Proofs.YtfeahgcigmoijaaGreatDoor
open Go.RowKit Go.Lib Go.Shelf
attribute [local go_sem] Oper.semAt_some
namespace Sp
open SlR Sh
theorem b8_app {xs ys : List Nat} (hx : B8 xs) (hy : B8 ys) : B8 (xs ++ ys) := fun i => by
  rw [List.getD_eq_getElem?_getD, List.getElem?_append]
  split
  · rw [← List.getD_eq_getElem?_getD]; exact hx i
  · rw [← List.getD_eq_getElem?_getD]; exact hy _
theorem b8_mem {xs : List Nat} (h : ∀ x ∈ xs, x < 256) : B8 xs := fun i => by
  rw [List.getD_eq_getElem?_getD]
  cases hq : xs[i]? with
  | none => show (0 : Nat) < _; omega
  | some v => exact h v (List.mem_of_getElem? hq)
theorem b8_bys {xs : List Nat} (h : ∀ x ∈ xs, x < 4294967296) : B8 (bys xs) := b8_mem fun x hx => by
  unfold bys at hx
  obtain ⟨y, hy, hxy⟩ := List.mem_flatMap.1 hx
  have := h y hy
  simp only [by4, List.mem_cons, List.not_mem_nil, or_false] at hxy
  omega
theorem b8_pad {b : List Nat} (h : B8 b) (hl : b.length ≤ 100000) : B8 (pad b) := by
  unfold pad
  refine b8_app (b8_app (b8_app h (b8_mem ?_)) (b8_mem ?_)) (b8_bys ?_)
  · intro x hx
    simp at hx
    omega
  · intro x hx
    have := List.eq_of_mem_replicate hx
    omega
  · intro x hx
    simp only [List.mem_cons, List.not_mem_nil, or_false] at hx
    omega
theorem b8_part {b : List Nat} (h : B8 b) (o n : Nat) : B8 ((b.drop o).take n) := fun i => by
  rw [List.getD_eq_getElem?_getD, List.getElem?_take]
  split
  · rw [List.getElem?_drop, ← List.getD_eq_getElem?_getD]; exact h _
  · show (0 : Nat) < _; omega
theorem b32_wds {b : List Nat} (h : B8 b) (n : Nat) : B32 (wds b n) := fun i => by
  have h0 := h (4 * i)
  have h1 := h (4 * i + 1)
  have h2 := h (4 * i + 2)
  have h3 := h (4 * i + 3)
  unfold wds
  rw [List.getD_eq_getElem?_getD, List.getElem?_map]
  cases hq : (List.range n)[i]? with
  | none => show (0 : Nat) < _; omega
  | some v =>
    have hv : v = i := by
      have := (List.getElem?_eq_some_iff.1 hq).2
      simpa using this.symm
    subst hv
    show wd b v < _
    unfold wd
    omega
/-- A block's words. -/
abbrev Blk : Type := { V : List Nat // V.length = 16 ∧ B32 V }
def encB (x : Blk) : Array Value := #[.agg (vl .u32 x.1).toArray]
/-- Bytes that are few enough. -/
abbrev Byt : Type := { b : List Nat // B8 b ∧ b.length ≤ 100000 }
def bk (b : Byt) (i : Nat) : Blk := ⟨wds (((pad b.1).drop (64 * i)).take 64) 16, wds_len _ _, b32_wds (b8_part (b8_pad b.2.1 b.2.2) _ _) _⟩
def bks (b : Byt) (m : Nat) : List Blk := (List.range m).map (bk b)
theorem bks_len (b : Byt) (m : Nat) : (bks b m).length = m := by simp [bks]
theorem bks_snoc (b : Byt) (m : Nat) : bks b m ++ [bk b m] = bks b (m + 1) := by simp [bks, List.range_succ]
/-- What a round that goes on keeps: what lay below, and the box of the bytes. -/
def KpB (n₀ Bn : Nat) (W W' : World) : Prop := Below n₀ W W' ∧ ∀ v, W.cell? ⟨Bn, 0, none⟩ = some v → W'.cell? ⟨Bn, 0, none⟩ = some v
theorem KpB.t {n₀ Bn : Nat} {X Y Z : World} (h : KpB n₀ Bn X Y) (k : KpB n₀ Bn Y Z) : KpB n₀ Bn X Z := ⟨h.1.trans k.1, fun v hv => k.2 v (h.2 v hv)⟩
theorem KpB.step {n₀ Bn : Nat} {X Y : World} (h : Below X.heap.size X Y) (hn : n₀ ≤ X.heap.size) : KpB n₀ Bn X Y := ⟨h.mono hn, fun v hv => by
  have hl : Bn < X.heap.size := by
    unfold World.cell? at hv
    apply Classical.byContradiction
    intro hc
    rw [Array.getElem?_eq_none (by simpa using hc)] at hv
    cases hv
  exact (h.cell (p := ⟨Bn, 0, none⟩) hl).trans hv⟩
theorem grown_of_below {X Y : World} (h : Below X.heap.size X Y) : X.grownBy Y none := ⟨h.os, h.tape, h.output, h.size, fun k hk _ => h.block k hk⟩
theorem count_lt (nb i M : Nat) (h : M = (nb + 9 + zn nb) / 64) (h2 : (nb + 9 + zn nb) % 64 = 0) : 64 * i < nb + 9 ↔ i < M := by
  have hz : zn nb < 64 := by unfold zn; omega
  omega
set_option maxHeartbeats 3200000 in
set_option maxRecDepth 100000 in
theorem blocks1_in (n l Bn : Nat) (A : Option Addr) (c nb : Nat) (b : Byt) (w0 : World) (hn : b.1.length = nb) (hc : nb ≤ c) (hr : R8 w0 A b.1) (J Jx : List Blk → World → Prop) (W : World)
    (hJ : AbidesFrom W.heap.size J)
    (hY : ∀ pre x W, J pre W → pre.length < (pad b.1).length / 64 → YieldAt Fence.wide (n - 1) Tryz.prog l (encB x) W fun e W' =>
      (e = .returned (.bool true) ∧ J (pre ++ [x]) W' ∧ KpB w0.heap.size Bn W W') ∨ (e = .returned (.bool false) ∧ Jx (pre ++ [x]) W'))
    (hB : Below w0.heap.size w0 W) (hBn : W.cell? ⟨Bn, 0, none⟩ = some (.slice A nb c)) (h0 : J [] W) :
    CallsIn Fence.wide n Tryz.prog 88 #[.func (.yield l) #[] #[], .pointer (some ⟨Bn, 0, none⟩)] W fun e W' => (∃ v, e = .returned v) ∧
      ((∃ ys, ys = bks b ((pad b.1).length / 64) ∧ J ys W') ∨ (∃ pre, True ∧ Jx pre W')) := by
  have hn2 : nb ≤ 100000 := by have := b.2.2; omega
  obtain ⟨M, hM⟩ : ∃ M, Hid (M = (pad b.1).length / 64) := ⟨_, Lib.hid rfl⟩
  have hcount : Hid (∀ i, 64 * i < nb + 9 ↔ i < M) := Lib.hid fun i => count_lt nb i M (by rw [hM.out, pad_len, hn]) (by have := pad_mod b.1; rw [pad_len, hn] at this; exact this)
  rw [← hM.out] at hY ⊢
  refine callsIn_of_wp Tryz.func88 rfl trivial ?_ rfl
  simp only [Tryz.ntmps88, List.size_toArray, List.length_cons, List.length_nil, Nat.reduceAdd, Nat.reduceSub, Array.replicate_succ, Array.replicate_zero, List.push_toArray, List.append_toArray, List.nil_append, List.cons_append]
  gi_wp2
  gi_loopw [3] (fun p wr => ∃ i o : Nat, Hid (o = 64 * i) ∧ Hid (i ≤ M) ∧ p = .int .i64 o ∧ Below w0.heap.size w0 wr ∧ wr.cell? ⟨Bn, 0, none⟩ = some (.slice A nb c) ∧ J (bks b i) wr ∧ W.heap.size ≤ wr.heap.size)
    (fun p _ => nb + 9 + 64 - (intOf p).toNat)
  case atStart =>
    exact ⟨0, 0, Lib.hid rfl, Lib.hid (Nat.zero_le _), rfl, hB, hBn, h0, Nat.le_refl _⟩
  case round =>
    obtain ⟨i, o, ho, hi, rfl, hB1, hBn1, hJ1, hsz⟩ := hrel
    have nI : (nb : Int) ≤ 100000 := by omega
    have x2 : IntKind.i64.wrap ((nb : Int) + 9) = (nb : Int) + 9 := by simp [IntKind.wrap, IntKind.bits, IntKind.signed]; omega
    by_cases hlt : o < nb + 9
    · have oI : (o : Int) < (nb : Int) + 9 := by omega
      have E0 : Ext w0 wr := ⟨hB1⟩
      have hiM : i < M := (hcount.out i).1 (by have := ho.out; omega)
      obtain ⟨x, hx⟩ : ∃ x, Hid (x = bk b i) := ⟨_, Lib.hid rfl⟩
      have hlen : (((pad b.1).drop o).take 64).length = 64 := by
        have h1 := pad_mod b.1
        have h2 : (pad b.1).length / 64 = M := hM.out.symm
        have h3 := ho.out
        rw [List.length_take, List.length_drop]
        omega
      have cB := block_dev A c nb o b.1 wr hn hn2 hr.to hc hlt (Lib.hid (by have := ho.out; omega))
      have cW : ∀ w, Calls Tryz.prog 89 #[.agg (vl .u8 (((pad b.1).drop o).take 64)).toArray] w fun e w' => e = .returned (.agg (vl .u32 x.1).toArray) ∧ Step w w' := fun w => by
        have := words_dev (((pad b.1).drop o).take 64) w hlen (Lib.hid (b8_part (b8_pad b.2.1 b.2.2) _ _))
        rw [hx.out]
        show Calls _ _ _ _ fun e w' => e = .returned (.agg (vl .u32 (wds (((pad b.1).drop (64 * i)).take 64) 16)).toArray) ∧ Step w w'
        rw [← ho.out]
        exact this
      have hs : bks b i ++ [x] = bks b (i + 1) := by rw [hx.out, bks_snoc]
      have hYx : ∀ w, J (bks b i) w → YieldAt Fence.wide (n - 1) Tryz.prog l (encB x) w fun e W' => (e = .returned (.bool true) ∧ J (bks b (i + 1)) W' ∧ KpB w0.heap.size Bn w W') ∨ (e = .returned (.bool false) ∧ Jx (bks b (i + 1)) W') := fun w h => by
        have := hY (bks b i) x w h (by rw [bks_len]; exact hiM)
        rw [hs] at this
        exact this
      have hYh := Lib.hid hYx
      have hJh := Lib.hid hJ1
      clear hY hYx hJ1 hs
      generalize vl .u8 (((pad b.1).drop o).take 64) = T at cB cW
      gi_wp2_with (first
        | (refine ⟨trivial, (by simp [Fence.wide]), ?_⟩; gi_at_call 90; refine (callsIn_wide.2 cB).mono ?_; rintro e w2 ⟨rfl, S2⟩)
        | (refine ⟨trivial, (by simp [Fence.wide]), ?_⟩; gi_at_call 89; refine (callsIn_wide.2 (cW _)).mono ?_; rintro e w3 ⟨rfl, S3⟩; obtain ⟨fn, tmps, assign, body, hy, hR⟩ := hYh.out w3 (hJ _ _ _ none (hJ _ _ _ none hJh.out (grown_of_below S2.h) (fun _ e => by cases e)) (grown_of_below S3.h) (fun _ e => by cases e)); unfold encB at hy))
      refine ⟨(by simp [Fence.wide]), ?_⟩
      refine hR.mono ?_
      have hB3 : Below w0.heap.size w0 w3 := (hB1.trans (S2.h.mono hB1.size)).trans (S3.h.mono (Nat.le_trans hB1.size S2.h.size))
      have hBn3 : w3.cell? ⟨Bn, 0, none⟩ = some (.slice A nb c) := (KpB.step S3.h (Nat.le_refl _)).2 _ ((KpB.step S2.h (Nat.le_refl _)).2 _ hBn1)
      have oI2 : IntKind.i64.wrap ((o : Int) + 64) = (o : Int) + 64 := by simp [IntKind.wrap, IntKind.bits, IntKind.signed]; omega
      rintro e W3 (⟨rfl, hJ3, hk3⟩ | ⟨rfl, hJx3⟩)
      · gi_wp2
        go_roundw
        case rel => exact ⟨i + 1, o + 64, Lib.hid (by have := ho.out; omega), Lib.hid (by omega), by go_num, hB3.trans hk3.1, hk3.2 _ hBn3, hJ3, Nat.le_trans hsz (Nat.le_trans S2.h.size (Nat.le_trans S3.h.size hk3.1.size))⟩
        case measure => simp [intOf]; omega
      · gi_wp2
        refine bodyPost_ret (results_none rfl _ _ _) rfl ?_
        exact ⟨⟨_, rfl⟩, .inr ⟨_, trivial, hJx3⟩⟩
    · have oI : ¬ (o : Int) < (nb : Int) + 9 := by omega
      have hiM : i = M := by have := hi.out; have := (hcount.out i); have := ho.out; omega
      subst hiM
      gi_wp2
      go_end0
      exact ⟨⟨_, rfl⟩, .inl hJ1⟩
end Sp
end Go.Proofs.YtfeahgcigmoijaaGreatDoor
/- The program's own sum (package sha's Of). Conditions: what is handed in reads as bytes, at most 100000; the listed variable sha.k reads as laid. -/
namespace Go.Proofs.YtfeahgcigmoijaaGreatDoor
open Go.RowKit Go.Lib Go.Shelf
attribute [local go_sem] Oper.semAt_some
namespace Sp
open SlR Sh
theorem blocks_any (A : Option Addr) (n c : Nat) (w : World) :
    Calls Tryz.prog 84 #[.slice A n c] w fun e w' => e = .returned (.func (.func 88) #[] #[.pointer (some ⟨w.heap.size, 0, none⟩)]) ∧ w' = w.alloc (.cells #[.slice A n c] 61) := by
  go_enter Tryz.func84, Tryz.ntmps84
  go_wp2
  go_ret
  exact ⟨rfl, rfl⟩
theorem own_range {β : Type} (g : Nat) (cs : β → List Value) : Own (fun s W => W.rangeAt g 0 (cs s)) := fun _ _ _ _ hs hg hr j v hv => cell_kept (hs j v hv) hg hr
theorem own_there {β : Type} (g n : Nat) : Own (fun (_ : β) W => W.there g 0 n) := fun _ X Y _ hs hg hr j hj => by
  obtain ⟨u, hu⟩ := Option.isSome_iff_exists.1 (hs j hj).1
  exact ⟨by rw [cell_kept hu hg hr]; rfl, (frozen_kept hu hg hr).trans (hs j hj).2⟩
theorem pos_in {b : Bool} {p q : Prop} (h : b = true) (hp : p) : if b = true then p else q := by rw [if_pos h]; exact hp
theorem keeps_of_below {B : Nat} {X Y : World} (h : Below X.heap.size X Y) : KeepsFrom B X Y := ⟨h.size, fun k _ _ hk _ => (h.block k (Array.getElem?_eq_some_iff.1 hk).1).trans hk⟩
/-- What blocks make of eight words. -/
def hs (pre : List Blk) : List Nat := pre.foldl (fun h x => ad8 h (run (ext x.1 48) h 64) 8) HL
theorem hs_snoc (pre : List Blk) (x : Blk) : hs (pre ++ [x]) = ad8 (hs pre) (run (ext x.1 48) (hs pre) 64) 8 := by simp [hs]
theorem ad8_fine (S R : List Nat) : (ad8 S R 8).length = 8 ∧ B32 (ad8 S R 8) := by
  refine ⟨by simp [ad8], fun i => ?_⟩
  rw [ad8_end, List.getD_eq_getElem?_getD, List.getElem?_map]
  cases hq : (List.range 8)[i]? with
  | none => show (0 : Nat) < _; omega
  | some v => exact md_lt _
theorem HL_fine : HL.length = 8 ∧ B32 HL := ⟨rfl, b32_8 (by decide) (by decide) (by decide) (by decide) (by decide) (by decide) (by decide) (by decide)⟩
theorem hs_fine (pre : List Blk) : (hs pre).length = 8 ∧ B32 (hs pre) := by
  have h : ∀ (l : List Blk) (z : List Nat), z.length = 8 ∧ B32 z → (l.foldl (fun h x => ad8 h (run (ext x.1 48) h 64) 8) z).length = 8 ∧ B32 (l.foldl (fun h x => ad8 h (run (ext x.1 48) h 64) 8) z) := fun l => by
    induction l with
    | nil => exact fun z hz => hz
    | cons x t ih => exact fun z _ => ih _ (ad8_fine _ _)
  exact h pre HL HL_fine
theorem keeps_setCells {b : Nat} : ∀ (vs : List Value) (o : Nat) (w : World), KeepsOthers w (w.setCells b o vs)
  | [], _, w => KeepsOthers.refl w
  | v :: r, o, w => (KeepsOthers.setCell w ⟨b, o, none⟩ v).trans (keeps_setCells r (o + 1) _)
theorem cell_setCells {b : Nat} {p : Addr} (h : p.block ≠ b) : ∀ (vs : List Value) (o : Nat) (w : World), (w.setCells b o vs).cell? p = w.cell? p
  | [], _, _ => rfl
  | v :: r, o, w => (cell_setCells h r (o + 1) _).trans (World.cell?_setCell_other _ _ _ _ (fun e => h (by rw [← e])))
theorem hs_hsh (b : Byt) : ∀ n, hs (bks b n) = hsh (pad b.1) n
  | 0 => rfl
  | n + 1 => by
    rw [← bks_snoc, hs_snoc, hs_hsh b n, ad8_end]
    rfl
/-- The bytes of words, as many as have come. -/
def ol (H : List Nat) (n : Nat) : List Nat := (List.range 32).map fun m => if m < n then (bys H).getD m 0 else 0
theorem ol_len (H : List Nat) (n : Nat) : (vl .u8 (ol H n)).length = 32 := by simp [vl, ol]
theorem ol_step (H : List Nat) (n : Nat) : (ol H n).set n ((bys H).getD n 0) = ol H (n + 1) := by
  refine List.ext_getElem (by simp [ol]) fun i h1 h2 => ?_
  rw [List.getElem_set]
  by_cases e : n = i
  · subst e
    simp [ol]
  · have e2 : i < n + 1 ↔ i < n := by omega
    simp [ol, e, e2]
theorem ol_end (H : List Nat) (h : H.length = 8) : ol H 32 = bys H := by
  refine List.ext_getElem (by simp [ol, bys_len, h]) fun i h1 h2 => ?_
  have hi : i < 32 := by simpa [ol] using h1
  simp [ol, hi, List.getElem?_eq_getElem h2]
theorem ol_zero (H : List Nat) : vl .u8 (ol H 0) = zs := by
  have e : ol H 0 = List.replicate 32 0 := by
    unfold ol
    simp
    rfl
  rw [e]
  rfl
theorem bys_at (H : List Nat) (hB : B32 H) : ∀ (i j : Nat), i < H.length → j < 4 → (bys H).getD (4 * i + j) 0 = H.getD i 0 / 256 ^ (3 - j) % 256 := by
  induction H with
  | nil => intro i j h _; exact absurd h (Nat.not_lt_zero _)
  | cons x t ih =>
    intro i j hi hj
    have hx : x < 4294967296 := hB 0
    have e : bys (x :: t) = by4 x ++ bys t := by unfold bys; rw [List.flatMap_cons]
    have l4 : (by4 x).length = 4 := rfl
    rw [e, List.getD_eq_getElem?_getD]
    cases i with
    | zero =>
      rw [List.getElem?_append_left (by rw [l4]; omega)]
      rcases (by omega : j = 0 ∨ j = 1 ∨ j = 2 ∨ j = 3) with rfl | rfl | rfl | rfl <;> simp [by4] <;> omega
    | succ i =>
      rw [List.getElem?_append_right (by rw [l4]; omega), l4, show 4 * (i + 1) + j - 4 = 4 * i + j by omega, ← List.getD_eq_getElem?_getD, ih (fun k => hB (k + 1)) i j (by simpa using hi) hj]
      rfl
theorem byte_form (h j : Nat) (hj : j < 4) : (h : Int) / 2 ^ (24 - 8 * j) % 256 = ((h / 256 ^ (3 - j) % 256 : Nat) : Int) := by
  have e : (2 : Nat) ^ (24 - 8 * j) = 256 ^ (3 - j) := by rw [show 24 - 8 * j = 8 * (3 - j) by omega, Nat.pow_mul]
  rw [← e, Int.natCast_emod, Int.natCast_ediv, Int.natCast_pow]
  rfl
set_option maxHeartbeats 3200000 in
set_option maxRecDepth 100000 in
theorem of_dev (A : Option Addr) (c nb : Nat) (b : Byt) (w : World) (hn : b.1.length = nb) (hc : nb ≤ c) (hr : R8 w A b.1) (hL : LaidK w) :
    Calls Tryz.prog 76 #[.slice A nb c] w fun e w' => e = .returned (.agg (vl .u8 (Sh.sum b.1)).toArray) ∧ Step w w' := by
  obtain ⟨Z, hZ⟩ : ∃ Z, zs.toArray = Z := ⟨_, rfl⟩
  have hz : Hid (∀ w, (zeroValue 62).run Tryz.prog w = .ok (.agg Z) w) := Lib.hid (hZ ▸ zero32)
  have hsz : Z.size = 32 := by rw [← hZ]; rfl
  have hZl : Hid (zs = Z.toList) := Lib.hid (by rw [← hZ])
  clear hZ
  obtain ⟨X, hX⟩ : ∃ X, (vl .u32 (List.replicate 16 0)).toArray = X := ⟨_, rfl⟩
  have hzX : Hid (∀ w, (zeroValue 141).run Tryz.prog w = .ok (.agg X) w) := Lib.hid (hX ▸ zero41)
  have hsX : X.size = 16 := by rw [← hX]; rfl
  clear hX
  refine (callsIn_wide (n := 10)).1 (callsIn_of_wp_marks Tryz.func76 rfl trivial ?_ rfl)
  simp only [Tryz.ntmps76, List.size_toArray, List.length_cons, List.length_nil, Nat.reduceAdd, Nat.reduceSub, Array.replicate_succ, Array.replicate_zero, List.push_toArray, List.append_toArray, List.nil_append, List.cons_append]
  refine wpIn_wide.2 ?_
  go_wp2_with (first
    | refine Lg.wpAlloc (by rfl) 62 (by rfl) Z hz.out ?_
    | (go_at_call 84; ((with_reducible refine (blocks_any _ _ _ _).mono ?_); rintro e w2 ⟨rfl, rfl⟩)))
  refine (wpIn_wide (n := 10)).1 ?_
  show Code.wpIn Fence.wide 10 _ _ _ _ (((w.alloc (Obj.cells Z 62)).alloc (Obj.cells (vl .u32 HL).toArray 137)).alloc (Obj.cells #[Value.slice A nb c] 61))
  have T0 : (((w.alloc (Obj.cells Z 62)).alloc (Obj.cells (vl .u32 HL).toArray 137)).alloc (Obj.cells #[Value.slice A nb c] 61)).there w.heap.size 0 32 := World.there_alloc (World.there_alloc (Lg.there_new w Z 62 32 hsz) _) _
  have T1 : (((w.alloc (Obj.cells Z 62)).alloc (Obj.cells (vl .u32 HL).toArray 137)).alloc (Obj.cells #[Value.slice A nb c] 61)).there (w.heap.size + 1) 0 8 := World.there_alloc (by have := Lg.there_new (w.alloc (Obj.cells Z 62)) (vl .u32 HL).toArray 137 8 rfl; simpa using this) _
  have R1 : (((w.alloc (Obj.cells Z 62)).alloc (Obj.cells (vl .u32 HL).toArray 137)).alloc (Obj.cells #[Value.slice A nb c] 61)).rangeAt (w.heap.size + 1) 0 (vl .u32 (hs [])) := World.rangeAt_alloc (by have := range_new (w.alloc (Obj.cells Z 62)) (vl .u32 HL).toArray 137; rw [World.size_alloc] at this; exact this) _
  have C2 : (((w.alloc (Obj.cells Z 62)).alloc (Obj.cells (vl .u32 HL).toArray 137)).alloc (Obj.cells #[Value.slice A nb c] 61)).cell? ⟨w.heap.size + 2, 0, none⟩ = some (.slice A nb c) := by
    have := range_new ((w.alloc (Obj.cells Z 62)).alloc (Obj.cells (vl .u32 HL).toArray 137)) #[Value.slice A nb c] 61 0 (.slice A nb c) rfl
    simpa using this
  have B2 : Below w.heap.size w (((w.alloc (Obj.cells Z 62)).alloc (Obj.cells (vl .u32 HL).toArray 137)).alloc (Obj.cells #[Value.slice A nb c] 61)) := (inferInstance : Ext w (((w.alloc (Obj.cells Z 62)).alloc (Obj.cells (vl .u32 HL).toArray 137)).alloc (Obj.cells #[Value.slice A nb c] 61))).h
  have s2 : (((w.alloc (Obj.cells Z 62)).alloc (Obj.cells (vl .u32 HL).toArray 137)).alloc (Obj.cells #[Value.slice A nb c] 61)).heap.size = w.heap.size + 3 := by simp
  generalize (((w.alloc (Obj.cells Z 62)).alloc (Obj.cells (vl .u32 HL).toArray 137)).alloc (Obj.cells #[Value.slice A nb c] 61)) = w2 at T0 T1 R1 C2 B2 s2 ⊢
  refine wpIn_rangeFunc_ownH rfl (by omega) (gf := 88) (lb := #[.pointer (some ⟨w.heap.size + 2, 0, none⟩)]) rfl trivial (enters_of Tryz.func88 (by kernel_rfl) rfl)
    (w0 := w2) (encs := encB) (Kp := KpB w.heap.size (w.heap.size + 2)) (S := fun ys => ys = bks b ((pad b.1).length / 64)) (Sp := fun _ => True) (N := (pad b.1).length / 64)
    (fun l J Jx W hW hJ _ hY h0 => blocks1_in _ l (w.heap.size + 2) A c nb b w hn hc hr J Jx W hJ hY (B2.trans (hW.mono (by omega))) ((hW.cell (p := ⟨w.heap.size + 2, 0, none⟩) (by show w.heap.size + 2 < _; omega)).trans C2) h0)
    KpB.t
    (fun W l o o' hl h ho hw => ⟨belowK_b (w := w2) (by omega) W l o o' hl h ho hw, fun v hv => (cell_kept hv (grownBy_putObj' W l o') (fun r e => by cases e; exact ⟨o, h, ho⟩))⟩)
    (Below.refl _ _) (fun _ => rfl)
    (fun pre W => ((W.rangeAt (w.heap.size + 1) 0 (vl .u32 (hs pre)) ∧ W.there (w.heap.size + 1) 0 8) ∧ W.there w.heap.size 0 32) ∧ Below w.heap.size w2 W)
    (fun _ _ _ => False)
    (OwnFrom.and (OwnFrom.and (OwnFrom.and (Own.from (own_range _ _) _) (Own.from (own_there _ _) _)) (Own.from (own_there _ _) _)) (ownFrom_below (by omega) (by omega)))
    (fun _ _ _ _ _ hs _ _ => hs)
    ⟨⟨⟨R1, T1⟩, T0⟩, Below.refl _ _⟩
    (fun x a' W => ∃ Bx, w.heap.size + 2 < Bx ∧ W.rangeAt Bx 0 (vl .u32 x.1) ∧ a' = { tmps := #[Value.slice A nb c, undef, Value.pointer (some { block := w.heap.size, off := 0 }), Value.pointer (some { block := w.heap.size + 1, off := 0 }), Value.pointer (some ⟨Bx, 0, none⟩), undef, undef, undef, undef, Value.agg (vl .u32 HL).toArray, Value.slice A nb c, Value.func (Fn.func 88) #[] #[Value.pointer (some { block := w.heap.size + 2, off := 0 })], .agg (vl .u32 x.1).toArray, undef, undef, undef, undef, undef, undef, undef, undef, undef, undef, undef, undef, undef, undef, undef, undef, undef, undef, undef, undef, undef, undef, undef, undef, undef, undef], defers := [] })
    (fun x a' _ X Y row hs hg hr => by obtain ⟨Bx, h1, h2, h3⟩ := hs; exact ⟨Bx, h1, own_range Bx (fun (_ : Unit) => vl .u32 x.1) () X Y row h2 hg (fun r e => (hr r e).2), h3⟩)
    ?assign ?body ?done ?stop
  case assign =>
    rintro l pre x W K ⟨⟨⟨r1, t1⟩, t0⟩, B1⟩ hK
    have lx : (vl .u32 x.1).length = 16 := by rw [vl_len, x.2.1]
    have ox := Lib.hid (vl_one .u32 x.1)
    have hK' := Lib.hid hK
    clear hK
    unfold encB
    generalize hV : vl .u32 x.1 = V at lx ox ⊢
    have ez : ∀ (T : Array Value), (#[12].zip #[Value.agg V.toArray]).foldl (fun t (p, v) => t.setIfInBounds p v) T = T.setIfInBounds 12 (.agg V.toArray) := fun T => by simp
    rw [ez]
    have eV : V.toArray.size = 16 := lx
    have h3 : w.heap.size + 3 ≤ W.heap.size := by have := B1.size; omega
    have hTn := Lg.there_new W X 141 16 hsX
    gi_wp2_with (first
      | refine Lg.wpListIn_alloc (by rfl) 141 (by rfl) X hzX.out ?_
      | refine Lg.wpListIn_store (by rfl) 141 (.tmp 4) (.tmp 12) (by rfl) W.heap.size 0 V.toArray (by rfl) (by rfl) (by rw [eV]; exact hTn) (by rw [eV]; exact size41) ox.out ?_)
    have hBW : Below W.heap.size W ((W.alloc (Obj.cells X 141)).setCells W.heap.size 0 V) := Lg.below_setCells (Nat.le_refl _) _ _ _ ((Below.refl _ W).alloc (Nat.le_refl _) _)
    refine hK'.out _ _ (keeps_of_below hBW) (KpB.step hBW (by omega)) ⟨⟨⟨range_under r1 hBW (by omega), there_under t1 hBW (by omega)⟩, there_under t0 hBW (by omega)⟩, B1.trans (hBW.mono (by omega))⟩ ⟨W.heap.size, by omega, ?_, ?_⟩
    · rw [hV]
      exact World.rangeAt_setCells_same _ _ _ _ (by rw [lx]; exact hTn)
    · rw [hV]
      rfl
  case body =>
    rintro l pre x a' W hl ⟨r, hr'⟩ ⟨⟨⟨r1, t1⟩, t0⟩, B1⟩ ⟨Bx, hBx, rX, rfl⟩ hlt
    have hf := hs_fine pre
    have lH : (vl .u32 (hs pre)).length = 8 := by rw [vl_len, hf.1]
    have lV : (vl .u32 x.1).length = 16 := by rw [vl_len, x.2.1]
    have h3 : w.heap.size + 3 ≤ W.heap.size := by have := B1.size; omega
    have hlX : Bx < W.heap.size := by
      have h := rX 0 _ (vl_at .u32 x.1 0 (by rw [x.2.1]; omega))
      unfold World.cell? at h
      apply Classical.byContradiction
      intro hn
      rw [Array.getElem?_eq_none (by simpa using hn)] at h
      cases h
    have lE : (ext x.1 48).length = 64 := by rw [ext_len, x.2.1]
    have cS := fun w => spread_dev x.1 w x.2.1 (Lib.hid x.2.2)
    have cT := fun w h => turn_dev (hs pre) (ext x.1 48) w hf.1 lE (Lib.hid hf.2) (Lib.hid (ext_B32 x.2.2 48)) h
    have hLW : LaidK W := by
      have e : Ext w W := ⟨B2.trans B1⟩
      exact hL.to
    have fin : Hid (∀ X, Below W.heap.size W X → ∀ a, ownPostG w2.heap.size (KpB w.heap.size (w.heap.size + 2)) (fun pre W => ((W.rangeAt (w.heap.size + 1) 0 (vl .u32 (hs pre)) ∧ W.there (w.heap.size + 1) 0 8) ∧ W.there w.heap.size 0 32) ∧ Below w.heap.size w2 W) (fun _ _ _ => False) (pre ++ [x]) W .normal a (X.setCells (w.heap.size + 1) 0 (vl .u32 (ad8 (hs pre) (run (ext x.1 48) (hs pre) 64) 8)))) := Lib.hid fun X hX a => by
      have tX := there_under t1 hX (by omega)
      have l8 : (vl .u32 (ad8 (hs pre) (run (ext x.1 48) (hs pre) 64) 8)).length = 8 := ad8_len _ _ _
      refine ⟨(keeps_of_below hX).trans ((keeps_setCells _ _ _).from _), ⟨Lg.below_setCells (by omega) _ _ _ (hX.mono (by omega)), fun v hv => ?_⟩, ⟨⟨?_, World.there_setCells tX _ _ _⟩, World.there_setCells (there_under t0 hX (by omega)) _ _ _⟩, Lg.below_setCells (by omega) _ _ _ (B1.trans (hX.mono (by omega)))⟩
      · rw [cell_setCells (by show w.heap.size + 2 ≠ w.heap.size + 1; omega)]
        exact (hX.cell (p := ⟨w.heap.size + 2, 0, none⟩) (by show w.heap.size + 2 < _; omega)).trans hv
      · rw [hs_snoc]
        exact World.rangeAt_setCells_same _ _ _ _ (by rw [l8]; exact tX)
    have l8 : (vl .u32 (ad8 (hs pre) (run (ext x.1 48) (hs pre) 64) 8)).length = 8 := ad8_len _ _ _
    have o8 := Lib.hid (vl_one .u32 (ad8 (hs pre) (run (ext x.1 48) (hs pre) 64) 8))
    generalize vl .u32 (ad8 (hs pre) (run (ext x.1 48) (hs pre) 64) 8) = N8 at cT fin l8 o8
    have e8 : N8.toArray.size = 8 := l8
    have hd : Below W.heap.size W W.drew := (Below.refl _ W).drew
    gi_wp2
    refine wpIn_region_any (by kernel_rfl) ?_
    change wpAnyIn _ _ _ _ _ _ _ _ _ (World.drew _)
    refine wpAnyIn_ready (rs := [0, 1]) (by kernel_rfl) (by simp) ?_
    refine AllReadyIn.cons rfl (fun K hK => ?_) (AllReadyIn.cons rfl (fun K hK => ?_) AllReadyIn.nil)
    · refine pos_in (by rfl) ?_
      refine Lg.wpIn_load 137 (.tmp 3) (by rfl) (w.heap.size + 1) 0 (by rfl) (vl .u32 (hs pre)) _ (range_under r1 hd (by omega)) Tryz.underlying137 rfl (by rw [lH]; exact size37) ?_
      refine hK _ _ ?_
      clear hK K
      refine wpAnyIn_ready (rs := [1]) (by kernel_rfl) (by simp) ?_
      refine AllReadyIn.cons rfl (fun K hK => ?_) AllReadyIn.nil
      refine pos_in (by rfl) ?_
      refine Lg.wpIn_load 141 (.tmp 4) (by rfl) Bx 0 (by rfl) (vl .u32 x.1) _ (range_under rX hd hlX) Tryz.underlying141 rfl (by rw [lV]; exact size41) ?_
      refine hK _ _ ?_
      clear hK K
      refine wpAnyIn_ready (rs := [2]) (by kernel_rfl) (by simp) ?_
      refine AllReadyIn.cons rfl (fun K hK => ?_) AllReadyIn.nil
      go_simp
      refine ⟨trivial, ?_⟩
      refine (CallsIn.inRound l (callsIn_wide.2 (cS _))).mono ?_
      rintro e w3 ⟨rfl, S3⟩
      refine hK _ _ ?_
      clear hK K
      have hd3 : Below W.heap.size W w3 := hd.trans (S3.h.mono (Nat.le_refl _))
      refine wpAnyIn_ready (rs := [3]) (by kernel_rfl) (by simp) ?_
      refine AllReadyIn.cons rfl (fun K hK => ?_) AllReadyIn.nil
      go_simp
      refine ⟨trivial, ?_⟩
      refine (CallsIn.inRound l (callsIn_wide.2 (cT _ (LaidK.to (e := ⟨hd3⟩) hLW)))).mono ?_
      rintro e w4 ⟨rfl, S4⟩
      refine hK _ _ ?_
      clear hK K
      have hd4 : Below W.heap.size W w4 := hd3.trans (S4.h.mono hd3.size)
      refine wpAnyIn_ready (rs := [4]) (by kernel_rfl) (by simp) ?_
      refine AllReadyIn.cons rfl (fun K hK => ?_) AllReadyIn.nil
      refine pos_in (by rfl) ?_
      refine Lg.wpIn_store 137 (.tmp 3) (.tmp 16) (by rfl) (w.heap.size + 1) 0 N8.toArray (by rfl) (by rfl) (by rw [e8]; exact there_under t1 hd4 (by omega)) (by rw [e8]; exact size37) o8.out ?_
      refine hK _ _ ?_
      clear hK K
      refine wpAnyIn_done (by kernel_rfl) ?_ _
      exact fin.out w4 hd4 { tmps := #[], defers := [] }
    · refine pos_in (by rfl) ?_
      refine Lg.wpIn_load 141 (.tmp 4) (by rfl) Bx 0 (by rfl) (vl .u32 x.1) _ (range_under rX hd hlX) Tryz.underlying141 rfl (by rw [lV]; exact size41) ?_
      refine hK _ _ ?_
      clear hK K
      refine wpAnyIn_ready (rs := [0, 2]) (by kernel_rfl) (by simp) ?_
      refine AllReadyIn.cons rfl (fun K hK => ?_) (AllReadyIn.cons rfl (fun K hK => ?_) AllReadyIn.nil)
      · refine pos_in (by rfl) ?_
        refine Lg.wpIn_load 137 (.tmp 3) (by rfl) (w.heap.size + 1) 0 (by rfl) (vl .u32 (hs pre)) _ (range_under r1 hd (by omega)) Tryz.underlying137 rfl (by rw [lH]; exact size37) ?_
        refine hK _ _ ?_
        clear hK K
        refine wpAnyIn_ready (rs := [2]) (by kernel_rfl) (by simp) ?_
        refine AllReadyIn.cons rfl (fun K hK => ?_) AllReadyIn.nil
        go_simp
        refine ⟨trivial, ?_⟩
        refine (CallsIn.inRound l (callsIn_wide.2 (cS _))).mono ?_
        rintro e w3 ⟨rfl, S3⟩
        refine hK _ _ ?_
        clear hK K
        have hd3 : Below W.heap.size W w3 := hd.trans (S3.h.mono (Nat.le_refl _))
        refine wpAnyIn_ready (rs := [3]) (by kernel_rfl) (by simp) ?_
        refine AllReadyIn.cons rfl (fun K hK => ?_) AllReadyIn.nil
        go_simp
        refine ⟨trivial, ?_⟩
        refine (CallsIn.inRound l (callsIn_wide.2 (cT _ (LaidK.to (e := ⟨hd3⟩) hLW)))).mono ?_
        rintro e w4 ⟨rfl, S4⟩
        refine hK _ _ ?_
        clear hK K
        have hd4 : Below W.heap.size W w4 := hd3.trans (S4.h.mono hd3.size)
        refine wpAnyIn_ready (rs := [4]) (by kernel_rfl) (by simp) ?_
        refine AllReadyIn.cons rfl (fun K hK => ?_) AllReadyIn.nil
        refine pos_in (by rfl) ?_
        refine Lg.wpIn_store 137 (.tmp 3) (.tmp 16) (by rfl) (w.heap.size + 1) 0 N8.toArray (by rfl) (by rfl) (by rw [e8]; exact there_under t1 hd4 (by omega)) (by rw [e8]; exact size37) o8.out ?_
        refine hK _ _ ?_
        clear hK K
        refine wpAnyIn_done (by kernel_rfl) ?_ _
        exact fin.out w4 hd4 { tmps := #[], defers := [] }
      · go_simp
        refine ⟨trivial, ?_⟩
        refine (CallsIn.inRound l (callsIn_wide.2 (cS _))).mono ?_
        rintro e w3 ⟨rfl, S3⟩
        refine hK _ _ ?_
        clear hK K
        have hd3 : Below W.heap.size W w3 := hd.trans (S3.h.mono (Nat.le_refl _))
        refine wpAnyIn_ready (rs := [0]) (by kernel_rfl) (by simp) ?_
        refine AllReadyIn.cons rfl (fun K hK => ?_) AllReadyIn.nil
        refine pos_in (by rfl) ?_
        refine Lg.wpIn_load 137 (.tmp 3) (by rfl) (w.heap.size + 1) 0 (by rfl) (vl .u32 (hs pre)) _ (range_under r1 hd3 (by omega)) Tryz.underlying137 rfl (by rw [lH]; exact size37) ?_
        refine hK _ _ ?_
        clear hK K
        refine wpAnyIn_ready (rs := [3]) (by kernel_rfl) (by simp) ?_
        refine AllReadyIn.cons rfl (fun K hK => ?_) AllReadyIn.nil
        go_simp
        refine ⟨trivial, ?_⟩
        refine (CallsIn.inRound l (callsIn_wide.2 (cT _ (LaidK.to (e := ⟨hd3⟩) hLW)))).mono ?_
        rintro e w4 ⟨rfl, S4⟩
        refine hK _ _ ?_
        clear hK K
        have hd4 : Below W.heap.size W w4 := hd3.trans (S4.h.mono hd3.size)
        refine wpAnyIn_ready (rs := [4]) (by kernel_rfl) (by simp) ?_
        refine AllReadyIn.cons rfl (fun K hK => ?_) AllReadyIn.nil
        refine pos_in (by rfl) ?_
        refine Lg.wpIn_store 137 (.tmp 3) (.tmp 16) (by rfl) (w.heap.size + 1) 0 N8.toArray (by rfl) (by rfl) (by rw [e8]; exact there_under t1 hd4 (by omega)) (by rw [e8]; exact size37) o8.out ?_
        refine hK _ _ ?_
        clear hK K
        refine wpAnyIn_done (by kernel_rfl) ?_ _
        exact fin.out w4 hd4 { tmps := #[], defers := [] }
  case done =>
    rintro D ys W hD rfl ⟨⟨⟨r1, t1⟩, t0⟩, B1⟩ hK
    obtain ⟨H, hH⟩ : ∃ H, Hid (H = hs (bks b ((pad b.1).length / 64))) := ⟨_, Lib.hid rfl⟩
    have hf := hs_fine (bks b ((pad b.1).length / 64))
    have eS : Hid (vl .u8 (bys H) = vl .u8 (Sh.sum b.1)) := Lib.hid (by rw [hH.out, hs_hsh]; rfl)
    rw [← hH.out] at r1 hf
    clear hH
    have lN : (vl .u32 H).length = 8 := by rw [vl_len, hf.1]
    have cN : ∀ i, i < 8 → (vl .u32 H)[i]? = some (.int .u32 (H.getD i 0 : Nat)) := fun i hi => vl_at _ _ _ (by rw [hf.1]; exact hi)
    have Tn := Lg.there_new W Z 62 32 hsz
    have Rn : (W.alloc (Obj.cells Z 62)).rangeAt W.heap.size 0 (vl .u8 (ol H 0)) := by
      rw [ol_zero, hZl.out]
      exact range_new W Z 62
    have T0n := World.there_alloc t0 (Obj.cells Z 62)
    have R1n := World.rangeAt_alloc r1 (Obj.cells Z 62)
    have hBn : Below w.heap.size w (W.alloc (Obj.cells Z 62)) := (B2.trans B1).alloc (by have := B1.size; omega) _
    have hKn : (W.alloc (Obj.cells Z 62)).heap[D]? = some (.deferred (some [])) := (KeepsOthers.alloc W _).same D _ hK rfl
    have hDV : w.heap.size ≤ W.heap.size := by have := B1.size; omega
    generalize hNN : vl .u32 H = N at lN cN R1n
    go_wp2_with (first
      | refine Lg.wpAlloc (by rfl) 62 (by rfl) Z hz.out ?_
      | refine wpList_load_mid (by rfl) 137 (.tmp 3) (by rfl) (w.heap.size + 1) 0 (by rfl) N _ R1n Tryz.underlying137 rfl (by rw [lN]; exact size37) ?_)
    obtain ⟨V, hV⟩ : ∃ V, V = W.heap.size := ⟨_, rfl⟩
    rw [← hV] at Tn Rn hDV ⊢
    obtain ⟨G, hG⟩ : ∃ G, G = w.heap.size := ⟨_, rfl⟩
    have hGV : w.heap.size ≤ V := hDV
    generalize W.alloc (Obj.cells Z 62) = W5 at Tn Rn T0n hBn hKn ⊢
    clear hV r1 t1 t0 B1 hK R1n hNN hDV T0 T1 R1 C2
    go_loopw [6, 7, 8, 18, 22] (fun _ _ _ p _ wr => ∃ i : Nat, Hid (i ≤ 8) ∧ p = .int .i64 i ∧ wr.there w.heap.size 0 32 ∧ wr.there V 0 32 ∧ wr.rangeAt V 0 (vl .u8 (ol H (4 * i))) ∧ Below w.heap.size w wr ∧ wr.heap[D]? = some (.deferred (some []))) (fun _ _ _ p _ _ => 8 - (intOf p).toNat)
    case atStart => exact ⟨0, Lib.hid (Nat.zero_le _), rfl, T0n, Tn, Rn, hBn, hKn⟩
    case round =>
      obtain ⟨i, hi, rfl, t0, tV, rV, B, hK⟩ := hrel
      by_cases hlt : i < 8
      · have hI : ∀ w, (Instr.index 137 (.agg N.toArray) (.int .i64 i)).run Tryz.prog w = .ok (.int .u32 (H.getD i 0 : Nat)) w := run_index Tryz.underlying137 Tryz.sizeOf51 Tryz.isAgg51 i hlt (by rw [List.getElem?_toArray]; exact cN i hlt)
        have hx := hf.2 i
        have hb4 : ∀ j, j < 4 → (bys H).getD (4 * i + j) 0 = H.getD i 0 / 256 ^ (3 - j) % 256 := fun j hj => bys_at H hf.2 i j (by rw [hf.1]; exact hlt) hj
        have hb4' := Lib.hid hb4
        clear hb4
        generalize H.getD i 0 = x at hI hx hb4'
        have xI : (x : Int) < 4294967296 := by omega
        have iI : (i : Int) < 8 := by omega
        have hlt' := Lib.hid hlt
        obtain ⟨w9, h9⟩ : ∃ w9, w9 = wr := ⟨_, rfl⟩
        subst h9
        clear hlt
        go_wp2
        go_loopw [8, 22] (fun _ p wr => ∃ j : Nat, Hid (j ≤ 4) ∧ p = .int .i64 j ∧ wr.there w.heap.size 0 32 ∧ wr.there V 0 32 ∧ wr.rangeAt V 0 (vl .u8 (ol H (4 * i + j))) ∧ Below w.heap.size w wr ∧ wr.heap[D]? = some (.deferred (some []))) (fun _ p _ => 4 - (intOf p).toNat)
        case atStart => exact ⟨0, Lib.hid (Nat.zero_le _), rfl, t0, tV, rV, B, hK⟩
        case round =>
          obtain ⟨j, hj, rfl, t0, tV, rV, B, hK⟩ := hrel
          by_cases hlt2 : j < 4
          · have hm : 4 * i + j < 32 := by have := hlt'.out; omega
            obtain ⟨u, ec⟩ := Option.isSome_iff_exists.1 (tV (4 * i + j) hm).1
            have hfz := (tV (4 * i + j) hm).2
            rw [Nat.zero_add] at ec hfz
            have jI : (j : Int) < 4 := by omega
            have hst := Lib.hid (ol_step H (4 * i + j))
            have hv := Lib.hid (byte_form x j hlt2)
            go_wp2
            go_roundw
            case rel => exact ⟨j + 1, Lib.hid (by omega), by go_num, there_setCell t0 _ _, there_setCell tV _ _, by
              rw [hv.out, ← hb4'.out j hlt2, ← Nat.add_assoc, ← hst.out, ← vl_set]
              exact rangeAt_set rV (4 * i + j) _ (by rw [ol_len]; exact hm), B.setCell (by show w.heap.size ≤ V; exact hGV) _, (KeepsOthers.setCell wr ⟨V, 4 * i + j, none⟩ _).same D _ hK rfl⟩
            case measure => simp [intOf]; omega
          · have hj4 : j = 4 := by have := hj.out; omega
            subst hj4
            go_wp2
            go_roundw
            case rel => exact ⟨i + 1, Lib.hid (by have := hlt'.out; omega), by go_num, t0, tV, rV, B, hK⟩
            case measure => have := hlt'.out; simp [intOf]; omega
      · have hi8 : i = 8 := by have := hi.out; omega
        subst hi8
        have lF := ol_len H 32
        have eF : Hid (vl .u8 (ol H (4 * 8)) = vl .u8 (bys H)) := Lib.hid (by rw [ol_end H hf.1])
        have oF := Lib.hid (vl_one .u8 (ol H 32))
        have rV : wr.rangeAt V 0 (vl .u8 (ol H 32)) := rV
        have eF : Hid (vl .u8 (ol H 32) = vl .u8 (bys H)) := eF
        generalize vl .u8 (ol H 32) = E at rV lF eF oF
        have eE : E.toArray.size = 32 := lF
        go_wp2_with (first
          | refine wpList_load_mid (by rfl) 62 (.tmp 5) (by rfl) V 0 (by rfl) E _ rV Tryz.underlying62 rfl (by rw [lF]; exact size32) ?_
          | refine wpList_store_mid (by rfl) 62 (.tmp 2) (.tmp 38) (by rfl) w.heap.size 0 E.toArray (by rfl) (by rfl) (by rw [eE]; exact t0) (by rw [eE]; exact size32) oF.out ?_)
        have hKf : (wr.setCells w.heap.size 0 E).heap[D]? = some (.deferred (some [])) := (keeps_setCells E 0 wr).same D _ hK rfl
        have rE : (wr.setCells w.heap.size 0 E).rangeAt w.heap.size 0 E := World.rangeAt_setCells_same _ _ _ _ (by rw [lF]; exact t0)
        have rE2 := own_range (β := Unit) w.heap.size (fun _ => E) () _ _ _ rE (grownBy_putObj' (wr.setCells w.heap.size 0 E) D (.deferred none)) (fun r e => by cases e; exact ⟨_, hKf, rfl⟩)
        have BF : Below w.heap.size w (wr.setCells w.heap.size 0 E) := Lg.below_setCells (Nat.le_refl _) _ _ _ B
        refine ⟨by simp, .inl ⟨_, _, rfl, run_takeDeferred hKf, ?_⟩⟩
        exact ⟨_, results_one (by rfl) _ _ w.heap.size 0 E _ (by rfl) rE2 Tryz.underlying62 rfl (by rw [lF]; exact size32), by rw [eF.out, eS.out], ⟨BF.trans (belowK_b (w := w) (Nat.le_refl _) _ D _ _ (by omega) hKf rfl rfl)⟩⟩
  case stop =>
    rintro D c' pre W _ _ h _
    exact h.elim
end Sp
end Go.Proofs.YtfeahgcigmoijaaGreatDoor
/- The program's own text of a sum (package sha's Text). Conditions: what is handed in is 32 bytes. -/
namespace Go.Proofs.YtfeahgcigmoijaaGreatDoor
open Go.RowKit Go.Lib
namespace Sp
open SlR Sh
/-- The digits, as many as have come. -/
def tl (bs : List Nat) (n : Nat) : List Nat := (List.range 64).map fun m => if m < n then (txt bs).getD m 0 else 0
theorem tl_len (bs : List Nat) (n : Nat) : (vl .u8 (tl bs n)).length = 64 := by simp [vl, tl]
theorem tl_step (bs : List Nat) (n : Nat) : (tl bs n).set n ((txt bs).getD n 0) = tl bs (n + 1) := by
  refine List.ext_getElem (by simp [tl]) fun i h1 h2 => ?_
  rw [List.getElem_set]
  by_cases e : n = i
  · subst e
    simp [tl]
  · have e2 : i < n + 1 ↔ i < n := by omega
    simp [tl, e, e2]
theorem tl_end (bs : List Nat) (h : bs.length = 32) : tl bs 64 = txt bs := by
  refine List.ext_getElem (by simp [tl, txt_len, h]) fun i h1 h2 => ?_
  have hi : i < 64 := by simpa [tl] using h1
  simp [tl, hi, List.getElem?_eq_getElem h2]
theorem tl_zero (bs : List Nat) : vl .u8 (tl bs 0) = vl .u8 (List.replicate 64 0) := by
  have e : tl bs 0 = List.replicate 64 0 := by
    unfold tl
    simp
    rfl
  rw [e]
theorem txt_at (bs : List Nat) : ∀ i, i < bs.length → (txt bs).getD (2 * i) 0 = hx (bs.getD i 0 / 16) ∧ (txt bs).getD (2 * i + 1) 0 = hx (bs.getD i 0 % 16) := by
  induction bs with
  | nil => intro i h; exact absurd h (Nat.not_lt_zero _)
  | cons x t ih =>
    intro i hi
    have e : txt (x :: t) = tx x ++ txt t := by unfold txt; rw [List.flatMap_cons]
    have l2 : (tx x).length = 2 := rfl
    rw [e]
    cases i with
    | zero => exact ⟨rfl, rfl⟩
    | succ i =>
      have h := ih i (by simpa using hi)
      have e1 : (tx x ++ txt t).getD (2 * (i + 1)) 0 = (txt t).getD (2 * i) 0 := by
        rw [List.getD_eq_getElem?_getD, List.getElem?_append_right (by rw [l2]; omega), l2, show 2 * (i + 1) - 2 = 2 * i by omega, ← List.getD_eq_getElem?_getD]
      have e2 : (tx x ++ txt t).getD (2 * (i + 1) + 1) 0 = (txt t).getD (2 * i + 1) 0 := by
        rw [List.getD_eq_getElem?_getD, List.getElem?_append_right (by rw [l2]; omega), l2, show 2 * (i + 1) + 1 - 2 = 2 * i + 1 by omega, ← List.getD_eq_getElem?_getD]
      rw [e1, e2]
      exact h
theorem and15 (x : Nat) (h : x < 256) : bits .and .u8 (x : Int) 15 = ((x % 16 : Nat) : Int) := by
  have h1 : (BitVec.ofInt 8 (x : Int)).toNat = x := by
    rw [BitVec.ofInt_natCast, BitVec.toNat_ofNat]
    exact Nat.mod_eq_of_lt (by omega)
  show IntKind.u8.wrap ((BitVec.ofInt 8 (x : Int) &&& BitVec.ofInt 8 15).toNat : Int) = _
  have h2 : (BitVec.ofInt 8 15).toNat = 15 := by decide
  have h3 : x &&& 15 = x % 16 := Nat.and_two_pow_sub_one_eq_mod x 4
  rw [BitVec.toNat_and, h1, h2, h3, IntKind.wrap_u8']
  omega
end Sp
end Go.Proofs.YtfeahgcigmoijaaGreatDoor
/- The program's own parse of a sum's text (package sha's Parse, strings.IndexByte). Conditions: none on the text. -/
namespace Go.Proofs.YtfeahgcigmoijaaGreatDoor
open Go.RowKit Go.Lib
namespace Sp
open SlR Sh
theorem idx_dg : ∀ c : Nat, c < 256 → Lib.indexByte [48, 49, 50, 51, 52, 53, 54, 55, 56, 57, 97, 98, 99, 100, 101, 102] (((c : Int).toNat).toUInt8) = dg c := by decide +kernel
end Sp
end Go.Proofs.YtfeahgcigmoijaaGreatDoor
/- Arrays of 32 bytes compared; a guarded load of one; a text comes back. No condition but the lengths. -/
namespace Go.Proofs.YtfeahgcigmoijaaGreatDoor
open Go.RowKit Go.Lib
namespace Sp
open SlR Sh
theorem cells5 : Tryz.prog.cellsOf 5 = 1 := by kernel_rfl
theorem part5 (xs : List Nat) (i : Nat) (h : i < xs.length) (w : World) : (part 5 (vl .u8 xs).toArray (i * 1)).run Tryz.prog w = .ok (.int .u8 (xs.getD i 0 : Nat)) w := by
  have e := vl_at .u8 xs i h
  generalize Value.int .u8 (xs.getD i 0 : Nat) = v at e ⊢
  simp [part, Tryz.isAgg5, e]
theorem items5 (d : Nat) (xs ys : List Nat) : ∀ (is : List Nat), (∀ i ∈ is, i < xs.length ∧ i < ys.length) → ∀ w : World, (Op.eqItems (d + 1) 5 1 (vl .u8 xs).toArray (vl .u8 ys).toArray is).run Tryz.prog w = .ok (is.all fun i => xs.getD i 0 == ys.getD i 0) w
  | [], _, w => by simp [Op.eqItems]
  | i :: is, h, w => by
    have hi := h i (by simp)
    have ih := items5 d xs ys is (fun j hj => h j (by simp [hj])) w
    have e : (((xs.getD i 0 : Nat) : Int) == ((ys.getD i 0 : Nat) : Int)) = (xs.getD i 0 == ys.getD i 0) := by
      rw [Bool.eq_iff_iff]
      simp
      omega
    simp only [Op.eqItems, Sem.run_bind, part5 xs i hi.1, part5 ys i hi.2, Result.andThen_ok, run_equalIn_int w d 5 .u8 .u8 _ _ Tryz.underlying5]
    rw [e, List.all_cons]
    cases hb : (xs.getD i 0 == ys.getD i 0)
    · simp
    · simpa using ih
theorem all_eq (xs ys : List Nat) (n : Nat) (hx : xs.length = n) (hy : ys.length = n) : ((List.range n).all fun i => xs.getD i 0 == ys.getD i 0) = decide (xs = ys) := by
  rw [Bool.eq_iff_iff, decide_eq_true_iff, List.all_eq_true]
  constructor
  · intro h
    refine List.ext_getElem (by omega) fun i h1 h2 => ?_
    have := h i (List.mem_range.2 (by omega))
    rw [List.getD_eq_getElem?_getD, List.getD_eq_getElem?_getD, List.getElem?_eq_getElem h1, List.getElem?_eq_getElem h2] at this
    simpa using this
  · rintro rfl i _
    simp
/-- Two arrays of 32 bytes. -/
theorem eq32 (xs ys : List Nat) (hx : xs.length = 32) (hy : ys.length = 32) (w : World) : (Op.equalIn 10000 62 (.agg (vl .u8 xs).toArray) (.agg (vl .u8 ys).toArray)).run Tryz.prog w = .ok (decide (xs = ys)) w := by
  obtain ⟨i0, hi, -, -, -⟩ := info_parts infoB
  rw [run_equalIn_array w 9999 _ _ Tryz.underlying62 hi, cells5, items5 9998 xs ys (List.range 32) (fun i hi => by have := List.mem_range.1 hi; omega), all_eq xs ys 32 hx hy]
/-- A guarded load that comes up. -/
theorem wpLoadG {P : Program} {ops : Array Oper} {rest : List Oper} {op : Oper} {a : Act} {w : World} {Q : Exit → Act → World → Prop} (hw : Region.wanted op (yielded ops a.tmps) = true) (ty : TypeId) (x : Operand) (ho : op.op = .load ty x)
    (b o : Nat) (hx : a.eval x = .pointer (some ⟨b, o, none⟩)) (cs : List Value) (d : TypeDesc) (hc : w.rangeAt b o cs)
    (hu : P.underlying ty = some d) (hd : d.isRow = true) (hi : (P.info? ty).map (·.size) = some cs.length)
    (h : wpList P ops Q rest (a.put op.dst (.agg cs.toArray)) w) : wpList P ops Q (op :: rest) a w :=
  wpList_step fun K hK => by
    rw [if_pos hw]
    exact wp_load_mid ty x ho b o hx cs d hc hu hd hi (hK _ _ h)
/-! ### A sum comes back from its digits -/
theorem dg_hx (d : Nat) (h : d < 16) : dg (hx d) = d := by
  rcases (by omega : d = 0 ∨ d = 1 ∨ d = 2 ∨ d = 3 ∨ d = 4 ∨ d = 5 ∨ d = 6 ∨ d = 7 ∨ d = 8 ∨ d = 9 ∨ d = 10 ∨ d = 11 ∨ d = 12 ∨ d = 13 ∨ d = 14 ∨ d = 15) with rfl | rfl | rfl | rfl | rfl | rfl | rfl | rfl | rfl | rfl | rfl | rfl | rfl | rfl | rfl | rfl <;> decide
theorem hx_lt (d : Nat) (h : d < 16) : hx d < 256 := by
  unfold hx
  split <;> omega
theorem txt_lt {bs : List Nat} (hb : B8 bs) : ∀ x ∈ txt bs, x < 256 := fun x hx => by
  unfold txt at hx
  obtain ⟨y, hy, hxy⟩ := List.mem_flatMap.1 hx
  have hy2 : y < 256 := by
    obtain ⟨i, hi, rfl⟩ := List.getElem_of_mem hy
    have := hb i
    rw [List.getD_eq_getElem?_getD, List.getElem?_eq_getElem hi] at this
    exact this
  simp only [tx, List.mem_cons, List.not_mem_nil, or_false] at hxy
  rcases hxy with rfl | rfl
  · exact hx_lt _ (by omega)
  · exact hx_lt _ (by omega)
theorem bl_nums (xs : List Nat) (h : ∀ x ∈ xs, x < 256) : bl (strOfNums (NL xs)) = xs := by
  unfold bl
  rw [strOfNums_data]
  unfold NL
  rw [List.map_map, List.map_map]
  refine List.ext_getElem (by simp) fun i h1 h2 => ?_
  have := h xs[i] (List.getElem_mem _)
  simp
  omega
theorem bl_text {bs : List Nat} (hb : B8 bs) : bl (strOfNums (NL (txt bs))) = txt bs := bl_nums _ (txt_lt hb)
theorem size_text {bs : List Nat} (hn : bs.length = 32) : (strOfNums (NL (txt bs))).size = 64 := by rw [strOfNums_size, NL_len, txt_len, hn]
theorem back_at {bs : List Nat} (hn : bs.length = 32) (hb : B8 bs) (i : Nat) (hi : i < 32) : ok2 (txt bs) i ∧ val2 (txt bs) i = bs.getD i 0 := by
  obtain ⟨h1, h2⟩ := txt_at bs i (by omega)
  have hx := hb i
  unfold ok2 val2
  rw [h1, h2, dg_hx _ (by omega), dg_hx _ (by omega)]
  omega
theorem vals_back {bs : List Nat} (hn : bs.length = 32) (hb : B8 bs) : vals (txt bs) 32 = bs := by
  refine List.ext_getElem? fun i => ?_
  by_cases hi : i < 32
  · have e : (vals (txt bs) 32)[i]? = some (val2 (txt bs) i) := by simp [vals, hi]
    rw [e, (back_at hn hb i hi).2, List.getD_eq_getElem?_getD, List.getElem?_eq_getElem (by omega)]
    rfl
  · rw [List.getElem?_eq_none (by simp [vals]; omega), List.getElem?_eq_none (by omega)]
theorem cl_vals (s : ByteArray) : cl s 32 = vl .u8 (vals (bl s) 32) := by
  unfold cl vl
  simp
/-- Two texts are the same just if the sums are. -/
theorem text_same {xs ys : List Nat} (hx : xs.length = 32) (hy : ys.length = 32) (bx : B8 xs) (bY : B8 ys) (h : strOfNums (NL (txt xs)) = strOfNums (NL (txt ys))) : xs = ys := by
  rw [← vals_back hx bx, ← vals_back hy bY, ← bl_text bx, ← bl_text bY, h]
end Sp
end Go.Proofs.YtfeahgcigmoijaaGreatDoor
/- A new array's cells are stored; a sum is 32 bytes; a literal block reads as a row. Conditions: the lengths. -/
namespace Go.Proofs.YtfeahgcigmoijaaGreatDoor
open Go.RowKit Go.Lib
namespace Sp
open SlR Sh
theorem store_new (w : World) (Z : Array Value) (C : List Value) (hsz : Z.size = 32) (lC : C.length = 32) (oC : C.toArray.all (·.oneCell') = true) :
    ∃ W, (storeCells ⟨w.heap.size, 0, none⟩ C).run Tryz.prog (w.alloc (.cells Z 62)) = .ok () W ∧ Step w W ∧ W.rangeAt w.heap.size 0 C ∧ w.heap.size < W.heap.size := by
  have ht := Lg.there_new w Z 62 32 hsz
  have hB : Below w.heap.size w ((w.alloc (.cells Z 62)).setCells w.heap.size 0 C) := Lg.below_setCells (Nat.le_refl _) _ _ _ ((Below.refl _ w).alloc (Nat.le_refl _) _)
  have hR := World.rangeAt_setCells_same (w.alloc (.cells Z 62)) w.heap.size 0 C (by rw [lC]; exact ht)
  refine ⟨_, ?_, ⟨hB⟩, hR, ?_⟩
  · have := run_storeCells_cells (P := Tryz.prog) w.heap.size 0 C 0 (w.alloc (.cells Z 62)) (fun j hj => by simpa using (ht j (by omega)).1) (fun j hj => by have := (ht j (by omega)).2; simp at this; simp) (fun v hv => (Array.all_eq_true_iff_forall_mem.1 oC) v (by simpa using hv))
    simp at this
    exact this
  · have h := hR 0 _ (List.getElem?_eq_getElem (by omega))
    unfold World.cell? at h
    apply Classical.byContradiction
    intro hn
    rw [Array.getElem?_eq_none (by simpa using hn)] at h
    cases h
/-- A sum is 32 bytes. -/
theorem sum_fine (b : List Nat) : (Sh.sum b).length = 32 := by
  show (bys (hsh (pad b) ((pad b).length / 64))).length = 32
  rw [bys_len, Ev.hsh_len]
theorem sum_b8 (b : Byt) : B8 (Sh.sum b.1) := by
  show B8 (bys (hsh (pad b.1) ((pad b.1).length / 64)))
  rw [← hs_hsh]
  refine b8_bys fun x hx => ?_
  obtain ⟨i, hi, rfl⟩ := List.getElem_of_mem hx
  have := (hs_fine (bks b ((pad b.1).length / 64))).2 i
  rw [List.getD_eq_getElem?_getD, List.getElem?_eq_getElem hi] at this
  exact this
theorem row_mark (w : World) (H : Nat) (t : TypeId) (fr : Nat × Nat) (xs : List Int) (h : w.heap.size = H) : Row .u8 (w.alloc (.cells (xs.map (Value.int .u8)).toArray t fr)) (some ⟨H, 0, none⟩) xs := fun j x hx => by
  subst h
  refine ⟨_, rfl, by simp, ?_⟩
  rw [Addr.add_mid, Nat.zero_add, World.cell?_alloc_mark]
  simp [hx]
end Sp
end Go.Proofs.YtfeahgcigmoijaaGreatDoor
