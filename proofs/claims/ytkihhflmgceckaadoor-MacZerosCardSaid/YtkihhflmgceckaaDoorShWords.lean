/- The program's own words of a block (package sha's words). Conditions: what is handed in is 64 bytes. -/
import Derived.Test.YtkihhflmgceckaaDoorShRot
import Derived.Test.YtkihhflmgceckaaDoorLong
import Derived.Test.YtkihhflmgceckaaDoorRef05e
namespace Go.Proofs.YtkihhflmgceckaaDoor
open Go.RowKit Go.Lib
namespace Sp
open SlR Sh
/-- One result, an array that lies in a cell of its own. -/
theorem results_one {P : Program} {fn : Func} {p : Tmp} {ty : TypeId} (h : fn.results = #[.cell p ty]) (tmps : Array Value) (w : World) (b o : Nat) (cs : List Value) (d : TypeDesc)
    (hp : tmps.getD p undef = .pointer (some ⟨b, o, none⟩)) (hc : w.rangeAt b o cs) (hu : P.underlying ty = some d) (hd : d.isRow = true) (hi : (P.info? ty).map (·.size) = some cs.length) :
    (results fn tmps).run P w = .ok (.agg cs.toArray) w := by
  have hp' : tmps[p]?.getD undef = .pointer (some ⟨b, o, none⟩) := by simpa using hp
  simp [results, h, hp', asAddr, run_loadVar_mid w b o ty cs d hc hu hd hi]
/-- An array's part, of one cell. -/
theorem run_index {P : Program} {t e : TypeId} {n : Nat} {cs : Array Value} {k : IntKind} {v : Value} (hu : P.underlying t = some (.array n e)) (hs : ∀ w, (sizeOf e).run P w = .ok 1 w) (ha : ∀ w, (isAgg e).run P w = .ok false w) (i : Nat) (hi : i < n) (hc : cs[i]? = some v) (w : World) :
    (Instr.index t (.agg cs) (.int k i)).run P w = .ok v w := by
  have h1 : (0 : Int) ≤ (i : Int) ∧ (i : Int) < (n : Int) := by omega
  simp [Instr.index, run_underlying hu, asIntOf, hs, part, ha, hc, Sem.run_bind, hi]
/-- A row of numbers as a row of values. -/
def vl (k : IntKind) (xs : List Nat) : List Value := xs.map fun v => Value.int k (v : Nat)
theorem vl_len (k : IntKind) (xs : List Nat) : (vl k xs).length = xs.length := by simp [vl]
theorem vl_one (k : IntKind) (xs : List Nat) : (vl k xs).toArray.all (·.oneCell') = true := all_oneCell_toArray fun v hv => by
  unfold vl at hv
  obtain ⟨a, -, rfl⟩ := List.mem_map.1 hv
  rfl
theorem vl_at (k : IntKind) (xs : List Nat) (i : Nat) (h : i < xs.length) : (vl k xs)[i]? = some (.int k (xs.getD i 0 : Nat)) := by
  unfold vl
  rw [List.getElem?_map, List.getD_eq_getElem?_getD, List.getElem?_eq_getElem h]
  rfl
theorem vl_set (k : IntKind) (xs : List Nat) (i x : Nat) : (vl k xs).set i (.int k (x : Nat)) = vl k (xs.set i x) := by
  unfold vl
  rw [List.map_set]
/-- Bytes as a word, as many as have come. -/
def pw (bs : List Nat) (j : Nat) : Nat → Nat
  | 0 => 0
  | m + 1 => pw bs j m * 256 + bs.getD (4 * j + m) 0
def pl (bs : List Nat) (i : Nat) : List Nat := (List.range 16).map fun j => pw bs j (min 4 (i - 4 * j))
theorem pw_lt {bs : List Nat} (h : B8 bs) (j : Nat) : ∀ m, pw bs j m < 256 ^ m
  | 0 => by simp [pw]
  | m + 1 => by
    have h1 := pw_lt h j m
    have h2 := h (4 * j + m)
    have h3 : (pw bs j m + 1) * 256 ≤ 256 ^ m * 256 := Nat.mul_le_mul_right 256 h1
    rw [pw, Nat.pow_succ]
    omega
theorem pw_wd (bs : List Nat) (j : Nat) : pw bs j 4 = wd bs j := by simp [pw, wd]; omega
theorem pl_at (bs : List Nat) (k q r : Nat) (hk : k = 4 * q + r) (hr : r < 4) (hq : q < 16) : (pl bs k).getD q 0 = pw bs q r := by
  have e : min 4 (k - 4 * q) = r := by omega
  unfold pl
  rw [List.getD_eq_getElem?_getD, List.getElem?_map, List.getElem?_range hq]
  simp [e]
theorem pl_step (bs : List Nat) (k q r : Nat) (hk : k = 4 * q + r) (hr : r < 4) : (pl bs k).set q (pw bs q (r + 1)) = pl bs (k + 1) := by
  refine List.ext_getElem (by simp [pl]) fun i h1 h2 => ?_
  have hi : i < 16 := by simpa [pl] using h2
  rw [List.getElem_set]
  by_cases e : q = i
  · subst e
    have e2 : min 4 (k + 1 - 4 * q) = r + 1 := by omega
    simp [pl, e2]
  · have e2 : min 4 (k + 1 - 4 * i) = min 4 (k - 4 * i) := by omega
    simp [pl, e, e2]
theorem pl_end (bs : List Nat) : pl bs 64 = wds bs 16 := by
  unfold pl wds
  refine List.map_congr_left fun j hj => ?_
  have hj := List.mem_range.1 hj
  rw [show min 4 (64 - 4 * j) = 4 by omega, pw_wd]
theorem pl_zero (bs : List Nat) : pl bs 0 = List.replicate 16 0 := by simp [pl, pw]; rfl
theorem or_byte (p x : Nat) (hp : p < 16777216) (hx : x < 256) : bits .or .u32 ((p : Int) * 256 % 4294967296) (x : Int) = ((p * 256 + x : Nat) : Int) := by
  have e : (p : Int) * 256 % 4294967296 = ((p * 256 : Nat) : Int) := by omega
  rw [e, B3.or32 _ _ (by omega) (by omega), show p * 256 = 2 ^ 8 * p by omega, Nat.two_pow_add_eq_or_of_lt (i := 8) (by omega)]
theorem pl_len (bs : List Nat) (i : Nat) : (pl bs i).length = 16 := by simp [pl]
theorem range_new (w : World) (C : Array Value) (t : TypeId) : (w.alloc (.cells C t)).rangeAt w.heap.size 0 C.toList := fun j v hv => by
  rw [Nat.zero_add, World.cell?_alloc_new]
  simpa using hv
theorem size54 : (Tryd.prog.info? 37).map (·.size) = some 64 := by kernel_rfl
theorem size41 : (Tryd.prog.info? 46).map (·.size) = some 16 := by kernel_rfl
theorem zero41 (w : World) : (zeroValue 46).run Tryd.prog w = .ok (.agg (vl .u32 (List.replicate 16 0)).toArray) w := Tryd.zeroValue46 w
set_option maxHeartbeats 3200000 in
set_option maxRecDepth 100000 in
theorem words_dev (bs : List Nat) (w : World) (hn : bs.length = 64) (hb : Hid (B8 bs)) :
    Calls Tryd.prog 34 #[.agg (vl .u8 bs).toArray] w fun e w' => e = .returned (.agg (vl .u32 (wds bs 16)).toArray) ∧ Step w w' := by
  obtain ⟨Z, hZ⟩ : ∃ Z, (vl .u32 (List.replicate 16 0)).toArray = Z := ⟨_, rfl⟩
  have hz : Hid (∀ w, (zeroValue 46).run Tryd.prog w = .ok (.agg Z) w) := Lib.hid (hZ ▸ zero41)
  have hsz : Z.size = 16 := by rw [← hZ]; rfl
  have hz0 : Hid (Z.toList = vl .u32 (pl bs 0)) := Lib.hid (by rw [← hZ, pl_zero])
  clear hZ
  obtain ⟨C, hC⟩ : ∃ C, Hid (C = vl .u8 bs) := ⟨_, Lib.hid rfl⟩
  have lC : C.length = 64 := by rw [hC.out, vl_len, hn]
  rw [← hC.out]
  go_enter Tryd.func34, Tryd.ntmps34
  have hR1 : (((w.alloc (Obj.cells C.toArray 37)).alloc (Obj.cells Z 46)).alloc (Obj.cells Z 46)).rangeAt w.heap.size 0 C := World.rangeAt_alloc (World.rangeAt_alloc (range_new w C.toArray 37) _) _
  go_wp2_with (first
    | refine Lg.wpAlloc (by rfl) 46 (by rfl) Z hz.out ?_
    | refine wpList_load_mid (by rfl) 37 (.tmp 1) (by rfl) w.heap.size 0 (by rfl) C _ hR1 Tryd.underlying37 rfl (by rw [lC]; exact size54) ?_)
  have T1 : (((w.alloc (Obj.cells C.toArray 37)).alloc (Obj.cells Z 46)).alloc (Obj.cells Z 46)).there (w.heap.size + 1) 0 16 := World.there_alloc (by have := Lg.there_new (w.alloc (Obj.cells C.toArray 37)) Z 46 16 hsz; simpa using this) _
  have T2 : (((w.alloc (Obj.cells C.toArray 37)).alloc (Obj.cells Z 46)).alloc (Obj.cells Z 46)).there (w.heap.size + 2) 0 16 := by have := Lg.there_new ((w.alloc (Obj.cells C.toArray 37)).alloc (Obj.cells Z 46)) Z 46 16 hsz; simpa using this
  have R2 : (((w.alloc (Obj.cells C.toArray 37)).alloc (Obj.cells Z 46)).alloc (Obj.cells Z 46)).rangeAt (w.heap.size + 2) 0 (vl .u32 (pl bs 0)) := by
    have := range_new ((w.alloc (Obj.cells C.toArray 37)).alloc (Obj.cells Z 46)) Z 46
    rw [hz0.out] at this
    simpa using this
  have S1 : Step w (((w.alloc (Obj.cells C.toArray 37)).alloc (Obj.cells Z 46)).alloc (Obj.cells Z 46)) := Step.of inferInstance
  clear hR1
  generalize (((w.alloc (Obj.cells C.toArray 37)).alloc (Obj.cells Z 46)).alloc (Obj.cells Z 46)) = w1 at T1 T2 R2 S1 ⊢
  generalize hG : w.heap.size = G at T1 T2 R2 ⊢
  have cC : ∀ j, j < 64 → C[j]? = some (.int .u8 (bs.getD j 0 : Nat)) := fun j hj => by rw [hC.out]; exact vl_at _ _ _ (by omega)
  go_loopw [4, 5, 7] (fun _ _ i wr => ∃ k : Nat, Hid (k ≤ 64) ∧ i = .int .i64 k ∧ wr.there (G + 1) 0 16 ∧ wr.there (G + 2) 0 16 ∧ wr.rangeAt (G + 2) 0 (vl .u32 (pl bs k)) ∧ Below w.heap.size w wr) (fun _ _ i _ => 64 - (intOf i).toNat)
  case atStart => exact ⟨0, Lib.hid (Nat.zero_le _), rfl, T1, T2, R2, S1.h⟩
  case round =>
    obtain ⟨k, hk, rfl, t1, t2, r2, B⟩ := hrel
    by_cases hlt : k < 64
    · obtain ⟨q, r, hqr, hr4, hq⟩ : ∃ q r, Hid (k = 4 * q + r) ∧ Hid (r < 4) ∧ q < 16 := ⟨k / 4, k % 4, Lib.hid (by omega), Lib.hid (by omega), by omega⟩
      have hck := cC k hlt
      have hbx := hb.out k
      have ec : wr.cell? ⟨G + 2, q, none⟩ = some (.int .u32 ((pl bs k).getD q 0 : Nat)) := by
        have := r2 q _ (vl_at _ _ q (by rw [pl_len]; exact hq))
        rw [Nat.zero_add] at this
        exact this
      have hf := (t2 q hq).2
      rw [Nat.zero_add] at hf
      have eq4 : (k : Int) / 4 = (q : Nat) := by have := hqr.out; have := hr4.out; omega
      have hp : Hid ((pl bs k).getD q 0 = pw bs q r) := Lib.hid (pl_at bs k q r hqr.out hr4.out hq)
      rw [hp.out] at ec
      generalize hxx : bs.getD k 0 = x at hck hbx
      have hxq : Hid (bs.getD k 0 = x) := Lib.hid hxx
      clear hxx
      have hxI : (x : Int) < 256 := by omega
      have pk : (k : Int) < 64 := by omega
      have hI : ∀ w, (Instr.index 37 (.agg C.toArray) (.int .i64 k)).run Tryd.prog w = .ok (.int .u8 (x : Nat)) w := run_index Tryd.underlying37 Tryd.sizeOf5 Tryd.isAgg5 k hlt (by rw [List.getElem?_toArray]; exact hck)
      have hv : bits .or .u32 ((pw bs q r : Nat) * 256 % 4294967296) (x : Nat) = ((pw bs q (r + 1) : Nat) : Int) := by
        have h3 : 256 ^ r ≤ 256 ^ 3 := Nat.pow_le_pow_right (by omega) (by have := hr4.out; omega)
        have hx2 : Hid (bs.getD (4 * q + r) 0 = x) := by rw [← hqr.out]; exact hxq
        rw [or_byte _ _ (Nat.lt_of_lt_of_le (pw_lt hb.out q r) h3) hbx, pw, hx2.out]
      have hv2 := Lib.hid hv
      clear hv
      go_wp2
      go_roundw
      case rel => exact ⟨k + 1, Lib.hid (by omega), by go_num, there_setCell t1 _ _, there_setCell t2 _ _, by
        rw [hv2.out, ← pl_step bs k q r hqr.out hr4.out, ← vl_set]
        exact rangeAt_set r2 q _ (by rw [vl_len, pl_len]; exact hq), B.setCell (by show w.heap.size ≤ G + 1 + 1; omega) _⟩
      case measure => simp [intOf]; omega
    · have hkn : k = 64 := by have := hk.out; omega
      subst hkn
      have lD : (vl .u32 (pl bs 64)).length = 16 := by rw [vl_len, pl_len]
      have hone := Lib.hid (vl_one .u32 (pl bs 64))
      have eD : Hid (vl .u32 (pl bs 64) = vl .u32 (wds bs 16)) := Lib.hid (by rw [pl_end])
      generalize vl .u32 (pl bs 64) = D at r2 lD hone eD
      go_wp2_with (first
        | refine wpList_load_mid (by rfl) 46 (.tmp 3) (by rfl) (G + 2) 0 (by rfl) D _ r2 Tryd.underlying46 rfl (by rw [lD]; exact size41) ?_
        | refine wpList_store_mid (by rfl) 46 (.tmp 2) (.tmp 23) (by rfl) (G + 1) 0 D.toArray (by rfl) (by rfl) (by rw [List.size_toArray, lD]; exact t1) (by rw [List.size_toArray, lD]; exact size41) hone.out ?_)
      refine bodyPost_ret (results_one (by rfl) _ _ (G + 1) 0 D _ (by rfl) (World.rangeAt_setCells_same _ _ _ _ (by rw [lD]; exact t1)) Tryd.underlying46 rfl (by rw [lD]; exact size41)) (by rfl) ?_
      exact ⟨by rw [eD.out], ⟨Lg.below_setCells (by omega) _ _ _ B⟩⟩
end Sp
end Go.Proofs.YtkihhflmgceckaaDoor
