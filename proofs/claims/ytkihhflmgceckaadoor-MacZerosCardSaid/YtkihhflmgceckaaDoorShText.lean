/- The program's own text of a sum (package sha's Text). Conditions: what is handed in is 32 bytes. -/
import Derived.Test.YtkihhflmgceckaaDoorShBlock
import Derived.Test.YtkihhflmgceckaaDoorRef05d
import Derived.Laws.BytesArg
namespace Go.Proofs.YtkihhflmgceckaaDoor
open Go.RowKit Go.Lib
namespace Sp
open SlR Sh
/-- The digits, as many as have come. -/
def tl (bs : List Nat) (n : Nat) : List Nat := (List.range 64).map fun m => if m < n then (txt bs).getD m 0 else 0
theorem tl_len (bs : List Nat) (n : Nat) : (vl .u8 (tl bs n)).length = 64 := by simp [vl, tl]
theorem tl_step (bs : List Nat) (n : Nat) : (tl bs n).set n ((txt bs).getD n 0) = tl bs (n + 1) := by
  refine List.ext_getElem (by simp [tl]) fun i h1 h2 => ?_
  rw [List.getElem_set]
  by_cases e : n = i
  · subst e
    simp [tl]
  · have e2 : i < n + 1 ↔ i < n := by omega
    simp [tl, e, e2]
theorem tl_end (bs : List Nat) (h : bs.length = 32) : tl bs 64 = txt bs := by
  refine List.ext_getElem (by simp [tl, txt_len, h]) fun i h1 h2 => ?_
  have hi : i < 64 := by simpa [tl] using h1
  simp [tl, hi, List.getElem?_eq_getElem h2]
theorem tl_zero (bs : List Nat) : vl .u8 (tl bs 0) = vl .u8 (List.replicate 64 0) := by
  have e : tl bs 0 = List.replicate 64 0 := by
    unfold tl
    simp
    rfl
  rw [e]
theorem txt_at (bs : List Nat) : ∀ i, i < bs.length → (txt bs).getD (2 * i) 0 = hx (bs.getD i 0 / 16) ∧ (txt bs).getD (2 * i + 1) 0 = hx (bs.getD i 0 % 16) := by
  induction bs with
  | nil => intro i h; exact absurd h (Nat.not_lt_zero _)
  | cons x t ih =>
    intro i hi
    have e : txt (x :: t) = tx x ++ txt t := by unfold txt; rw [List.flatMap_cons]
    have l2 : (tx x).length = 2 := rfl
    rw [e]
    cases i with
    | zero => exact ⟨rfl, rfl⟩
    | succ i =>
      have h := ih i (by simpa using hi)
      have e1 : (tx x ++ txt t).getD (2 * (i + 1)) 0 = (txt t).getD (2 * i) 0 := by
        rw [List.getD_eq_getElem?_getD, List.getElem?_append_right (by rw [l2]; omega), l2, show 2 * (i + 1) - 2 = 2 * i by omega, ← List.getD_eq_getElem?_getD]
      have e2 : (tx x ++ txt t).getD (2 * (i + 1) + 1) 0 = (txt t).getD (2 * i + 1) 0 := by
        rw [List.getD_eq_getElem?_getD, List.getElem?_append_right (by rw [l2]; omega), l2, show 2 * (i + 1) + 1 - 2 = 2 * i + 1 by omega, ← List.getD_eq_getElem?_getD]
      rw [e1, e2]
      exact h
theorem and15 (x : Nat) (h : x < 256) : bits .and .u8 (x : Int) 15 = ((x % 16 : Nat) : Int) := by
  have h1 : (BitVec.ofInt 8 (x : Int)).toNat = x := by
    rw [BitVec.ofInt_natCast, BitVec.toNat_ofNat]
    exact Nat.mod_eq_of_lt (by omega)
  show IntKind.u8.wrap ((BitVec.ofInt 8 (x : Int) &&& BitVec.ofInt 8 15).toNat : Int) = _
  have h2 : (BitVec.ofInt 8 15).toNat = 15 := by decide
  have h3 : x &&& 15 = x % 16 := Nat.and_two_pow_sub_one_eq_mod x 4
  rw [BitVec.toNat_and, h1, h2, h3, IntKind.wrap_u8']
  omega
set_option maxHeartbeats 3200000 in
set_option maxRecDepth 100000 in
theorem text_dev (bs : List Nat) (w : World) (hn : bs.length = 32) (hb : Hid (B8 bs)) :
    Calls Tryd.prog 12 #[.agg (vl .u8 bs).toArray] w fun e w' => e = .returned (.string (strOfNums (NL (txt bs)))) ∧ Step w w' := by
  obtain ⟨Z, hZ⟩ : ∃ Z, (vl .u8 (List.replicate 64 0)) = Z := ⟨_, rfl⟩
  have hz : Hid (∀ w, (zeroValue 37).run Tryd.prog w = .ok (.agg Z.toArray) w) := Lib.hid (hZ ▸ zero54)
  have hsz : Z.toArray.size = 64 := by rw [← hZ]; rfl
  have hz0 : Hid (Z = vl .u8 (tl bs 0)) := Lib.hid (by rw [← hZ, tl_zero])
  clear hZ
  obtain ⟨C, hC⟩ : ∃ C, Hid (C = vl .u8 bs) := ⟨_, Lib.hid rfl⟩
  have lC : C.length = 32 := by rw [hC.out, vl_len, hn]
  have cC : ∀ j, j < 32 → C[j]? = some (.int .u8 (bs.getD j 0 : Nat)) := fun j hj => by rw [hC.out]; exact vl_at _ _ _ (by omega)
  rw [← hC.out]
  have hR1 : ((w.alloc (Obj.cells C.toArray 24)).alloc (Obj.cells Z.toArray 37)).rangeAt w.heap.size 0 C := World.rangeAt_alloc (range_new w C.toArray 24) _
  go_enter Tryd.func12, Tryd.ntmps12
  go_wp2_with (first
    | refine Lg.wpAlloc (by rfl) 37 (by rfl) Z.toArray hz.out ?_
    | refine wpList_load_mid (by rfl) 24 (.tmp 1) (by rfl) w.heap.size 0 (by rfl) C _ hR1 Tryd.underlying24 rfl (by rw [lC]; exact size32) ?_)
  have T2 : ((w.alloc (Obj.cells C.toArray 24)).alloc (Obj.cells Z.toArray 37)).there (w.heap.size + 1) 0 64 := by
    have := Lg.there_new (w.alloc (Obj.cells C.toArray 24)) Z.toArray 37 64 hsz
    simpa using this
  have R2 : ((w.alloc (Obj.cells C.toArray 24)).alloc (Obj.cells Z.toArray 37)).rangeAt (w.heap.size + 1) 0 (vl .u8 (tl bs 0)) := by
    have := range_new (w.alloc (Obj.cells C.toArray 24)) Z.toArray 37
    rw [World.size_alloc] at this
    rw [← hz0.out]
    exact this
  have S1 : Step w ((w.alloc (Obj.cells C.toArray 24)).alloc (Obj.cells Z.toArray 37)) := Step.of inferInstance
  clear hR1
  generalize ((w.alloc (Obj.cells C.toArray 24)).alloc (Obj.cells Z.toArray 37)) = w1 at T2 R2 S1 ⊢
  generalize hG : w.heap.size = G at T2 R2 ⊢
  go_loopw [4, 5, 7] (fun _ _ p wr => ∃ k : Nat, Hid (k ≤ 32) ∧ p = .int .i64 k ∧ wr.there (G + 1) 0 64 ∧ wr.rangeAt (G + 1) 0 (vl .u8 (tl bs (2 * k))) ∧ Below w.heap.size w wr) (fun _ _ p _ => 32 - (intOf p).toNat)
  case atStart => exact ⟨0, Lib.hid (Nat.zero_le _), rfl, T2, R2, S1.h⟩
  case round =>
    obtain ⟨k, hk, rfl, t2, r2, B⟩ := hrel
    by_cases hlt : k < 32
    · have hck := cC k hlt
      have hxl := hb.out k
      have ht := Lib.hid (txt_at bs k (by omega))
      generalize bs.getD k 0 = x at hck hxl ht
      have hI : ∀ w, (Instr.index 24 (.agg C.toArray) (.int .i64 k)).run Tryd.prog w = .ok (.int .u8 (x : Nat)) w := run_index Tryd.underlying24 Tryd.sizeOf5 Tryd.isAgg5 k hlt (by rw [List.getElem?_toArray]; exact hck)
      have e15 := and15 x hxl
      obtain ⟨y, hy⟩ : ∃ y, Hid (y = x % 16) := ⟨_, Lib.hid rfl⟩
      obtain ⟨z, hz⟩ : ∃ z, Hid (z = x / 16) := ⟨_, Lib.hid rfl⟩
      rw [← hy.out] at e15
      have e16 : (x : Int) / 16 = (z : Int) := by have := hz.out; omega
      have y16 : y < 16 := by have := hy.out; omega
      have z16 : z < 16 := by have := hz.out; omega
      have y16I : (y : Int) < 16 := by omega
      have z16I : (z : Int) < 16 := by omega
      have hdy : ∀ p, ((ByteArray.mk #[48, 49, 50, 51, 52, 53, 54, 55, 56, 57, 97, 98, 99, 100, 101, 102])[y]'p).toNat = hx y := fun p => hx_at y y rfl y16 p
      have hdz : ∀ p, ((ByteArray.mk #[48, 49, 50, 51, 52, 53, 54, 55, 56, 57, 97, 98, 99, 100, 101, 102])[z]'p).toNat = hx z := fun p => hx_at z z rfl z16 p
      obtain ⟨u0, ec0⟩ := Option.isSome_iff_exists.1 (t2 (2 * k) (by omega)).1
      have hf0 := (t2 (2 * k) (by omega)).2
      obtain ⟨u1, ec1⟩ := Option.isSome_iff_exists.1 (t2 (2 * k + 1) (by omega)).1
      have hf1 := (t2 (2 * k + 1) (by omega)).2
      rw [Nat.zero_add] at ec0 hf0 ec1 hf1
      have pk : (k : Int) < 32 := by omega
      rw [← hy.out, ← hz.out] at ht
      have hs0 := Lib.hid (tl_step bs (2 * k))
      have hs1 := Lib.hid (tl_step bs (2 * k + 1))
      rw [ht.out.1] at hs0
      rw [ht.out.2] at hs1
      clear hlt
      go_wp2
      go_roundw
      case rel => exact ⟨k + 1, Lib.hid (by omega), by go_num, there_setCell (there_setCell t2 _ _) _ _, by
        rw [show 2 * (k + 1) = 2 * k + 1 + 1 by omega, ← hs1.out, ← hs0.out, ← vl_set, ← vl_set]
        exact rangeAt_set (rangeAt_set r2 (2 * k) _ (by rw [tl_len]; omega)) (2 * k + 1) _ (by rw [List.length_set, tl_len]; omega), (B.setCell (by show w.heap.size ≤ G + 1; omega) _).setCell (by show w.heap.size ≤ G + 1; omega) _⟩
      case measure => simp [intOf]; omega
    · have hkn : k = 32 := by have := hk.out; omega
      subst hkn
      have hlen : (NL (txt bs)).length = 64 := by rw [NL_len, txt_len, hn]
      have lt64 : (txt bs).length = 64 := by rw [txt_len, hn]
      have r2 : wr.rangeAt (G + 1) 0 (vl .u8 (tl bs 64)) := r2
      rw [tl_end bs hn] at r2
      have CV := run_convert_bytes_arg (P := Tryd.prog) wr 22 5 Tryd.underlying22 Tryd.underlying5 (G + 1) 0 64 64 (NL (txt bs)) hlen (fun i hi => by
        have := r2 i _ (vl_at .u8 (txt bs) i (by omega))
        rw [this]
        congr 2
        unfold NL
        rw [List.getD_eq_getElem?_getD, List.getD_eq_getElem?_getD, List.getElem?_map, List.getElem?_eq_getElem (by omega)]
        rfl) 9 Tryd.underlying9
      clear r2
      go_wp2
      go_ret
      exact ⟨rfl, ⟨B⟩⟩
end Sp
end Go.Proofs.YtkihhflmgceckaaDoor
