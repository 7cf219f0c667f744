/- Arrays of 32 bytes compared; a guarded load of one; a text comes back. No condition but the lengths. -/
import Derived.Test.YtkihhflmgceckaaDoorShParse
import Derived.ChangeKeysEq
import Derived.Laws.StructEq
namespace Go.Proofs.YtkihhflmgceckaaDoor
open Go.RowKit Go.Lib
namespace Sp
open SlR Sh
theorem cells5 : Tryd.prog.cellsOf 5 = 1 := by kernel_rfl
theorem part5 (xs : List Nat) (i : Nat) (h : i < xs.length) (w : World) : (part 5 (vl .u8 xs).toArray (i * 1)).run Tryd.prog w = .ok (.int .u8 (xs.getD i 0 : Nat)) w := by
  have e := vl_at .u8 xs i h
  generalize Value.int .u8 (xs.getD i 0 : Nat) = v at e ⊢
  simp [part, Tryd.isAgg5, e]
theorem items5 (d : Nat) (xs ys : List Nat) : ∀ (is : List Nat), (∀ i ∈ is, i < xs.length ∧ i < ys.length) → ∀ w : World, (Op.eqItems (d + 1) 5 1 (vl .u8 xs).toArray (vl .u8 ys).toArray is).run Tryd.prog w = .ok (is.all fun i => xs.getD i 0 == ys.getD i 0) w
  | [], _, w => by simp [Op.eqItems]
  | i :: is, h, w => by
    have hi := h i (by simp)
    have ih := items5 d xs ys is (fun j hj => h j (by simp [hj])) w
    have e : (((xs.getD i 0 : Nat) : Int) == ((ys.getD i 0 : Nat) : Int)) = (xs.getD i 0 == ys.getD i 0) := by
      rw [Bool.eq_iff_iff]
      simp
      omega
    simp only [Op.eqItems, Sem.run_bind, part5 xs i hi.1, part5 ys i hi.2, Result.andThen_ok, run_equalIn_int w d 5 .u8 .u8 _ _ Tryd.underlying5]
    rw [e, List.all_cons]
    cases hb : (xs.getD i 0 == ys.getD i 0)
    · simp
    · simpa using ih
theorem all_eq (xs ys : List Nat) (n : Nat) (hx : xs.length = n) (hy : ys.length = n) : ((List.range n).all fun i => xs.getD i 0 == ys.getD i 0) = decide (xs = ys) := by
  rw [Bool.eq_iff_iff, decide_eq_true_iff, List.all_eq_true]
  constructor
  · intro h
    refine List.ext_getElem (by omega) fun i h1 h2 => ?_
    have := h i (List.mem_range.2 (by omega))
    rw [List.getD_eq_getElem?_getD, List.getD_eq_getElem?_getD, List.getElem?_eq_getElem h1, List.getElem?_eq_getElem h2] at this
    simpa using this
  · rintro rfl i _
    simp
/-- Two arrays of 32 bytes. -/
theorem eq32 (xs ys : List Nat) (hx : xs.length = 32) (hy : ys.length = 32) (w : World) : (Op.equalIn 10000 24 (.agg (vl .u8 xs).toArray) (.agg (vl .u8 ys).toArray)).run Tryd.prog w = .ok (decide (xs = ys)) w := by
  obtain ⟨i0, hi, -, -, -⟩ := info_parts infoB
  rw [run_equalIn_array w 9999 _ _ Tryd.underlying24 hi, cells5, items5 9998 xs ys (List.range 32) (fun i hi => by have := List.mem_range.1 hi; omega), all_eq xs ys 32 hx hy]
/-- A guarded load that comes up. -/
theorem wpLoadG {P : Program} {ops : Array Oper} {rest : List Oper} {op : Oper} {a : Act} {w : World} {Q : Exit → Act → World → Prop} (hw : Region.wanted op (yielded ops a.tmps) = true) (ty : TypeId) (x : Operand) (ho : op.op = .load ty x)
    (b o : Nat) (hx : a.eval x = .pointer (some ⟨b, o, none⟩)) (cs : List Value) (d : TypeDesc) (hc : w.rangeAt b o cs)
    (hu : P.underlying ty = some d) (hd : d.isRow = true) (hi : (P.info? ty).map (·.size) = some cs.length)
    (h : wpList P ops Q rest (a.put op.dst (.agg cs.toArray)) w) : wpList P ops Q (op :: rest) a w :=
  wpList_step fun K hK => by
    rw [if_pos hw]
    exact wp_load_mid ty x ho b o hx cs d hc hu hd hi (hK _ _ h)
/-! ### A sum comes back from its digits -/
theorem dg_hx (d : Nat) (h : d < 16) : dg (hx d) = d := by
  rcases (by omega : d = 0 ∨ d = 1 ∨ d = 2 ∨ d = 3 ∨ d = 4 ∨ d = 5 ∨ d = 6 ∨ d = 7 ∨ d = 8 ∨ d = 9 ∨ d = 10 ∨ d = 11 ∨ d = 12 ∨ d = 13 ∨ d = 14 ∨ d = 15) with rfl | rfl | rfl | rfl | rfl | rfl | rfl | rfl | rfl | rfl | rfl | rfl | rfl | rfl | rfl | rfl <;> decide
theorem hx_lt (d : Nat) (h : d < 16) : hx d < 256 := by
  unfold hx
  split <;> omega
theorem txt_lt {bs : List Nat} (hb : B8 bs) : ∀ x ∈ txt bs, x < 256 := fun x hx => by
  unfold txt at hx
  obtain ⟨y, hy, hxy⟩ := List.mem_flatMap.1 hx
  have hy2 : y < 256 := by
    obtain ⟨i, hi, rfl⟩ := List.getElem_of_mem hy
    have := hb i
    rw [List.getD_eq_getElem?_getD, List.getElem?_eq_getElem hi] at this
    exact this
  simp only [tx, List.mem_cons, List.not_mem_nil, or_false] at hxy
  rcases hxy with rfl | rfl
  · exact hx_lt _ (by omega)
  · exact hx_lt _ (by omega)
theorem bl_nums (xs : List Nat) (h : ∀ x ∈ xs, x < 256) : bl (strOfNums (NL xs)) = xs := by
  unfold bl
  rw [strOfNums_data]
  unfold NL
  rw [List.map_map, List.map_map]
  refine List.ext_getElem (by simp) fun i h1 h2 => ?_
  have := h xs[i] (List.getElem_mem _)
  simp
  omega
theorem bl_text {bs : List Nat} (hb : B8 bs) : bl (strOfNums (NL (txt bs))) = txt bs := bl_nums _ (txt_lt hb)
theorem size_text {bs : List Nat} (hn : bs.length = 32) : (strOfNums (NL (txt bs))).size = 64 := by rw [strOfNums_size, NL_len, txt_len, hn]
theorem back_at {bs : List Nat} (hn : bs.length = 32) (hb : B8 bs) (i : Nat) (hi : i < 32) : ok2 (txt bs) i ∧ val2 (txt bs) i = bs.getD i 0 := by
  obtain ⟨h1, h2⟩ := txt_at bs i (by omega)
  have hx := hb i
  unfold ok2 val2
  rw [h1, h2, dg_hx _ (by omega), dg_hx _ (by omega)]
  omega
theorem vals_back {bs : List Nat} (hn : bs.length = 32) (hb : B8 bs) : vals (txt bs) 32 = bs := by
  refine List.ext_getElem? fun i => ?_
  by_cases hi : i < 32
  · have e : (vals (txt bs) 32)[i]? = some (val2 (txt bs) i) := by simp [vals, hi]
    rw [e, (back_at hn hb i hi).2, List.getD_eq_getElem?_getD, List.getElem?_eq_getElem (by omega)]
    rfl
  · rw [List.getElem?_eq_none (by simp [vals]; omega), List.getElem?_eq_none (by omega)]
theorem cl_vals (s : ByteArray) : cl s 32 = vl .u8 (vals (bl s) 32) := by
  unfold cl vl
  simp
theorem parse_text (bs : List Nat) (w : World) (hn : bs.length = 32) (hb : Hid (B8 bs)) :
    Calls Tryd.prog 10 #[.string (strOfNums (NL (txt bs)))] w fun e w' => e = .returned (.tuple #[.agg (vl .u8 bs).toArray, .nilIface]) ∧ Step w w' :=
  (parse_dev _ w (Lib.hid (size_text hn))).mono fun e w' ⟨h, S⟩ => by
    rcases h with ⟨-, h⟩ | ⟨⟨i, hi, hno⟩, -⟩
    · rw [cl_vals, bl_text hb.out, vals_back hn hb.out] at h
      exact ⟨h, S⟩
    · rw [bl_text hb.out] at hno
      exact absurd (back_at hn hb.out i hi).1 hno
/-- Two texts are the same just if the sums are. -/
theorem text_same {xs ys : List Nat} (hx : xs.length = 32) (hy : ys.length = 32) (bx : B8 xs) (bY : B8 ys) (h : strOfNums (NL (txt xs)) = strOfNums (NL (txt ys))) : xs = ys := by
  rw [← vals_back hx bx, ← vals_back hy bY, ← bl_text bx, ← bl_text bY, h]
end Sp
end Go.Proofs.YtkihhflmgceckaaDoor
