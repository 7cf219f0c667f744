/- A slice of bytes as a string; strings of bytes that are one have one list; variables of 32 bytes that are made in whatever order. No condition. -/
import Derived.Test.YtkcldacdpoiecaaDoorPkT
import Derived.Test.YtkcldacdpoiecaaDoorBuf
import Derived.Laws.BytesArg
import Derived.Lib.Bytes
namespace Go.Proofs.YtkcldacdpoiecaaDoor
open Go.RowKit Go.Lib
namespace Cv
open SlR Sh Sp Pg
theorem conv (w : World) (A : Option Addr) (n c : Nat) (b : List Nat) (hn : b.length = n) (hr : R8 w A b) :
    (convert 37 9 (.slice A n c)).run Tryd.prog w = .ok (.string (strOfNums (NL b))) w := by
  cases A with
  | none =>
    have h0 : b = [] := by
      cases b with
      | nil => rfl
      | cons x t =>
        obtain ⟨_, e, _, _⟩ := Row.atN hr (j := 0) (by simp)
        cases e
    subst h0
    exact run_convert_bytes_nil w 37 5 Tryd.underlying37 Tryd.underlying5 n c 9 Tryd.underlying9
  | some ad =>
    have hl : (loadCells ad n).run Tryd.prog w = .ok ((NL b).map (Value.int .u8)).toArray w := by
      have := run_loadCells_list (P := Tryd.prog) w ad ((NL b).map (Value.int .u8)) (fun j v hj => by
        have hjl : j < b.length := by
          have := (List.getElem?_eq_some_iff.1 hj).1
          simpa [NL] using this
        obtain ⟨_, e, _, h⟩ := Row.atN hr hjl
        cases e
        rw [h, ← hj, List.getElem?_map]
        unfold NL
        rw [List.getElem?_map, List.getElem?_eq_getElem hjl, List.getD_eq_getElem?_getD, List.getElem?_eq_getElem hjl]
        rfl)
      simpa [NL_len, hn] using this
    rw [run_convert_bytes_string w 37 9 5 _ n c Tryd.underlying37 Tryd.underlying5 Tryd.underlying9, run_bytesToString w _ n c (NL b) hl, foldl_push_bytes]
    simp [strOfNums, ByteArray.empty, ByteArray.emptyWithCapacity]
    rfl
theorem b8_all {xs : List Nat} (h : B8 xs) : ∀ x ∈ xs, x < 256 := fun x hx => by
  obtain ⟨i, hi, rfl⟩ := List.getElem_of_mem hx
  have := h i
  rwa [List.getD_eq_getElem?_getD, List.getElem?_eq_getElem hi] at this
theorem str_inj {xs ys : List Nat} (hx : B8 xs) (hy : B8 ys) (h : strOfNums (NL xs) = strOfNums (NL ys)) : xs = ys := by
  rw [← bl_nums xs (b8_all hx), ← bl_nums ys (b8_all hy), h]
theorem str_list {xs ys : List Nat} (hx : B8 xs) (hy : B8 ys) (h : (strOfNums (NL xs)).toList = (strOfNums (NL ys)).toList) : xs = ys := by
  rw [strOfNums_toList, strOfNums_toList] at h
  refine str_inj hx hy ?_
  have e : (strOfNums (NL xs)).data.toList = (strOfNums (NL ys)).data.toList := h
  have e2 : (strOfNums (NL xs)).data = (strOfNums (NL ys)).data := Array.ext' e
  cases hxs : strOfNums (NL xs)
  cases hys : strOfNums (NL ys)
  rw [hxs, hys] at e2
  simp at e2
  rw [e2]
theorem str_ne {xs ys : List Nat} (hx : B8 xs) (hy : B8 ys) (h : ¬ xs = ys) : ((strOfNums (NL xs)).toList == (strOfNums (NL ys)).toList) = false := by
  rw [beq_eq_false_iff_ne]
  exact fun e => h (str_list hx hy e)
/-! ### Arrays of two numbers compared -/
theorem info64 : (Tryd.prog.info? 33).map (fun i => (i.zero, i.size, i.bytes)) = some (some (.int .u64 0), 1, 8) := by kernel_rfl
theorem cells64 : Tryd.prog.cellsOf 33 = 1 := by kernel_rfl
theorem part64 (xs : List Nat) (i : Nat) (h : i < xs.length) (w : World) : (part 33 (vl .u64 xs).toArray (i * 1)).run Tryd.prog w = .ok (.int .u64 (xs.getD i 0 : Nat)) w := by
  have e := vl_at .u64 xs i h
  generalize Value.int .u64 (xs.getD i 0 : Nat) = v at e ⊢
  simp [part, Tryd.isAgg33, e]
theorem items64 (d : Nat) (xs ys : List Nat) : ∀ (is : List Nat), (∀ i ∈ is, i < xs.length ∧ i < ys.length) → ∀ w : World, (Op.eqItems (d + 1) 33 1 (vl .u64 xs).toArray (vl .u64 ys).toArray is).run Tryd.prog w = .ok (is.all fun i => xs.getD i 0 == ys.getD i 0) w
  | [], _, w => by simp [Op.eqItems]
  | i :: is, h, w => by
    have hi := h i (by simp)
    have ih := items64 d xs ys is (fun j hj => h j (by simp [hj])) w
    have e : (((xs.getD i 0 : Nat) : Int) == ((ys.getD i 0 : Nat) : Int)) = (xs.getD i 0 == ys.getD i 0) := by
      rw [Bool.eq_iff_iff]
      simp
      omega
    simp only [Op.eqItems, Sem.run_bind, part64 xs i hi.1, part64 ys i hi.2, Result.andThen_ok, run_equalIn_int w d 33 .u64 .u64 _ _ Tryd.underlying33]
    rw [e, List.all_cons]
    cases hb : (xs.getD i 0 == ys.getD i 0)
    · simp
    · simpa using ih
theorem eq2 (p q r s : Nat) (w : World) : (Op.equalIn 10000 45 (.agg #[.int .u64 p, .int .u64 q]) (.agg #[.int .u64 r, .int .u64 s])).run Tryd.prog w = .ok (decide ([p, q] = [r, s])) w := by
  obtain ⟨i0, hi, -, -, -⟩ := info_parts info64
  have := items64 9998 [p, q] [r, s] (List.range 2) (fun i hi => by have := List.mem_range.1 hi; simp; omega) w
  rw [all_eq [p, q] [r, s] 2 rfl rfl] at this
  rw [run_equalIn_array w 9999 _ _ Tryd.underlying45 hi, cells64]
  exact this
section
variable {P : Program} {op : Oper} {a : Act} {w : World} {K : Act → World → Prop} {Q : Exit → Act → World → Prop}
/-- A variable is made, in a region that draws its order. -/
theorem wpA (ty : TypeId) (ho : op.op = .alloc ty) (Z : Array Value) (hz : ∀ w, (zeroValue ty).run P w = .ok (.agg Z) w)
    (h : K (a.put op.dst (.pointer (some ⟨w.heap.size, 0, none⟩))) (w.alloc (.cells Z ty))) : op.wp P a w K Q := by
  unfold Oper.wp execOp
  simp only [ho]
  have e : (Instr.alloc ty true (.tuple #[])).run P w = .ok (.pointer (some ⟨w.heap.size, 0, none⟩)) (w.alloc (.cells Z ty)) := by
    simp only [Instr.alloc, Sem.run_bind, hz, Result.andThen_ok]
    rfl
  simp [e]
  exact h
end
/-- A variable of 32 cells, made since W. -/
def New (W w : World) (g : Nat) : Prop := W.heap.size ≤ g ∧ g < w.heap.size ∧ w.there g 0 32
theorem New.made (W : World) {w : World} [e : Ext W w] (Z : Array Value) (t : TypeId) (hz : Z.size = 32) : New W (w.alloc (.cells Z t)) w.heap.size := ⟨e.size, by simp, Lg.there_new w Z t 32 hz⟩
theorem New.to {W w w' : World} {g : Nat} (h : New W w g) [e : Ext w w'] : New W w' g := ⟨h.1, Nat.lt_of_lt_of_le h.2.1 e.size, there_under h.2.2 e.h h.2.1⟩
/-- Both are filled. -/
theorem two_stores {W w : World} {g h : Nat} {F D : List Value} [e : Ext W w] (hg : New W w g) (hh : New W w h) (hne : g ≠ h) (lF : F.length = 32) (lD : D.length = 32) :
    Step W ((w.setCells g 0 F).setCells h 0 D) ∧ ((w.setCells g 0 F).setCells h 0 D).rangeAt g 0 F ∧ ((w.setCells g 0 F).setCells h 0 D).rangeAt h 0 D ∧ g < ((w.setCells g 0 F).setCells h 0 D).heap.size ∧ h < ((w.setCells g 0 F).setCells h 0 D).heap.size :=
  ⟨⟨Lg.below_setCells hh.1 _ _ _ (Lg.below_setCells hg.1 _ _ _ e.h)⟩,
   World.rangeAt_setCells_apart (World.rangeAt_setCells_same w g 0 F (by rw [lF]; exact hg.2.2)) h 0 D (.inl hne),
   World.rangeAt_setCells_same _ h 0 D (by rw [lD]; exact World.there_setCells hh.2.2 _ _ _),
   by rw [setCells_size, setCells_size]; exact hg.2.1, by rw [setCells_size, setCells_size]; exact hh.2.1⟩
end Cv
end Go.Proofs.YtkcldacdpoiecaaDoor
