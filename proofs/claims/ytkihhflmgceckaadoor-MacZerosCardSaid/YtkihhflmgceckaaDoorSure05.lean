/- sure of law 05: true whatever comes. Conditions: errors.errorType and sha.k read as laid. -/
import Derived.Test.YtkihhflmgceckaaDoorShOf
import Derived.Test.YtkihhflmgceckaaDoorShEq
import Derived.Test.YtkihhflmgceckaaDoorShEval
import Derived.Test.YtkihhflmgceckaaDoorNumE05
import Derived.Lib.SlBytesConst
namespace Go.Proofs.YtkihhflmgceckaaDoor
open Go.RowKit Go.Lib
namespace Sp
open SlR Sh
theorem store_new (w : World) (Z : Array Value) (C : List Value) (hsz : Z.size = 32) (lC : C.length = 32) (oC : C.toArray.all (·.oneCell') = true) :
    ∃ W, (storeCells ⟨w.heap.size, 0, none⟩ C).run Tryd.prog (w.alloc (.cells Z 24)) = .ok () W ∧ Step w W ∧ W.rangeAt w.heap.size 0 C ∧ w.heap.size < W.heap.size := by
  have ht := Lg.there_new w Z 24 32 hsz
  have hB : Below w.heap.size w ((w.alloc (.cells Z 24)).setCells w.heap.size 0 C) := Lg.below_setCells (Nat.le_refl _) _ _ _ ((Below.refl _ w).alloc (Nat.le_refl _) _)
  have hR := World.rangeAt_setCells_same (w.alloc (.cells Z 24)) w.heap.size 0 C (by rw [lC]; exact ht)
  refine ⟨_, ?_, ⟨hB⟩, hR, ?_⟩
  · have := run_storeCells_cells (P := Tryd.prog) w.heap.size 0 C 0 (w.alloc (.cells Z 24)) (fun j hj => by simpa using (ht j (by omega)).1) (fun j hj => by have := (ht j (by omega)).2; simp at this; simp) (fun v hv => (Array.all_eq_true_iff_forall_mem.1 oC) v (by simpa using hv))
    simp at this
    exact this
  · have h := hR 0 _ (List.getElem?_eq_getElem (by omega))
    unfold World.cell? at h
    apply Classical.byContradiction
    intro hn
    rw [Array.getElem?_eq_none (by simpa using hn)] at h
    cases h
/-- A sum is 32 bytes. -/
theorem sum_fine (b : List Nat) : (Sh.sum b).length = 32 := by
  show (bys (hsh (pad b) ((pad b).length / 64))).length = 32
  rw [bys_len, Ev.hsh_len]
theorem sum_b8 (b : Byt) : B8 (Sh.sum b.1) := by
  show B8 (bys (hsh (pad b.1) ((pad b.1).length / 64)))
  rw [← hs_hsh]
  refine b8_bys fun x hx => ?_
  obtain ⟨i, hi, rfl⟩ := List.getElem_of_mem hx
  have := (hs_fine (bks b ((pad b.1).length / 64))).2 i
  rw [List.getD_eq_getElem?_getD, List.getElem?_eq_getElem hi] at this
  exact this
theorem abc_b8 : B8 [97, 98, 99] := b8_mem (by decide)
def abc : Byt := ⟨[97, 98, 99], abc_b8, by decide⟩
/-- The three letters' sum. -/
def D3 : List Nat := Sh.sum [97, 98, 99]
theorem D3_len : D3.length = 32 := sum_fine _
theorem D3_b8 : B8 D3 := sum_b8 abc
theorem row_mark (w : World) (H : Nat) (t : TypeId) (fr : Nat × Nat) (xs : List Int) (h : w.heap.size = H) : Row .u8 (w.alloc (.cells (xs.map (Value.int .u8)).toArray t fr)) (some ⟨H, 0, none⟩) xs := fun j x hx => by
  subst h
  refine ⟨_, rfl, by simp, ?_⟩
  rw [Addr.add_mid, Nat.zero_add, World.cell?_alloc_mark]
  simp [hx]
theorem s_of (w : World) (H : Nat) (fr : Nat × Nat) (hH : w.heap.size = H) (hL : LaidK w) :
    Calls Tryd.prog 8 #[.slice (some ⟨H, 0, none⟩) 3 3] (w.alloc (.cells #[.int .u8 97, .int .u8 98, .int .u8 99] 5 fr)) fun e w' => e = .returned (.agg (vl .u8 D3).toArray) ∧ Step (w.alloc (.cells #[.int .u8 97, .int .u8 98, .int .u8 99] 5 fr)) w' :=
  of_dev (some ⟨H, 0, none⟩) 3 3 abc _ rfl (Nat.le_refl _) (row_mark w H 5 fr [97, 98, 99] hH) hL.to
theorem text3 : strOfNums (NL (txt D3)) = ByteArray.mk #[98, 97, 55, 56, 49, 54, 98, 102, 56, 102, 48, 49, 99, 102, 101, 97, 52, 49, 52, 49, 52, 48, 100, 101, 53, 100, 97, 101, 50, 50, 50, 51, 98, 48, 48, 51, 54, 49, 97, 51, 57, 54, 49, 55, 55, 97, 57, 99, 98, 52, 49, 48, 102, 102, 54, 49, 102, 50, 48, 48, 49, 53, 97, 100] := by
  have e : D3 = [186, 120, 22, 191, 143, 1, 207, 234, 65, 65, 64, 222, 93, 174, 34, 35, 176, 3, 97, 163, 150, 23, 122, 156, 180, 16, 255, 97, 242, 0, 21, 173] := Ev.sum_abc
  rw [e]
  rfl
set_option maxHeartbeats 3200000 in
set_option maxRecDepth 100000 in
theorem sure_any (w : World) (hA : ErrAs.Laid w) (hL : LaidK w) : Calls Tryd.prog 7 #[] w fun e w' => e = .returned (.bool true) ∧ Step w w' := by
  obtain ⟨Z, hZ⟩ : ∃ Z, zs.toArray = Z := ⟨_, rfl⟩
  have hz : Hid (∀ w, (zeroValue 24).run Tryd.prog w = .ok (.agg Z) w) := Lib.hid (hZ ▸ zero32)
  have hsz : Z.size = 32 := by rw [← hZ]; rfl
  clear hZ
  have cT := fun w => text_dev D3 w D3_len (Lib.hid D3_b8)
  have cP := fun w => parse_text D3 w D3_len (Lib.hid D3_b8)
  have c0 := fun w => parse_dlen (ByteArray.mk #[48]) w (Lib.hid (by decide))
  have cN := fun (w : World) h => Num05.some_ 3 w h
  have cO := s_of
  have hE : ∀ w, (Op.equalIn 10000 24 (.agg (vl .u8 D3).toArray) (.agg (vl .u8 D3).toArray)).run Tryd.prog w = .ok true w := fun w => by
    have := eq32 D3 D3 D3_len D3_len w
    simpa using this
  have lC : (vl .u8 D3).length = 32 := by rw [vl_len, D3_len]
  have oC := Lib.hid (vl_one .u8 D3)
  rw [text3] at cT cP
  generalize vl .u8 D3 = C at cT cP cO hE lC oC
  have eC : C.toArray.size = 32 := lC
  have kc := fun (w : World) (C : Array Value) (n c : Nat) => Lib.run_convert_bytes_const (P := Tryd.prog) w 22 5 C n c Tryd.underlying22 Tryd.underlying5
  go_enter Tryd.func7, Tryd.ntmps7
  go_wp2_with (first
    | (go_at_call 8; ((with_reducible refine (cO _ _ _ (by simp) hL.to).mono ?_); rintro e w2 ⟨rfl, S2⟩; obtain ⟨W2, st2, X2, R2, l2⟩ := store_new w2 Z C hsz lC oC.out))
    | refine Lg.wpAlloc (by rfl) 24 (by rfl) Z hz.out ?_
    | refine wpList_load_mid (by rfl) 24 (.tmp 1) (by rfl) w2.heap.size 0 (by rfl) C _ R2 Tryd.underlying24 rfl (by rw [lC]; exact size32) ?_
    | (go_at_call 12; ((with_reducible refine (cT _).mono ?_); rintro e w3 ⟨rfl, S3⟩))
    | (go_at_call 10; ((with_reducible refine (cP _).mono ?_); rintro e w4 ⟨rfl, S4⟩; obtain ⟨W4, st4, X4, R4, l4⟩ := store_new w4 Z C hsz lC oC.out))
    | (go_at_call 10; ((with_reducible refine (c0 _).mono ?_); rintro e w5 ⟨rfl, S5⟩; obtain ⟨W5, st5, X5, R5, l5⟩ := store_new w5 Z zs hsz rfl zs_one; have E5 : Ext w W5 := inferInstance; have r4 : W5.rangeAt w4.heap.size 0 C := range_under R4 (inferInstance : Ext W4 W5).h l4; have r2 : W5.rangeAt w2.heap.size 0 C := range_under R2 (inferInstance : Ext W2 W5).h l2))
    | refine wpLoadG (by rfl) 24 (.tmp 3) (by rfl) w4.heap.size 0 (by rfl) C _ r4 Tryd.underlying24 rfl (by rw [lC]; exact size32) ?_
    | refine wpLoadG (by rfl) 24 (.tmp 1) (by rfl) w2.heap.size 0 (by rfl) C _ r2 Tryd.underlying24 rfl (by rw [lC]; exact size32) ?_
    | (go_at_call 13; ((with_reducible refine (cN _ hA.to).mono ?_); rintro e w6 ⟨rfl, S6⟩)))
  go_ret
  exact ⟨rfl, Step.of inferInstance⟩
end Sp
end Go.Proofs.YtkihhflmgceckaaDoor
