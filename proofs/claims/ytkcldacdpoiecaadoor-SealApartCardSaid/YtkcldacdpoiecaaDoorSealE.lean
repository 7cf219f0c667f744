/- Layer 8: whether a sum is what a seed and a salt are bound to; sure of law 08. Conditions: sha.k reads as laid. -/
import Derived.Test.YtkcldacdpoiecaaDoorSealD
import Derived.Deep.RegionHeld3
namespace Go.Proofs.YtkcldacdpoiecaaDoor
open Go.RowKit Go.Lib
namespace Se
open SlR Sh Sp Pg
set_option maxHeartbeats 3200000 in
set_option maxRecDepth 100000 in
theorem opens_any (s : List Nat) (x y : Nat) (w : World) (ls : s.length = 32) (hx : Hid (x < 18446744073709551616)) (hy : Hid (y < 18446744073709551616)) (hL : LaidK w) :
    Calls Tryd.prog 17 #[.agg (vl .u8 s).toArray, .int .u64 x, .int .u64 y] w fun e w' => e = .returned (.bool (decide (s = sdS x y))) ∧ Step w w' := by
  have cO := fun (w : World) (hL : LaidK w) => of_any x y w hx hy hL
  have hE : ∀ w, (Op.equalIn 10000 22 (.agg (vl .u8 s).toArray) (.agg (vl .u8 (sdS x y)).toArray)).run Tryd.prog w = .ok (decide (s = sdS x y)) w := fun w => eq32 s (sdS x y) ls (sdS_len x y) w
  have lG : (vl .u8 s).length = 32 := by rw [vl_len, ls]
  generalize vl .u8 (sdS x y) = F at cO hE
  generalize vl .u8 s = G at hE lG
  generalize decide (s = sdS x y) = d at hE
  have rG := range_new w G.toArray 22
  have u24 := Tryd.underlying22
  have i24 : (Tryd.prog.info? 22).map (·.size) = some G.length := by rw [lG]; exact size32
  clear hx hy
  go_enter Tryd.func17, Tryd.ntmps17
  go_wp2_with fail
  go_region_held3 (fun w' => w'.rangeAt w.heap.size 0 G ∧ Step w w')
    (exact ⟨range_under rG (inferInstance : Ext (w.alloc (Obj.cells G.toArray 22)) _).h (by simp), Step.of inferInstance⟩)
    (first
    | (go_at_call 16; ((with_reducible refine (cO _ hL.to).mono ?_); rintro e w5 ⟨rfl, S5⟩)))
  go_wp2
  go_ret
  exact ⟨rfl, Step.of inferInstance⟩
theorem ltx_nil : ltx [] = [76, 0, 0] := by decide
def sd57 : List Nat := [83, 0, 0, 0, 0, 0, 0, 0, 5, 0, 0, 0, 0, 0, 0, 0, 7]
theorem sdt57 : sdt 5 7 = sd57 := by decide
set_option maxRecDepth 100000 in
theorem sum57 : (Sh.sum sd57).getD 0 0 ≠ 0 := by
  rw [← Ev.sumF_eq]
  decide +kernel
theorem ne57 : List.replicate 32 0 ≠ sdS 5 7 := fun h => sum57 (by
  have e : sdS 5 7 = Sh.sum sd57 := by unfold sdS; rw [sdt57]
  rw [← e, ← h]
  rfl)
def l76 : Byt := ⟨[76, 0, 0], b8_mem (by decide), by decide⟩
theorem s_76 (w : World) (H : Nat) (hH : w.heap.size = H) (hL : LaidK w) :
    Calls Tryd.prog 20 #[.slice (some ⟨H, 0, none⟩) 3 3] (w.alloc (.cells #[.int .u8 76, .int .u8 0, .int .u8 0] 5 (0, 0))) fun e w' => e = .returned (.agg (vl .u8 (ltS [])).toArray) ∧ Step (w.alloc (.cells #[.int .u8 76, .int .u8 0, .int .u8 0] 5 (0, 0))) w' := by
  have := of_dev (some ⟨H, 0, none⟩) 3 3 l76 (w.alloc (.cells #[.int .u8 76, .int .u8 0, .int .u8 0] 5 (0, 0))) rfl (Nat.le_refl _) (row_mark w H 5 (0, 0) [76, 0, 0] hH) hL.to
  unfold ltS
  rw [ltx_nil]
  exact this
set_option maxHeartbeats 6400000 in
set_option maxRecDepth 1000000 in
theorem sure_any (w : World) (hL : LaidK w) : Calls Tryd.prog 12 #[] w fun e w' => e = .returned (.bool true) ∧ Step w w' := by
  obtain ⟨Z, hZ⟩ : ∃ Z, zs.toArray = Z := ⟨_, rfl⟩
  have hz : Hid (∀ w, (zeroValue 22).run Tryd.prog w = .ok (.agg Z) w) := Lib.hid (hZ ▸ zero32)
  have hsz : Z.size = 32 := by rw [← hZ]; rfl
  have hbz : ∀ w, (Instr.build 22 #[]).run Tryd.prog w = .ok (.agg Z) w := fun w => by
    simp [Instr.build, Sem.run_bind, hz.out, run_underlying Tryd.underlying22, Tryd.sizeOf5, Instr.fill, Value.cells]
  have cO : ∀ w, LaidK w → Calls Tryd.prog 16 #[.int .u64 5, .int .u64 7] w fun e w' => e = .returned (.agg (vl .u8 (sdS 5 7)).toArray) ∧ Step w w' := fun w hL => of_any 5 7 w (Lib.hid (by omega)) (Lib.hid (by omega)) hL
  have cL : ∀ w, LaidK w → Calls Tryd.prog 13 #[.slice none 0 0] w fun e w' => e = .returned (.tuple #[.agg (vl .u8 (ltS [])).toArray, .nilIface]) ∧ Step w w' := fun w hL => list_any none 0 0 [] w rfl (by omega) (Lib.hid (fun j => by simp)) (Lib.hid (fun r h => by cases h)) RowsB.nil hL
  have c57 : ∀ w, LaidK w → Calls Tryd.prog 17 #[.agg (vl .u8 (sdS 5 7)).toArray, .int .u64 5, .int .u64 7] w fun e w' => e = .returned (.bool true) ∧ Step w w' := fun w hL => by
    have := opens_any (sdS 5 7) 5 7 w (sdS_len 5 7) (Lib.hid (by omega)) (Lib.hid (by omega)) hL
    rw [decide_eq_true rfl] at this
    exact this
  have cZ : ∀ w, LaidK w → Calls Tryd.prog 17 #[.agg Z, .int .u64 5, .int .u64 7] w fun e w' => e = .returned (.bool false) ∧ Step w w' := fun w hL => by
    have := opens_any (List.replicate 32 0) 5 7 w rfl (Lib.hid (by omega)) (Lib.hid (by omega)) hL
    rw [decide_eq_false ne57] at this
    rw [← hZ]
    exact this
  have c76 := s_76
  have hEE : ∀ w, (Op.equalIn 10000 22 (.agg (vl .u8 (ltS [])).toArray) (.agg (vl .u8 (ltS [])).toArray)).run Tryd.prog w = .ok true w := fun w => by
    have := eq32 (ltS []) (ltS []) (ltS_len _) (ltS_len _) w
    simpa using this
  have lF : (vl .u8 (sdS 5 7)).length = 32 := by rw [vl_len, sdS_len]
  have oF := Lib.hid (vl_one .u8 (sdS 5 7))
  have lE : (vl .u8 (ltS [])).length = 32 := by rw [vl_len, ltS_len]
  have oE := Lib.hid (vl_one .u8 (ltS []))
  generalize vl .u8 (sdS 5 7) = F at cO c57 lF oF
  generalize vl .u8 (ltS []) = E at cL c76 hEE lE oE
  have i24F : (Tryd.prog.info? 22).map (·.size) = some F.length := by rw [lF]; exact size32
  have i24E : (Tryd.prog.info? 22).map (·.size) = some E.length := by rw [lE]; exact size32
  clear hZ
  go_enter Tryd.func12, Tryd.ntmps12
  go_wp2_with (first
    | (go_at_call 16; ((with_reducible refine (cO _ hL.to).mono ?_); rintro e w1 ⟨rfl, S1⟩; obtain ⟨W1, st1, X1, q1, l1⟩ := store_new w1 Z F hsz lF oF.out))
    | (go_at_call 13; ((with_reducible refine (cL _ hL.to).mono ?_); rintro e w3 ⟨rfl, S3⟩; obtain ⟨W3, st3, X3, q3, l3⟩ := store_new w3 Z E hsz lE oE.out))
    | refine Lg.wpAlloc (by rfl) 22 (by rfl) Z hz.out ?_)
  clear st1 st3 cO cL hz
  refine wp_region_held_drew (S := fun w' => w'.rangeAt w1.heap.size 0 F ∧ w'.rangeAt w3.heap.size 0 E ∧ Step W3 w') (by kernel_rfl) ⟨range_under q1 (inferInstance : Ext W1 _).h l1, range_under q3 (inferInstance : Ext W3 _).h l3, Step.of inferInstance⟩ (fun hHeld => ?_)
  refine wpAnyH_take (i := 0) rfl (by kernel_rfl) (by kernel_rfl) (by kernel_rfl) (fun _ _ _ h => h) (yieldsIf_load_mid (by rfl) 22 (.tmp 1) (by rfl) w1.heap.size 0 (by rfl) F _ (fun _ h => h.1) Tryd.underlying22 rfl i24F) hHeld ?_
  simp only [List.getElem_toArray, List.getElem_cons_zero, Act.put, List.setIfInBounds_toArray, List.set_cons_zero, List.set_cons_succ]
  refine wpAnyH_ready (rs := [1]) (by kernel_rfl) (by simp) ?_
  refine AllReadyH.cons rfl (fun K hK => ?_) AllReadyH.nil
  refine pos_in (by rfl) ?_
  simp only [List.getElem_toArray]
  go_simp
  refine (c57 _ hL.to).mono ?_
  rintro e w7 ⟨rfl, S7⟩
  refine hK.out _ _ ⟨range_under q1 (inferInstance : Ext W1 _).h l1, range_under q3 (inferInstance : Ext W3 _).h l3, Step.of inferInstance⟩ (fun hHeld => ?_)
  clear hK K
  refine wpAnyH_take (i := 2) (v := ?_) rfl (by kernel_rfl) (by kernel_rfl) (by kernel_rfl) (fun _ _ _ h => h) (Or.inl ⟨by rfl, ?_⟩) hHeld ?_
  rotate_left
  · intro w hSw
    simp only [List.getElem_toArray, List.getElem_cons_zero, List.getElem_cons_succ]
    go_simp
    try with_reducible rfl
  simp only [List.getElem_toArray, List.getElem_cons_zero, List.getElem_cons_succ, Act.put, List.setIfInBounds_toArray, List.set_cons_zero, List.set_cons_succ]
  refine wpAnyH_take (i := 3) (v := .agg Z) rfl (by kernel_rfl) (by kernel_rfl) (by kernel_rfl) (fun _ _ _ h => h) (Or.inl ⟨by rfl, ?_⟩) hHeld ?_
  · intro w hSw
    have hz4 := hbz w
    unfold execOp
    simp [hz4]
  simp only [List.getElem_toArray, List.getElem_cons_zero, List.getElem_cons_succ, Act.put, List.setIfInBounds_toArray, List.set_cons_zero, List.set_cons_succ]
  refine wpAnyH_ready (rs := [4]) (by kernel_rfl) (by simp) ?_
  refine AllReadyH.cons rfl (fun K hK => ?_) AllReadyH.nil
  refine pos_in (by rfl) ?_
  simp only [List.getElem_toArray, List.getElem_cons_zero, List.getElem_cons_succ]
  go_simp
  refine (cZ _ hL.to).mono ?_
  rintro e w7 ⟨rfl, S7⟩
  refine hK.out _ _ ⟨range_under q1 (inferInstance : Ext W1 _).h l1, range_under q3 (inferInstance : Ext W3 _).h l3, Step.of inferInstance⟩ (fun hHeld => ?_)
  clear hK K
  refine wpAnyH_take (i := 5) (v := ?_) rfl (by kernel_rfl) (by kernel_rfl) (by kernel_rfl) (fun _ _ _ h => h) (Or.inl ⟨by rfl, ?_⟩) hHeld ?_
  rotate_left
  · intro w hSw
    simp only [List.getElem_toArray, List.getElem_cons_zero, List.getElem_cons_succ]
    go_simp
    try with_reducible rfl
  simp only [List.getElem_toArray, List.getElem_cons_zero, List.getElem_cons_succ, Act.put, List.setIfInBounds_toArray, List.set_cons_zero, List.set_cons_succ]
  refine wpAnyH_take (i := 6) (v := ?_) rfl (by kernel_rfl) (by kernel_rfl) (by kernel_rfl) (fun _ _ _ h => h) (Or.inl ⟨by rfl, ?_⟩) hHeld ?_
  rotate_left
  · intro w hSw
    simp only [List.getElem_toArray, List.getElem_cons_zero, List.getElem_cons_succ]
    go_simp
    try with_reducible rfl
  simp only [List.getElem_toArray, List.getElem_cons_zero, List.getElem_cons_succ, Act.put, List.setIfInBounds_toArray, List.set_cons_zero, List.set_cons_succ]
  refine wpAnyH_take (i := 7) (v := ?_) rfl (by kernel_rfl) (by kernel_rfl) (by kernel_rfl) (fun _ _ _ h => h) (Or.inl ⟨by rfl, ?_⟩) hHeld ?_
  rotate_left
  · intro w hSw
    simp only [List.getElem_toArray, List.getElem_cons_zero, List.getElem_cons_succ]
    go_simp
    try with_reducible rfl
  simp only [List.getElem_toArray, List.getElem_cons_zero, List.getElem_cons_succ, Act.put, List.setIfInBounds_toArray, List.set_cons_zero, List.set_cons_succ]
  refine wpAnyH_take (i := 8) (v := ?_) rfl (by kernel_rfl) (by kernel_rfl) (by kernel_rfl) (fun _ _ _ h => h) (Or.inl ⟨by rfl, ?_⟩) hHeld ?_
  rotate_left
  · intro w hSw
    simp only [List.getElem_toArray, List.getElem_cons_zero, List.getElem_cons_succ]
    go_simp
    try with_reducible rfl
  simp only [List.getElem_toArray, List.getElem_cons_zero, List.getElem_cons_succ, Act.put, List.setIfInBounds_toArray, List.set_cons_zero, List.set_cons_succ]
  refine wpAnyH_take (i := 9) (v := ?_) rfl (by kernel_rfl) (by kernel_rfl) (by kernel_rfl) (fun _ _ _ h => h) (Or.inl ⟨by rfl, ?_⟩) hHeld ?_
  rotate_left
  · intro w hSw
    simp only [List.getElem_toArray, List.getElem_cons_zero, List.getElem_cons_succ]
    go_simp
    try with_reducible rfl
  simp only [List.getElem_toArray, List.getElem_cons_zero, List.getElem_cons_succ, Act.put, List.setIfInBounds_toArray, List.set_cons_zero, List.set_cons_succ]
  refine wpAnyH_take (i := 10) (v := ?_) rfl (by kernel_rfl) (by kernel_rfl) (by kernel_rfl) (fun _ _ _ h => h) (Or.inl ⟨by rfl, ?_⟩) hHeld ?_
  rotate_left
  · intro w hSw
    simp only [List.getElem_toArray, List.getElem_cons_zero, List.getElem_cons_succ]
    go_simp
    try with_reducible rfl
  simp only [List.getElem_toArray, List.getElem_cons_zero, List.getElem_cons_succ, Act.put, List.setIfInBounds_toArray, List.set_cons_zero, List.set_cons_succ]
  refine wpAnyH_take (i := 11) (v := ?_) rfl (by kernel_rfl) (by kernel_rfl) (by kernel_rfl) (fun _ _ _ h => h) (Or.inl ⟨by rfl, ?_⟩) hHeld ?_
  rotate_left
  · intro w hSw
    simp only [List.getElem_toArray, List.getElem_cons_zero, List.getElem_cons_succ]
    go_simp
    try with_reducible rfl
  simp only [List.getElem_toArray, List.getElem_cons_zero, List.getElem_cons_succ, Act.put, List.setIfInBounds_toArray, List.set_cons_zero, List.set_cons_succ]
  refine wpAnyH_take (i := 12) rfl (by kernel_rfl) (by kernel_rfl) (by kernel_rfl) (fun _ _ _ h => h) (yieldsIf_load_mid (by rfl) 22 (.tmp 2) (by rfl) w3.heap.size 0 (by rfl) E _ (fun _ h => h.2.1) Tryd.underlying22 rfl i24E) hHeld ?_
  simp only [List.getElem_toArray, List.getElem_cons_zero, List.getElem_cons_succ, Act.put, List.setIfInBounds_toArray, List.set_cons_zero, List.set_cons_succ]
  refine wpAnyH_ready (rs := [13]) (by kernel_rfl) (by simp) ?_
  refine AllReadyH.cons rfl (fun K hK => ?_) AllReadyH.nil
  refine pos_in (by rfl) ?_
  simp only [List.getElem_toArray, List.getElem_cons_zero, List.getElem_cons_succ]
  go_simp
  refine hK.out _ _ ⟨range_under q1 (inferInstance : Ext W1 _).h l1, range_under q3 (inferInstance : Ext W3 _).h l3, Step.of inferInstance⟩ (fun hHeld => ?_)
  clear hK K
  refine wpAnyH_ready (rs := [14]) (by kernel_rfl) (by simp) ?_
  refine AllReadyH.cons rfl (fun K hK => ?_) AllReadyH.nil
  refine pos_in (by rfl) ?_
  simp only [List.getElem_toArray, List.getElem_cons_zero, List.getElem_cons_succ]
  go_simp
  refine (c76 _ _ (by simp) hL.to).mono ?_
  rintro e w7 ⟨rfl, S7⟩
  refine hK.out _ _ ⟨range_under q1 (inferInstance : Ext W1 _).h l1, range_under q3 (inferInstance : Ext W3 _).h l3, Step.of inferInstance⟩ (fun hHeld => ?_)
  clear hK K
  refine wpAnyH_take (i := 15) (v := ?_) rfl (by kernel_rfl) (by kernel_rfl) (by kernel_rfl) (fun _ _ _ h => h) (Or.inl ⟨by rfl, ?_⟩) hHeld ?_
  rotate_left
  · intro w hSw
    simp only [List.getElem_toArray, List.getElem_cons_zero, List.getElem_cons_succ]
    go_simp
    try with_reducible rfl
  simp only [List.getElem_toArray, List.getElem_cons_zero, List.getElem_cons_succ, Act.put, List.setIfInBounds_toArray, List.set_cons_zero, List.set_cons_succ]
  refine wpAnyH_take (i := 16) (v := ?_) rfl (by kernel_rfl) (by kernel_rfl) (by kernel_rfl) (fun _ _ _ h => h) (Or.inl ⟨by rfl, ?_⟩) hHeld ?_
  rotate_left
  · intro w hSw
    simp only [List.getElem_toArray, List.getElem_cons_zero, List.getElem_cons_succ]
    go_simp
    try with_reducible rfl
  simp only [List.getElem_toArray, List.getElem_cons_zero, List.getElem_cons_succ, Act.put, List.setIfInBounds_toArray, List.set_cons_zero, List.set_cons_succ]
  refine wpAnyH_take (i := 17) (v := ?_) rfl (by kernel_rfl) (by kernel_rfl) (by kernel_rfl) (fun _ _ _ h => h) (Or.inl ⟨by rfl, ?_⟩) hHeld ?_
  rotate_left
  · intro w hSw
    simp only [List.getElem_toArray, List.getElem_cons_zero, List.getElem_cons_succ]
    go_simp
    try with_reducible rfl
  simp only [List.getElem_toArray, List.getElem_cons_zero, List.getElem_cons_succ, Act.put, List.setIfInBounds_toArray, List.set_cons_zero]
  refine wpAnyH_done (by kernel_rfl) ?_ _
  go_wp2
  go_ret
  exact ⟨rfl, Step.of inferInstance⟩
end Se
end Go.Proofs.YtkcldacdpoiecaaDoor
