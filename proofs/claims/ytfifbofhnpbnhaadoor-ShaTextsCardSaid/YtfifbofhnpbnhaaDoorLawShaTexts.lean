/- The walk of the law ShaTexts: true whatever comes. Conditions: two arrays of 32 bytes, any text; the listed variables read as laid. -/
import Derived.Test.YtfifbofhnpbnhaaDoorSure05
import Derived.Test.YtfifbofhnpbnhaaDoorLaidS
import Derived.Deep.RegionHeld3
namespace Go.Proofs.YtfifbofhnpbnhaaDoor
open Go.RowKit Go.Lib
namespace LawShaTexts
open SlR Sh Sp
theorem numZ (w : World) (h : ErrAs.Laid w) : Calls Tryd.prog 11 #[.nilIface] w fun e w' => e = .returned (.int .i64 0) ∧ Step w w' :=
  (Num05.num_nil w w (ErrAs.St.start h)).mono fun _ _ ⟨a, b⟩ => ⟨a, ⟨b.out.1⟩⟩
set_option maxHeartbeats 6400000 in
set_option maxRecDepth 1000000 in
theorem core_ok (A C T : List Value) (S1 S2 text : ByteArray) (bst : Bool) (w : World) (hA : ErrAs.Laid w) (hL : LaidK w) (hlen : (text.size : Int) ≤ 300)
    (lA : A.length = 32) (lC : C.length = 32) (lT : T.length = 32) (oA : Hid (A.toArray.all (·.oneCell') = true)) (oC : Hid (C.toArray.all (·.oneCell') = true))
    (cP : ∀ w, Calls Tryd.prog 8 #[.string text] w fun e w' => e = .returned (.tuple #[.agg A.toArray, .nilIface]) ∧ Step w w')
    (cR : ∀ w, Calls Tryd.prog 9 #[.string text] w fun e w' => e = .returned (.tuple #[.agg A.toArray, .int .i64 0]) ∧ Step w w')
    (cT1 : ∀ w, Calls Tryd.prog 10 #[.agg C.toArray] w fun e w' => e = .returned (.string S1) ∧ Step w w')
    (cT2 : ∀ w, Calls Tryd.prog 10 #[.agg T.toArray] w fun e w' => e = .returned (.string S2) ∧ Step w w')
    (cU : ∀ w, Calls Tryd.prog 12 #[.agg C.toArray] w fun e w' => e = .returned (.string S1) ∧ Step w w')
    (cQ : ∀ w, Calls Tryd.prog 8 #[.string S1] w fun e w' => e = .returned (.tuple #[.agg C.toArray, .nilIface]) ∧ Step w w')
    (cA : ∀ w, Calls Tryd.prog 10 #[.agg A.toArray] w fun e w' => e = .returned (.string text) ∧ Step w w')
    (hAA : ∀ w, (Op.equalIn 10000 24 (.agg A.toArray) (.agg A.toArray)).run Tryd.prog w = .ok true w)
    (hCC : ∀ w, (Op.equalIn 10000 24 (.agg C.toArray) (.agg C.toArray)).run Tryd.prog w = .ok true w)
    (hCT : ∀ w, (Op.equalIn 10000 24 (.agg C.toArray) (.agg T.toArray)).run Tryd.prog w = .ok bst w)
    (hS : (S1.toList == S2.toList) = bst) :
    Calls Tryd.prog 4 #[.agg C.toArray, .agg T.toArray, .string text] w fun e w' => e = .returned (.bool true) ∧ Step w w' := by
  obtain ⟨Z, hZ⟩ : ∃ Z, zs.toArray = Z := ⟨_, rfl⟩
  have hz : Hid (∀ w, (zeroValue 24).run Tryd.prog w = .ok (.agg Z) w) := Lib.hid (hZ ▸ zero32)
  have hsz : Z.size = 32 := by rw [← hZ]; rfl
  clear hZ
  have cN := fun (w : World) (h : ErrAs.Laid w) => numZ w h
  have cS := fun (w : World) h1 h2 => sure_any w h1 h2
  have u24 := Tryd.underlying24
  have i24 : (Tryd.prog.info? 24).map (·.size) = some A.length := by rw [lA]; exact size32
  have i24C : (Tryd.prog.info? 24).map (·.size) = some C.length := by rw [lC]; exact size32
  have i24T : (Tryd.prog.info? 24).map (·.size) = some T.length := by rw [lT]; exact size32
  obtain ⟨w1, h1⟩ : ∃ w1, w1 = ((w.alloc (Obj.cells C.toArray 24)).alloc (Obj.cells T.toArray 24)) := ⟨_, rfl⟩
  have RC : w1.rangeAt w.heap.size 0 C := by
    rw [h1]
    exact World.rangeAt_alloc (range_new w C.toArray 24) _
  have RT : w1.rangeAt (w.heap.size + 1) 0 T := by
    rw [h1]
    have := range_new (w.alloc (Obj.cells C.toArray 24)) T.toArray 24
    rw [World.size_alloc] at this
    exact this
  have S01 : Step w w1 := by
    rw [h1]
    exact Step.of inferInstance
  have z1 : w.heap.size + 2 = w1.heap.size := by rw [h1]; simp
  have hh1 := Lib.hid h1.symm
  clear h1
  go_enter Tryd.func4, Tryd.ntmps4
  go_wp2_with (first
    | (rw [hh1.out]; go_at_call 8; ((with_reducible refine (cP _).mono ?_); rintro e w2 ⟨rfl, S2'⟩; obtain ⟨W2, st2, X2, R2, l2⟩ := store_new w2 Z A hsz lA oA.out))
    | (go_at_call 9; ((with_reducible refine (cR _).mono ?_); rintro e w3 ⟨rfl, S3⟩; obtain ⟨W3, st3, X3, R3, l3⟩ := store_new w3 Z A hsz lA oA.out; have r3 : W3.rangeAt w.heap.size 0 C := range_under RC (inferInstance : Ext w1 W3).h (by omega)))
    | refine wpList_load_mid (by rfl) 24 (.tmp 3) (by rfl) w.heap.size 0 (by rfl) C _ r3 Tryd.underlying24 rfl i24C ?_
    | (go_at_call 10; ((with_reducible refine (cT1 _).mono ?_); rintro e w4 ⟨rfl, S4⟩))
    | (go_at_call 8; ((with_reducible refine (cQ _).mono ?_); rintro e w5 ⟨rfl, S5⟩; obtain ⟨W5, st5, X5, R5, l5⟩ := store_new w5 Z C hsz lC oC.out))
    | refine Lg.wpAlloc (by rfl) 24 (by rfl) Z hz.out ?_)
  have b7 : w2.heap.size < W5.heap.size := Nat.lt_of_lt_of_le l2 (inferInstance : Ext W2 W5).h.size
  have b9 : w3.heap.size < W5.heap.size := Nat.lt_of_lt_of_le l3 (inferInstance : Ext W3 W5).h.size
  have b1 : w1.heap.size ≤ W5.heap.size := (inferInstance : Ext w1 W5).h.size
  have b3 : w.heap.size < W5.heap.size := by omega
  have b4 : w.heap.size + 1 < W5.heap.size := by omega
  have q7 : W5.rangeAt w2.heap.size 0 A := range_under R2 (inferInstance : Ext W2 W5).h l2
  have q9 : W5.rangeAt w3.heap.size 0 A := range_under R3 (inferInstance : Ext W3 W5).h l3
  have q3 : W5.rangeAt w.heap.size 0 C := range_under RC (inferInstance : Ext w1 W5).h (by omega)
  have q4 : W5.rangeAt (w.heap.size + 1) 0 T := range_under RT (inferInstance : Ext w1 W5).h (by omega)
  have E05 : Ext w W5 := inferInstance
  clear R2 R3 RC RT r3 st2 st3 st5 hz cP cR cQ hh1
  refine wp_region_held_drew (S := fun w' => w'.rangeAt w2.heap.size 0 A ∧ w'.rangeAt w3.heap.size 0 A ∧ w'.rangeAt w5.heap.size 0 C ∧ w'.rangeAt w.heap.size 0 C ∧ w'.rangeAt (w.heap.size + 1) 0 T ∧ Step W5 w') (by kernel_rfl) ⟨range_under q7 (Step.of (w := W5) inferInstance).h b7, range_under q9 (Step.of (w := W5) inferInstance).h b9, range_under R5 (Step.of (w := W5) inferInstance).h l5, range_under q3 (Step.of (w := W5) inferInstance).h b3, range_under q4 (Step.of (w := W5) inferInstance).h b4, Step.of inferInstance⟩ (fun hHeld => ?_)
  refine wpAnyH_take (i := 0) rfl (by kernel_rfl) (by kernel_rfl) (by kernel_rfl) (fun _ _ _ h => h) (yieldsIf_load_mid (by rfl) 24 (.tmp 7) (by rfl) w2.heap.size 0 (by rfl) A _ (fun _ h => h.1) u24 rfl i24) hHeld ?_
  simp only [List.getElem_toArray, List.getElem_cons_zero, Act.put, List.setIfInBounds_toArray, List.set_cons_zero, List.set_cons_succ]
  refine wpAnyH_take (i := 1) rfl (by kernel_rfl) (by kernel_rfl) (by kernel_rfl) (fun _ _ _ h => h) (yieldsIf_load_mid (by rfl) 24 (.tmp 9) (by rfl) w3.heap.size 0 (by rfl) A _ (fun _ h => h.2.1) u24 rfl i24) hHeld ?_
  simp only [List.getElem_toArray, List.getElem_cons_zero, List.getElem_cons_succ, Act.put, List.setIfInBounds_toArray, List.set_cons_zero, List.set_cons_succ]
  refine wpAnyH_take (i := 2) (v := ?_) rfl (by kernel_rfl) (by kernel_rfl) (by kernel_rfl) (fun _ _ _ h => h) (Or.inl ⟨by rfl, ?_⟩) hHeld ?_
  rotate_left
  · intro w hSw
    simp only [List.getElem_toArray, List.getElem_cons_zero, List.getElem_cons_succ]
    go_simp
    try with_reducible rfl
  simp only [List.getElem_toArray, List.getElem_cons_zero, List.getElem_cons_succ, Act.put, List.setIfInBounds_toArray, List.set_cons_zero, List.set_cons_succ]
  refine wpAnyH_take (i := 3) (v := ?_) rfl (by kernel_rfl) (by kernel_rfl) (by kernel_rfl) (fun _ _ _ h => h) (Or.inl ⟨by rfl, ?_⟩) hHeld ?_
  rotate_left
  · intro w hSw
    simp only [List.getElem_toArray, List.getElem_cons_zero, List.getElem_cons_succ]
    go_simp
    try with_reducible rfl
  simp only [List.getElem_toArray, List.getElem_cons_zero, List.getElem_cons_succ, Act.put, List.setIfInBounds_toArray, List.set_cons_zero, List.set_cons_succ]
  refine wpAnyH_take (i := 4) (v := ?_) rfl (by kernel_rfl) (by kernel_rfl) (by kernel_rfl) (fun _ _ _ h => h) (Or.inl ⟨by rfl, ?_⟩) hHeld ?_
  rotate_left
  · intro w hSw
    simp only [List.getElem_toArray, List.getElem_cons_zero, List.getElem_cons_succ]
    go_simp
    try with_reducible rfl
  simp only [List.getElem_toArray, List.getElem_cons_zero, List.getElem_cons_succ, Act.put, List.setIfInBounds_toArray, List.set_cons_zero, List.set_cons_succ]
  refine wpAnyH_take (i := 6) (v := ?_) rfl (by kernel_rfl) (by kernel_rfl) (by kernel_rfl) (fun _ _ _ h => h) (Or.inl ⟨by rfl, ?_⟩) hHeld ?_
  rotate_left
  · intro w hSw
    simp only [List.getElem_toArray, List.getElem_cons_zero, List.getElem_cons_succ]
    go_simp
    try with_reducible rfl
  simp only [List.getElem_toArray, List.getElem_cons_zero, List.getElem_cons_succ, Act.put, List.setIfInBounds_toArray, List.set_cons_zero, List.set_cons_succ]
  refine wpAnyH_ready (rs := [5]) (by kernel_rfl) (by simp) ?_
  refine AllReadyH.cons rfl (fun K hK => ?_) AllReadyH.nil
  refine pos_in (by rfl) ?_
  simp only [List.getElem_toArray, List.getElem_cons_zero, List.getElem_cons_succ]
  go_simp
  refine (cN _ hA.to).mono ?_
  rintro e w7 ⟨rfl, S7⟩
  refine hK.out _ _ ⟨range_under q7 (Step.of (w := W5) inferInstance).h b7, range_under q9 (Step.of (w := W5) inferInstance).h b9, range_under R5 (Step.of (w := W5) inferInstance).h l5, range_under q3 (Step.of (w := W5) inferInstance).h b3, range_under q4 (Step.of (w := W5) inferInstance).h b4, Step.of inferInstance⟩ (fun hHeld => ?_)
  clear hK K
  refine wpAnyH_take (i := 7) (v := ?_) rfl (by kernel_rfl) (by kernel_rfl) (by kernel_rfl) (fun _ _ _ h => h) (Or.inl ⟨by rfl, ?_⟩) hHeld ?_
  rotate_left
  · intro w hSw
    simp only [List.getElem_toArray, List.getElem_cons_zero, List.getElem_cons_succ]
    go_simp
    try with_reducible rfl
  simp only [List.getElem_toArray, List.getElem_cons_zero, List.getElem_cons_succ, Act.put, List.setIfInBounds_toArray, List.set_cons_zero, List.set_cons_succ]
  refine wpAnyH_take (i := 8) (v := ?_) rfl (by kernel_rfl) (by kernel_rfl) (by kernel_rfl) (fun _ _ _ h => h) (Or.inl ⟨by rfl, ?_⟩) hHeld ?_
  rotate_left
  · intro w hSw
    simp only [List.getElem_toArray, List.getElem_cons_zero, List.getElem_cons_succ]
    go_simp
    try with_reducible rfl
  simp only [List.getElem_toArray, List.getElem_cons_zero, List.getElem_cons_succ, Act.put, List.setIfInBounds_toArray, List.set_cons_zero, List.set_cons_succ]
  refine wpAnyH_take (i := 9) (v := ?_) rfl (by kernel_rfl) (by kernel_rfl) (by kernel_rfl) (fun _ _ _ h => h) (Or.inl ⟨by rfl, ?_⟩) hHeld ?_
  rotate_left
  · intro w hSw
    simp only [List.getElem_toArray, List.getElem_cons_zero, List.getElem_cons_succ]
    go_simp
    try with_reducible rfl
  simp only [List.getElem_toArray, List.getElem_cons_zero, List.getElem_cons_succ, Act.put, List.setIfInBounds_toArray, List.set_cons_zero, List.set_cons_succ]
  refine wpAnyH_take (i := 10) rfl (by kernel_rfl) (by kernel_rfl) (by kernel_rfl) (fun _ _ _ h => h) (yieldsIf_load_mid (by rfl) 24 (.tmp 3) (by rfl) w.heap.size 0 (by rfl) C _ (fun _ h => h.2.2.2.1) u24 rfl i24C) hHeld ?_
  simp only [List.getElem_toArray, List.getElem_cons_zero, List.getElem_cons_succ, Act.put, List.setIfInBounds_toArray, List.set_cons_zero, List.set_cons_succ]
  refine wpAnyH_take (i := 12) rfl (by kernel_rfl) (by kernel_rfl) (by kernel_rfl) (fun _ _ _ h => h) (yieldsIf_load_mid (by rfl) 24 (.tmp 3) (by rfl) w.heap.size 0 (by rfl) C _ (fun _ h => h.2.2.2.1) u24 rfl i24C) hHeld ?_
  simp only [List.getElem_toArray, List.getElem_cons_zero, List.getElem_cons_succ, Act.put, List.setIfInBounds_toArray, List.set_cons_zero, List.set_cons_succ]
  refine wpAnyH_ready (rs := [11]) (by kernel_rfl) (by simp) ?_
  refine AllReadyH.cons rfl (fun K hK => ?_) AllReadyH.nil
  refine pos_in (by rfl) ?_
  simp only [List.getElem_toArray, List.getElem_cons_zero, List.getElem_cons_succ]
  go_simp
  refine (cT1 _).mono ?_
  rintro e w7 ⟨rfl, S7⟩
  refine hK.out _ _ ⟨range_under q7 (Step.of (w := W5) inferInstance).h b7, range_under q9 (Step.of (w := W5) inferInstance).h b9, range_under R5 (Step.of (w := W5) inferInstance).h l5, range_under q3 (Step.of (w := W5) inferInstance).h b3, range_under q4 (Step.of (w := W5) inferInstance).h b4, Step.of inferInstance⟩ (fun hHeld => ?_)
  clear hK K
  refine wpAnyH_ready (rs := [13]) (by kernel_rfl) (by simp) ?_
  refine AllReadyH.cons rfl (fun K hK => ?_) AllReadyH.nil
  refine pos_in (by rfl) ?_
  simp only [List.getElem_toArray, List.getElem_cons_zero, List.getElem_cons_succ]
  go_simp
  refine (cU _).mono ?_
  rintro e w7 ⟨rfl, S7⟩
  refine hK.out _ _ ⟨range_under q7 (Step.of (w := W5) inferInstance).h b7, range_under q9 (Step.of (w := W5) inferInstance).h b9, range_under R5 (Step.of (w := W5) inferInstance).h l5, range_under q3 (Step.of (w := W5) inferInstance).h b3, range_under q4 (Step.of (w := W5) inferInstance).h b4, Step.of inferInstance⟩ (fun hHeld => ?_)
  clear hK K
  refine wpAnyH_take (i := 14) (v := ?_) rfl (by kernel_rfl) (by kernel_rfl) (by kernel_rfl) (fun _ _ _ h => h) (Or.inl ⟨by rfl, ?_⟩) hHeld ?_
  rotate_left
  · intro w hSw
    simp only [List.getElem_toArray, List.getElem_cons_zero, List.getElem_cons_succ]
    go_simp
    try with_reducible rfl
  simp only [List.getElem_toArray, List.getElem_cons_zero, List.getElem_cons_succ, Act.put, List.setIfInBounds_toArray, List.set_cons_zero, List.set_cons_succ]
  refine wpAnyH_take (i := 15) (v := ?_) rfl (by kernel_rfl) (by kernel_rfl) (by kernel_rfl) (fun _ _ _ h => h) (Or.inl ⟨by rfl, ?_⟩) hHeld ?_
  rotate_left
  · intro w hSw
    simp only [List.getElem_toArray, List.getElem_cons_zero, List.getElem_cons_succ]
    go_simp
    try with_reducible rfl
  simp only [List.getElem_toArray, List.getElem_cons_zero, List.getElem_cons_succ, Act.put, List.setIfInBounds_toArray, List.set_cons_zero, List.set_cons_succ]
  refine wpAnyH_take (i := 16) (v := ?_) rfl (by kernel_rfl) (by kernel_rfl) (by kernel_rfl) (fun _ _ _ h => h) (Or.inl ⟨by rfl, ?_⟩) hHeld ?_
  rotate_left
  · intro w hSw
    simp only [List.getElem_toArray, List.getElem_cons_zero, List.getElem_cons_succ]
    go_simp
    try with_reducible rfl
  simp only [List.getElem_toArray, List.getElem_cons_zero, List.getElem_cons_succ, Act.put, List.setIfInBounds_toArray, List.set_cons_zero, List.set_cons_succ]
  refine wpAnyH_take (i := 17) (v := ?_) rfl (by kernel_rfl) (by kernel_rfl) (by kernel_rfl) (fun _ _ _ h => h) (Or.inl ⟨by rfl, ?_⟩) hHeld ?_
  rotate_left
  · intro w hSw
    simp only [List.getElem_toArray, List.getElem_cons_zero, List.getElem_cons_succ]
    go_simp
    try with_reducible rfl
  simp only [List.getElem_toArray, List.getElem_cons_zero, List.getElem_cons_succ, Act.put, List.setIfInBounds_toArray, List.set_cons_zero, List.set_cons_succ]
  refine wpAnyH_take (i := 18) (v := ?_) rfl (by kernel_rfl) (by kernel_rfl) (by kernel_rfl) (fun _ _ _ h => h) (Or.inl ⟨by rfl, ?_⟩) hHeld ?_
  rotate_left
  · intro w hSw
    simp only [List.getElem_toArray, List.getElem_cons_zero, List.getElem_cons_succ]
    go_simp
    try with_reducible rfl
  simp only [List.getElem_toArray, List.getElem_cons_zero, List.getElem_cons_succ, Act.put, List.setIfInBounds_toArray, List.set_cons_zero, List.set_cons_succ]
  refine wpAnyH_take (i := 19) (v := ?_) rfl (by kernel_rfl) (by kernel_rfl) (by kernel_rfl) (fun _ _ _ h => h) (Or.inl ⟨by rfl, ?_⟩) hHeld ?_
  rotate_left
  · intro w hSw
    simp only [List.getElem_toArray, List.getElem_cons_zero, List.getElem_cons_succ]
    go_simp
    try with_reducible rfl
  simp only [List.getElem_toArray, List.getElem_cons_zero, List.getElem_cons_succ, Act.put, List.setIfInBounds_toArray, List.set_cons_zero, List.set_cons_succ]
  refine wpAnyH_take (i := 20) (v := ?_) rfl (by kernel_rfl) (by kernel_rfl) (by kernel_rfl) (fun _ _ _ h => h) (Or.inl ⟨by rfl, ?_⟩) hHeld ?_
  rotate_left
  · intro w hSw
    simp only [List.getElem_toArray, List.getElem_cons_zero, List.getElem_cons_succ]
    go_simp
    try with_reducible rfl
  simp only [List.getElem_toArray, List.getElem_cons_zero, List.getElem_cons_succ, Act.put, List.setIfInBounds_toArray, List.set_cons_zero, List.set_cons_succ]
  refine wpAnyH_take (i := 21) rfl (by kernel_rfl) (by kernel_rfl) (by kernel_rfl) (fun _ _ _ h => h) (yieldsIf_load_mid (by rfl) 24 (.tmp 11) (by rfl) w5.heap.size 0 (by rfl) C _ (fun _ h => h.2.2.1) u24 rfl i24C) hHeld ?_
  simp only [List.getElem_toArray, List.getElem_cons_zero, List.getElem_cons_succ, Act.put, List.setIfInBounds_toArray, List.set_cons_zero, List.set_cons_succ]
  refine wpAnyH_take (i := 22) rfl (by kernel_rfl) (by kernel_rfl) (by kernel_rfl) (fun _ _ _ h => h) (yieldsIf_load_mid (by rfl) 24 (.tmp 3) (by rfl) w.heap.size 0 (by rfl) C _ (fun _ h => h.2.2.2.1) u24 rfl i24C) hHeld ?_
  simp only [List.getElem_toArray, List.getElem_cons_zero, List.getElem_cons_succ, Act.put, List.setIfInBounds_toArray, List.set_cons_zero, List.set_cons_succ]
  refine wpAnyH_take (i := 23) (v := ?_) rfl (by kernel_rfl) (by kernel_rfl) (by kernel_rfl) (fun _ _ _ h => h) (Or.inl ⟨by rfl, ?_⟩) hHeld ?_
  rotate_left
  · intro w hSw
    simp only [List.getElem_toArray, List.getElem_cons_zero, List.getElem_cons_succ]
    go_simp
    try with_reducible rfl
  simp only [List.getElem_toArray, List.getElem_cons_zero, List.getElem_cons_succ, Act.put, List.setIfInBounds_toArray, List.set_cons_zero, List.set_cons_succ]
  refine wpAnyH_take (i := 24) (v := ?_) rfl (by kernel_rfl) (by kernel_rfl) (by kernel_rfl) (fun _ _ _ h => h) (Or.inl ⟨by rfl, ?_⟩) hHeld ?_
  rotate_left
  · intro w hSw
    simp only [List.getElem_toArray, List.getElem_cons_zero, List.getElem_cons_succ]
    go_simp
    try with_reducible rfl
  simp only [List.getElem_toArray, List.getElem_cons_zero, List.getElem_cons_succ, Act.put, List.setIfInBounds_toArray, List.set_cons_zero, List.set_cons_succ]
  refine wpAnyH_take (i := 25) (v := ?_) rfl (by kernel_rfl) (by kernel_rfl) (by kernel_rfl) (fun _ _ _ h => h) (Or.inl ⟨by rfl, ?_⟩) hHeld ?_
  rotate_left
  · intro w hSw
    simp only [List.getElem_toArray, List.getElem_cons_zero, List.getElem_cons_succ]
    go_simp
    try with_reducible rfl
  simp only [List.getElem_toArray, List.getElem_cons_zero, List.getElem_cons_succ, Act.put, List.setIfInBounds_toArray, List.set_cons_zero, List.set_cons_succ]
  refine wpAnyH_take (i := 26) rfl (by kernel_rfl) (by kernel_rfl) (by kernel_rfl) (fun _ _ _ h => h) (yieldsIf_load_mid (by rfl) 24 (.tmp 3) (by rfl) w.heap.size 0 (by rfl) C _ (fun _ h => h.2.2.2.1) u24 rfl i24C) hHeld ?_
  simp only [List.getElem_toArray, List.getElem_cons_zero, List.getElem_cons_succ, Act.put, List.setIfInBounds_toArray, List.set_cons_zero, List.set_cons_succ]
  refine wpAnyH_take (i := 28) rfl (by kernel_rfl) (by kernel_rfl) (by kernel_rfl) (fun _ _ _ h => h) (yieldsIf_load_mid (by rfl) 24 (.tmp 4) (by rfl) (w.heap.size + 1) 0 (by rfl) T _ (fun _ h => h.2.2.2.2.1) u24 rfl i24T) hHeld ?_
  simp only [List.getElem_toArray, List.getElem_cons_zero, List.getElem_cons_succ, Act.put, List.setIfInBounds_toArray, List.set_cons_zero, List.set_cons_succ]
  refine wpAnyH_take (i := 31) rfl (by kernel_rfl) (by kernel_rfl) (by kernel_rfl) (fun _ _ _ h => h) (yieldsIf_load_mid (by rfl) 24 (.tmp 3) (by rfl) w.heap.size 0 (by rfl) C _ (fun _ h => h.2.2.2.1) u24 rfl i24C) hHeld ?_
  simp only [List.getElem_toArray, List.getElem_cons_zero, List.getElem_cons_succ, Act.put, List.setIfInBounds_toArray, List.set_cons_zero, List.set_cons_succ]
  refine wpAnyH_take (i := 32) rfl (by kernel_rfl) (by kernel_rfl) (by kernel_rfl) (fun _ _ _ h => h) (yieldsIf_load_mid (by rfl) 24 (.tmp 4) (by rfl) (w.heap.size + 1) 0 (by rfl) T _ (fun _ h => h.2.2.2.2.1) u24 rfl i24T) hHeld ?_
  simp only [List.getElem_toArray, List.getElem_cons_zero, List.getElem_cons_succ, Act.put, List.setIfInBounds_toArray, List.set_cons_zero, List.set_cons_succ]
  refine wpAnyH_take (i := 33) (v := ?_) rfl (by kernel_rfl) (by kernel_rfl) (by kernel_rfl) (fun _ _ _ h => h) (Or.inl ⟨by rfl, ?_⟩) hHeld ?_
  rotate_left
  · intro w hSw
    simp only [List.getElem_toArray, List.getElem_cons_zero, List.getElem_cons_succ]
    go_simp
    try with_reducible rfl
  simp only [List.getElem_toArray, List.getElem_cons_zero, List.getElem_cons_succ, Act.put, List.setIfInBounds_toArray, List.set_cons_zero, List.set_cons_succ]
  refine wpAnyH_ready (rs := [27]) (by kernel_rfl) (by simp) ?_
  refine AllReadyH.cons rfl (fun K hK => ?_) AllReadyH.nil
  refine pos_in (by rfl) ?_
  simp only [List.getElem_toArray, List.getElem_cons_zero, List.getElem_cons_succ]
  go_simp
  refine (cT1 _).mono ?_
  rintro e w7 ⟨rfl, S7⟩
  refine hK.out _ _ ⟨range_under q7 (Step.of (w := W5) inferInstance).h b7, range_under q9 (Step.of (w := W5) inferInstance).h b9, range_under R5 (Step.of (w := W5) inferInstance).h l5, range_under q3 (Step.of (w := W5) inferInstance).h b3, range_under q4 (Step.of (w := W5) inferInstance).h b4, Step.of inferInstance⟩ (fun hHeld => ?_)
  clear hK K
  refine wpAnyH_ready (rs := [29]) (by kernel_rfl) (by simp) ?_
  refine AllReadyH.cons rfl (fun K hK => ?_) AllReadyH.nil
  refine pos_in (by rfl) ?_
  simp only [List.getElem_toArray, List.getElem_cons_zero, List.getElem_cons_succ]
  go_simp
  refine (cT2 _).mono ?_
  rintro e w7 ⟨rfl, S7⟩
  refine hK.out _ _ ⟨range_under q7 (Step.of (w := W5) inferInstance).h b7, range_under q9 (Step.of (w := W5) inferInstance).h b9, range_under R5 (Step.of (w := W5) inferInstance).h l5, range_under q3 (Step.of (w := W5) inferInstance).h b3, range_under q4 (Step.of (w := W5) inferInstance).h b4, Step.of inferInstance⟩ (fun hHeld => ?_)
  clear hK K
  refine wpAnyH_take (i := 30) (v := ?_) rfl (by kernel_rfl) (by kernel_rfl) (by kernel_rfl) (fun _ _ _ h => h) (Or.inl ⟨by rfl, ?_⟩) hHeld ?_
  rotate_left
  · intro w hSw
    simp only [List.getElem_toArray, List.getElem_cons_zero, List.getElem_cons_succ]
    go_simp
    try with_reducible rfl
  simp only [List.getElem_toArray, List.getElem_cons_zero, List.getElem_cons_succ, Act.put, List.setIfInBounds_toArray, List.set_cons_zero, List.set_cons_succ]
  refine wpAnyH_take (i := 34) (v := ?_) rfl (by kernel_rfl) (by kernel_rfl) (by kernel_rfl) (fun _ _ _ h => h) (Or.inl ⟨by rfl, ?_⟩) hHeld ?_
  rotate_left
  · intro w hSw
    simp only [List.getElem_toArray, List.getElem_cons_zero, List.getElem_cons_succ]
    go_simp
    try with_reducible rfl
  simp only [List.getElem_toArray, List.getElem_cons_zero, List.getElem_cons_succ, Act.put, List.setIfInBounds_toArray, List.set_cons_zero, List.set_cons_succ]
  refine wpAnyH_take (i := 35) (v := ?_) rfl (by kernel_rfl) (by kernel_rfl) (by kernel_rfl) (fun _ _ _ h => h) (Or.inl ⟨by rfl, ?_⟩) hHeld ?_
  rotate_left
  · intro w hSw
    simp only [List.getElem_toArray, List.getElem_cons_zero, List.getElem_cons_succ]
    go_simp
    try with_reducible rfl
  simp only [List.getElem_toArray, List.getElem_cons_zero, List.getElem_cons_succ, Act.put, List.setIfInBounds_toArray, List.set_cons_zero, List.set_cons_succ]
  refine wpAnyH_take (i := 36) (v := ?_) rfl (by kernel_rfl) (by kernel_rfl) (by kernel_rfl) (fun _ _ _ h => h) (Or.inl ⟨by rfl, ?_⟩) hHeld ?_
  rotate_left
  · intro w hSw
    simp only [List.getElem_toArray, List.getElem_cons_zero, List.getElem_cons_succ]
    go_simp
    try with_reducible rfl
  simp only [List.getElem_toArray, List.getElem_cons_zero, List.getElem_cons_succ, Act.put, List.setIfInBounds_toArray, List.set_cons_zero, List.set_cons_succ]
  refine wpAnyH_take (i := 37) (v := ?_) rfl (by kernel_rfl) (by kernel_rfl) (by kernel_rfl) (fun _ _ _ h => h) (Or.inl ⟨by rfl, ?_⟩) hHeld ?_
  rotate_left
  · intro w hSw
    simp only [List.getElem_toArray, List.getElem_cons_zero, List.getElem_cons_succ]
    go_simp
    try with_reducible rfl
  simp only [List.getElem_toArray, List.getElem_cons_zero, List.getElem_cons_succ, Act.put, List.setIfInBounds_toArray, List.set_cons_zero, List.set_cons_succ]
  refine wpAnyH_take (i := 38) (v := ?_) rfl (by kernel_rfl) (by kernel_rfl) (by kernel_rfl) (fun _ _ _ h => h) (Or.inl ⟨by rfl, ?_⟩) hHeld ?_
  rotate_left
  · intro w hSw
    simp only [List.getElem_toArray, List.getElem_cons_zero, List.getElem_cons_succ]
    go_simp
    try with_reducible rfl
  simp only [List.getElem_toArray, List.getElem_cons_zero, List.getElem_cons_succ, Act.put, List.setIfInBounds_toArray, List.set_cons_zero, List.set_cons_succ]
  refine wpAnyH_take (i := 39) (v := ?_) rfl (by kernel_rfl) (by kernel_rfl) (by kernel_rfl) (fun _ _ _ h => h) (Or.inl ⟨by rfl, ?_⟩) hHeld ?_
  rotate_left
  · intro w hSw
    simp only [List.getElem_toArray, List.getElem_cons_zero, List.getElem_cons_succ]
    go_simp
    try with_reducible rfl
  simp only [List.getElem_toArray, List.getElem_cons_zero, List.getElem_cons_succ, Act.put, List.setIfInBounds_toArray, List.set_cons_zero, List.set_cons_succ]
  refine wpAnyH_take (i := 40) rfl (by kernel_rfl) (by kernel_rfl) (by kernel_rfl) (fun _ _ _ h => h) (yieldsIf_load_mid (by rfl) 24 (.tmp 7) (by rfl) w2.heap.size 0 (by rfl) A _ (fun _ h => h.1) u24 rfl i24) hHeld ?_
  simp only [List.getElem_toArray, List.getElem_cons_zero, List.getElem_cons_succ, Act.put, List.setIfInBounds_toArray, List.set_cons_zero, List.set_cons_succ]
  refine wpAnyH_take (i := 42) (v := ?_) rfl (by kernel_rfl) (by kernel_rfl) (by kernel_rfl) (fun _ _ _ h => h) (Or.inl ⟨by rfl, ?_⟩) hHeld ?_
  rotate_left
  · intro w hSw
    simp only [List.getElem_toArray, List.getElem_cons_zero, List.getElem_cons_succ]
    go_simp
    try with_reducible rfl
  simp only [List.getElem_toArray, List.getElem_cons_zero, List.getElem_cons_succ, Act.put, List.setIfInBounds_toArray, List.set_cons_zero, List.set_cons_succ]
  refine wpAnyH_ready (rs := [41]) (by kernel_rfl) (by simp) ?_
  refine AllReadyH.cons rfl (fun K hK => ?_) AllReadyH.nil
  refine pos_in (by rfl) ?_
  simp only [List.getElem_toArray, List.getElem_cons_zero, List.getElem_cons_succ]
  go_simp
  refine (cA _).mono ?_
  rintro e w7 ⟨rfl, S7⟩
  refine hK.out _ _ ⟨range_under q7 (Step.of (w := W5) inferInstance).h b7, range_under q9 (Step.of (w := W5) inferInstance).h b9, range_under R5 (Step.of (w := W5) inferInstance).h l5, range_under q3 (Step.of (w := W5) inferInstance).h b3, range_under q4 (Step.of (w := W5) inferInstance).h b4, Step.of inferInstance⟩ (fun hHeld => ?_)
  clear hK K
  refine wpAnyH_take (i := 43) (v := ?_) rfl (by kernel_rfl) (by kernel_rfl) (by kernel_rfl) (fun _ _ _ h => h) (Or.inl ⟨by rfl, ?_⟩) hHeld ?_
  rotate_left
  · intro w hSw
    simp only [List.getElem_toArray, List.getElem_cons_zero, List.getElem_cons_succ]
    go_simp
    try with_reducible rfl
  simp only [List.getElem_toArray, List.getElem_cons_zero, List.getElem_cons_succ, Act.put, List.setIfInBounds_toArray, List.set_cons_zero, List.set_cons_succ]
  refine wpAnyH_take (i := 44) (v := ?_) rfl (by kernel_rfl) (by kernel_rfl) (by kernel_rfl) (fun _ _ _ h => h) (Or.inl ⟨by rfl, ?_⟩) hHeld ?_
  rotate_left
  · intro w hSw
    simp only [List.getElem_toArray, List.getElem_cons_zero, List.getElem_cons_succ]
    go_simp
    try with_reducible rfl
  simp only [List.getElem_toArray, List.getElem_cons_zero, List.getElem_cons_succ, Act.put, List.setIfInBounds_toArray, List.set_cons_zero, List.set_cons_succ]
  refine wpAnyH_take (i := 45) (v := ?_) rfl (by kernel_rfl) (by kernel_rfl) (by kernel_rfl) (fun _ _ _ h => h) (Or.inl ⟨by rfl, ?_⟩) hHeld ?_
  rotate_left
  · intro w hSw
    simp only [List.getElem_toArray, List.getElem_cons_zero, List.getElem_cons_succ]
    go_simp
    try with_reducible rfl
  simp only [List.getElem_toArray, List.getElem_cons_zero, List.getElem_cons_succ, Act.put, List.setIfInBounds_toArray, List.set_cons_zero, List.set_cons_succ]
  refine wpAnyH_take (i := 46) (v := ?_) rfl (by kernel_rfl) (by kernel_rfl) (by kernel_rfl) (fun _ _ _ h => h) (Or.inl ⟨by rfl, ?_⟩) hHeld ?_
  rotate_left
  · intro w hSw
    simp only [List.getElem_toArray, List.getElem_cons_zero, List.getElem_cons_succ]
    go_simp
    try with_reducible rfl
  simp only [List.getElem_toArray, List.getElem_cons_zero, List.getElem_cons_succ, Act.put, List.setIfInBounds_toArray, List.set_cons_zero, List.set_cons_succ]
  refine wpAnyH_ready (rs := [47]) (by kernel_rfl) (by simp) ?_
  refine AllReadyH.cons rfl (fun K hK => ?_) AllReadyH.nil
  refine pos_in (by rfl) ?_
  simp only [List.getElem_toArray, List.getElem_cons_zero, List.getElem_cons_succ]
  go_simp
  refine (cS _ hA.to hL.to).mono ?_
  rintro e w7 ⟨rfl, S7⟩
  refine hK.out _ _ ⟨range_under q7 (Step.of (w := W5) inferInstance).h b7, range_under q9 (Step.of (w := W5) inferInstance).h b9, range_under R5 (Step.of (w := W5) inferInstance).h l5, range_under q3 (Step.of (w := W5) inferInstance).h b3, range_under q4 (Step.of (w := W5) inferInstance).h b4, Step.of inferInstance⟩ (fun hHeld => ?_)
  clear hK K
  refine wpAnyH_take (i := 48) (v := ?_) rfl (by kernel_rfl) (by kernel_rfl) (by kernel_rfl) (fun _ _ _ h => h) (Or.inl ⟨by rfl, ?_⟩) hHeld ?_
  rotate_left
  · intro w hSw
    simp only [List.getElem_toArray, List.getElem_cons_zero, List.getElem_cons_succ]
    go_simp
    try with_reducible rfl
  simp only [List.getElem_toArray, List.getElem_cons_zero, List.getElem_cons_succ, Act.put, List.setIfInBounds_toArray, List.set_cons_zero, List.set_cons_succ]
  refine wpAnyH_take (i := 49) (v := ?_) rfl (by kernel_rfl) (by kernel_rfl) (by kernel_rfl) (fun _ _ _ h => h) (Or.inl ⟨by rfl, ?_⟩) hHeld ?_
  rotate_left
  · intro w hSw
    simp only [List.getElem_toArray, List.getElem_cons_zero, List.getElem_cons_succ]
    go_simp
    try with_reducible rfl
  simp only [List.getElem_toArray, List.getElem_cons_zero, List.getElem_cons_succ, Act.put, List.setIfInBounds_toArray, List.set_cons_zero, List.set_cons_succ]
  refine wpAnyH_done (by kernel_rfl) ?_ _
  go_wp2
  go_ret
  exact ⟨rfl, Step.of inferInstance⟩
set_option maxHeartbeats 6400000 in
set_option maxRecDepth 1000000 in
theorem core_no (A C T : List Value) (S1 S2 text : ByteArray) (bst : Bool) (w : World) (hA : ErrAs.Laid w) (hL : LaidK w) (hlen : (text.size : Int) ≤ 300)
    (lA : A.length = 32) (lC : C.length = 32) (lT : T.length = 32) (oA : Hid (A.toArray.all (·.oneCell') = true)) (oC : Hid (C.toArray.all (·.oneCell') = true))
    (cP : ∀ w, Calls Tryd.prog 8 #[.string text] w fun e w' => e = .returned (.tuple #[.agg A.toArray, .iface 51 (.int .i64 3)]) ∧ Step w w')
    (cR : ∀ w, Calls Tryd.prog 9 #[.string text] w fun e w' => e = .returned (.tuple #[.agg A.toArray, .int .i64 3]) ∧ Step w w')
    (cT1 : ∀ w, Calls Tryd.prog 10 #[.agg C.toArray] w fun e w' => e = .returned (.string S1) ∧ Step w w')
    (cT2 : ∀ w, Calls Tryd.prog 10 #[.agg T.toArray] w fun e w' => e = .returned (.string S2) ∧ Step w w')
    (cU : ∀ w, Calls Tryd.prog 12 #[.agg C.toArray] w fun e w' => e = .returned (.string S1) ∧ Step w w')
    (cQ : ∀ w, Calls Tryd.prog 8 #[.string S1] w fun e w' => e = .returned (.tuple #[.agg C.toArray, .nilIface]) ∧ Step w w')
    (hAA : ∀ w, (Op.equalIn 10000 24 (.agg A.toArray) (.agg A.toArray)).run Tryd.prog w = .ok true w)
    (hCC : ∀ w, (Op.equalIn 10000 24 (.agg C.toArray) (.agg C.toArray)).run Tryd.prog w = .ok true w)
    (hCT : ∀ w, (Op.equalIn 10000 24 (.agg C.toArray) (.agg T.toArray)).run Tryd.prog w = .ok bst w)
    (hS : (S1.toList == S2.toList) = bst) :
    Calls Tryd.prog 4 #[.agg C.toArray, .agg T.toArray, .string text] w fun e w' => e = .returned (.bool true) ∧ Step w w' := by
  obtain ⟨Z, hZ⟩ : ∃ Z, zs.toArray = Z := ⟨_, rfl⟩
  have hz : Hid (∀ w, (zeroValue 24).run Tryd.prog w = .ok (.agg Z) w) := Lib.hid (hZ ▸ zero32)
  have hsz : Z.size = 32 := by rw [← hZ]; rfl
  clear hZ
  have cN := fun (w : World) (h : ErrAs.Laid w) => Num05.some_ 3 w h
  have cS := fun (w : World) h1 h2 => sure_any w h1 h2
  have u24 := Tryd.underlying24
  have i24 : (Tryd.prog.info? 24).map (·.size) = some A.length := by rw [lA]; exact size32
  have i24C : (Tryd.prog.info? 24).map (·.size) = some C.length := by rw [lC]; exact size32
  have i24T : (Tryd.prog.info? 24).map (·.size) = some T.length := by rw [lT]; exact size32
  obtain ⟨w1, h1⟩ : ∃ w1, w1 = ((w.alloc (Obj.cells C.toArray 24)).alloc (Obj.cells T.toArray 24)) := ⟨_, rfl⟩
  have RC : w1.rangeAt w.heap.size 0 C := by
    rw [h1]
    exact World.rangeAt_alloc (range_new w C.toArray 24) _
  have RT : w1.rangeAt (w.heap.size + 1) 0 T := by
    rw [h1]
    have := range_new (w.alloc (Obj.cells C.toArray 24)) T.toArray 24
    rw [World.size_alloc] at this
    exact this
  have S01 : Step w w1 := by
    rw [h1]
    exact Step.of inferInstance
  have z1 : w.heap.size + 2 = w1.heap.size := by rw [h1]; simp
  have hh1 := Lib.hid h1.symm
  clear h1
  go_enter Tryd.func4, Tryd.ntmps4
  go_wp2_with (first
    | (rw [hh1.out]; go_at_call 8; ((with_reducible refine (cP _).mono ?_); rintro e w2 ⟨rfl, S2'⟩; obtain ⟨W2, st2, X2, R2, l2⟩ := store_new w2 Z A hsz lA oA.out))
    | (go_at_call 9; ((with_reducible refine (cR _).mono ?_); rintro e w3 ⟨rfl, S3⟩; obtain ⟨W3, st3, X3, R3, l3⟩ := store_new w3 Z A hsz lA oA.out; have r3 : W3.rangeAt w.heap.size 0 C := range_under RC (inferInstance : Ext w1 W3).h (by omega)))
    | refine wpList_load_mid (by rfl) 24 (.tmp 3) (by rfl) w.heap.size 0 (by rfl) C _ r3 Tryd.underlying24 rfl i24C ?_
    | (go_at_call 10; ((with_reducible refine (cT1 _).mono ?_); rintro e w4 ⟨rfl, S4⟩))
    | (go_at_call 8; ((with_reducible refine (cQ _).mono ?_); rintro e w5 ⟨rfl, S5⟩; obtain ⟨W5, st5, X5, R5, l5⟩ := store_new w5 Z C hsz lC oC.out))
    | refine Lg.wpAlloc (by rfl) 24 (by rfl) Z hz.out ?_)
  have b7 : w2.heap.size < W5.heap.size := Nat.lt_of_lt_of_le l2 (inferInstance : Ext W2 W5).h.size
  have b9 : w3.heap.size < W5.heap.size := Nat.lt_of_lt_of_le l3 (inferInstance : Ext W3 W5).h.size
  have b1 : w1.heap.size ≤ W5.heap.size := (inferInstance : Ext w1 W5).h.size
  have b3 : w.heap.size < W5.heap.size := by omega
  have b4 : w.heap.size + 1 < W5.heap.size := by omega
  have q7 : W5.rangeAt w2.heap.size 0 A := range_under R2 (inferInstance : Ext W2 W5).h l2
  have q9 : W5.rangeAt w3.heap.size 0 A := range_under R3 (inferInstance : Ext W3 W5).h l3
  have q3 : W5.rangeAt w.heap.size 0 C := range_under RC (inferInstance : Ext w1 W5).h (by omega)
  have q4 : W5.rangeAt (w.heap.size + 1) 0 T := range_under RT (inferInstance : Ext w1 W5).h (by omega)
  have E05 : Ext w W5 := inferInstance
  clear R2 R3 RC RT r3 st2 st3 st5 hz cP cR cQ hh1
  refine wp_region_held_drew (S := fun w' => w'.rangeAt w2.heap.size 0 A ∧ w'.rangeAt w3.heap.size 0 A ∧ w'.rangeAt w5.heap.size 0 C ∧ w'.rangeAt w.heap.size 0 C ∧ w'.rangeAt (w.heap.size + 1) 0 T ∧ Step W5 w') (by kernel_rfl) ⟨range_under q7 (Step.of (w := W5) inferInstance).h b7, range_under q9 (Step.of (w := W5) inferInstance).h b9, range_under R5 (Step.of (w := W5) inferInstance).h l5, range_under q3 (Step.of (w := W5) inferInstance).h b3, range_under q4 (Step.of (w := W5) inferInstance).h b4, Step.of inferInstance⟩ (fun hHeld => ?_)
  refine wpAnyH_take (i := 0) rfl (by kernel_rfl) (by kernel_rfl) (by kernel_rfl) (fun _ _ _ h => h) (yieldsIf_load_mid (by rfl) 24 (.tmp 7) (by rfl) w2.heap.size 0 (by rfl) A _ (fun _ h => h.1) u24 rfl i24) hHeld ?_
  simp only [List.getElem_toArray, List.getElem_cons_zero, Act.put, List.setIfInBounds_toArray, List.set_cons_zero, List.set_cons_succ]
  refine wpAnyH_take (i := 1) rfl (by kernel_rfl) (by kernel_rfl) (by kernel_rfl) (fun _ _ _ h => h) (yieldsIf_load_mid (by rfl) 24 (.tmp 9) (by rfl) w3.heap.size 0 (by rfl) A _ (fun _ h => h.2.1) u24 rfl i24) hHeld ?_
  simp only [List.getElem_toArray, List.getElem_cons_zero, List.getElem_cons_succ, Act.put, List.setIfInBounds_toArray, List.set_cons_zero, List.set_cons_succ]
  refine wpAnyH_take (i := 2) (v := ?_) rfl (by kernel_rfl) (by kernel_rfl) (by kernel_rfl) (fun _ _ _ h => h) (Or.inl ⟨by rfl, ?_⟩) hHeld ?_
  rotate_left
  · intro w hSw
    simp only [List.getElem_toArray, List.getElem_cons_zero, List.getElem_cons_succ]
    go_simp
    try with_reducible rfl
  simp only [List.getElem_toArray, List.getElem_cons_zero, List.getElem_cons_succ, Act.put, List.setIfInBounds_toArray, List.set_cons_zero, List.set_cons_succ]
  refine wpAnyH_take (i := 3) (v := ?_) rfl (by kernel_rfl) (by kernel_rfl) (by kernel_rfl) (fun _ _ _ h => h) (Or.inl ⟨by rfl, ?_⟩) hHeld ?_
  rotate_left
  · intro w hSw
    simp only [List.getElem_toArray, List.getElem_cons_zero, List.getElem_cons_succ]
    go_simp
    try with_reducible rfl
  simp only [List.getElem_toArray, List.getElem_cons_zero, List.getElem_cons_succ, Act.put, List.setIfInBounds_toArray, List.set_cons_zero, List.set_cons_succ]
  refine wpAnyH_take (i := 4) (v := ?_) rfl (by kernel_rfl) (by kernel_rfl) (by kernel_rfl) (fun _ _ _ h => h) (Or.inl ⟨by rfl, ?_⟩) hHeld ?_
  rotate_left
  · intro w hSw
    simp only [List.getElem_toArray, List.getElem_cons_zero, List.getElem_cons_succ]
    go_simp
    try with_reducible rfl
  simp only [List.getElem_toArray, List.getElem_cons_zero, List.getElem_cons_succ, Act.put, List.setIfInBounds_toArray, List.set_cons_zero, List.set_cons_succ]
  refine wpAnyH_take (i := 6) (v := ?_) rfl (by kernel_rfl) (by kernel_rfl) (by kernel_rfl) (fun _ _ _ h => h) (Or.inl ⟨by rfl, ?_⟩) hHeld ?_
  rotate_left
  · intro w hSw
    simp only [List.getElem_toArray, List.getElem_cons_zero, List.getElem_cons_succ]
    go_simp
    try with_reducible rfl
  simp only [List.getElem_toArray, List.getElem_cons_zero, List.getElem_cons_succ, Act.put, List.setIfInBounds_toArray, List.set_cons_zero, List.set_cons_succ]
  refine wpAnyH_ready (rs := [5]) (by kernel_rfl) (by simp) ?_
  refine AllReadyH.cons rfl (fun K hK => ?_) AllReadyH.nil
  refine pos_in (by rfl) ?_
  simp only [List.getElem_toArray, List.getElem_cons_zero, List.getElem_cons_succ]
  go_simp
  refine (cN _ hA.to).mono ?_
  rintro e w7 ⟨rfl, S7⟩
  refine hK.out _ _ ⟨range_under q7 (Step.of (w := W5) inferInstance).h b7, range_under q9 (Step.of (w := W5) inferInstance).h b9, range_under R5 (Step.of (w := W5) inferInstance).h l5, range_under q3 (Step.of (w := W5) inferInstance).h b3, range_under q4 (Step.of (w := W5) inferInstance).h b4, Step.of inferInstance⟩ (fun hHeld => ?_)
  clear hK K
  refine wpAnyH_take (i := 7) (v := ?_) rfl (by kernel_rfl) (by kernel_rfl) (by kernel_rfl) (fun _ _ _ h => h) (Or.inl ⟨by rfl, ?_⟩) hHeld ?_
  rotate_left
  · intro w hSw
    simp only [List.getElem_toArray, List.getElem_cons_zero, List.getElem_cons_succ]
    go_simp
    try with_reducible rfl
  simp only [List.getElem_toArray, List.getElem_cons_zero, List.getElem_cons_succ, Act.put, List.setIfInBounds_toArray, List.set_cons_zero, List.set_cons_succ]
  refine wpAnyH_take (i := 8) (v := ?_) rfl (by kernel_rfl) (by kernel_rfl) (by kernel_rfl) (fun _ _ _ h => h) (Or.inl ⟨by rfl, ?_⟩) hHeld ?_
  rotate_left
  · intro w hSw
    simp only [List.getElem_toArray, List.getElem_cons_zero, List.getElem_cons_succ]
    go_simp
    try with_reducible rfl
  simp only [List.getElem_toArray, List.getElem_cons_zero, List.getElem_cons_succ, Act.put, List.setIfInBounds_toArray, List.set_cons_zero, List.set_cons_succ]
  refine wpAnyH_take (i := 9) (v := ?_) rfl (by kernel_rfl) (by kernel_rfl) (by kernel_rfl) (fun _ _ _ h => h) (Or.inl ⟨by rfl, ?_⟩) hHeld ?_
  rotate_left
  · intro w hSw
    simp only [List.getElem_toArray, List.getElem_cons_zero, List.getElem_cons_succ]
    go_simp
    try with_reducible rfl
  simp only [List.getElem_toArray, List.getElem_cons_zero, List.getElem_cons_succ, Act.put, List.setIfInBounds_toArray, List.set_cons_zero, List.set_cons_succ]
  refine wpAnyH_take (i := 10) rfl (by kernel_rfl) (by kernel_rfl) (by kernel_rfl) (fun _ _ _ h => h) (yieldsIf_load_mid (by rfl) 24 (.tmp 3) (by rfl) w.heap.size 0 (by rfl) C _ (fun _ h => h.2.2.2.1) u24 rfl i24C) hHeld ?_
  simp only [List.getElem_toArray, List.getElem_cons_zero, List.getElem_cons_succ, Act.put, List.setIfInBounds_toArray, List.set_cons_zero, List.set_cons_succ]
  refine wpAnyH_take (i := 12) rfl (by kernel_rfl) (by kernel_rfl) (by kernel_rfl) (fun _ _ _ h => h) (yieldsIf_load_mid (by rfl) 24 (.tmp 3) (by rfl) w.heap.size 0 (by rfl) C _ (fun _ h => h.2.2.2.1) u24 rfl i24C) hHeld ?_
  simp only [List.getElem_toArray, List.getElem_cons_zero, List.getElem_cons_succ, Act.put, List.setIfInBounds_toArray, List.set_cons_zero, List.set_cons_succ]
  refine wpAnyH_ready (rs := [11]) (by kernel_rfl) (by simp) ?_
  refine AllReadyH.cons rfl (fun K hK => ?_) AllReadyH.nil
  refine pos_in (by rfl) ?_
  simp only [List.getElem_toArray, List.getElem_cons_zero, List.getElem_cons_succ]
  go_simp
  refine (cT1 _).mono ?_
  rintro e w7 ⟨rfl, S7⟩
  refine hK.out _ _ ⟨range_under q7 (Step.of (w := W5) inferInstance).h b7, range_under q9 (Step.of (w := W5) inferInstance).h b9, range_under R5 (Step.of (w := W5) inferInstance).h l5, range_under q3 (Step.of (w := W5) inferInstance).h b3, range_under q4 (Step.of (w := W5) inferInstance).h b4, Step.of inferInstance⟩ (fun hHeld => ?_)
  clear hK K
  refine wpAnyH_ready (rs := [13]) (by kernel_rfl) (by simp) ?_
  refine AllReadyH.cons rfl (fun K hK => ?_) AllReadyH.nil
  refine pos_in (by rfl) ?_
  simp only [List.getElem_toArray, List.getElem_cons_zero, List.getElem_cons_succ]
  go_simp
  refine (cU _).mono ?_
  rintro e w7 ⟨rfl, S7⟩
  refine hK.out _ _ ⟨range_under q7 (Step.of (w := W5) inferInstance).h b7, range_under q9 (Step.of (w := W5) inferInstance).h b9, range_under R5 (Step.of (w := W5) inferInstance).h l5, range_under q3 (Step.of (w := W5) inferInstance).h b3, range_under q4 (Step.of (w := W5) inferInstance).h b4, Step.of inferInstance⟩ (fun hHeld => ?_)
  clear hK K
  refine wpAnyH_take (i := 14) (v := ?_) rfl (by kernel_rfl) (by kernel_rfl) (by kernel_rfl) (fun _ _ _ h => h) (Or.inl ⟨by rfl, ?_⟩) hHeld ?_
  rotate_left
  · intro w hSw
    simp only [List.getElem_toArray, List.getElem_cons_zero, List.getElem_cons_succ]
    go_simp
    try with_reducible rfl
  simp only [List.getElem_toArray, List.getElem_cons_zero, List.getElem_cons_succ, Act.put, List.setIfInBounds_toArray, List.set_cons_zero, List.set_cons_succ]
  refine wpAnyH_take (i := 15) (v := ?_) rfl (by kernel_rfl) (by kernel_rfl) (by kernel_rfl) (fun _ _ _ h => h) (Or.inl ⟨by rfl, ?_⟩) hHeld ?_
  rotate_left
  · intro w hSw
    simp only [List.getElem_toArray, List.getElem_cons_zero, List.getElem_cons_succ]
    go_simp
    try with_reducible rfl
  simp only [List.getElem_toArray, List.getElem_cons_zero, List.getElem_cons_succ, Act.put, List.setIfInBounds_toArray, List.set_cons_zero, List.set_cons_succ]
  refine wpAnyH_take (i := 16) (v := ?_) rfl (by kernel_rfl) (by kernel_rfl) (by kernel_rfl) (fun _ _ _ h => h) (Or.inl ⟨by rfl, ?_⟩) hHeld ?_
  rotate_left
  · intro w hSw
    simp only [List.getElem_toArray, List.getElem_cons_zero, List.getElem_cons_succ]
    go_simp
    try with_reducible rfl
  simp only [List.getElem_toArray, List.getElem_cons_zero, List.getElem_cons_succ, Act.put, List.setIfInBounds_toArray, List.set_cons_zero, List.set_cons_succ]
  refine wpAnyH_take (i := 17) (v := ?_) rfl (by kernel_rfl) (by kernel_rfl) (by kernel_rfl) (fun _ _ _ h => h) (Or.inl ⟨by rfl, ?_⟩) hHeld ?_
  rotate_left
  · intro w hSw
    simp only [List.getElem_toArray, List.getElem_cons_zero, List.getElem_cons_succ]
    go_simp
    try with_reducible rfl
  simp only [List.getElem_toArray, List.getElem_cons_zero, List.getElem_cons_succ, Act.put, List.setIfInBounds_toArray, List.set_cons_zero, List.set_cons_succ]
  refine wpAnyH_take (i := 18) (v := ?_) rfl (by kernel_rfl) (by kernel_rfl) (by kernel_rfl) (fun _ _ _ h => h) (Or.inl ⟨by rfl, ?_⟩) hHeld ?_
  rotate_left
  · intro w hSw
    simp only [List.getElem_toArray, List.getElem_cons_zero, List.getElem_cons_succ]
    go_simp
    try with_reducible rfl
  simp only [List.getElem_toArray, List.getElem_cons_zero, List.getElem_cons_succ, Act.put, List.setIfInBounds_toArray, List.set_cons_zero, List.set_cons_succ]
  refine wpAnyH_take (i := 19) (v := ?_) rfl (by kernel_rfl) (by kernel_rfl) (by kernel_rfl) (fun _ _ _ h => h) (Or.inl ⟨by rfl, ?_⟩) hHeld ?_
  rotate_left
  · intro w hSw
    simp only [List.getElem_toArray, List.getElem_cons_zero, List.getElem_cons_succ]
    go_simp
    try with_reducible rfl
  simp only [List.getElem_toArray, List.getElem_cons_zero, List.getElem_cons_succ, Act.put, List.setIfInBounds_toArray, List.set_cons_zero, List.set_cons_succ]
  refine wpAnyH_take (i := 20) (v := ?_) rfl (by kernel_rfl) (by kernel_rfl) (by kernel_rfl) (fun _ _ _ h => h) (Or.inl ⟨by rfl, ?_⟩) hHeld ?_
  rotate_left
  · intro w hSw
    simp only [List.getElem_toArray, List.getElem_cons_zero, List.getElem_cons_succ]
    go_simp
    try with_reducible rfl
  simp only [List.getElem_toArray, List.getElem_cons_zero, List.getElem_cons_succ, Act.put, List.setIfInBounds_toArray, List.set_cons_zero, List.set_cons_succ]
  refine wpAnyH_take (i := 21) rfl (by kernel_rfl) (by kernel_rfl) (by kernel_rfl) (fun _ _ _ h => h) (yieldsIf_load_mid (by rfl) 24 (.tmp 11) (by rfl) w5.heap.size 0 (by rfl) C _ (fun _ h => h.2.2.1) u24 rfl i24C) hHeld ?_
  simp only [List.getElem_toArray, List.getElem_cons_zero, List.getElem_cons_succ, Act.put, List.setIfInBounds_toArray, List.set_cons_zero, List.set_cons_succ]
  refine wpAnyH_take (i := 22) rfl (by kernel_rfl) (by kernel_rfl) (by kernel_rfl) (fun _ _ _ h => h) (yieldsIf_load_mid (by rfl) 24 (.tmp 3) (by rfl) w.heap.size 0 (by rfl) C _ (fun _ h => h.2.2.2.1) u24 rfl i24C) hHeld ?_
  simp only [List.getElem_toArray, List.getElem_cons_zero, List.getElem_cons_succ, Act.put, List.setIfInBounds_toArray, List.set_cons_zero, List.set_cons_succ]
  refine wpAnyH_take (i := 23) (v := ?_) rfl (by kernel_rfl) (by kernel_rfl) (by kernel_rfl) (fun _ _ _ h => h) (Or.inl ⟨by rfl, ?_⟩) hHeld ?_
  rotate_left
  · intro w hSw
    simp only [List.getElem_toArray, List.getElem_cons_zero, List.getElem_cons_succ]
    go_simp
    try with_reducible rfl
  simp only [List.getElem_toArray, List.getElem_cons_zero, List.getElem_cons_succ, Act.put, List.setIfInBounds_toArray, List.set_cons_zero, List.set_cons_succ]
  refine wpAnyH_take (i := 24) (v := ?_) rfl (by kernel_rfl) (by kernel_rfl) (by kernel_rfl) (fun _ _ _ h => h) (Or.inl ⟨by rfl, ?_⟩) hHeld ?_
  rotate_left
  · intro w hSw
    simp only [List.getElem_toArray, List.getElem_cons_zero, List.getElem_cons_succ]
    go_simp
    try with_reducible rfl
  simp only [List.getElem_toArray, List.getElem_cons_zero, List.getElem_cons_succ, Act.put, List.setIfInBounds_toArray, List.set_cons_zero, List.set_cons_succ]
  refine wpAnyH_take (i := 25) (v := ?_) rfl (by kernel_rfl) (by kernel_rfl) (by kernel_rfl) (fun _ _ _ h => h) (Or.inl ⟨by rfl, ?_⟩) hHeld ?_
  rotate_left
  · intro w hSw
    simp only [List.getElem_toArray, List.getElem_cons_zero, List.getElem_cons_succ]
    go_simp
    try with_reducible rfl
  simp only [List.getElem_toArray, List.getElem_cons_zero, List.getElem_cons_succ, Act.put, List.setIfInBounds_toArray, List.set_cons_zero, List.set_cons_succ]
  refine wpAnyH_take (i := 26) rfl (by kernel_rfl) (by kernel_rfl) (by kernel_rfl) (fun _ _ _ h => h) (yieldsIf_load_mid (by rfl) 24 (.tmp 3) (by rfl) w.heap.size 0 (by rfl) C _ (fun _ h => h.2.2.2.1) u24 rfl i24C) hHeld ?_
  simp only [List.getElem_toArray, List.getElem_cons_zero, List.getElem_cons_succ, Act.put, List.setIfInBounds_toArray, List.set_cons_zero, List.set_cons_succ]
  refine wpAnyH_take (i := 28) rfl (by kernel_rfl) (by kernel_rfl) (by kernel_rfl) (fun _ _ _ h => h) (yieldsIf_load_mid (by rfl) 24 (.tmp 4) (by rfl) (w.heap.size + 1) 0 (by rfl) T _ (fun _ h => h.2.2.2.2.1) u24 rfl i24T) hHeld ?_
  simp only [List.getElem_toArray, List.getElem_cons_zero, List.getElem_cons_succ, Act.put, List.setIfInBounds_toArray, List.set_cons_zero, List.set_cons_succ]
  refine wpAnyH_take (i := 31) rfl (by kernel_rfl) (by kernel_rfl) (by kernel_rfl) (fun _ _ _ h => h) (yieldsIf_load_mid (by rfl) 24 (.tmp 3) (by rfl) w.heap.size 0 (by rfl) C _ (fun _ h => h.2.2.2.1) u24 rfl i24C) hHeld ?_
  simp only [List.getElem_toArray, List.getElem_cons_zero, List.getElem_cons_succ, Act.put, List.setIfInBounds_toArray, List.set_cons_zero, List.set_cons_succ]
  refine wpAnyH_take (i := 32) rfl (by kernel_rfl) (by kernel_rfl) (by kernel_rfl) (fun _ _ _ h => h) (yieldsIf_load_mid (by rfl) 24 (.tmp 4) (by rfl) (w.heap.size + 1) 0 (by rfl) T _ (fun _ h => h.2.2.2.2.1) u24 rfl i24T) hHeld ?_
  simp only [List.getElem_toArray, List.getElem_cons_zero, List.getElem_cons_succ, Act.put, List.setIfInBounds_toArray, List.set_cons_zero, List.set_cons_succ]
  refine wpAnyH_take (i := 33) (v := ?_) rfl (by kernel_rfl) (by kernel_rfl) (by kernel_rfl) (fun _ _ _ h => h) (Or.inl ⟨by rfl, ?_⟩) hHeld ?_
  rotate_left
  · intro w hSw
    simp only [List.getElem_toArray, List.getElem_cons_zero, List.getElem_cons_succ]
    go_simp
    try with_reducible rfl
  simp only [List.getElem_toArray, List.getElem_cons_zero, List.getElem_cons_succ, Act.put, List.setIfInBounds_toArray, List.set_cons_zero, List.set_cons_succ]
  refine wpAnyH_ready (rs := [27]) (by kernel_rfl) (by simp) ?_
  refine AllReadyH.cons rfl (fun K hK => ?_) AllReadyH.nil
  refine pos_in (by rfl) ?_
  simp only [List.getElem_toArray, List.getElem_cons_zero, List.getElem_cons_succ]
  go_simp
  refine (cT1 _).mono ?_
  rintro e w7 ⟨rfl, S7⟩
  refine hK.out _ _ ⟨range_under q7 (Step.of (w := W5) inferInstance).h b7, range_under q9 (Step.of (w := W5) inferInstance).h b9, range_under R5 (Step.of (w := W5) inferInstance).h l5, range_under q3 (Step.of (w := W5) inferInstance).h b3, range_under q4 (Step.of (w := W5) inferInstance).h b4, Step.of inferInstance⟩ (fun hHeld => ?_)
  clear hK K
  refine wpAnyH_ready (rs := [29]) (by kernel_rfl) (by simp) ?_
  refine AllReadyH.cons rfl (fun K hK => ?_) AllReadyH.nil
  refine pos_in (by rfl) ?_
  simp only [List.getElem_toArray, List.getElem_cons_zero, List.getElem_cons_succ]
  go_simp
  refine (cT2 _).mono ?_
  rintro e w7 ⟨rfl, S7⟩
  refine hK.out _ _ ⟨range_under q7 (Step.of (w := W5) inferInstance).h b7, range_under q9 (Step.of (w := W5) inferInstance).h b9, range_under R5 (Step.of (w := W5) inferInstance).h l5, range_under q3 (Step.of (w := W5) inferInstance).h b3, range_under q4 (Step.of (w := W5) inferInstance).h b4, Step.of inferInstance⟩ (fun hHeld => ?_)
  clear hK K
  refine wpAnyH_take (i := 30) (v := ?_) rfl (by kernel_rfl) (by kernel_rfl) (by kernel_rfl) (fun _ _ _ h => h) (Or.inl ⟨by rfl, ?_⟩) hHeld ?_
  rotate_left
  · intro w hSw
    simp only [List.getElem_toArray, List.getElem_cons_zero, List.getElem_cons_succ]
    go_simp
    try with_reducible rfl
  simp only [List.getElem_toArray, List.getElem_cons_zero, List.getElem_cons_succ, Act.put, List.setIfInBounds_toArray, List.set_cons_zero, List.set_cons_succ]
  refine wpAnyH_take (i := 34) (v := ?_) rfl (by kernel_rfl) (by kernel_rfl) (by kernel_rfl) (fun _ _ _ h => h) (Or.inl ⟨by rfl, ?_⟩) hHeld ?_
  rotate_left
  · intro w hSw
    simp only [List.getElem_toArray, List.getElem_cons_zero, List.getElem_cons_succ]
    go_simp
    try with_reducible rfl
  simp only [List.getElem_toArray, List.getElem_cons_zero, List.getElem_cons_succ, Act.put, List.setIfInBounds_toArray, List.set_cons_zero, List.set_cons_succ]
  refine wpAnyH_take (i := 35) (v := ?_) rfl (by kernel_rfl) (by kernel_rfl) (by kernel_rfl) (fun _ _ _ h => h) (Or.inl ⟨by rfl, ?_⟩) hHeld ?_
  rotate_left
  · intro w hSw
    simp only [List.getElem_toArray, List.getElem_cons_zero, List.getElem_cons_succ]
    go_simp
    try with_reducible rfl
  simp only [List.getElem_toArray, List.getElem_cons_zero, List.getElem_cons_succ, Act.put, List.setIfInBounds_toArray, List.set_cons_zero, List.set_cons_succ]
  refine wpAnyH_take (i := 36) (v := ?_) rfl (by kernel_rfl) (by kernel_rfl) (by kernel_rfl) (fun _ _ _ h => h) (Or.inl ⟨by rfl, ?_⟩) hHeld ?_
  rotate_left
  · intro w hSw
    simp only [List.getElem_toArray, List.getElem_cons_zero, List.getElem_cons_succ]
    go_simp
    try with_reducible rfl
  simp only [List.getElem_toArray, List.getElem_cons_zero, List.getElem_cons_succ, Act.put, List.setIfInBounds_toArray, List.set_cons_zero, List.set_cons_succ]
  refine wpAnyH_take (i := 37) (v := ?_) rfl (by kernel_rfl) (by kernel_rfl) (by kernel_rfl) (fun _ _ _ h => h) (Or.inl ⟨by rfl, ?_⟩) hHeld ?_
  rotate_left
  · intro w hSw
    simp only [List.getElem_toArray, List.getElem_cons_zero, List.getElem_cons_succ]
    go_simp
    try with_reducible rfl
  simp only [List.getElem_toArray, List.getElem_cons_zero, List.getElem_cons_succ, Act.put, List.setIfInBounds_toArray, List.set_cons_zero, List.set_cons_succ]
  refine wpAnyH_take (i := 38) (v := ?_) rfl (by kernel_rfl) (by kernel_rfl) (by kernel_rfl) (fun _ _ _ h => h) (Or.inl ⟨by rfl, ?_⟩) hHeld ?_
  rotate_left
  · intro w hSw
    simp only [List.getElem_toArray, List.getElem_cons_zero, List.getElem_cons_succ]
    go_simp
    try with_reducible rfl
  simp only [List.getElem_toArray, List.getElem_cons_zero, List.getElem_cons_succ, Act.put, List.setIfInBounds_toArray, List.set_cons_zero, List.set_cons_succ]
  refine wpAnyH_take (i := 39) (v := ?_) rfl (by kernel_rfl) (by kernel_rfl) (by kernel_rfl) (fun _ _ _ h => h) (Or.inl ⟨by rfl, ?_⟩) hHeld ?_
  rotate_left
  · intro w hSw
    simp only [List.getElem_toArray, List.getElem_cons_zero, List.getElem_cons_succ]
    go_simp
    try with_reducible rfl
  simp only [List.getElem_toArray, List.getElem_cons_zero, List.getElem_cons_succ, Act.put, List.setIfInBounds_toArray, List.set_cons_zero, List.set_cons_succ]
  refine wpAnyH_take (i := 40) (v := undef) rfl (by kernel_rfl) (by kernel_rfl) (by kernel_rfl) (fun _ _ _ h => h) (Or.inr ⟨by rfl, rfl⟩) hHeld ?_
  simp only [List.getElem_toArray, List.getElem_cons_zero, List.getElem_cons_succ, Act.put, List.setIfInBounds_toArray, List.set_cons_zero, List.set_cons_succ]
  refine wpAnyH_take (i := 42) (v := undef) rfl (by kernel_rfl) (by kernel_rfl) (by kernel_rfl) (fun _ _ _ h => h) (Or.inr ⟨by rfl, rfl⟩) hHeld ?_
  simp only [List.getElem_toArray, List.getElem_cons_zero, List.getElem_cons_succ, Act.put, List.setIfInBounds_toArray, List.set_cons_zero, List.set_cons_succ]
  refine wpAnyH_take (i := 41) (v := undef) rfl (by kernel_rfl) (by kernel_rfl) (by kernel_rfl) (fun _ _ _ h => h) (Or.inr ⟨by rfl, rfl⟩) hHeld ?_
  simp only [List.getElem_toArray, List.getElem_cons_zero, List.getElem_cons_succ, Act.put, List.setIfInBounds_toArray, List.set_cons_zero, List.set_cons_succ]
  refine wpAnyH_take (i := 43) (v := undef) rfl (by kernel_rfl) (by kernel_rfl) (by kernel_rfl) (fun _ _ _ h => h) (Or.inr ⟨by rfl, rfl⟩) hHeld ?_
  simp only [List.getElem_toArray, List.getElem_cons_zero, List.getElem_cons_succ, Act.put, List.setIfInBounds_toArray, List.set_cons_zero, List.set_cons_succ]
  refine wpAnyH_take (i := 44) (v := ?_) rfl (by kernel_rfl) (by kernel_rfl) (by kernel_rfl) (fun _ _ _ h => h) (Or.inl ⟨by rfl, ?_⟩) hHeld ?_
  rotate_left
  · intro w hSw
    simp only [List.getElem_toArray, List.getElem_cons_zero, List.getElem_cons_succ]
    go_simp
    try with_reducible rfl
  simp only [List.getElem_toArray, List.getElem_cons_zero, List.getElem_cons_succ, Act.put, List.setIfInBounds_toArray, List.set_cons_zero, List.set_cons_succ]
  refine wpAnyH_take (i := 45) (v := ?_) rfl (by kernel_rfl) (by kernel_rfl) (by kernel_rfl) (fun _ _ _ h => h) (Or.inl ⟨by rfl, ?_⟩) hHeld ?_
  rotate_left
  · intro w hSw
    simp only [List.getElem_toArray, List.getElem_cons_zero, List.getElem_cons_succ]
    go_simp
    try with_reducible rfl
  simp only [List.getElem_toArray, List.getElem_cons_zero, List.getElem_cons_succ, Act.put, List.setIfInBounds_toArray, List.set_cons_zero, List.set_cons_succ]
  refine wpAnyH_take (i := 46) (v := ?_) rfl (by kernel_rfl) (by kernel_rfl) (by kernel_rfl) (fun _ _ _ h => h) (Or.inl ⟨by rfl, ?_⟩) hHeld ?_
  rotate_left
  · intro w hSw
    simp only [List.getElem_toArray, List.getElem_cons_zero, List.getElem_cons_succ]
    go_simp
    try with_reducible rfl
  simp only [List.getElem_toArray, List.getElem_cons_zero, List.getElem_cons_succ, Act.put, List.setIfInBounds_toArray, List.set_cons_zero, List.set_cons_succ]
  refine wpAnyH_ready (rs := [47]) (by kernel_rfl) (by simp) ?_
  refine AllReadyH.cons rfl (fun K hK => ?_) AllReadyH.nil
  refine pos_in (by rfl) ?_
  simp only [List.getElem_toArray, List.getElem_cons_zero, List.getElem_cons_succ]
  go_simp
  refine (cS _ hA.to hL.to).mono ?_
  rintro e w7 ⟨rfl, S7⟩
  refine hK.out _ _ ⟨range_under q7 (Step.of (w := W5) inferInstance).h b7, range_under q9 (Step.of (w := W5) inferInstance).h b9, range_under R5 (Step.of (w := W5) inferInstance).h l5, range_under q3 (Step.of (w := W5) inferInstance).h b3, range_under q4 (Step.of (w := W5) inferInstance).h b4, Step.of inferInstance⟩ (fun hHeld => ?_)
  clear hK K
  refine wpAnyH_take (i := 48) (v := ?_) rfl (by kernel_rfl) (by kernel_rfl) (by kernel_rfl) (fun _ _ _ h => h) (Or.inl ⟨by rfl, ?_⟩) hHeld ?_
  rotate_left
  · intro w hSw
    simp only [List.getElem_toArray, List.getElem_cons_zero, List.getElem_cons_succ]
    go_simp
    try with_reducible rfl
  simp only [List.getElem_toArray, List.getElem_cons_zero, List.getElem_cons_succ, Act.put, List.setIfInBounds_toArray, List.set_cons_zero, List.set_cons_succ]
  refine wpAnyH_take (i := 49) (v := ?_) rfl (by kernel_rfl) (by kernel_rfl) (by kernel_rfl) (fun _ _ _ h => h) (Or.inl ⟨by rfl, ?_⟩) hHeld ?_
  rotate_left
  · intro w hSw
    simp only [List.getElem_toArray, List.getElem_cons_zero, List.getElem_cons_succ]
    go_simp
    try with_reducible rfl
  simp only [List.getElem_toArray, List.getElem_cons_zero, List.getElem_cons_succ, Act.put, List.setIfInBounds_toArray, List.set_cons_zero, List.set_cons_succ]
  refine wpAnyH_done (by kernel_rfl) ?_ _
  go_wp2
  go_ret
  exact ⟨rfl, Step.of inferInstance⟩
theorem nums_bl (s : ByteArray) : strOfNums (NL (bl s)) = s := by
  have e : (strOfNums (NL (bl s))).data = s.data := by
    unfold strOfNums NL bl
    simp
    refine Array.ext (by simp) fun i h1 h2 => ?_
    simp
  cases s
  simpa [strOfNums] using e
theorem bl_len (s : ByteArray) : (bl s).length = s.size := by
  unfold bl
  simp
theorem hx_dg (c : Nat) (hc : c < 256) (h : 0 ≤ dg c) : hx (dg c).toNat = c := by
  unfold dg at h ⊢
  unfold hx
  split at h
  · rename_i h1
    rw [if_pos h1, if_pos (by omega)]
    omega
  · rename_i h1
    split at h
    · rename_i h2
      rw [if_neg h1, if_pos h2, if_neg (by omega)]
      omega
    · omega
theorem bl_lt (s : ByteArray) (i : Nat) : (bl s).getD i 0 < 256 := by
  unfold bl
  rw [List.getD_eq_getElem?_getD, List.getElem?_map]
  cases s.data.toList[i]? with
  | none => show (0 : Nat) < _; omega
  | some v => exact UInt8.toNat_lt v
theorem val2_parts (s : List Nat) (i : Nat) (h : ok2 s i) : val2 s i / 16 = (dg (s.getD (2 * i) 0)).toNat ∧ val2 s i % 16 = (dg (s.getD (2 * i + 1) 0)).toNat ∧ val2 s i < 256 := by
  have h1 := dg_le (s.getD (2 * i) 0)
  have h2 := dg_le (s.getD (2 * i + 1) 0)
  have h3 := h.1
  have h4 := h.2
  unfold val2
  omega
theorem txt_vals (s : ByteArray) (hs : s.size = 64) (hok : ∀ i, i < 32 → ok2 (bl s) i) : txt (vals (bl s) 32) = bl s := by
  have lv : (vals (bl s) 32).length = 32 := by simp [vals]
  have at2 : ∀ i, i < 32 → (vals (bl s) 32).getD i 0 = val2 (bl s) i := fun i hi => by
    unfold vals
    rw [List.getD_eq_getElem?_getD, List.getElem?_map, List.getElem?_range hi]
    rfl
  have key : ∀ m, m < 64 → (txt (vals (bl s) 32)).getD m 0 = (bl s).getD m 0 := fun m hm => by
    obtain ⟨i, hi, hmi⟩ : ∃ i, i < 32 ∧ (m = 2 * i ∨ m = 2 * i + 1) := ⟨m / 2, by omega, by omega⟩
    obtain ⟨t1, t2⟩ := txt_at (vals (bl s) 32) i (by omega)
    obtain ⟨p1, p2, _⟩ := val2_parts (bl s) i (hok i hi)
    rw [at2 i hi] at t1 t2
    rcases hmi with rfl | rfl
    · rw [t1, p1, hx_dg _ (bl_lt s _) (hok i hi).1]
    · rw [t2, p2, hx_dg _ (bl_lt s _) (hok i hi).2]
  refine List.ext_getElem (by rw [txt_len, lv, bl_len, hs]) fun m h1 h2 => ?_
  have hm : m < 64 := by rw [bl_len, hs] at h2; exact h2
  have := key m hm
  rw [List.getD_eq_getElem?_getD, List.getD_eq_getElem?_getD, List.getElem?_eq_getElem h1, List.getElem?_eq_getElem h2] at this
  exact this
theorem vals_b8 (s : ByteArray) (hok : ∀ i, i < 32 → ok2 (bl s) i) : B8 (vals (bl s) 32) := fun i => by
  unfold vals
  rw [List.getD_eq_getElem?_getD, List.getElem?_map]
  by_cases hi : i < 32
  · rw [List.getElem?_range hi]
    exact (val2_parts (bl s) i (hok i hi)).2.2
  · rw [List.getElem?_eq_none (by simpa using hi)]
    show (0 : Nat) < _
    omega
theorem zs_vl : zs = vl .u8 (List.replicate 32 0) := rfl
set_option maxRecDepth 100000 in
theorem long (v1 v2 : Value) (text : ByteArray) (w : World) (hA : ErrAs.Laid w) (hL : LaidK w) (C T : Array Value) (e1 : v1 = .agg C) (e2 : v2 = .agg T) (hlen : ¬ (text.size : Int) ≤ 300) :
    Calls Tryd.prog 4 #[v1, v2, .string text] w fun e w' => e = .returned (.bool true) ∧ Step w w' := by
  subst e1 e2
  have cS := fun (w : World) h1 h2 => sure_any w h1 h2
  go_enter Tryd.func4, Tryd.ntmps4
  go_wp2_with (go_at_call 5; ((with_reducible refine (cS _ hA.to hL.to).mono ?_); rintro e w7 ⟨rfl, S7⟩))
  go_ret
  exact ⟨rfl, Step.of inferInstance⟩
theorem walkN (s t : List Nat) (text : ByteArray) (w : World) (hs : s.length = 32) (ht : t.length = 32) (bs : B8 s) (bt : B8 t) (hA : ErrAs.Laid w) (hL : LaidK w) :
    Calls Tryd.prog 4 #[.agg (vl .u8 s).toArray, .agg (vl .u8 t).toArray, .string text] w fun e w' => e = .returned (.bool true) ∧ Step w w' := by
  by_cases hlen : (text.size : Int) ≤ 300
  case neg => exact long _ _ text w hA hL _ _ rfl rfl hlen
  have lC : (vl .u8 s).length = 32 := by rw [vl_len, hs]
  have lT : (vl .u8 t).length = 32 := by rw [vl_len, ht]
  have cT1 := fun w => text_dev s w hs (Lib.hid bs)
  have cT2 := fun w => text_dev t w ht (Lib.hid bt)
  have cU := fun w => text_any (vl .u8 s).toArray s w hs (fun j hj => by rw [List.getElem?_toArray]; exact vl_at _ _ _ (by omega)) (Lib.hid bs)
  have cQ := fun w => parse_text s w hs (Lib.hid bs)
  have hCC : ∀ w, (Op.equalIn 10000 24 (.agg (vl .u8 s).toArray) (.agg (vl .u8 s).toArray)).run Tryd.prog w = .ok true w := fun w => by simpa using eq32 s s hs hs w
  have hCT := eq32 s t hs ht
  have hS : ((strOfNums (NL (txt s))).toList == (strOfNums (NL (txt t))).toList) = decide (s = t) := by
    by_cases e : s = t
    · subst e
      simp
    · have h1 : ¬ strOfNums (NL (txt s)) = strOfNums (NL (txt t)) := fun h => e (text_same hs ht bs bt h)
      rw [decide_eq_false e, Bool.eq_false_iff]
      intro h2
      refine h1 ?_
      have h3 := eq_of_beq h2
      rw [ByteArray.toList_eq, ByteArray.toList_eq] at h3
      have h4 := Array.toList_inj.1 h3
      generalize strOfNums (NL (txt s)) = x at h4 ⊢
      generalize strOfNums (NL (txt t)) = y at h4 ⊢
      cases x
      cases y
      exact congrArg ByteArray.mk h4
  have oC := vl_one .u8 s
  by_cases h64 : text.size = 64
  · by_cases hok : ∀ i, i < 32 → ok2 (bl text) i
    · have lv : (vals (bl text) 32).length = 32 := by simp [vals]
      have bv := vals_b8 text hok
      refine core_ok (vl .u8 (vals (bl text) 32)) (vl .u8 s) (vl .u8 t) _ _ text (decide (s = t)) w hA hL hlen (by rw [vl_len, lv]) lC lT (Lib.hid (vl_one _ _)) (Lib.hid oC)
        (fun w => (parse_dev text w (Lib.hid h64)).mono fun e w' ⟨h, S⟩ => ?_) (fun w => (parse_any text w (Lib.hid h64)).mono fun e w' ⟨h, S⟩ => ?_) cT1 cT2 cU cQ
        (fun w => (text_dev (vals (bl text) 32) w lv (Lib.hid bv)).mono fun e w' ⟨h, S⟩ => ?_) (fun w => by simpa using eq32 (vals (bl text) 32) (vals (bl text) 32) lv lv w) hCC hCT hS
      · rcases h with ⟨-, h⟩ | ⟨⟨i, hi, hno⟩, -⟩
        · rw [cl_vals] at h
          exact ⟨h, S⟩
        · exact absurd (hok i hi) hno
      · rcases h with ⟨-, h⟩ | ⟨⟨i, hi, hno⟩, -⟩
        · rw [cl_vals] at h
          exact ⟨h, S⟩
        · exact absurd (hok i hi) hno
      · rw [txt_vals text h64 hok, nums_bl] at h
        exact ⟨h, S⟩
    · refine core_no zs (vl .u8 s) (vl .u8 t) _ _ text (decide (s = t)) w hA hL hlen rfl lC lT (Lib.hid zs_one) (Lib.hid oC)
        (fun w => (parse_dev text w (Lib.hid h64)).mono fun e w' ⟨h, S⟩ => ?_) (fun w => (parse_any text w (Lib.hid h64)).mono fun e w' ⟨h, S⟩ => ?_) cT1 cT2 cU cQ
        (fun w => by rw [zs_vl]; simpa using eq32 (List.replicate 32 0) (List.replicate 32 0) rfl rfl w) hCC hCT hS
      · rcases h with ⟨h, -⟩ | ⟨-, h⟩
        · exact absurd h hok
        · exact ⟨h, S⟩
      · rcases h with ⟨h, -⟩ | ⟨-, h⟩
        · exact absurd h hok
        · exact ⟨h, S⟩
  · exact core_no zs (vl .u8 s) (vl .u8 t) _ _ text (decide (s = t)) w hA hL hlen rfl lC lT (Lib.hid zs_one) (Lib.hid oC)
      (fun w => parse_dlen text w (Lib.hid h64)) (fun w => parse_len text w (Lib.hid h64)) cT1 cT2 cU cQ
      (fun w => by rw [zs_vl]; simpa using eq32 (List.replicate 32 0) (List.replicate 32 0) rfl rfl w) hCC hCT hS
/-- Integers that are no less than zero, as naturals. -/
theorem nl_of (xs : List Int) (h : ∀ z ∈ xs, 0 ≤ z ∧ z < 256) : ∃ bs : List Nat, bs.length = xs.length ∧ B8 bs ∧ xs.map (Value.int .u8) = vl .u8 bs := by
  refine ⟨xs.map Int.toNat, by simp, b8_mem fun x hx => ?_, ?_⟩
  · obtain ⟨z, hz, rfl⟩ := List.mem_map.1 hx
    have := h z hz
    omega
  · unfold vl
    rw [List.map_map]
    refine List.map_congr_left fun z hz => ?_
    have := h z hz
    show Value.int .u8 z = Value.int .u8 ((z.toNat : Nat) : Int)
    rw [Int.toNat_of_nonneg this.1]
theorem walk (xs ys : List Int) (text : ByteArray) (w : World) (hx : xs.length = 32) (bx : ∀ z ∈ xs, 0 ≤ z ∧ z < 256) (hy : ys.length = 32) (bY : ∀ z ∈ ys, 0 ≤ z ∧ z < 256) (hL : LaidX.LaidS w) :
    Calls Tryd.prog 4 #[.agg (xs.map (Value.int .u8)).toArray, .agg (ys.map (Value.int .u8)).toArray, .string text] w fun e w' => e = .returned (.bool true) ∧ Step w w' := by
  obtain ⟨s, h1, h2, h3⟩ := nl_of xs bx
  obtain ⟨t, g1, g2, g3⟩ := nl_of ys bY
  rw [h3, g3]
  exact walkN s t text w (by omega) (by omega) h2 g2 hL.1 hL.2
end LawShaTexts
end Go.Proofs.YtfifbofhnpbnhaaDoor
