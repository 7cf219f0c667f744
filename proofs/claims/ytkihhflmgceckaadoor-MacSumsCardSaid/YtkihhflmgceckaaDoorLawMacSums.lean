/- The walk of the law MacSums: true whatever comes. Conditions: what is handed in reads as bytes; sha.k reads as laid; the document's sum as a contract. -/
import Derived.Test.YtkihhflmgceckaaDoorSure06
import Derived.Test.YtkihhflmgceckaaDoorMacEq
import Derived.Test.YtkihhflmgceckaaDoorRef06c
import Derived.Test.YtkihhflmgceckaaDoorLaidK
import Derived.Deep.RegionHeld3
namespace Go.Proofs.YtkihhflmgceckaaDoor
open Go.RowKit Go.Lib
namespace LawMacSums
open SlR Sh Sp Mc
set_option maxHeartbeats 6400000 in
set_option maxRecDepth 1000000 in
theorem core (A : Option Addr) (n c : Nat) (k : List Nat) (A2 : Option Addr) (m c2 : Nat) (t : List Nat) (E F V : List Value) (d : Bool) (w : World) (hr : R8 w A k) (hr2 : R8 w A2 t) (hL : LaidK w) (h1 : (n : Int) ≤ 300) (h2 : (m : Int) ≤ 400)
    (lF : F.length = 32) (lV : V.length = 32) (oF : Hid (F.toArray.all (·.oneCell') = true))
    (cB : ∀ w, R8 w A k → LaidK w → Calls Tryd.prog 17 #[.slice A n c] w fun e w' => e = .returned (.agg E.toArray) ∧ Step w w')
    (cR : ∀ w, R8 w A k → Calls Tryd.prog 18 #[.slice A n c] w fun e w' => e = .returned (.agg E.toArray) ∧ Step w w')
    (cO : ∀ w, R8 w A k → R8 w A2 t → LaidK w → Calls Tryd.prog 19 #[.slice A n c, .slice A2 m c2] w fun e w' => e = .returned (.agg F.toArray) ∧ Step w w')
    (cQ : ∀ w, R8 w A k → R8 w A2 t → Calls Tryd.prog 16 #[.slice A n c, .slice A2 m c2] w fun e w' => e = .returned (.agg F.toArray) ∧ Step w w')
    (cC : ∀ w, R8 w A k → R8 w A2 t → LaidK w → Calls Tryd.prog 20 #[.slice A n c, .slice A2 m c2, .agg V.toArray] w fun e w' => e = .returned (.bool d) ∧ Step w w')
    (cD : ∀ w, R8 w A k → R8 w A2 t → LaidK w → Calls Tryd.prog 20 #[.slice A n c, .slice A2 m c2, .agg F.toArray] w fun e w' => e = .returned (.bool true) ∧ Step w w')
    (hEE : ∀ w, (Op.equalIn 10000 37 (.agg E.toArray) (.agg E.toArray)).run Tryd.prog w = .ok true w)
    (hFF : ∀ w, (Op.equalIn 10000 24 (.agg F.toArray) (.agg F.toArray)).run Tryd.prog w = .ok true w)
    (hVF : ∀ w, (Op.equalIn 10000 24 (.agg V.toArray) (.agg F.toArray)).run Tryd.prog w = .ok d w) :
    Calls Tryd.prog 5 #[.slice A n c, .slice A2 m c2, .agg V.toArray] w fun e w' => e = .returned (.bool true) ∧ Step w w' := by
  obtain ⟨Z, hZ⟩ : ∃ Z, zs.toArray = Z := ⟨_, rfl⟩
  have hz : Hid (∀ w, (zeroValue 24).run Tryd.prog w = .ok (.agg Z) w) := Lib.hid (hZ ▸ zero32)
  have hsz : Z.size = 32 := by rw [← hZ]; rfl
  clear hZ
  have cS := fun (w : World) h1 => Mc.sure_any w h1
  have i24F : (Tryd.prog.info? 24).map (·.size) = some F.length := by rw [lF]; exact size32
  have i24V : (Tryd.prog.info? 24).map (·.size) = some V.length := by rw [lV]; exact size32
  have rV := range_new w V.toArray 24
  go_enter Tryd.func5, Tryd.ntmps5
  go_wp2_with (first
    | refine Lg.wpAlloc (by rfl) 24 (by rfl) Z hz.out ?_
    | (go_at_call 16; ((with_reducible refine (cQ _ hr.to hr2.to).mono ?_); rintro e w4 ⟨rfl, S4⟩; obtain ⟨W4, st4, X4, q7, l4⟩ := store_new w4 Z F hsz lF oF.out)))
  have b5 : w.heap.size < W4.heap.size := by
    have := (inferInstance : Ext (w.alloc (Obj.cells V.toArray 24)) W4).h.size
    simp at this
    omega
  have q5 : W4.rangeAt w.heap.size 0 V := range_under rV (inferInstance : Ext (w.alloc (Obj.cells V.toArray 24)) W4).h (by simp)
  clear st4 cQ hz rV
  refine wp_region_held_drew (S := fun w' => w'.rangeAt w4.heap.size 0 F ∧ w'.rangeAt w.heap.size 0 V ∧ Step W4 w') (by kernel_rfl) ⟨range_under q7 (Step.of (w := W4) inferInstance).h l4, range_under q5 (Step.of (w := W4) inferInstance).h b5, Step.of inferInstance⟩ (fun hHeld => ?_)
  refine wpAnyH_take (i := 0) (v := ?_) rfl (by kernel_rfl) (by kernel_rfl) (by kernel_rfl) (fun _ _ _ h => h) (Or.inl ⟨by rfl, ?_⟩) hHeld ?_
  rotate_left
  · intro w hSw
    simp only [List.getElem_toArray, List.getElem_cons_zero]
    go_simp
    try with_reducible rfl
  simp only [List.getElem_toArray, List.getElem_cons_zero, Act.put, List.setIfInBounds_toArray, List.set_cons_zero, List.set_cons_succ]
  refine wpAnyH_take (i := 2) (v := ?_) rfl (by kernel_rfl) (by kernel_rfl) (by kernel_rfl) (fun _ _ _ h => h) (Or.inl ⟨by rfl, ?_⟩) hHeld ?_
  rotate_left
  · intro w hSw
    simp only [List.getElem_toArray, List.getElem_cons_zero, List.getElem_cons_succ]
    go_simp
    try with_reducible rfl
  simp only [List.getElem_toArray, List.getElem_cons_zero, List.getElem_cons_succ, Act.put, List.setIfInBounds_toArray, List.set_cons_zero, List.set_cons_succ]
  refine wpAnyH_ready (rs := [1]) (by kernel_rfl) (by simp) ?_
  refine AllReadyH.cons rfl (fun K hK => ?_) AllReadyH.nil
  refine pos_in (by rfl) ?_
  simp only [List.getElem_toArray, List.getElem_cons_zero, List.getElem_cons_succ]
  go_simp
  refine (cB _ hr.to hL.to).mono ?_
  rintro e w7 ⟨rfl, S7⟩
  refine hK.out _ _ ⟨range_under q7 (Step.of (w := W4) inferInstance).h l4, range_under q5 (Step.of (w := W4) inferInstance).h b5, Step.of inferInstance⟩ (fun hHeld => ?_)
  clear hK K
  refine wpAnyH_ready (rs := [3]) (by kernel_rfl) (by simp) ?_
  refine AllReadyH.cons rfl (fun K hK => ?_) AllReadyH.nil
  refine pos_in (by rfl) ?_
  simp only [List.getElem_toArray, List.getElem_cons_zero, List.getElem_cons_succ]
  go_simp
  refine (cR _ hr.to).mono ?_
  rintro e w7 ⟨rfl, S7⟩
  refine hK.out _ _ ⟨range_under q7 (Step.of (w := W4) inferInstance).h l4, range_under q5 (Step.of (w := W4) inferInstance).h b5, Step.of inferInstance⟩ (fun hHeld => ?_)
  clear hK K
  refine wpAnyH_take (i := 4) (v := ?_) rfl (by kernel_rfl) (by kernel_rfl) (by kernel_rfl) (fun _ _ _ h => h) (Or.inl ⟨by rfl, ?_⟩) hHeld ?_
  rotate_left
  · intro w hSw
    simp only [List.getElem_toArray, List.getElem_cons_zero, List.getElem_cons_succ]
    go_simp
    try with_reducible rfl
  simp only [List.getElem_toArray, List.getElem_cons_zero, List.getElem_cons_succ, Act.put, List.setIfInBounds_toArray, List.set_cons_zero, List.set_cons_succ]
  refine wpAnyH_take (i := 5) (v := ?_) rfl (by kernel_rfl) (by kernel_rfl) (by kernel_rfl) (fun _ _ _ h => h) (Or.inl ⟨by rfl, ?_⟩) hHeld ?_
  rotate_left
  · intro w hSw
    simp only [List.getElem_toArray, List.getElem_cons_zero, List.getElem_cons_succ]
    go_simp
    try with_reducible rfl
  simp only [List.getElem_toArray, List.getElem_cons_zero, List.getElem_cons_succ, Act.put, List.setIfInBounds_toArray, List.set_cons_zero, List.set_cons_succ]
  refine wpAnyH_take (i := 6) (v := ?_) rfl (by kernel_rfl) (by kernel_rfl) (by kernel_rfl) (fun _ _ _ h => h) (Or.inl ⟨by rfl, ?_⟩) hHeld ?_
  rotate_left
  · intro w hSw
    simp only [List.getElem_toArray, List.getElem_cons_zero, List.getElem_cons_succ]
    go_simp
    try with_reducible rfl
  simp only [List.getElem_toArray, List.getElem_cons_zero, List.getElem_cons_succ, Act.put, List.setIfInBounds_toArray, List.set_cons_zero, List.set_cons_succ]
  refine wpAnyH_take (i := 7) (v := ?_) rfl (by kernel_rfl) (by kernel_rfl) (by kernel_rfl) (fun _ _ _ h => h) (Or.inl ⟨by rfl, ?_⟩) hHeld ?_
  rotate_left
  · intro w hSw
    simp only [List.getElem_toArray, List.getElem_cons_zero, List.getElem_cons_succ]
    go_simp
    try with_reducible rfl
  simp only [List.getElem_toArray, List.getElem_cons_zero, List.getElem_cons_succ, Act.put, List.setIfInBounds_toArray, List.set_cons_zero, List.set_cons_succ]
  refine wpAnyH_take (i := 9) rfl (by kernel_rfl) (by kernel_rfl) (by kernel_rfl) (fun _ _ _ h => h) (yieldsIf_load_mid (by rfl) 24 (.tmp 7) (by rfl) w4.heap.size 0 (by rfl) F _ (fun _ h => h.1) Tryd.underlying24 rfl i24F) hHeld ?_
  simp only [List.getElem_toArray, List.getElem_cons_zero, List.getElem_cons_succ, Act.put, List.setIfInBounds_toArray, List.set_cons_zero, List.set_cons_succ]
  refine wpAnyH_ready (rs := [8]) (by kernel_rfl) (by simp) ?_
  refine AllReadyH.cons rfl (fun K hK => ?_) AllReadyH.nil
  refine pos_in (by rfl) ?_
  simp only [List.getElem_toArray, List.getElem_cons_zero, List.getElem_cons_succ]
  go_simp
  refine (cO _ hr.to hr2.to hL.to).mono ?_
  rintro e w7 ⟨rfl, S7⟩
  refine hK.out _ _ ⟨range_under q7 (Step.of (w := W4) inferInstance).h l4, range_under q5 (Step.of (w := W4) inferInstance).h b5, Step.of inferInstance⟩ (fun hHeld => ?_)
  clear hK K
  refine wpAnyH_take (i := 10) (v := ?_) rfl (by kernel_rfl) (by kernel_rfl) (by kernel_rfl) (fun _ _ _ h => h) (Or.inl ⟨by rfl, ?_⟩) hHeld ?_
  rotate_left
  · intro w hSw
    simp only [List.getElem_toArray, List.getElem_cons_zero, List.getElem_cons_succ]
    go_simp
    try with_reducible rfl
  simp only [List.getElem_toArray, List.getElem_cons_zero, List.getElem_cons_succ, Act.put, List.setIfInBounds_toArray, List.set_cons_zero, List.set_cons_succ]
  refine wpAnyH_take (i := 11) (v := ?_) rfl (by kernel_rfl) (by kernel_rfl) (by kernel_rfl) (fun _ _ _ h => h) (Or.inl ⟨by rfl, ?_⟩) hHeld ?_
  rotate_left
  · intro w hSw
    simp only [List.getElem_toArray, List.getElem_cons_zero, List.getElem_cons_succ]
    go_simp
    try with_reducible rfl
  simp only [List.getElem_toArray, List.getElem_cons_zero, List.getElem_cons_succ, Act.put, List.setIfInBounds_toArray, List.set_cons_zero, List.set_cons_succ]
  refine wpAnyH_take (i := 12) (v := ?_) rfl (by kernel_rfl) (by kernel_rfl) (by kernel_rfl) (fun _ _ _ h => h) (Or.inl ⟨by rfl, ?_⟩) hHeld ?_
  rotate_left
  · intro w hSw
    simp only [List.getElem_toArray, List.getElem_cons_zero, List.getElem_cons_succ]
    go_simp
    try with_reducible rfl
  simp only [List.getElem_toArray, List.getElem_cons_zero, List.getElem_cons_succ, Act.put, List.setIfInBounds_toArray, List.set_cons_zero, List.set_cons_succ]
  refine wpAnyH_take (i := 13) (v := ?_) rfl (by kernel_rfl) (by kernel_rfl) (by kernel_rfl) (fun _ _ _ h => h) (Or.inl ⟨by rfl, ?_⟩) hHeld ?_
  rotate_left
  · intro w hSw
    simp only [List.getElem_toArray, List.getElem_cons_zero, List.getElem_cons_succ]
    go_simp
    try with_reducible rfl
  simp only [List.getElem_toArray, List.getElem_cons_zero, List.getElem_cons_succ, Act.put, List.setIfInBounds_toArray, List.set_cons_zero, List.set_cons_succ]
  refine wpAnyH_take (i := 14) (v := ?_) rfl (by kernel_rfl) (by kernel_rfl) (by kernel_rfl) (fun _ _ _ h => h) (Or.inl ⟨by rfl, ?_⟩) hHeld ?_
  rotate_left
  · intro w hSw
    simp only [List.getElem_toArray, List.getElem_cons_zero, List.getElem_cons_succ]
    go_simp
    try with_reducible rfl
  simp only [List.getElem_toArray, List.getElem_cons_zero, List.getElem_cons_succ, Act.put, List.setIfInBounds_toArray, List.set_cons_zero, List.set_cons_succ]
  refine wpAnyH_take (i := 15) rfl (by kernel_rfl) (by kernel_rfl) (by kernel_rfl) (fun _ _ _ h => h) (yieldsIf_load_mid (by rfl) 24 (.tmp 5) (by rfl) w.heap.size 0 (by rfl) V _ (fun _ h => h.2.1) Tryd.underlying24 rfl i24V) hHeld ?_
  simp only [List.getElem_toArray, List.getElem_cons_zero, List.getElem_cons_succ, Act.put, List.setIfInBounds_toArray, List.set_cons_zero, List.set_cons_succ]
  refine wpAnyH_take (i := 17) rfl (by kernel_rfl) (by kernel_rfl) (by kernel_rfl) (fun _ _ _ h => h) (yieldsIf_load_mid (by rfl) 24 (.tmp 5) (by rfl) w.heap.size 0 (by rfl) V _ (fun _ h => h.2.1) Tryd.underlying24 rfl i24V) hHeld ?_
  simp only [List.getElem_toArray, List.getElem_cons_zero, List.getElem_cons_succ, Act.put, List.setIfInBounds_toArray, List.set_cons_zero, List.set_cons_succ]
  refine wpAnyH_take (i := 18) rfl (by kernel_rfl) (by kernel_rfl) (by kernel_rfl) (fun _ _ _ h => h) (yieldsIf_load_mid (by rfl) 24 (.tmp 7) (by rfl) w4.heap.size 0 (by rfl) F _ (fun _ h => h.1) Tryd.underlying24 rfl i24F) hHeld ?_
  simp only [List.getElem_toArray, List.getElem_cons_zero, List.getElem_cons_succ, Act.put, List.setIfInBounds_toArray, List.set_cons_zero, List.set_cons_succ]
  refine wpAnyH_take (i := 19) (v := ?_) rfl (by kernel_rfl) (by kernel_rfl) (by kernel_rfl) (fun _ _ _ h => h) (Or.inl ⟨by rfl, ?_⟩) hHeld ?_
  rotate_left
  · intro w hSw
    simp only [List.getElem_toArray, List.getElem_cons_zero, List.getElem_cons_succ]
    go_simp
    try with_reducible rfl
  simp only [List.getElem_toArray, List.getElem_cons_zero, List.getElem_cons_succ, Act.put, List.setIfInBounds_toArray, List.set_cons_zero, List.set_cons_succ]
  refine wpAnyH_ready (rs := [16]) (by kernel_rfl) (by simp) ?_
  refine AllReadyH.cons rfl (fun K hK => ?_) AllReadyH.nil
  refine pos_in (by rfl) ?_
  simp only [List.getElem_toArray, List.getElem_cons_zero, List.getElem_cons_succ]
  go_simp
  refine (cC _ hr.to hr2.to hL.to).mono ?_
  rintro e w7 ⟨rfl, S7⟩
  refine hK.out _ _ ⟨range_under q7 (Step.of (w := W4) inferInstance).h l4, range_under q5 (Step.of (w := W4) inferInstance).h b5, Step.of inferInstance⟩ (fun hHeld => ?_)
  clear hK K
  refine wpAnyH_take (i := 20) (v := ?_) rfl (by kernel_rfl) (by kernel_rfl) (by kernel_rfl) (fun _ _ _ h => h) (Or.inl ⟨by rfl, ?_⟩) hHeld ?_
  rotate_left
  · intro w hSw
    simp only [List.getElem_toArray, List.getElem_cons_zero, List.getElem_cons_succ]
    go_simp
    try with_reducible rfl
  simp only [List.getElem_toArray, List.getElem_cons_zero, List.getElem_cons_succ, Act.put, List.setIfInBounds_toArray, List.set_cons_zero, List.set_cons_succ]
  refine wpAnyH_take (i := 21) (v := ?_) rfl (by kernel_rfl) (by kernel_rfl) (by kernel_rfl) (fun _ _ _ h => h) (Or.inl ⟨by rfl, ?_⟩) hHeld ?_
  rotate_left
  · intro w hSw
    simp only [List.getElem_toArray, List.getElem_cons_zero, List.getElem_cons_succ]
    go_simp
    try with_reducible rfl
  simp only [List.getElem_toArray, List.getElem_cons_zero, List.getElem_cons_succ, Act.put, List.setIfInBounds_toArray, List.set_cons_zero, List.set_cons_succ]
  refine wpAnyH_take (i := 22) (v := ?_) rfl (by kernel_rfl) (by kernel_rfl) (by kernel_rfl) (fun _ _ _ h => h) (Or.inl ⟨by rfl, ?_⟩) hHeld ?_
  rotate_left
  · intro w hSw
    simp only [List.getElem_toArray, List.getElem_cons_zero, List.getElem_cons_succ]
    go_simp
    try with_reducible rfl
  simp only [List.getElem_toArray, List.getElem_cons_zero, List.getElem_cons_succ, Act.put, List.setIfInBounds_toArray, List.set_cons_zero, List.set_cons_succ]
  refine wpAnyH_take (i := 23) (v := ?_) rfl (by kernel_rfl) (by kernel_rfl) (by kernel_rfl) (fun _ _ _ h => h) (Or.inl ⟨by rfl, ?_⟩) hHeld ?_
  rotate_left
  · intro w hSw
    simp only [List.getElem_toArray, List.getElem_cons_zero, List.getElem_cons_succ]
    go_simp
    try with_reducible rfl
  simp only [List.getElem_toArray, List.getElem_cons_zero, List.getElem_cons_succ, Act.put, List.setIfInBounds_toArray, List.set_cons_zero, List.set_cons_succ]
  refine wpAnyH_take (i := 24) (v := ?_) rfl (by kernel_rfl) (by kernel_rfl) (by kernel_rfl) (fun _ _ _ h => h) (Or.inl ⟨by rfl, ?_⟩) hHeld ?_
  rotate_left
  · intro w hSw
    simp only [List.getElem_toArray, List.getElem_cons_zero, List.getElem_cons_succ]
    go_simp
    try with_reducible rfl
  simp only [List.getElem_toArray, List.getElem_cons_zero, List.getElem_cons_succ, Act.put, List.setIfInBounds_toArray, List.set_cons_zero, List.set_cons_succ]
  refine wpAnyH_take (i := 25) rfl (by kernel_rfl) (by kernel_rfl) (by kernel_rfl) (fun _ _ _ h => h) (yieldsIf_load_mid (by rfl) 24 (.tmp 7) (by rfl) w4.heap.size 0 (by rfl) F _ (fun _ h => h.1) Tryd.underlying24 rfl i24F) hHeld ?_
  simp only [List.getElem_toArray, List.getElem_cons_zero, List.getElem_cons_succ, Act.put, List.setIfInBounds_toArray, List.set_cons_zero, List.set_cons_succ]
  refine wpAnyH_ready (rs := [26]) (by kernel_rfl) (by simp) ?_
  refine AllReadyH.cons rfl (fun K hK => ?_) AllReadyH.nil
  refine pos_in (by rfl) ?_
  simp only [List.getElem_toArray, List.getElem_cons_zero, List.getElem_cons_succ]
  go_simp
  refine (cD _ hr.to hr2.to hL.to).mono ?_
  rintro e w7 ⟨rfl, S7⟩
  refine hK.out _ _ ⟨range_under q7 (Step.of (w := W4) inferInstance).h l4, range_under q5 (Step.of (w := W4) inferInstance).h b5, Step.of inferInstance⟩ (fun hHeld => ?_)
  clear hK K
  refine wpAnyH_take (i := 27) (v := ?_) rfl (by kernel_rfl) (by kernel_rfl) (by kernel_rfl) (fun _ _ _ h => h) (Or.inl ⟨by rfl, ?_⟩) hHeld ?_
  rotate_left
  · intro w hSw
    simp only [List.getElem_toArray, List.getElem_cons_zero, List.getElem_cons_succ]
    go_simp
    try with_reducible rfl
  simp only [List.getElem_toArray, List.getElem_cons_zero, List.getElem_cons_succ, Act.put, List.setIfInBounds_toArray, List.set_cons_zero, List.set_cons_succ]
  refine wpAnyH_take (i := 28) (v := ?_) rfl (by kernel_rfl) (by kernel_rfl) (by kernel_rfl) (fun _ _ _ h => h) (Or.inl ⟨by rfl, ?_⟩) hHeld ?_
  rotate_left
  · intro w hSw
    simp only [List.getElem_toArray, List.getElem_cons_zero, List.getElem_cons_succ]
    go_simp
    try with_reducible rfl
  simp only [List.getElem_toArray, List.getElem_cons_zero, List.getElem_cons_succ, Act.put, List.setIfInBounds_toArray, List.set_cons_zero, List.set_cons_succ]
  refine wpAnyH_ready (rs := [29]) (by kernel_rfl) (by simp) ?_
  refine AllReadyH.cons rfl (fun K hK => ?_) AllReadyH.nil
  refine pos_in (by rfl) ?_
  simp only [List.getElem_toArray, List.getElem_cons_zero, List.getElem_cons_succ]
  go_simp
  refine (cS _ hL.to).mono ?_
  rintro e w7 ⟨rfl, S7⟩
  refine hK.out _ _ ⟨range_under q7 (Step.of (w := W4) inferInstance).h l4, range_under q5 (Step.of (w := W4) inferInstance).h b5, Step.of inferInstance⟩ (fun hHeld => ?_)
  clear hK K
  refine wpAnyH_take (i := 30) (v := ?_) rfl (by kernel_rfl) (by kernel_rfl) (by kernel_rfl) (fun _ _ _ h => h) (Or.inl ⟨by rfl, ?_⟩) hHeld ?_
  rotate_left
  · intro w hSw
    simp only [List.getElem_toArray, List.getElem_cons_zero, List.getElem_cons_succ]
    go_simp
    try with_reducible rfl
  simp only [List.getElem_toArray, List.getElem_cons_zero, List.getElem_cons_succ, Act.put, List.setIfInBounds_toArray, List.set_cons_zero, List.set_cons_succ]
  refine wpAnyH_take (i := 31) (v := ?_) rfl (by kernel_rfl) (by kernel_rfl) (by kernel_rfl) (fun _ _ _ h => h) (Or.inl ⟨by rfl, ?_⟩) hHeld ?_
  rotate_left
  · intro w hSw
    simp only [List.getElem_toArray, List.getElem_cons_zero, List.getElem_cons_succ]
    go_simp
    try with_reducible rfl
  simp only [List.getElem_toArray, List.getElem_cons_zero, List.getElem_cons_succ, Act.put, List.setIfInBounds_toArray, List.set_cons_zero, List.set_cons_succ]
  refine wpAnyH_done (by kernel_rfl) ?_ _
  go_wp2
  go_ret
  exact ⟨rfl, Step.of inferInstance⟩
set_option maxHeartbeats 3200000 in
set_option maxRecDepth 100000 in
theorem far (A : Option Addr) (n c : Nat) (A2 : Option Addr) (m c2 : Nat) (V : List Value) (w : World) (hL : LaidK w) (h : 300 < n ∨ 400 < m) :
    Calls Tryd.prog 5 #[.slice A n c, .slice A2 m c2, .agg V.toArray] w fun e w' => e = .returned (.bool true) ∧ Step w w' := by
  have cS := fun (w : World) h1 => Mc.sure_any w h1
  rcases (by omega : (¬ (n : Int) ≤ 300) ∨ ((n : Int) ≤ 300 ∧ ¬ (m : Int) ≤ 400)) with h1 | ⟨h1, h2⟩
  all_goals
    clear h
    go_enter Tryd.func5, Tryd.ntmps5
    go_wp2_with (go_at_call 15; ((with_reducible refine (cS _ hL.to).mono ?_); rintro e w7 ⟨rfl, S7⟩))
    go_ret
    exact ⟨rfl, Step.of inferInstance⟩
theorem walkN (hOf : OfC) (A : Option Addr) (n c : Nat) (k : List Nat) (A2 : Option Addr) (m c2 : Nat) (t : List Nat) (s : List Nat) (w : World) (hn : k.length = n) (hnc : n ≤ c) (hr : R8 w A k) (hb : B8 k) (hm : t.length = m) (hr2 : R8 w A2 t) (hb2 : B8 t) (ls : s.length = 32) (hL : LaidK w) :
    Calls Tryd.prog 5 #[.slice A n c, .slice A2 m c2, .agg (vl .u8 s).toArray] w fun e w' => e = .returned (.bool true) ∧ Step w w' := by
  by_cases h : 300 < n ∨ 400 < m
  · exact far A n c A2 m c2 _ w hL h
  have h1 : n ≤ 300 := by omega
  have h2 : m ≤ 400 := by omega
  refine core A n c k A2 m c2 t (vl .u8 (blk k)) (vl .u8 (Mc.hm k t)) (vl .u8 s) (decide (Mc.hm k t = s)) w hr hr2 hL (by omega) (by omega) (by rw [vl_len, hm_len]) (by rw [vl_len, ls]) (Lib.hid (vl_one .u8 _))
    (fun w h hL => block_any A c n k w hn hnc (by omega) h hb hL) (fun w h => rblock_any hOf A c n k w hn (by omega) h hb)
    (fun w h h' hL => of_mac A c n k A2 c2 m t w hn hnc (by omega) h hb hm (by omega) h' hb2 hL) (fun w h h' => rof_any hOf A c n k A2 c2 m t w hn (by omega) h hb hm (by omega) h' hb2)
    (fun w h h' hL => check_mac A c n k A2 c2 m t s w hn hnc (by omega) h hb hm (by omega) h' hb2 ls hL) (fun w h h' hL => ?_)
    (fun w => by simpa using eq64 (blk k) (blk k) (blk_len k) (blk_len k) w) (fun w => by simpa using eq32 (Mc.hm k t) (Mc.hm k t) (hm_len k t) (hm_len k t) w) (fun w => ?_)
  · have := check_mac A c n k A2 c2 m t (Mc.hm k t) w hn hnc (by omega) h hb hm (by omega) h' hb2 (hm_len k t) hL
    simpa using this
  · rw [eq32 s (Mc.hm k t) ls (hm_len k t) w]
    congr 1
    exact decide_eq_decide.2 ⟨fun e => e.symm, fun e => e.symm⟩
end LawMacSums
end Go.Proofs.YtkihhflmgceckaaDoor
