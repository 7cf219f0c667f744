/- The walk of the law SealTells: true whatever comes. Conditions: what is handed in reads as bytes; sha.k reads as laid. -/
import Derived.Test.YtkcldacdpoiecaaDoorSealE
import Derived.Test.YtkcldacdpoiecaaDoorLaidK
import Derived.Test.YtkcldacdpoiecaaDoorRef05i
import Derived.Test.YtkcldacdpoiecaaDoorOpenB
import Derived.Deep.RegionHeld3
namespace Go.Proofs.YtkcldacdpoiecaaDoor
open Go.RowKit Go.Lib
namespace LawSealTells
open SlR Sh Sp Pg Se
set_option maxHeartbeats 12800000 in
set_option maxRecDepth 1000000 in
theorem core (x y : Nat) (Q : List Value) (A : Option Addr) (n c : Nat) (ls : List (List Nat)) (E F : List Value) (d : Bool) (w : World) (lQ : Q.length = 32) (hn : ls.length = n) (hr : RowsB w A ls) (hL : LaidK w)
    (lE : E.length = 32) (oE : Hid (E.toArray.all (·.oneCell') = true)) (lF : F.length = 32) (oF : Hid (F.toArray.all (·.oneCell') = true))
    (cL : n ≤ 31 → Hid (∀ j, (ls.getD j []).length ≤ 300) → ∀ w, RowsB w A ls → LaidK w → Calls Tryd.prog 13 #[.slice A n c] w fun e w' => e = .returned (.tuple #[.agg E.toArray, .nilIface]) ∧ Step w w')
    (cT : n ≤ 31 → Hid (∀ j, (ls.getD j []).length ≤ 300) → ∀ w, RowsB w A ls → Calls Tryd.prog 14 #[.slice A n c] w fun e w' => ∃ A' L c', e = .returned (.tuple #[.slice A' L c', .bool true]) ∧ Hid (R8 w' A' (ltx ls) ∧ ∀ w2, R8 w2 A' (ltx ls) → Calls Tryd.prog 18 #[.slice A' L c'] w2 fun e w' => e = .returned (.agg E.toArray) ∧ Step w2 w') ∧ Step w w')
    (cO : ∀ w, Calls Tryd.prog 15 #[.int .u64 x, .int .u64 y] w fun e w' => e = .returned (.agg F.toArray) ∧ Step w w')
    (cP : ∀ w, LaidK w → Calls Tryd.prog 16 #[.int .u64 x, .int .u64 y] w fun e w' => e = .returned (.agg F.toArray) ∧ Step w w')
    (cN : ∀ w, LaidK w → Calls Tryd.prog 17 #[.agg Q.toArray, .int .u64 x, .int .u64 y] w fun e w' => e = .returned (.bool d) ∧ Step w w')
    (cY : ∀ w, LaidK w → Calls Tryd.prog 17 #[.agg F.toArray, .int .u64 x, .int .u64 y] w fun e w' => e = .returned (.bool true) ∧ Step w w')
    (hEE : ∀ w, (Op.equalIn 10000 22 (.agg E.toArray) (.agg E.toArray)).run Tryd.prog w = .ok true w)
    (hFF : ∀ w, (Op.equalIn 10000 22 (.agg F.toArray) (.agg F.toArray)).run Tryd.prog w = .ok true w)
    (hQF : ∀ w, (Op.equalIn 10000 22 (.agg Q.toArray) (.agg F.toArray)).run Tryd.prog w = .ok d w) :
    Calls Tryd.prog 4 #[.int .u64 x, .int .u64 y, .agg (Q ++ [Value.slice A n c]).toArray] w fun e w' => e = .returned (.bool true) ∧ Step w w' := by
  obtain ⟨Z, hZ⟩ : ∃ Z, zs.toArray = Z := ⟨_, rfl⟩
  have hz : Hid (∀ w, (zeroValue 22).run Tryd.prog w = .ok (.agg Z) w) := Lib.hid (hZ ▸ zero32)
  have hsz : Z.size = 32 := by rw [← hZ]; rfl
  clear hZ
  have cS := fun (w : World) h1 => Se.sure_any w h1
  have i24F : (Tryd.prog.info? 22).map (·.size) = some F.length := by rw [lF]; exact size32
  have i24E : (Tryd.prog.info? 22).map (·.size) = some E.length := by rw [lE]; exact size32
  have i24Q : (Tryd.prog.info? 22).map (·.size) = some Q.length := by rw [lQ]; exact size32
  obtain ⟨V, hV⟩ : ∃ V, (Q ++ [Value.slice A n c]).toArray = V := ⟨_, rfl⟩
  have V0 := range_new w V 36
  have hq : (w.alloc (.cells V 36)).rangeAt w.heap.size 0 Q := fun j v hj => V0 j v (by rw [← hV]; have := (List.getElem?_eq_some_iff.1 hj).1; rw [List.getElem?_append_left (by simpa using this)]; exact hj)
  have hk0 : (w.alloc (.cells V 36)).cell? ⟨w.heap.size, 32, none⟩ = some (.slice A n c) := by
    have := V0 32 (.slice A n c) (by rw [← hV]; simp [lQ])
    simpa using this
  clear V0
  rw [hV]
  clear hV
  have S1 : Step w (w.alloc (.cells V 36)) := Step.of inferInstance
  have bG : w.heap.size < (w.alloc (.cells V 36)).heap.size := by simp
  have hr1 : Hid (RowsB (w.alloc (.cells V 36)) A ls) := Lib.hid hr.to
  have HN := Lib.hid hn
  have HQ := Lib.hid hq
  clear hn hr hq
  go_enter Tryd.func4, Tryd.ntmps4
  go_wp2
  generalize w.alloc (Obj.cells V 36) = W1 at *
  generalize w.heap.size = G at *
  go_loop [7] (fun i => ∃ k : Nat, k ≤ n ∧ k ≤ 31 ∧ i = .int .i64 k ∧ Hid (∀ j, j < k → (ls.getD j []).length ≤ 300)) (fun i => n - (intOf i).toNat)
  case atStart => exact ⟨0, Nat.zero_le _, by omega, rfl, Lib.hid fun j hj => absurd hj (Nat.not_lt_zero _)⟩
  case round =>
    obtain ⟨k, hk, hk31, rfl, hpre⟩ := hrel
    by_cases hlt : k < n
    · by_cases h30 : k ≤ 30
      · obtain ⟨ad, A', c', rfl, hab, hc, _⟩ := hr1.out.at (j := k) (by rw [HN.out]; exact hlt)
        have hall : Hid ((ls.getD k []).length ≤ 300 → ∀ j, j < k + 1 → (ls.getD j []).length ≤ 300) := Lib.hid fun h j hj => by
          by_cases e : j = k
          · subst e; exact h
          · exact hpre.out j (by omega)
        have h30I : (k : Int) ≤ 30 := by omega
        generalize ls.getD k [] = row at hc hall
        by_cases h300 : row.length ≤ 300
        · have h300I : (row.length : Int) ≤ 300 := by omega
          have hall2 := Lib.hid (hall.out h300)
          clear cL cT cO cP cN cY hr1 HN HQ hpre hall
          go_wp2
          go_round
          case rel => exact ⟨k + 1, by omega, by omega, by go_num, hall2⟩
          case measure => simp [intOf]; omega
        · have h300I : ¬ (row.length : Int) ≤ 300 := by omega
          clear cL cT cO cP cN cY hr1 HN HQ hpre hall h300
          go_wp2_with (go_at_call 12; ((with_reducible refine (cS _ hL.to).mono ?_); rintro e w7 ⟨rfl, S7⟩))
          go_ret
          exact ⟨rfl, Step.of inferInstance⟩
      · have h30I : ¬ (k : Int) ≤ 30 := by omega
        clear cL cT cO cP cN cY hr1 HN HQ hpre h30
        go_wp2_with (go_at_call 12; ((with_reducible refine (cS _ hL.to).mono ?_); rintro e w7 ⟨rfl, S7⟩))
        go_ret
        exact ⟨rfl, Step.of inferInstance⟩
    · have hkn : k = n := by omega
      subst hkn
      have hl : Hid (∀ j, (ls.getD j []).length ≤ 300) := Lib.hid fun j => by
        by_cases e : j < k
        · exact hpre.out j e
        · rw [List.getD_eq_getElem?_getD, List.getElem?_eq_none (by rw [HN.out]; omega)]; exact Nat.zero_le _
      have cL := cL hk31 hl
      have cT := cT hk31 hl
      clear HN hpre hl hk hk31
      go_wp2_with (first
        | (go_at_call 13; ((with_reducible refine (cL _ hr1.out.to hL.to).mono ?_); rintro e w4 ⟨rfl, S4⟩; obtain ⟨W4, st4, X4, q4, l4⟩ := store_new w4 Z E hsz lE oE.out; have hk4 := ((inferInstance : Ext W1 W4).h.cell (p := ⟨G, 32, none⟩) bG).trans hk0))
        | (go_at_call 14; ((with_reducible refine (cT _ hr1.out.to).mono ?_); rintro e w5 ⟨A5, L5, c5, rfl, H5, S5⟩))
        | (go_at_call 15; ((with_reducible refine (cO _).mono ?_); rintro e w6 ⟨rfl, S6⟩; obtain ⟨W6, st6, X6, q6, l6⟩ := store_new w6 Z F hsz lF oF.out))
        | refine Lg.wpAlloc (by rfl) 22 (by rfl) Z hz.out ?_)
      have rT := H5.out.1
      have cD := H5.out.2
      have b0 : G < W6.heap.size := Nat.lt_of_lt_of_le bG (inferInstance : Ext W1 W6).size
      have q0 : W6.rangeAt G 0 Q := range_under HQ.out (inferInstance : Ext W1 W6).h bG
      have b4 : w4.heap.size < W6.heap.size := Nat.lt_of_lt_of_le l4 (inferInstance : Ext W4 W6).size
      have q4' : W6.rangeAt w4.heap.size 0 E := range_under q4 (inferInstance : Ext W4 W6).h l4
      clear st4 st6 cL cT cO hz H5 hk0 hk4 q4 HQ
      have q4 := q4'
      clear q4'
      refine wp_region_held_drew (S := fun w' => w'.rangeAt w6.heap.size 0 F ∧ w'.rangeAt G 0 Q ∧ w'.rangeAt w4.heap.size 0 E ∧ Step W6 w') (by kernel_rfl) ⟨range_under q6 (Step.of (w := W6) inferInstance).h l6, range_under q0 (Step.of (w := W6) inferInstance).h b0, range_under q4 (Step.of (w := W6) inferInstance).h b4, Step.of inferInstance⟩ (fun hHeld => ?_)
      refine wpAnyH_take (i := 0) (v := ?_) rfl (by kernel_rfl) (by kernel_rfl) (by kernel_rfl) (fun _ _ _ h => h) (Or.inl ⟨by rfl, ?_⟩) hHeld ?_
      rotate_left
      · intro w hSw
        simp only [List.getElem_toArray, List.getElem_cons_zero]
        go_simp
        try with_reducible rfl
      simp only [List.getElem_toArray, List.getElem_cons_zero, Act.put, List.setIfInBounds_toArray, List.set_cons_zero, List.set_cons_succ]
      refine wpAnyH_take (i := 1) (v := ?_) rfl (by kernel_rfl) (by kernel_rfl) (by kernel_rfl) (fun _ _ _ h => h) (Or.inl ⟨by rfl, ?_⟩) hHeld ?_
      rotate_left
      · intro w hSw
        simp only [List.getElem_toArray, List.getElem_cons_zero, List.getElem_cons_succ]
        go_simp
        try with_reducible rfl
      simp only [List.getElem_toArray, List.getElem_cons_zero, List.getElem_cons_succ, Act.put, List.setIfInBounds_toArray, List.set_cons_zero, List.set_cons_succ]
      refine wpAnyH_take (i := 3) rfl (by kernel_rfl) (by kernel_rfl) (by kernel_rfl) (fun _ _ _ h => h) (yieldsIf_load_mid (by rfl) 22 (.tmp 12) (by rfl) w6.heap.size 0 (by rfl) F _ (fun _ h => h.1) Tryd.underlying22 rfl i24F) hHeld ?_
      simp only [List.getElem_toArray, List.getElem_cons_zero, List.getElem_cons_succ, Act.put, List.setIfInBounds_toArray, List.set_cons_zero, List.set_cons_succ]
      refine wpAnyH_ready (rs := [2]) (by kernel_rfl) (by simp) ?_
      refine AllReadyH.cons rfl (fun K hK => ?_) AllReadyH.nil
      refine pos_in (by rfl) ?_
      simp only [List.getElem_toArray, List.getElem_cons_zero, List.getElem_cons_succ]
      go_simp
      refine (cP _ hL.to).mono ?_
      rintro e w7 ⟨rfl, S7⟩
      refine hK.out _ _ ⟨range_under q6 (Step.of (w := W6) inferInstance).h l6, range_under q0 (Step.of (w := W6) inferInstance).h b0, range_under q4 (Step.of (w := W6) inferInstance).h b4, Step.of inferInstance⟩ (fun hHeld => ?_)
      clear hK K
      refine wpAnyH_take (i := 4) (v := ?_) rfl (by kernel_rfl) (by kernel_rfl) (by kernel_rfl) (fun _ _ _ h => h) (Or.inl ⟨by rfl, ?_⟩) hHeld ?_
      rotate_left
      · intro w hSw
        simp only [List.getElem_toArray, List.getElem_cons_zero, List.getElem_cons_succ]
        go_simp
        try with_reducible rfl
      simp only [List.getElem_toArray, List.getElem_cons_zero, List.getElem_cons_succ, Act.put, List.setIfInBounds_toArray, List.set_cons_zero, List.set_cons_succ]
      refine wpAnyH_take (i := 5) (v := ?_) rfl (by kernel_rfl) (by kernel_rfl) (by kernel_rfl) (fun _ _ _ h => h) (Or.inl ⟨by rfl, ?_⟩) hHeld ?_
      rotate_left
      · intro w hSw
        simp only [List.getElem_toArray, List.getElem_cons_zero, List.getElem_cons_succ]
        go_simp
        try with_reducible rfl
      simp only [List.getElem_toArray, List.getElem_cons_zero, List.getElem_cons_succ, Act.put, List.setIfInBounds_toArray, List.set_cons_zero, List.set_cons_succ]
      refine wpAnyH_take (i := 6) (v := ?_) rfl (by kernel_rfl) (by kernel_rfl) (by kernel_rfl) (fun _ _ _ h => h) (Or.inl ⟨by rfl, ?_⟩) hHeld ?_
      rotate_left
      · intro w hSw
        simp only [List.getElem_toArray, List.getElem_cons_zero, List.getElem_cons_succ]
        go_simp
        try with_reducible rfl
      simp only [List.getElem_toArray, List.getElem_cons_zero, List.getElem_cons_succ, Act.put, List.setIfInBounds_toArray, List.set_cons_zero, List.set_cons_succ]
      refine wpAnyH_take (i := 7) rfl (by kernel_rfl) (by kernel_rfl) (by kernel_rfl) (fun _ _ _ h => h) (yieldsIf_load_mid (by rfl) 22 (.tmp 53) (by rfl) G 0 (by rfl) Q _ (fun _ h => h.2.1) Tryd.underlying22 rfl i24Q) hHeld ?_
      simp only [List.getElem_toArray, List.getElem_cons_zero, List.getElem_cons_succ, Act.put, List.setIfInBounds_toArray, List.set_cons_zero, List.set_cons_succ]
      refine wpAnyH_take (i := 8) (v := ?_) rfl (by kernel_rfl) (by kernel_rfl) (by kernel_rfl) (fun _ _ _ h => h) (Or.inl ⟨by rfl, ?_⟩) hHeld ?_
      rotate_left
      · intro w hSw
        simp only [List.getElem_toArray, List.getElem_cons_zero, List.getElem_cons_succ]
        go_simp
        try with_reducible rfl
      simp only [List.getElem_toArray, List.getElem_cons_zero, List.getElem_cons_succ, Act.put, List.setIfInBounds_toArray, List.set_cons_zero, List.set_cons_succ]
      refine wpAnyH_take (i := 9) (v := ?_) rfl (by kernel_rfl) (by kernel_rfl) (by kernel_rfl) (fun _ _ _ h => h) (Or.inl ⟨by rfl, ?_⟩) hHeld ?_
      rotate_left
      · intro w hSw
        simp only [List.getElem_toArray, List.getElem_cons_zero, List.getElem_cons_succ]
        go_simp
        try with_reducible rfl
      simp only [List.getElem_toArray, List.getElem_cons_zero, List.getElem_cons_succ, Act.put, List.setIfInBounds_toArray, List.set_cons_zero, List.set_cons_succ]
      refine wpAnyH_take (i := 11) (v := ?_) rfl (by kernel_rfl) (by kernel_rfl) (by kernel_rfl) (fun _ _ _ h => h) (Or.inl ⟨by rfl, ?_⟩) hHeld ?_
      rotate_left
      · intro w hSw
        simp only [List.getElem_toArray, List.getElem_cons_zero, List.getElem_cons_succ]
        go_simp
        try with_reducible rfl
      simp only [List.getElem_toArray, List.getElem_cons_zero, List.getElem_cons_succ, Act.put, List.setIfInBounds_toArray, List.set_cons_zero, List.set_cons_succ]
      refine wpAnyH_take (i := 12) rfl (by kernel_rfl) (by kernel_rfl) (by kernel_rfl) (fun _ _ _ h => h) (yieldsIf_load_mid (by rfl) 22 (.tmp 58) (by rfl) G 0 (by rfl) Q _ (fun _ h => h.2.1) Tryd.underlying22 rfl i24Q) hHeld ?_
      simp only [List.getElem_toArray, List.getElem_cons_zero, List.getElem_cons_succ, Act.put, List.setIfInBounds_toArray, List.set_cons_zero, List.set_cons_succ]
      refine wpAnyH_take (i := 13) rfl (by kernel_rfl) (by kernel_rfl) (by kernel_rfl) (fun _ _ _ h => h) (yieldsIf_load_mid (by rfl) 22 (.tmp 12) (by rfl) w6.heap.size 0 (by rfl) F _ (fun _ h => h.1) Tryd.underlying22 rfl i24F) hHeld ?_
      simp only [List.getElem_toArray, List.getElem_cons_zero, List.getElem_cons_succ, Act.put, List.setIfInBounds_toArray, List.set_cons_zero, List.set_cons_succ]
      refine wpAnyH_take (i := 14) (v := ?_) rfl (by kernel_rfl) (by kernel_rfl) (by kernel_rfl) (fun _ _ _ h => h) (Or.inl ⟨by rfl, ?_⟩) hHeld ?_
      rotate_left
      · intro w hSw
        simp only [List.getElem_toArray, List.getElem_cons_zero, List.getElem_cons_succ]
        go_simp
        try with_reducible rfl
      simp only [List.getElem_toArray, List.getElem_cons_zero, List.getElem_cons_succ, Act.put, List.setIfInBounds_toArray, List.set_cons_zero, List.set_cons_succ]
      refine wpAnyH_ready (rs := [10]) (by kernel_rfl) (by simp) ?_
      refine AllReadyH.cons rfl (fun K hK => ?_) AllReadyH.nil
      refine pos_in (by rfl) ?_
      simp only [List.getElem_toArray, List.getElem_cons_zero, List.getElem_cons_succ]
      go_simp
      refine (cN _ hL.to).mono ?_
      rintro e w7 ⟨rfl, S7⟩
      refine hK.out _ _ ⟨range_under q6 (Step.of (w := W6) inferInstance).h l6, range_under q0 (Step.of (w := W6) inferInstance).h b0, range_under q4 (Step.of (w := W6) inferInstance).h b4, Step.of inferInstance⟩ (fun hHeld => ?_)
      clear hK K
      refine wpAnyH_take (i := 15) (v := ?_) rfl (by kernel_rfl) (by kernel_rfl) (by kernel_rfl) (fun _ _ _ h => h) (Or.inl ⟨by rfl, ?_⟩) hHeld ?_
      rotate_left
      · intro w hSw
        simp only [List.getElem_toArray, List.getElem_cons_zero, List.getElem_cons_succ]
        go_simp
        try with_reducible rfl
      simp only [List.getElem_toArray, List.getElem_cons_zero, List.getElem_cons_succ, Act.put, List.setIfInBounds_toArray, List.set_cons_zero, List.set_cons_succ]
      refine wpAnyH_take (i := 16) (v := ?_) rfl (by kernel_rfl) (by kernel_rfl) (by kernel_rfl) (fun _ _ _ h => h) (Or.inl ⟨by rfl, ?_⟩) hHeld ?_
      rotate_left
      · intro w hSw
        simp only [List.getElem_toArray, List.getElem_cons_zero, List.getElem_cons_succ]
        go_simp
        try with_reducible rfl
      simp only [List.getElem_toArray, List.getElem_cons_zero, List.getElem_cons_succ, Act.put, List.setIfInBounds_toArray, List.set_cons_zero, List.set_cons_succ]
      refine wpAnyH_take (i := 17) (v := ?_) rfl (by kernel_rfl) (by kernel_rfl) (by kernel_rfl) (fun _ _ _ h => h) (Or.inl ⟨by rfl, ?_⟩) hHeld ?_
      rotate_left
      · intro w hSw
        simp only [List.getElem_toArray, List.getElem_cons_zero, List.getElem_cons_succ]
        go_simp
        try with_reducible rfl
      simp only [List.getElem_toArray, List.getElem_cons_zero, List.getElem_cons_succ, Act.put, List.setIfInBounds_toArray, List.set_cons_zero, List.set_cons_succ]
      refine wpAnyH_take (i := 18) rfl (by kernel_rfl) (by kernel_rfl) (by kernel_rfl) (fun _ _ _ h => h) (yieldsIf_load_mid (by rfl) 22 (.tmp 12) (by rfl) w6.heap.size 0 (by rfl) F _ (fun _ h => h.1) Tryd.underlying22 rfl i24F) hHeld ?_
      simp only [List.getElem_toArray, List.getElem_cons_zero, List.getElem_cons_succ, Act.put, List.setIfInBounds_toArray, List.set_cons_zero, List.set_cons_succ]
      refine wpAnyH_take (i := 19) (v := ?_) rfl (by kernel_rfl) (by kernel_rfl) (by kernel_rfl) (fun _ _ _ h => h) (Or.inl ⟨by rfl, ?_⟩) hHeld ?_
      rotate_left
      · intro w hSw
        simp only [List.getElem_toArray, List.getElem_cons_zero, List.getElem_cons_succ]
        go_simp
        try with_reducible rfl
      simp only [List.getElem_toArray, List.getElem_cons_zero, List.getElem_cons_succ, Act.put, List.setIfInBounds_toArray, List.set_cons_zero, List.set_cons_succ]
      refine wpAnyH_take (i := 20) (v := ?_) rfl (by kernel_rfl) (by kernel_rfl) (by kernel_rfl) (fun _ _ _ h => h) (Or.inl ⟨by rfl, ?_⟩) hHeld ?_
      rotate_left
      · intro w hSw
        simp only [List.getElem_toArray, List.getElem_cons_zero, List.getElem_cons_succ]
        go_simp
        try with_reducible rfl
      simp only [List.getElem_toArray, List.getElem_cons_zero, List.getElem_cons_succ, Act.put, List.setIfInBounds_toArray, List.set_cons_zero, List.set_cons_succ]
      refine wpAnyH_ready (rs := [21]) (by kernel_rfl) (by simp) ?_
      refine AllReadyH.cons rfl (fun K hK => ?_) AllReadyH.nil
      refine pos_in (by rfl) ?_
      simp only [List.getElem_toArray, List.getElem_cons_zero, List.getElem_cons_succ]
      go_simp
      refine (cY _ hL.to).mono ?_
      rintro e w7 ⟨rfl, S7⟩
      refine hK.out _ _ ⟨range_under q6 (Step.of (w := W6) inferInstance).h l6, range_under q0 (Step.of (w := W6) inferInstance).h b0, range_under q4 (Step.of (w := W6) inferInstance).h b4, Step.of inferInstance⟩ (fun hHeld => ?_)
      clear hK K
      refine wpAnyH_take (i := 22) (v := ?_) rfl (by kernel_rfl) (by kernel_rfl) (by kernel_rfl) (fun _ _ _ h => h) (Or.inl ⟨by rfl, ?_⟩) hHeld ?_
      rotate_left
      · intro w hSw
        simp only [List.getElem_toArray, List.getElem_cons_zero, List.getElem_cons_succ]
        go_simp
        try with_reducible rfl
      simp only [List.getElem_toArray, List.getElem_cons_zero, List.getElem_cons_succ, Act.put, List.setIfInBounds_toArray, List.set_cons_zero, List.set_cons_succ]
      refine wpAnyH_take (i := 23) (v := ?_) rfl (by kernel_rfl) (by kernel_rfl) (by kernel_rfl) (fun _ _ _ h => h) (Or.inl ⟨by rfl, ?_⟩) hHeld ?_
      rotate_left
      · intro w hSw
        simp only [List.getElem_toArray, List.getElem_cons_zero, List.getElem_cons_succ]
        go_simp
        try with_reducible rfl
      simp only [List.getElem_toArray, List.getElem_cons_zero, List.getElem_cons_succ, Act.put, List.setIfInBounds_toArray, List.set_cons_zero, List.set_cons_succ]
      refine wpAnyH_take (i := 24) (v := ?_) rfl (by kernel_rfl) (by kernel_rfl) (by kernel_rfl) (fun _ _ _ h => h) (Or.inl ⟨by rfl, ?_⟩) hHeld ?_
      rotate_left
      · intro w hSw
        simp only [List.getElem_toArray, List.getElem_cons_zero, List.getElem_cons_succ]
        go_simp
        try with_reducible rfl
      simp only [List.getElem_toArray, List.getElem_cons_zero, List.getElem_cons_succ, Act.put, List.setIfInBounds_toArray, List.set_cons_zero, List.set_cons_succ]
      refine wpAnyH_take (i := 25) (v := ?_) rfl (by kernel_rfl) (by kernel_rfl) (by kernel_rfl) (fun _ _ _ h => h) (Or.inl ⟨by rfl, ?_⟩) hHeld ?_
      rotate_left
      · intro w hSw
        simp only [List.getElem_toArray, List.getElem_cons_zero, List.getElem_cons_succ]
        go_simp
        try with_reducible rfl
      simp only [List.getElem_toArray, List.getElem_cons_zero, List.getElem_cons_succ, Act.put, List.setIfInBounds_toArray, List.set_cons_zero, List.set_cons_succ]
      refine wpAnyH_take (i := 26) (v := ?_) rfl (by kernel_rfl) (by kernel_rfl) (by kernel_rfl) (fun _ _ _ h => h) (Or.inl ⟨by rfl, ?_⟩) hHeld ?_
      rotate_left
      · intro w hSw
        simp only [List.getElem_toArray, List.getElem_cons_zero, List.getElem_cons_succ]
        go_simp
        try with_reducible rfl
      simp only [List.getElem_toArray, List.getElem_cons_zero, List.getElem_cons_succ, Act.put, List.setIfInBounds_toArray, List.set_cons_zero, List.set_cons_succ]
      refine wpAnyH_take (i := 27) (v := ?_) rfl (by kernel_rfl) (by kernel_rfl) (by kernel_rfl) (fun _ _ _ h => h) (Or.inl ⟨by rfl, ?_⟩) hHeld ?_
      rotate_left
      · intro w hSw
        simp only [List.getElem_toArray, List.getElem_cons_zero, List.getElem_cons_succ]
        go_simp
        try with_reducible rfl
      simp only [List.getElem_toArray, List.getElem_cons_zero, List.getElem_cons_succ, Act.put, List.setIfInBounds_toArray, List.set_cons_zero, List.set_cons_succ]
      refine wpAnyH_take (i := 28) (v := ?_) rfl (by kernel_rfl) (by kernel_rfl) (by kernel_rfl) (fun _ _ _ h => h) (Or.inl ⟨by rfl, ?_⟩) hHeld ?_
      rotate_left
      · intro w hSw
        simp only [List.getElem_toArray, List.getElem_cons_zero, List.getElem_cons_succ]
        go_simp
        try with_reducible rfl
      simp only [List.getElem_toArray, List.getElem_cons_zero, List.getElem_cons_succ, Act.put, List.setIfInBounds_toArray, List.set_cons_zero, List.set_cons_succ]
      refine wpAnyH_take (i := 29) (v := ?_) rfl (by kernel_rfl) (by kernel_rfl) (by kernel_rfl) (fun _ _ _ h => h) (Or.inl ⟨by rfl, ?_⟩) hHeld ?_
      rotate_left
      · intro w hSw
        simp only [List.getElem_toArray, List.getElem_cons_zero, List.getElem_cons_succ]
        go_simp
        try with_reducible rfl
      simp only [List.getElem_toArray, List.getElem_cons_zero, List.getElem_cons_succ, Act.put, List.setIfInBounds_toArray, List.set_cons_zero, List.set_cons_succ]
      refine wpAnyH_take (i := 30) (v := ?_) rfl (by kernel_rfl) (by kernel_rfl) (by kernel_rfl) (fun _ _ _ h => h) (Or.inl ⟨by rfl, ?_⟩) hHeld ?_
      rotate_left
      · intro w hSw
        simp only [List.getElem_toArray, List.getElem_cons_zero, List.getElem_cons_succ]
        go_simp
        try with_reducible rfl
      simp only [List.getElem_toArray, List.getElem_cons_zero, List.getElem_cons_succ, Act.put, List.setIfInBounds_toArray, List.set_cons_zero, List.set_cons_succ]
      refine wpAnyH_take (i := 31) rfl (by kernel_rfl) (by kernel_rfl) (by kernel_rfl) (fun _ _ _ h => h) (yieldsIf_load_mid (by rfl) 22 (.tmp 8) (by rfl) w4.heap.size 0 (by rfl) E _ (fun _ h => h.2.2.1) Tryd.underlying22 rfl i24E) hHeld ?_
      simp only [List.getElem_toArray, List.getElem_cons_zero, List.getElem_cons_succ, Act.put, List.setIfInBounds_toArray, List.set_cons_zero, List.set_cons_succ]
      refine wpAnyH_take (i := 32) (v := ?_) rfl (by kernel_rfl) (by kernel_rfl) (by kernel_rfl) (fun _ _ _ h => h) (Or.inl ⟨by rfl, ?_⟩) hHeld ?_
      rotate_left
      · intro w hSw
        simp only [List.getElem_toArray, List.getElem_cons_zero, List.getElem_cons_succ]
        go_simp
        try with_reducible rfl
      simp only [List.getElem_toArray, List.getElem_cons_zero, List.getElem_cons_succ, Act.put, List.setIfInBounds_toArray, List.set_cons_zero, List.set_cons_succ]
      refine wpAnyH_ready (rs := [33]) (by kernel_rfl) (by simp) ?_
      refine AllReadyH.cons rfl (fun K hK => ?_) AllReadyH.nil
      refine pos_in (by rfl) ?_
      simp only [List.getElem_toArray, List.getElem_cons_zero, List.getElem_cons_succ]
      go_simp
      refine (cD _ rT.to).mono ?_
      rintro e w7 ⟨rfl, S7⟩
      refine hK.out _ _ ⟨range_under q6 (Step.of (w := W6) inferInstance).h l6, range_under q0 (Step.of (w := W6) inferInstance).h b0, range_under q4 (Step.of (w := W6) inferInstance).h b4, Step.of inferInstance⟩ (fun hHeld => ?_)
      clear hK K
      refine wpAnyH_take (i := 34) (v := ?_) rfl (by kernel_rfl) (by kernel_rfl) (by kernel_rfl) (fun _ _ _ h => h) (Or.inl ⟨by rfl, ?_⟩) hHeld ?_
      rotate_left
      · intro w hSw
        simp only [List.getElem_toArray, List.getElem_cons_zero, List.getElem_cons_succ]
        go_simp
        try with_reducible rfl
      simp only [List.getElem_toArray, List.getElem_cons_zero, List.getElem_cons_succ, Act.put, List.setIfInBounds_toArray, List.set_cons_zero, List.set_cons_succ]
      refine wpAnyH_take (i := 35) (v := ?_) rfl (by kernel_rfl) (by kernel_rfl) (by kernel_rfl) (fun _ _ _ h => h) (Or.inl ⟨by rfl, ?_⟩) hHeld ?_
      rotate_left
      · intro w hSw
        simp only [List.getElem_toArray, List.getElem_cons_zero, List.getElem_cons_succ]
        go_simp
        try with_reducible rfl
      simp only [List.getElem_toArray, List.getElem_cons_zero, List.getElem_cons_succ, Act.put, List.setIfInBounds_toArray, List.set_cons_zero, List.set_cons_succ]
      refine wpAnyH_take (i := 36) (v := ?_) rfl (by kernel_rfl) (by kernel_rfl) (by kernel_rfl) (fun _ _ _ h => h) (Or.inl ⟨by rfl, ?_⟩) hHeld ?_
      rotate_left
      · intro w hSw
        simp only [List.getElem_toArray, List.getElem_cons_zero, List.getElem_cons_succ]
        go_simp
        try with_reducible rfl
      simp only [List.getElem_toArray, List.getElem_cons_zero, List.getElem_cons_succ, Act.put, List.setIfInBounds_toArray, List.set_cons_zero, List.set_cons_succ]
      refine wpAnyH_ready (rs := [37]) (by kernel_rfl) (by simp) ?_
      refine AllReadyH.cons rfl (fun K hK => ?_) AllReadyH.nil
      refine pos_in (by rfl) ?_
      simp only [List.getElem_toArray, List.getElem_cons_zero, List.getElem_cons_succ]
      go_simp
      refine (cS _ hL.to).mono ?_
      rintro e w7 ⟨rfl, S7⟩
      refine hK.out _ _ ⟨range_under q6 (Step.of (w := W6) inferInstance).h l6, range_under q0 (Step.of (w := W6) inferInstance).h b0, range_under q4 (Step.of (w := W6) inferInstance).h b4, Step.of inferInstance⟩ (fun hHeld => ?_)
      clear hK K
      refine wpAnyH_take (i := 38) (v := ?_) rfl (by kernel_rfl) (by kernel_rfl) (by kernel_rfl) (fun _ _ _ h => h) (Or.inl ⟨by rfl, ?_⟩) hHeld ?_
      rotate_left
      · intro w hSw
        simp only [List.getElem_toArray, List.getElem_cons_zero, List.getElem_cons_succ]
        go_simp
        try with_reducible rfl
      simp only [List.getElem_toArray, List.getElem_cons_zero, List.getElem_cons_succ, Act.put, List.setIfInBounds_toArray, List.set_cons_zero, List.set_cons_succ]
      refine wpAnyH_take (i := 39) (v := ?_) rfl (by kernel_rfl) (by kernel_rfl) (by kernel_rfl) (fun _ _ _ h => h) (Or.inl ⟨by rfl, ?_⟩) hHeld ?_
      rotate_left
      · intro w hSw
        simp only [List.getElem_toArray, List.getElem_cons_zero, List.getElem_cons_succ]
        go_simp
        try with_reducible rfl
      simp only [List.getElem_toArray, List.getElem_cons_zero, List.getElem_cons_succ, Act.put, List.setIfInBounds_toArray, List.set_cons_zero, List.set_cons_succ]
      refine wpAnyH_done (by kernel_rfl) ?_ _
      go_wp2
      go_ret
      exact ⟨rfl, Step.of inferInstance⟩
/-- Integers that are no less than 0, as naturals. -/
theorem nl_of (s : List Int) (h : ∀ z ∈ s, 0 ≤ z ∧ z < 256) : NL (s.map Int.toNat) = s := by
  unfold NL
  rw [List.map_map]
  conv => rhs; rw [← List.map_id s]
  refine List.map_congr_left fun z hz => ?_
  have := (h z hz).1
  simp only [Function.comp, id]
  omega
theorem b8_of (s : List Int) (h : ∀ z ∈ s, 0 ≤ z ∧ z < 256) : B8 (s.map Int.toNat) := b8_mem fun v hv => by
  obtain ⟨z, hz, rfl⟩ := List.mem_map.1 hv
  have := h z hz
  omega
theorem rows_of {W : World} {A : Option Addr} {ls : List (List Int)} (hr : Opn.RowsOf .u8 W A ls) (h : ∀ row ∈ ls, ∀ z ∈ row, 0 ≤ z ∧ z < 256) : RowsB W A (ls.map fun r => r.map Int.toNat) := fun j row hj => by
  rw [List.getElem?_map] at hj
  obtain ⟨r, hr1, rfl⟩ := Option.map_eq_some_iff.1 hj
  obtain ⟨ad, A', c', h1, h2, h3, h4⟩ := hr j r hr1
  refine ⟨ad, A', c', h1, h2, by rw [List.length_map]; exact h3, ?_⟩
  unfold R8
  rw [nl_of r (h r (List.mem_of_getElem? hr1))]
  exact h4
theorem rows_b8 {ls : List (List Int)} (h : ∀ row ∈ ls, ∀ z ∈ row, 0 ≤ z ∧ z < 256) : ∀ row ∈ ls.map (fun r => r.map Int.toNat), B8 row := fun row hrow => by
  obtain ⟨r, hr, rfl⟩ := List.mem_map.1 hrow
  exact b8_of r (h r hr)
theorem vl_of (s : List Int) (h : ∀ z ∈ s, 0 ≤ z ∧ z < 256) : vl .u8 (s.map Int.toNat) = s.map (Value.int .u8) := by
  have := nl_of s h
  rw [← NL_vl, this]
theorem ofC : OfC := fun A c n b w hn hn2 hr hb => Sh.of_any A c n b w hn hn2 hr (Lib.hid hb)
theorem walk (x y : Int) (s : List Int) (A : Option Addr) (n c : Nat) (ls : List (List Int)) (W : World) (bx : 0 ≤ x ∧ x ≤ 18446744073709551615) (hy : 0 ≤ y ∧ y ≤ 18446744073709551615) (hs : s.length = 32) (bs : ∀ z ∈ s, 0 ≤ z ∧ z < 256)
    (hl : ls.length = n) (hr : Opn.RowsOf .u8 W A ls) (bd : ∀ row ∈ ls, ∀ z ∈ row, 0 ≤ z ∧ z < 256) (hL : LaidK W) :
    Calls Tryd.prog 4 #[.int .u64 x, .int .u64 y, .agg (s.map (Value.int .u8) ++ [Value.slice A n c]).toArray] W fun e w' => e = .returned (.bool true) ∧ Step W w' := by
  obtain ⟨p, rfl⟩ : ∃ p : Nat, x = p := ⟨x.toNat, by omega⟩
  obtain ⟨q, rfl⟩ : ∃ q : Nat, y = q := ⟨y.toNat, by omega⟩
  have hp : Hid (p < 18446744073709551616) := Lib.hid (by omega)
  have hq : Hid (q < 18446744073709551616) := Lib.hid (by omega)
  have lS : (s.map Int.toNat).length = 32 := by rw [List.length_map, hs]
  have b8 := Lib.hid (rows_b8 bd)
  have hr2 := rows_of hr bd
  have hn2 : (ls.map fun r => r.map Int.toNat).length = n := by rw [List.length_map, hl]
  rw [← vl_of s bs]
  generalize s.map Int.toNat = s2 at lS
  generalize ls.map (fun r => r.map Int.toNat) = l2 at b8 hr2 hn2
  refine core p q (vl .u8 s2) A n c l2 (vl .u8 (ltS l2)) (vl .u8 (sdS p q)) (decide (s2 = sdS p q)) W (by rw [vl_len, lS]) hn2 hr2 hL (by rw [vl_len, ltS_len]) (Lib.hid (vl_one .u8 _)) (by rw [vl_len, sdS_len]) (Lib.hid (vl_one .u8 _))
    (fun h31 h300 w h hL => list_any A n c l2 w hn2 h31 h300 b8 h hL)
    (fun h31 h300 w h => (rlist_any A n c l2 w hn2 h31 h300 h).mono ?_)
    (fun w => rof_any ofC p q w hp hq) (fun w h => of_any p q w hp hq h)
    (fun w h => opens_any s2 p q w lS hp hq h) (fun w h => ?_)
    (fun w => by simpa using eq32 (ltS l2) (ltS l2) (ltS_len l2) (ltS_len l2) w) (fun w => by simpa using eq32 (sdS p q) (sdS p q) (sdS_len p q) (sdS_len p q) w) (fun w => eq32 s2 (sdS p q) lS (sdS_len p q) w)
  · rintro e w' ⟨A', L, c', h1, h2, h3, h4⟩
    refine ⟨A', L, c', h1, Lib.hid ⟨Row.of_own h3, fun w2 h5 => ?_⟩, h4⟩
    exact ofC A' c' L (ltx l2) w2 (Ow.len h3) (by omega) h5 (lt_b8 l2 b8.out _)
  · have := opens_any (sdS p q) p q w (sdS_len p q) hp hq h
    rw [decide_eq_true rfl] at this
    exact this
end LawSealTells
end Go.Proofs.YtkcldacdpoiecaaDoor
