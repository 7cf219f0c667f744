/- The walk of the law SealApart: true whatever comes. Conditions: what is handed in reads as bytes; sha.k reads as laid. -/
import Derived.Test.YtkcldacdpoiecaaDoorLawSealTells
import Derived.Test.YtkcldacdpoiecaaDoorConvS
import Derived.Deep.RegionHeld3
import Derived.Deep.DeepCutAuto
import Derived.Deep.CutBlock
namespace Go.Proofs.YtkcldacdpoiecaaDoor
open Go.RowKit Go.Lib
namespace LawSealApart
open SlR Sh Sp Pg Se Cv
/-- What is known of a list behind the first loops. -/
def Good (k n m : Nat) (ls ks : List (List Nat)) : Prop :=
  match k with
  | 0 => True
  | 1 => n ≤ 31 ∧ ∀ i, (ls.getD i []).length ≤ 300
  | _ => n ≤ 31 ∧ (∀ i, (ls.getD i []).length ≤ 300) ∧ m ≤ 31 ∧ ∀ i, (ks.getD i []).length ≤ 300
theorem lists_eq (ls ks : List (List Nat)) (n m : Nat) (hn : ls.length = n) (hm : ks.length = m) : (n = m ∧ ∀ i, i < n → ls.getD i [] = ks.getD i []) ↔ ls = ks := by
  constructor
  · rintro ⟨h1, h2⟩
    refine List.ext_getElem (by omega) fun i h3 h4 => ?_
    have := h2 i (by omega)
    rwa [List.getD_eq_getElem?_getD, List.getD_eq_getElem?_getD, List.getElem?_eq_getElem h3, List.getElem?_eq_getElem h4] at this
  · rintro rfl
    exact ⟨by omega, fun _ _ => rfl⟩
theorem rows4 (w : World) (H : Nat) (t : TypeId) (A0 A1 A2 A3 : Option Addr) (L0 L1 L2 L3 c0 c1 c2 c3 : Nat) (T0 T1 T2 T3 : List Nat) (hH : w.heap.size = H) (l0 : T0.length = L0) (l1 : T1.length = L1) (l2 : T2.length = L2) (l3 : T3.length = L3)
    (r0 : R8 w A0 T0) (r1 : R8 w A1 T1) (r2 : R8 w A2 T2) (r3 : R8 w A3 T3) :
    RowsB (w.alloc (.cells #[.slice A0 L0 c0, .slice A1 L1 c1, .slice A2 L2 c2, .slice A3 L3 c3] t (0, 0))) (some ⟨H, 0, none⟩) [T0, T1, T2, T3] := by
  subst hH
  subst l0
  subst l1
  subst l2
  subst l3
  intro j row hj
  match j, hj with
  | 0, hj => cases hj; exact ⟨_, A0, c0, rfl, by simp, by rw [Addr.add_mid, World.cell?_alloc_new]; rfl, r0.to⟩
  | 1, hj => cases hj; exact ⟨_, A1, c1, rfl, by simp, by rw [Addr.add_mid, World.cell?_alloc_new]; rfl, r1.to⟩
  | 2, hj => cases hj; exact ⟨_, A2, c2, rfl, by simp, by rw [Addr.add_mid, World.cell?_alloc_new]; rfl, r2.to⟩
  | 3, hj => cases hj; exact ⟨_, A3, c3, rfl, by simp, by rw [Addr.add_mid, World.cell?_alloc_new]; rfl, r3.to⟩
  | j + 4, hj => simp at hj
set_option maxHeartbeats 25600000 in
set_option maxRecDepth 1000000 in
theorem core (p q r s : Nat) (A : Option Addr) (n c : Nat) (ls : List (List Nat)) (B : Option Addr) (m d : Nat) (ks : List (List Nat)) (E0 E1 F0 F1 : List Value) (eE eF ab : Bool) (w : World)
    (hn : ls.length = n) (hr : RowsB w A ls) (hm : ks.length = m) (gr : RowsB w B ks) (hL : LaidK w) (b8r : Hid (∀ j, B8 (ls.getD j []))) (b8k : Hid (∀ j, B8 (ks.getD j [])))
    (lE0 : E0.length = 32) (oE0 : Hid (E0.toArray.all (·.oneCell') = true)) (lE1 : E1.length = 32) (oE1 : Hid (E1.toArray.all (·.oneCell') = true))
    (lF0 : F0.length = 32) (oF0 : Hid (F0.toArray.all (·.oneCell') = true)) (lF1 : F1.length = 32) (oF1 : Hid (F1.toArray.all (·.oneCell') = true))
    (cL0 : Good 1 n m ls ks → ∀ w, RowsB w A ls → LaidK w → Calls Tryd.prog 13 #[.slice A n c] w fun e w' => e = .returned (.tuple #[.agg E0.toArray, .nilIface]) ∧ Step w w')
    (cL1 : Good 2 n m ls ks → ∀ w, RowsB w B ks → LaidK w → Calls Tryd.prog 13 #[.slice B m d] w fun e w' => e = .returned (.tuple #[.agg E1.toArray, .nilIface]) ∧ Step w w')
    (cA : ∀ w, LaidK w → Calls Tryd.prog 16 #[.int .u64 p, .int .u64 q] w fun e w' => e = .returned (.agg F0.toArray) ∧ Step w w')
    (cB : ∀ w, LaidK w → Calls Tryd.prog 16 #[.int .u64 r, .int .u64 s] w fun e w' => e = .returned (.agg F1.toArray) ∧ Step w w')
    (T0 T1 T2 T3 : List Nat) (L0 L1 : Nat) (lT0 : T0.length = L0) (lT1 : T1.length = L1) (lT2 : T2.length = 17) (lT3 : T3.length = 17)
    (cT0 : Good 1 n m ls ks → ∀ w, RowsB w A ls → Calls Tryd.prog 14 #[.slice A n c] w fun e w' => ∃ A' c', e = .returned (.tuple #[.slice A' L0 c', .bool true]) ∧ R8 w' A' T0 ∧ Step w w')
    (cT1 : Good 2 n m ls ks → ∀ w, RowsB w B ks → Calls Tryd.prog 14 #[.slice B m d] w fun e w' => ∃ A' c', e = .returned (.tuple #[.slice A' L1 c', .bool true]) ∧ R8 w' A' T1 ∧ Step w w')
    (cX0 : ∀ w, Calls Tryd.prog 19 #[.int .u64 p, .int .u64 q] w fun e w' => ∃ A' c', e = .returned (.slice A' 17 c') ∧ R8 w' A' T2 ∧ Step w w')
    (cX1 : ∀ w, Calls Tryd.prog 19 #[.int .u64 r, .int .u64 s] w fun e w' => ∃ A' c', e = .returned (.slice A' 17 c') ∧ R8 w' A' T3 ∧ Step w w')
    (U : Nat → List Value) (eU : Nat → Nat → Bool)
    (cD : Good 2 n m ls ks → ∀ i, i < 4 → ∀ w A' c', R8 w A' ([T0, T1, T2, T3].getD i []) → Calls Tryd.prog 18 #[.slice A' ([T0, T1, T2, T3].getD i []).length c'] w fun e w' => e = .returned (.agg (U i).toArray) ∧ Step w w')
    (hUU : ∀ i k w, (Op.equalIn 10000 22 (.agg (U i).toArray) (.agg (U k).toArray)).run Tryd.prog w = .ok (eU i k) w)
    (b8t : Hid (∀ i, B8 ([T0, T1, T2, T3].getD i [])))
    (hfin : Good 2 n m ls ks → (∀ i k, k < i → i < 4 → [T0, T1, T2, T3].getD i [] = [T0, T1, T2, T3].getD k [] ∨ eU i k = false) → (eE = true ↔ ls = ks) ∧ eF = ab)
    (heF : ab = true → eF = true)
    (hAB : ∀ w, (Op.equalIn 10000 45 (.agg #[.int .u64 p, .int .u64 q]) (.agg #[.int .u64 r, .int .u64 s])).run Tryd.prog w = .ok ab w)
    (hEE : ∀ w, (Op.equalIn 10000 22 (.agg E0.toArray) (.agg E1.toArray)).run Tryd.prog w = .ok eE w)
    (hFF : ∀ w, (Op.equalIn 10000 22 (.agg F0.toArray) (.agg F1.toArray)).run Tryd.prog w = .ok eF w) :
    Calls Tryd.prog 5 #[.agg #[.int .u64 p, .int .u64 q], .agg #[.int .u64 r, .int .u64 s], .agg #[.slice A n c, .slice B m d]] w fun e w' => e = .returned (.bool true) ∧ Step w w' := by
  obtain ⟨Z, hZ⟩ : ∃ Z, zs.toArray = Z := ⟨_, rfl⟩
  have hz : Hid (∀ w, (zeroValue 22).run Tryd.prog w = .ok (.agg Z) w) := Lib.hid (hZ ▸ zero32)
  have hsz : Z.size = 32 := by rw [← hZ]; rfl
  clear hZ
  have cS := fun (w : World) h1 => Se.sure_any w h1
  have i24E0 : (Tryd.prog.info? 22).map (·.size) = some E0.length := by rw [lE0]; exact size32
  have i24E1 : (Tryd.prog.info? 22).map (·.size) = some E1.length := by rw [lE1]; exact size32
  have i24F0 : (Tryd.prog.info? 22).map (·.size) = some F0.length := by rw [lF0]; exact size32
  have i24F1 : (Tryd.prog.info? 22).map (·.size) = some F1.length := by rw [lF1]; exact size32
  obtain ⟨W1, hW1⟩ : ∃ W1, ((w.alloc (.cells #[.int .u64 p, .int .u64 q] 45)).alloc (.cells #[.int .u64 r, .int .u64 s] 45)).alloc (.cells #[.slice A n c, .slice B m d] 46) = W1 := ⟨_, rfl⟩
  have S1 : Step w W1 := by rw [← hW1]; exact Step.of inferInstance
  have ha0 : W1.cell? ⟨w.heap.size, 0, none⟩ = some (.int .u64 p) := by rw [← hW1, World.cell?_alloc_lt _ _ _ (by simp; try omega), World.cell?_alloc_lt _ _ _ (by simp; try omega)]; simp
  have ha1 : W1.cell? ⟨w.heap.size, 1, none⟩ = some (.int .u64 q) := by rw [← hW1, World.cell?_alloc_lt _ _ _ (by simp; try omega), World.cell?_alloc_lt _ _ _ (by simp; try omega)]; simp
  have hb0 : W1.cell? ⟨w.heap.size + 1, 0, none⟩ = some (.int .u64 r) := by rw [← hW1, World.cell?_alloc_lt _ _ _ (by simp; try omega)]; simp
  have hb1 : W1.cell? ⟨w.heap.size + 1, 1, none⟩ = some (.int .u64 s) := by rw [← hW1, World.cell?_alloc_lt _ _ _ (by simp; try omega)]; simp
  have hl0 : W1.cell? ⟨w.heap.size + 1 + 1, 0, none⟩ = some (.slice A n c) := by rw [← hW1, show w.heap.size + 1 + 1 = ((w.alloc (.cells #[.int .u64 p, .int .u64 q] 45)).alloc (.cells #[.int .u64 r, .int .u64 s] 45)).heap.size by simp, World.cell?_alloc_new]; rfl
  have hl1 : W1.cell? ⟨w.heap.size + 1 + 1, 1, none⟩ = some (.slice B m d) := by rw [← hW1, show w.heap.size + 1 + 1 = ((w.alloc (.cells #[.int .u64 p, .int .u64 q] 45)).alloc (.cells #[.int .u64 r, .int .u64 s] 45)).heap.size by simp, World.cell?_alloc_new]; rfl
  have bl : w.heap.size + 1 + 1 < W1.heap.size := by rw [← hW1]; simp
  have hr1 : Hid (RowsB W1 A ls) := Lib.hid hr.to
  have gr1 : Hid (RowsB W1 B ks) := Lib.hid gr.to
  have HN := Lib.hid hn
  have HM := Lib.hid hm
  have HW1 := Lib.hid hW1
  clear hn hr hm gr hW1
  go_enter Tryd.func5, Tryd.ntmps5
  go_wp2
  rw [HW1.out]
  clear HW1
  go_loop [7] (fun i => ∃ k : Nat, k ≤ 2 ∧ i = .int .i64 k ∧ Hid (Good k n m ls ks)) (fun i => 2 - (intOf i).toNat)
  case atStart => exact ⟨0, Nat.zero_le _, rfl, Lib.hid trivial⟩
  case round =>
    obtain ⟨k, hk, hi0, hgood⟩ := hrel
    rcases (by omega : k = 0 ∨ k = 1 ∨ k = 2) with rfl | rfl | rfl
    · as_aux_lemma =>
      obtain rfl : _ = Value.int .i64 0 := hi0
      have hcell := hl0
      go_wp2
      go_loop [8] (fun i => ∃ j : Nat, j ≤ n ∧ j ≤ 31 ∧ i = .int .i64 j ∧ Hid (∀ i, i < j → (ls.getD i []).length ≤ 300)) (fun i => n - (intOf i).toNat)
      case atStart => exact ⟨0, Nat.zero_le _, by omega, rfl, Lib.hid fun j hj => absurd hj (Nat.not_lt_zero _)⟩
      case round =>
        obtain ⟨j, hj, hj31, rfl, hpre⟩ := hrel
        by_cases hlt : j < n
        · by_cases h30 : j ≤ 30
          · obtain ⟨ad, A', c', rfl, hab, hc, _⟩ := hr1.out.at (j := j) (by rw [HN.out]; exact hlt)
            have hall : Hid ((ls.getD j []).length ≤ 300 → ∀ i, i < j + 1 → (ls.getD i []).length ≤ 300) := Lib.hid fun h i hi => by
              by_cases e : i = j
              · subst e; exact h
              · exact hpre.out i (by omega)
            have h30I : (j : Int) ≤ 30 := by omega
            generalize ls.getD j [] = row at hc hall
            by_cases h300 : row.length ≤ 300
            · have h300I : (row.length : Int) ≤ 300 := by omega
              have hall2 := Lib.hid (hall.out h300)
              clear hpre hall
              go_wp2
              go_round
              case rel => exact ⟨j + 1, by omega, by omega, by go_num, hall2⟩
              case measure => simp [intOf]; omega
            · have h300I : ¬ (row.length : Int) ≤ 300 := by omega
              clear hpre hall h300
              go_wp2_with (go_at_call 12; ((with_reducible refine (cS _ hL.to).mono ?_); rintro e w7 ⟨rfl, S7⟩))
              go_ret
              exact ⟨rfl, Step.of inferInstance⟩
          · have h30I : ¬ (j : Int) ≤ 30 := by omega
            clear hpre h30
            go_wp2_with (go_at_call 12; ((with_reducible refine (cS _ hL.to).mono ?_); rintro e w7 ⟨rfl, S7⟩))
            go_ret
            exact ⟨rfl, Step.of inferInstance⟩
        · have hjn : j = n := by omega
          subst hjn
          have hl : Hid (∀ i, (ls.getD i []).length ≤ 300) := Lib.hid fun i => by
            by_cases e : i < j
            · exact hpre.out i e
            · rw [List.getD_eq_getElem?_getD, List.getElem?_eq_none (by rw [HN.out]; omega)]; exact Nat.zero_le _
          clear hpre
          go_wp2
          go_round
          case rel => exact ⟨1, by omega, by go_num, Lib.hid ⟨hj31, hl⟩⟩
          case measure => simp [intOf]
    · as_aux_lemma =>
      obtain rfl : _ = Value.int .i64 1 := hi0
      have hcell := hl1
      go_wp2
      go_loop [8] (fun i => ∃ j : Nat, j ≤ m ∧ j ≤ 31 ∧ i = .int .i64 j ∧ Hid (∀ i, i < j → (ks.getD i []).length ≤ 300)) (fun i => m - (intOf i).toNat)
      case atStart => exact ⟨0, Nat.zero_le _, by omega, rfl, Lib.hid fun j hj => absurd hj (Nat.not_lt_zero _)⟩
      case round =>
        obtain ⟨j, hj, hj31, rfl, hpre⟩ := hrel
        by_cases hlt : j < m
        · by_cases h30 : j ≤ 30
          · obtain ⟨ad, A', c', rfl, hab, hc, _⟩ := gr1.out.at (j := j) (by rw [HM.out]; exact hlt)
            have hall : Hid ((ks.getD j []).length ≤ 300 → ∀ i, i < j + 1 → (ks.getD i []).length ≤ 300) := Lib.hid fun h i hi => by
              by_cases e : i = j
              · subst e; exact h
              · exact hpre.out i (by omega)
            have h30I : (j : Int) ≤ 30 := by omega
            generalize ks.getD j [] = row at hc hall
            by_cases h300 : row.length ≤ 300
            · have h300I : (row.length : Int) ≤ 300 := by omega
              have hall2 := Lib.hid (hall.out h300)
              clear hpre hall
              go_wp2
              go_round
              case rel => exact ⟨j + 1, by omega, by omega, by go_num, hall2⟩
              case measure => simp [intOf]; omega
            · have h300I : ¬ (row.length : Int) ≤ 300 := by omega
              clear hpre hall h300
              go_wp2_with (go_at_call 12; ((with_reducible refine (cS _ hL.to).mono ?_); rintro e w7 ⟨rfl, S7⟩))
              go_ret
              exact ⟨rfl, Step.of inferInstance⟩
          · have h30I : ¬ (j : Int) ≤ 30 := by omega
            clear hpre h30
            go_wp2_with (go_at_call 12; ((with_reducible refine (cS _ hL.to).mono ?_); rintro e w7 ⟨rfl, S7⟩))
            go_ret
            exact ⟨rfl, Step.of inferInstance⟩
        · have hjn : j = m := by omega
          subst hjn
          have hl : Hid (∀ i, (ks.getD i []).length ≤ 300) := Lib.hid fun i => by
            by_cases e : i < j
            · exact hpre.out i e
            · rw [List.getD_eq_getElem?_getD, List.getElem?_eq_none (by rw [HM.out]; omega)]; exact Nat.zero_le _
          clear hpre
          go_wp2
          go_round
          case rel => exact ⟨2, by omega, by go_num, Lib.hid ⟨hgood.out.1, hgood.out.2, hj31, hl⟩⟩
          case measure => simp [intOf]
    · obtain rfl : _ = Value.int .i64 2 := hi0
      have cL0 := cL0 ⟨hgood.out.1, hgood.out.2.1⟩
      have cL1 := cL1 hgood.out
      have cT0 := cT0 ⟨hgood.out.1, hgood.out.2.1⟩
      have cT1 := cT1 hgood.out
      have cD := Lib.hid (cD hgood.out)
      have hfin := Lib.hid (hfin hgood.out)
      have hUU := Lib.hid hUU
      clear hk
      go_upto_region 11 with (first
        | (go_at_call 13; ((with_reducible refine (cL0 _ hr1.out.to hL.to).mono ?_); rintro e w2 ⟨rfl, S2⟩; obtain ⟨W2, st2, X2, q2, l2⟩ := store_new w2 Z E0 hsz lE0 oE0.out; have hl2 := ((inferInstance : Ext W1 W2).h.cell (p := ⟨w.heap.size + 1 + 1, 1, none⟩) bl).trans hl1))
        | (go_at_call 13; ((with_reducible refine (cL1 _ gr1.out.to hL.to).mono ?_); rintro e w3 ⟨rfl, S3⟩; obtain ⟨W3, st3, X3, q3, l3⟩ := store_new w3 Z E1 hsz lE1 oE1.out))
        | refine Lg.wpAlloc (by rfl) 22 (by rfl) Z hz.out ?_)
      have e13 := (inferInstance : Ext W1 W3)
      have ba : w.heap.size < W3.heap.size := by have := e13.size; omega
      have bb : w.heap.size + 1 < W3.heap.size := by have := e13.size; omega
      have bl3 : w.heap.size + 1 + 1 < W3.heap.size := by have := e13.size; omega
      have ka0 := (e13.h.cell (p := ⟨w.heap.size, 0, none⟩) (by show w.heap.size < W1.heap.size; omega)).trans ha0
      have ka1 := (e13.h.cell (p := ⟨w.heap.size, 1, none⟩) (by show w.heap.size < W1.heap.size; omega)).trans ha1
      have kb0 := (e13.h.cell (p := ⟨w.heap.size + 1, 0, none⟩) (by show w.heap.size + 1 < W1.heap.size; omega)).trans hb0
      have kb1 := (e13.h.cell (p := ⟨w.heap.size + 1, 1, none⟩) (by show w.heap.size + 1 < W1.heap.size; omega)).trans hb1
      have kl0 := (e13.h.cell (p := ⟨w.heap.size + 1 + 1, 0, none⟩) bl).trans hl0
      have kl1 := (e13.h.cell (p := ⟨w.heap.size + 1 + 1, 1, none⟩) bl).trans hl1
      have l2' : w2.heap.size < W3.heap.size := Nat.lt_of_lt_of_le l2 (inferInstance : Ext W2 W3).size
      have q2' : W3.rangeAt w2.heap.size 0 E0 := range_under q2 (inferInstance : Ext W2 W3).h l2
      have SW3 : Hid (Step w W3) := Lib.hid (Step.of inferInstance)
      have hr3 : Hid (RowsB W3 A ls) := Lib.hid hr1.out.to
      have gr3 : Hid (RowsB W3 B ks) := Lib.hid gr1.out.to
      have hL3 : LaidK W3 := hL.to
      have eF0 : F0.toArray.size = 32 := lF0
      have eF1 : F1.toArray.size = 32 := lF1
      clear st2 st3 cL0 cL1 ha0 ha1 hb0 hb1 hl0 hl1 hl2 q2 e13
      generalize hg2 : w2.heap.size = G0 at *
      generalize hg3 : w3.heap.size = G1 at *
      clear hg2 hg3
      go_cut [13, 14] (fun s13 s14 wx => ∃ g h : Nat, s13 = .pointer (some ⟨g, 0, none⟩) ∧ s14 = .pointer (some ⟨h, 0, none⟩) ∧ Hid (wx.rangeAt g 0 F0 ∧ wx.rangeAt h 0 F1 ∧ g < wx.heap.size ∧ h < wx.heap.size ∧ Step W3 wx))
      case first =>
        as_aux_lemma =>
        refine wp_region_held_drew (S := fun w' => w'.cell? ⟨w.heap.size, 0, none⟩ = some (.int .u64 p) ∧ w'.cell? ⟨w.heap.size, 1, none⟩ = some (.int .u64 q) ∧ w'.cell? ⟨w.heap.size + 1, 0, none⟩ = some (.int .u64 r) ∧ w'.cell? ⟨w.heap.size + 1, 1, none⟩ = some (.int .u64 s) ∧ Step W3 w') (by kernel_rfl) ⟨((Step.of (w := W3) inferInstance).h.cell (p := ⟨w.heap.size, 0, none⟩) ba).trans ka0, ((Step.of (w := W3) inferInstance).h.cell (p := ⟨w.heap.size, 1, none⟩) ba).trans ka1, ((Step.of (w := W3) inferInstance).h.cell (p := ⟨w.heap.size + 1, 0, none⟩) bb).trans kb0, ((Step.of (w := W3) inferInstance).h.cell (p := ⟨w.heap.size + 1, 1, none⟩) bb).trans kb1, Step.of inferInstance⟩ (fun hHeld => ?_)
        refine wpAnyH_take (i := 0) (v := ?_) rfl (by kernel_rfl) (by kernel_rfl) (by kernel_rfl) (fun _ _ _ h => h) (Or.inl ⟨by rfl, ?_⟩) hHeld ?_
        rotate_left
        · intro w hSw
          obtain ⟨h1, h2, h3, h4, h5⟩ := hSw
          simp only [List.getElem_toArray, List.getElem_cons_zero]
          go_simp
          try with_reducible rfl
        simp only [List.getElem_toArray, List.getElem_cons_zero, Act.put, List.setIfInBounds_toArray, List.set_cons_zero, List.set_cons_succ]
        refine wpAnyH_take (i := 1) (v := ?_) rfl (by kernel_rfl) (by kernel_rfl) (by kernel_rfl) (fun _ _ _ h => h) (Or.inl ⟨by rfl, ?_⟩) hHeld ?_
        rotate_left
        · intro w hSw
          obtain ⟨h1, h2, h3, h4, h5⟩ := hSw
          simp only [List.getElem_toArray, List.getElem_cons_zero, List.getElem_cons_succ]
          go_simp
          try with_reducible rfl
        simp only [List.getElem_toArray, List.getElem_cons_zero, List.getElem_cons_succ, Act.put, List.setIfInBounds_toArray, List.set_cons_zero, List.set_cons_succ]
        refine wpAnyH_take (i := 2) (v := ?_) rfl (by kernel_rfl) (by kernel_rfl) (by kernel_rfl) (fun _ _ _ h => h) (Or.inl ⟨by rfl, ?_⟩) hHeld ?_
        rotate_left
        · intro w hSw
          obtain ⟨h1, h2, h3, h4, h5⟩ := hSw
          simp only [List.getElem_toArray, List.getElem_cons_zero, List.getElem_cons_succ]
          go_simp
          try with_reducible rfl
        simp only [List.getElem_toArray, List.getElem_cons_zero, List.getElem_cons_succ, Act.put, List.setIfInBounds_toArray, List.set_cons_zero, List.set_cons_succ]
        refine wpAnyH_take (i := 3) (v := ?_) rfl (by kernel_rfl) (by kernel_rfl) (by kernel_rfl) (fun _ _ _ h => h) (Or.inl ⟨by rfl, ?_⟩) hHeld ?_
        rotate_left
        · intro w hSw
          obtain ⟨h1, h2, h3, h4, h5⟩ := hSw
          simp only [List.getElem_toArray, List.getElem_cons_zero, List.getElem_cons_succ]
          go_simp
          try with_reducible rfl
        simp only [List.getElem_toArray, List.getElem_cons_zero, List.getElem_cons_succ, Act.put, List.setIfInBounds_toArray, List.set_cons_zero, List.set_cons_succ]
        refine wpAnyH_take (i := 5) (v := ?_) rfl (by kernel_rfl) (by kernel_rfl) (by kernel_rfl) (fun _ _ _ h => h) (Or.inl ⟨by rfl, ?_⟩) hHeld ?_
        rotate_left
        · intro w hSw
          obtain ⟨h1, h2, h3, h4, h5⟩ := hSw
          simp only [List.getElem_toArray, List.getElem_cons_zero, List.getElem_cons_succ]
          go_simp
          try with_reducible rfl
        simp only [List.getElem_toArray, List.getElem_cons_zero, List.getElem_cons_succ, Act.put, List.setIfInBounds_toArray, List.set_cons_zero, List.set_cons_succ]
        refine wpAnyH_take (i := 6) (v := ?_) rfl (by kernel_rfl) (by kernel_rfl) (by kernel_rfl) (fun _ _ _ h => h) (Or.inl ⟨by rfl, ?_⟩) hHeld ?_
        rotate_left
        · intro w hSw
          obtain ⟨h1, h2, h3, h4, h5⟩ := hSw
          simp only [List.getElem_toArray, List.getElem_cons_zero, List.getElem_cons_succ]
          go_simp
          try with_reducible rfl
        simp only [List.getElem_toArray, List.getElem_cons_zero, List.getElem_cons_succ, Act.put, List.setIfInBounds_toArray, List.set_cons_zero, List.set_cons_succ]
        refine wpAnyH_take (i := 7) (v := ?_) rfl (by kernel_rfl) (by kernel_rfl) (by kernel_rfl) (fun _ _ _ h => h) (Or.inl ⟨by rfl, ?_⟩) hHeld ?_
        rotate_left
        · intro w hSw
          obtain ⟨h1, h2, h3, h4, h5⟩ := hSw
          simp only [List.getElem_toArray, List.getElem_cons_zero, List.getElem_cons_succ]
          go_simp
          try with_reducible rfl
        simp only [List.getElem_toArray, List.getElem_cons_zero, List.getElem_cons_succ, Act.put, List.setIfInBounds_toArray, List.set_cons_zero, List.set_cons_succ]
        refine wpAnyH_take (i := 8) (v := ?_) rfl (by kernel_rfl) (by kernel_rfl) (by kernel_rfl) (fun _ _ _ h => h) (Or.inl ⟨by rfl, ?_⟩) hHeld ?_
        rotate_left
        · intro w hSw
          obtain ⟨h1, h2, h3, h4, h5⟩ := hSw
          simp only [List.getElem_toArray, List.getElem_cons_zero, List.getElem_cons_succ]
          go_simp
          try with_reducible rfl
        simp only [List.getElem_toArray, List.getElem_cons_zero, List.getElem_cons_succ, Act.put, List.setIfInBounds_toArray, List.set_cons_zero, List.set_cons_succ]
        refine wpAnyH_ready (rs := [4, 10, 11]) (by kernel_rfl) (by simp) ?_
        refine (AllReadyH.cons rfl (fun K hK => ?_) (AllReadyH.cons rfl (fun K hK => ?_) (AllReadyH.cons rfl (fun K hK => ?_) AllReadyH.nil)))
        · as_aux_lemma =>
          refine pos_in (by rfl) ?_
          simp only [List.getElem_toArray, List.getElem_cons_zero, List.getElem_cons_succ]
          go_simp
          refine (cA _ hL.to).mono ?_
          rintro e x0 ⟨rfl, T0⟩
          refine hK.out _ _ ⟨((Step.of (w := W3) inferInstance).h.cell (p := ⟨w.heap.size, 0, none⟩) ba).trans ka0, ((Step.of (w := W3) inferInstance).h.cell (p := ⟨w.heap.size, 1, none⟩) ba).trans ka1, ((Step.of (w := W3) inferInstance).h.cell (p := ⟨w.heap.size + 1, 0, none⟩) bb).trans kb0, ((Step.of (w := W3) inferInstance).h.cell (p := ⟨w.heap.size + 1, 1, none⟩) bb).trans kb1, Step.of inferInstance⟩ (fun hHeld => ?_)
          clear hK K
          refine wpAnyH_ready (rs := [9, 10, 11]) (by kernel_rfl) (by simp) ?_
          refine (AllReadyH.cons rfl (fun K hK => ?_) (AllReadyH.cons rfl (fun K hK => ?_) (AllReadyH.cons rfl (fun K hK => ?_) AllReadyH.nil)))
          · as_aux_lemma =>
            refine pos_in (by rfl) ?_
            simp only [List.getElem_toArray, List.getElem_cons_zero, List.getElem_cons_succ]
            go_simp
            refine (cB _ hL.to).mono ?_
            rintro e x1 ⟨rfl, T1⟩
            refine hK.out _ _ ⟨((Step.of (w := W3) inferInstance).h.cell (p := ⟨w.heap.size, 0, none⟩) ba).trans ka0, ((Step.of (w := W3) inferInstance).h.cell (p := ⟨w.heap.size, 1, none⟩) ba).trans ka1, ((Step.of (w := W3) inferInstance).h.cell (p := ⟨w.heap.size + 1, 0, none⟩) bb).trans kb0, ((Step.of (w := W3) inferInstance).h.cell (p := ⟨w.heap.size + 1, 1, none⟩) bb).trans kb1, Step.of inferInstance⟩ (fun hHeld => ?_)
            clear hK K
            refine wpAnyH_ready (rs := [10, 11]) (by kernel_rfl) (by simp) ?_
            refine (AllReadyH.cons rfl (fun K hK => ?_) (AllReadyH.cons rfl (fun K hK => ?_) AllReadyH.nil))
            · refine pos_in (by rfl) ?_
              simp only [List.getElem_toArray, List.getElem_cons_zero, List.getElem_cons_succ]
              refine wpA 22 (by rfl) Z hz.out ?_
              simp only [Act.put, List.setIfInBounds_toArray, List.set_cons_zero, List.set_cons_succ, World.size_alloc]
              have n13 : New W3 (x1.alloc (.cells Z 22)) (x1.heap.size) := by have h := New.made W3 (w := x1) Z 22 hsz; simpa only [World.size_alloc] using h
              refine hK.out _ _ ⟨((Step.of (w := W3) inferInstance).h.cell (p := ⟨w.heap.size, 0, none⟩) ba).trans ka0, ((Step.of (w := W3) inferInstance).h.cell (p := ⟨w.heap.size, 1, none⟩) ba).trans ka1, ((Step.of (w := W3) inferInstance).h.cell (p := ⟨w.heap.size + 1, 0, none⟩) bb).trans kb0, ((Step.of (w := W3) inferInstance).h.cell (p := ⟨w.heap.size + 1, 1, none⟩) bb).trans kb1, Step.of inferInstance⟩ (fun hHeld => ?_)
              clear hK K
              refine wpAnyH_ready (rs := [11]) (by kernel_rfl) (by simp) ?_
              refine (AllReadyH.cons rfl (fun K hK => ?_) AllReadyH.nil)
              · refine pos_in (by rfl) ?_
                simp only [List.getElem_toArray, List.getElem_cons_zero, List.getElem_cons_succ]
                refine wpA 22 (by rfl) Z hz.out ?_
                simp only [Act.put, List.setIfInBounds_toArray, List.set_cons_zero, List.set_cons_succ, World.size_alloc]
                have hne : (x1.heap.size) ≠ x1.heap.size + 1 := by have := n13.2.1; (try simp only [World.size_alloc] at this); omega
                have n13 := n13.to (w' := ((x1.alloc (.cells Z 22)).alloc (.cells Z 22)))
                have n14 : New W3 ((x1.alloc (.cells Z 22)).alloc (.cells Z 22)) (x1.heap.size + 1) := by have h := New.made W3 (w := (x1.alloc (.cells Z 22))) Z 22 hsz; simpa only [World.size_alloc] using h
                refine hK.out _ _ ⟨((Step.of (w := W3) inferInstance).h.cell (p := ⟨w.heap.size, 0, none⟩) ba).trans ka0, ((Step.of (w := W3) inferInstance).h.cell (p := ⟨w.heap.size, 1, none⟩) ba).trans ka1, ((Step.of (w := W3) inferInstance).h.cell (p := ⟨w.heap.size + 1, 0, none⟩) bb).trans kb0, ((Step.of (w := W3) inferInstance).h.cell (p := ⟨w.heap.size + 1, 1, none⟩) bb).trans kb1, Step.of inferInstance⟩ (fun hHeld => ?_)
                clear hK K
                refine wpAnyH_ready (rs := [12]) (by kernel_rfl) (by simp) ?_
                refine AllReadyH.cons rfl (fun K hK => ?_) AllReadyH.nil
                refine pos_in (by rfl) ?_
                simp only [List.getElem_toArray, List.getElem_cons_zero, List.getElem_cons_succ]
                refine wp_store_mid 22 (.tmp 13) (.tmp 66) (by rfl) _ 0 F0.toArray (by rfl) (by rfl) (by rw [eF0]; exact n13.2.2) (by rw [eF0]; exact size32) oF0.out ?_
                simp only [Act.put, List.setIfInBounds_toArray, List.set_cons_zero, List.set_cons_succ]
                have SA : Step W3 (((x1.alloc (.cells Z 22)).alloc (.cells Z 22)).setCells (x1.heap.size) 0 F0.toArray.toList) := ⟨Lg.below_setCells n13.1 _ _ _ (inferInstance : Ext W3 ((x1.alloc (.cells Z 22)).alloc (.cells Z 22))).h⟩
                refine hK.out _ _ ⟨((Step.of (w := W3) inferInstance).h.cell (p := ⟨w.heap.size, 0, none⟩) ba).trans ka0, ((Step.of (w := W3) inferInstance).h.cell (p := ⟨w.heap.size, 1, none⟩) ba).trans ka1, ((Step.of (w := W3) inferInstance).h.cell (p := ⟨w.heap.size + 1, 0, none⟩) bb).trans kb0, ((Step.of (w := W3) inferInstance).h.cell (p := ⟨w.heap.size + 1, 1, none⟩) bb).trans kb1, Step.of inferInstance⟩ (fun hHeld => ?_)
                clear hK K
                refine wpAnyH_ready (rs := [13]) (by kernel_rfl) (by simp) ?_
                refine AllReadyH.cons rfl (fun K hK => ?_) AllReadyH.nil
                refine pos_in (by rfl) ?_
                simp only [List.getElem_toArray, List.getElem_cons_zero, List.getElem_cons_succ]
                refine wp_store_mid 22 (.tmp 14) (.tmp 71) (by rfl) _ 0 F1.toArray (by rfl) (by rfl) (by rw [eF1]; exact World.there_setCells n14.2.2 _ _ _) (by rw [eF1]; exact size32) oF1.out ?_
                simp only [Act.put, List.setIfInBounds_toArray, List.set_cons_zero, List.set_cons_succ]
                have SB : Step W3 ((((x1.alloc (.cells Z 22)).alloc (.cells Z 22)).setCells (x1.heap.size) 0 F0.toArray.toList).setCells (x1.heap.size + 1) 0 F1.toArray.toList) := ⟨Lg.below_setCells n14.1 _ _ _ SA.h⟩
                refine hK.out _ _ ⟨((Step.of (w := W3) inferInstance).h.cell (p := ⟨w.heap.size, 0, none⟩) ba).trans ka0, ((Step.of (w := W3) inferInstance).h.cell (p := ⟨w.heap.size, 1, none⟩) ba).trans ka1, ((Step.of (w := W3) inferInstance).h.cell (p := ⟨w.heap.size + 1, 0, none⟩) bb).trans kb0, ((Step.of (w := W3) inferInstance).h.cell (p := ⟨w.heap.size + 1, 1, none⟩) bb).trans kb1, Step.of inferInstance⟩ (fun hHeld => ?_)
                clear hK K
                refine wpAnyH_done (by kernel_rfl) ?_ _
                have h5 := two_stores n13 n14 hne lF0 lF1
                try simp only [World.size_alloc] at h5
                go_wp2_with fail
                go_meet
                exact ⟨_, _, rfl, rfl, Lib.hid ⟨h5.2.1, h5.2.2.1, h5.2.2.2.1, h5.2.2.2.2, h5.1⟩⟩
            · refine pos_in (by rfl) ?_
              simp only [List.getElem_toArray, List.getElem_cons_zero, List.getElem_cons_succ]
              refine wpA 22 (by rfl) Z hz.out ?_
              simp only [Act.put, List.setIfInBounds_toArray, List.set_cons_zero, List.set_cons_succ, World.size_alloc]
              have n14 : New W3 (x1.alloc (.cells Z 22)) (x1.heap.size) := by have h := New.made W3 (w := x1) Z 22 hsz; simpa only [World.size_alloc] using h
              refine hK.out _ _ ⟨((Step.of (w := W3) inferInstance).h.cell (p := ⟨w.heap.size, 0, none⟩) ba).trans ka0, ((Step.of (w := W3) inferInstance).h.cell (p := ⟨w.heap.size, 1, none⟩) ba).trans ka1, ((Step.of (w := W3) inferInstance).h.cell (p := ⟨w.heap.size + 1, 0, none⟩) bb).trans kb0, ((Step.of (w := W3) inferInstance).h.cell (p := ⟨w.heap.size + 1, 1, none⟩) bb).trans kb1, Step.of inferInstance⟩ (fun hHeld => ?_)
              clear hK K
              refine wpAnyH_ready (rs := [10]) (by kernel_rfl) (by simp) ?_
              refine (AllReadyH.cons rfl (fun K hK => ?_) AllReadyH.nil)
              · refine pos_in (by rfl) ?_
                simp only [List.getElem_toArray, List.getElem_cons_zero, List.getElem_cons_succ]
                refine wpA 22 (by rfl) Z hz.out ?_
                simp only [Act.put, List.setIfInBounds_toArray, List.set_cons_zero, List.set_cons_succ, World.size_alloc]
                have hne : x1.heap.size + 1 ≠ (x1.heap.size) := by have := n14.2.1; (try simp only [World.size_alloc] at this); omega
                have n14 := n14.to (w' := ((x1.alloc (.cells Z 22)).alloc (.cells Z 22)))
                have n13 : New W3 ((x1.alloc (.cells Z 22)).alloc (.cells Z 22)) (x1.heap.size + 1) := by have h := New.made W3 (w := (x1.alloc (.cells Z 22))) Z 22 hsz; simpa only [World.size_alloc] using h
                refine hK.out _ _ ⟨((Step.of (w := W3) inferInstance).h.cell (p := ⟨w.heap.size, 0, none⟩) ba).trans ka0, ((Step.of (w := W3) inferInstance).h.cell (p := ⟨w.heap.size, 1, none⟩) ba).trans ka1, ((Step.of (w := W3) inferInstance).h.cell (p := ⟨w.heap.size + 1, 0, none⟩) bb).trans kb0, ((Step.of (w := W3) inferInstance).h.cell (p := ⟨w.heap.size + 1, 1, none⟩) bb).trans kb1, Step.of inferInstance⟩ (fun hHeld => ?_)
                clear hK K
                refine wpAnyH_ready (rs := [12]) (by kernel_rfl) (by simp) ?_
                refine AllReadyH.cons rfl (fun K hK => ?_) AllReadyH.nil
                refine pos_in (by rfl) ?_
                simp only [List.getElem_toArray, List.getElem_cons_zero, List.getElem_cons_succ]
                refine wp_store_mid 22 (.tmp 13) (.tmp 66) (by rfl) _ 0 F0.toArray (by rfl) (by rfl) (by rw [eF0]; exact n13.2.2) (by rw [eF0]; exact size32) oF0.out ?_
                simp only [Act.put, List.setIfInBounds_toArray, List.set_cons_zero, List.set_cons_succ]
                have SA : Step W3 (((x1.alloc (.cells Z 22)).alloc (.cells Z 22)).setCells (x1.heap.size + 1) 0 F0.toArray.toList) := ⟨Lg.below_setCells n13.1 _ _ _ (inferInstance : Ext W3 ((x1.alloc (.cells Z 22)).alloc (.cells Z 22))).h⟩
                refine hK.out _ _ ⟨((Step.of (w := W3) inferInstance).h.cell (p := ⟨w.heap.size, 0, none⟩) ba).trans ka0, ((Step.of (w := W3) inferInstance).h.cell (p := ⟨w.heap.size, 1, none⟩) ba).trans ka1, ((Step.of (w := W3) inferInstance).h.cell (p := ⟨w.heap.size + 1, 0, none⟩) bb).trans kb0, ((Step.of (w := W3) inferInstance).h.cell (p := ⟨w.heap.size + 1, 1, none⟩) bb).trans kb1, Step.of inferInstance⟩ (fun hHeld => ?_)
                clear hK K
                refine wpAnyH_ready (rs := [13]) (by kernel_rfl) (by simp) ?_
                refine AllReadyH.cons rfl (fun K hK => ?_) AllReadyH.nil
                refine pos_in (by rfl) ?_
                simp only [List.getElem_toArray, List.getElem_cons_zero, List.getElem_cons_succ]
                refine wp_store_mid 22 (.tmp 14) (.tmp 71) (by rfl) _ 0 F1.toArray (by rfl) (by rfl) (by rw [eF1]; exact World.there_setCells n14.2.2 _ _ _) (by rw [eF1]; exact size32) oF1.out ?_
                simp only [Act.put, List.setIfInBounds_toArray, List.set_cons_zero, List.set_cons_succ]
                have SB : Step W3 ((((x1.alloc (.cells Z 22)).alloc (.cells Z 22)).setCells (x1.heap.size + 1) 0 F0.toArray.toList).setCells (x1.heap.size) 0 F1.toArray.toList) := ⟨Lg.below_setCells n14.1 _ _ _ SA.h⟩
                refine hK.out _ _ ⟨((Step.of (w := W3) inferInstance).h.cell (p := ⟨w.heap.size, 0, none⟩) ba).trans ka0, ((Step.of (w := W3) inferInstance).h.cell (p := ⟨w.heap.size, 1, none⟩) ba).trans ka1, ((Step.of (w := W3) inferInstance).h.cell (p := ⟨w.heap.size + 1, 0, none⟩) bb).trans kb0, ((Step.of (w := W3) inferInstance).h.cell (p := ⟨w.heap.size + 1, 1, none⟩) bb).trans kb1, Step.of inferInstance⟩ (fun hHeld => ?_)
                clear hK K
                refine wpAnyH_done (by kernel_rfl) ?_ _
                have h5 := two_stores n13 n14 hne lF0 lF1
                try simp only [World.size_alloc] at h5
                go_wp2_with fail
                go_meet
                exact ⟨_, _, rfl, rfl, Lib.hid ⟨h5.2.1, h5.2.2.1, h5.2.2.2.1, h5.2.2.2.2, h5.1⟩⟩
          · as_aux_lemma =>
            refine pos_in (by rfl) ?_
            simp only [List.getElem_toArray, List.getElem_cons_zero, List.getElem_cons_succ]
            refine wpA 22 (by rfl) Z hz.out ?_
            simp only [Act.put, List.setIfInBounds_toArray, List.set_cons_zero, List.set_cons_succ, World.size_alloc]
            have n13 : New W3 (x0.alloc (.cells Z 22)) (x0.heap.size) := by have h := New.made W3 (w := x0) Z 22 hsz; simpa only [World.size_alloc] using h
            refine hK.out _ _ ⟨((Step.of (w := W3) inferInstance).h.cell (p := ⟨w.heap.size, 0, none⟩) ba).trans ka0, ((Step.of (w := W3) inferInstance).h.cell (p := ⟨w.heap.size, 1, none⟩) ba).trans ka1, ((Step.of (w := W3) inferInstance).h.cell (p := ⟨w.heap.size + 1, 0, none⟩) bb).trans kb0, ((Step.of (w := W3) inferInstance).h.cell (p := ⟨w.heap.size + 1, 1, none⟩) bb).trans kb1, Step.of inferInstance⟩ (fun hHeld => ?_)
            clear hK K
            refine wpAnyH_ready (rs := [9, 11]) (by kernel_rfl) (by simp) ?_
            refine (AllReadyH.cons rfl (fun K hK => ?_) (AllReadyH.cons rfl (fun K hK => ?_) AllReadyH.nil))
            · refine pos_in (by rfl) ?_
              simp only [List.getElem_toArray, List.getElem_cons_zero, List.getElem_cons_succ]
              go_simp
              refine (cB _ hL.to).mono ?_
              rintro e x2 ⟨rfl, T2⟩
              have n13 := n13.to (w' := x2)
              refine hK.out _ _ ⟨((Step.of (w := W3) inferInstance).h.cell (p := ⟨w.heap.size, 0, none⟩) ba).trans ka0, ((Step.of (w := W3) inferInstance).h.cell (p := ⟨w.heap.size, 1, none⟩) ba).trans ka1, ((Step.of (w := W3) inferInstance).h.cell (p := ⟨w.heap.size + 1, 0, none⟩) bb).trans kb0, ((Step.of (w := W3) inferInstance).h.cell (p := ⟨w.heap.size + 1, 1, none⟩) bb).trans kb1, Step.of inferInstance⟩ (fun hHeld => ?_)
              clear hK K
              refine wpAnyH_ready (rs := [11]) (by kernel_rfl) (by simp) ?_
              refine (AllReadyH.cons rfl (fun K hK => ?_) AllReadyH.nil)
              · refine pos_in (by rfl) ?_
                simp only [List.getElem_toArray, List.getElem_cons_zero, List.getElem_cons_succ]
                refine wpA 22 (by rfl) Z hz.out ?_
                simp only [Act.put, List.setIfInBounds_toArray, List.set_cons_zero, List.set_cons_succ, World.size_alloc]
                have hne : (x0.heap.size) ≠ x2.heap.size := by have := n13.2.1; (try simp only [World.size_alloc] at this); omega
                have n13 := n13.to (w' := (x2.alloc (.cells Z 22)))
                have n14 : New W3 (x2.alloc (.cells Z 22)) (x2.heap.size) := by have h := New.made W3 (w := x2) Z 22 hsz; simpa only [World.size_alloc] using h
                refine hK.out _ _ ⟨((Step.of (w := W3) inferInstance).h.cell (p := ⟨w.heap.size, 0, none⟩) ba).trans ka0, ((Step.of (w := W3) inferInstance).h.cell (p := ⟨w.heap.size, 1, none⟩) ba).trans ka1, ((Step.of (w := W3) inferInstance).h.cell (p := ⟨w.heap.size + 1, 0, none⟩) bb).trans kb0, ((Step.of (w := W3) inferInstance).h.cell (p := ⟨w.heap.size + 1, 1, none⟩) bb).trans kb1, Step.of inferInstance⟩ (fun hHeld => ?_)
                clear hK K
                refine wpAnyH_ready (rs := [12]) (by kernel_rfl) (by simp) ?_
                refine AllReadyH.cons rfl (fun K hK => ?_) AllReadyH.nil
                refine pos_in (by rfl) ?_
                simp only [List.getElem_toArray, List.getElem_cons_zero, List.getElem_cons_succ]
                refine wp_store_mid 22 (.tmp 13) (.tmp 66) (by rfl) _ 0 F0.toArray (by rfl) (by rfl) (by rw [eF0]; exact n13.2.2) (by rw [eF0]; exact size32) oF0.out ?_
                simp only [Act.put, List.setIfInBounds_toArray, List.set_cons_zero, List.set_cons_succ]
                have SA : Step W3 ((x2.alloc (.cells Z 22)).setCells (x0.heap.size) 0 F0.toArray.toList) := ⟨Lg.below_setCells n13.1 _ _ _ (inferInstance : Ext W3 (x2.alloc (.cells Z 22))).h⟩
                refine hK.out _ _ ⟨((Step.of (w := W3) inferInstance).h.cell (p := ⟨w.heap.size, 0, none⟩) ba).trans ka0, ((Step.of (w := W3) inferInstance).h.cell (p := ⟨w.heap.size, 1, none⟩) ba).trans ka1, ((Step.of (w := W3) inferInstance).h.cell (p := ⟨w.heap.size + 1, 0, none⟩) bb).trans kb0, ((Step.of (w := W3) inferInstance).h.cell (p := ⟨w.heap.size + 1, 1, none⟩) bb).trans kb1, Step.of inferInstance⟩ (fun hHeld => ?_)
                clear hK K
                refine wpAnyH_ready (rs := [13]) (by kernel_rfl) (by simp) ?_
                refine AllReadyH.cons rfl (fun K hK => ?_) AllReadyH.nil
                refine pos_in (by rfl) ?_
                simp only [List.getElem_toArray, List.getElem_cons_zero, List.getElem_cons_succ]
                refine wp_store_mid 22 (.tmp 14) (.tmp 71) (by rfl) _ 0 F1.toArray (by rfl) (by rfl) (by rw [eF1]; exact World.there_setCells n14.2.2 _ _ _) (by rw [eF1]; exact size32) oF1.out ?_
                simp only [Act.put, List.setIfInBounds_toArray, List.set_cons_zero, List.set_cons_succ]
                have SB : Step W3 (((x2.alloc (.cells Z 22)).setCells (x0.heap.size) 0 F0.toArray.toList).setCells (x2.heap.size) 0 F1.toArray.toList) := ⟨Lg.below_setCells n14.1 _ _ _ SA.h⟩
                refine hK.out _ _ ⟨((Step.of (w := W3) inferInstance).h.cell (p := ⟨w.heap.size, 0, none⟩) ba).trans ka0, ((Step.of (w := W3) inferInstance).h.cell (p := ⟨w.heap.size, 1, none⟩) ba).trans ka1, ((Step.of (w := W3) inferInstance).h.cell (p := ⟨w.heap.size + 1, 0, none⟩) bb).trans kb0, ((Step.of (w := W3) inferInstance).h.cell (p := ⟨w.heap.size + 1, 1, none⟩) bb).trans kb1, Step.of inferInstance⟩ (fun hHeld => ?_)
                clear hK K
                refine wpAnyH_done (by kernel_rfl) ?_ _
                have h5 := two_stores n13 n14 hne lF0 lF1
                try simp only [World.size_alloc] at h5
                go_wp2_with fail
                go_meet
                exact ⟨_, _, rfl, rfl, Lib.hid ⟨h5.2.1, h5.2.2.1, h5.2.2.2.1, h5.2.2.2.2, h5.1⟩⟩
            · refine pos_in (by rfl) ?_
              simp only [List.getElem_toArray, List.getElem_cons_zero, List.getElem_cons_succ]
              refine wpA 22 (by rfl) Z hz.out ?_
              simp only [Act.put, List.setIfInBounds_toArray, List.set_cons_zero, List.set_cons_succ, World.size_alloc]
              have hne : (x0.heap.size) ≠ x0.heap.size + 1 := by have := n13.2.1; (try simp only [World.size_alloc] at this); omega
              have n13 := n13.to (w' := ((x0.alloc (.cells Z 22)).alloc (.cells Z 22)))
              have n14 : New W3 ((x0.alloc (.cells Z 22)).alloc (.cells Z 22)) (x0.heap.size + 1) := by have h := New.made W3 (w := (x0.alloc (.cells Z 22))) Z 22 hsz; simpa only [World.size_alloc] using h
              refine hK.out _ _ ⟨((Step.of (w := W3) inferInstance).h.cell (p := ⟨w.heap.size, 0, none⟩) ba).trans ka0, ((Step.of (w := W3) inferInstance).h.cell (p := ⟨w.heap.size, 1, none⟩) ba).trans ka1, ((Step.of (w := W3) inferInstance).h.cell (p := ⟨w.heap.size + 1, 0, none⟩) bb).trans kb0, ((Step.of (w := W3) inferInstance).h.cell (p := ⟨w.heap.size + 1, 1, none⟩) bb).trans kb1, Step.of inferInstance⟩ (fun hHeld => ?_)
              clear hK K
              refine wpAnyH_ready (rs := [9]) (by kernel_rfl) (by simp) ?_
              refine (AllReadyH.cons rfl (fun K hK => ?_) AllReadyH.nil)
              · refine pos_in (by rfl) ?_
                simp only [List.getElem_toArray, List.getElem_cons_zero, List.getElem_cons_succ]
                go_simp
                refine (cB _ hL.to).mono ?_
                rintro e x3 ⟨rfl, T3⟩
                have n13 := n13.to (w' := x3)
                have n14 := n14.to (w' := x3)
                refine hK.out _ _ ⟨((Step.of (w := W3) inferInstance).h.cell (p := ⟨w.heap.size, 0, none⟩) ba).trans ka0, ((Step.of (w := W3) inferInstance).h.cell (p := ⟨w.heap.size, 1, none⟩) ba).trans ka1, ((Step.of (w := W3) inferInstance).h.cell (p := ⟨w.heap.size + 1, 0, none⟩) bb).trans kb0, ((Step.of (w := W3) inferInstance).h.cell (p := ⟨w.heap.size + 1, 1, none⟩) bb).trans kb1, Step.of inferInstance⟩ (fun hHeld => ?_)
                clear hK K
                refine wpAnyH_ready (rs := [12]) (by kernel_rfl) (by simp) ?_
                refine AllReadyH.cons rfl (fun K hK => ?_) AllReadyH.nil
                refine pos_in (by rfl) ?_
                simp only [List.getElem_toArray, List.getElem_cons_zero, List.getElem_cons_succ]
                refine wp_store_mid 22 (.tmp 13) (.tmp 66) (by rfl) _ 0 F0.toArray (by rfl) (by rfl) (by rw [eF0]; exact n13.2.2) (by rw [eF0]; exact size32) oF0.out ?_
                simp only [Act.put, List.setIfInBounds_toArray, List.set_cons_zero, List.set_cons_succ]
                have SA : Step W3 (x3.setCells (x0.heap.size) 0 F0.toArray.toList) := ⟨Lg.below_setCells n13.1 _ _ _ (inferInstance : Ext W3 x3).h⟩
                refine hK.out _ _ ⟨((Step.of (w := W3) inferInstance).h.cell (p := ⟨w.heap.size, 0, none⟩) ba).trans ka0, ((Step.of (w := W3) inferInstance).h.cell (p := ⟨w.heap.size, 1, none⟩) ba).trans ka1, ((Step.of (w := W3) inferInstance).h.cell (p := ⟨w.heap.size + 1, 0, none⟩) bb).trans kb0, ((Step.of (w := W3) inferInstance).h.cell (p := ⟨w.heap.size + 1, 1, none⟩) bb).trans kb1, Step.of inferInstance⟩ (fun hHeld => ?_)
                clear hK K
                refine wpAnyH_ready (rs := [13]) (by kernel_rfl) (by simp) ?_
                refine AllReadyH.cons rfl (fun K hK => ?_) AllReadyH.nil
                refine pos_in (by rfl) ?_
                simp only [List.getElem_toArray, List.getElem_cons_zero, List.getElem_cons_succ]
                refine wp_store_mid 22 (.tmp 14) (.tmp 71) (by rfl) _ 0 F1.toArray (by rfl) (by rfl) (by rw [eF1]; exact World.there_setCells n14.2.2 _ _ _) (by rw [eF1]; exact size32) oF1.out ?_
                simp only [Act.put, List.setIfInBounds_toArray, List.set_cons_zero, List.set_cons_succ]
                have SB : Step W3 ((x3.setCells (x0.heap.size) 0 F0.toArray.toList).setCells (x0.heap.size + 1) 0 F1.toArray.toList) := ⟨Lg.below_setCells n14.1 _ _ _ SA.h⟩
                refine hK.out _ _ ⟨((Step.of (w := W3) inferInstance).h.cell (p := ⟨w.heap.size, 0, none⟩) ba).trans ka0, ((Step.of (w := W3) inferInstance).h.cell (p := ⟨w.heap.size, 1, none⟩) ba).trans ka1, ((Step.of (w := W3) inferInstance).h.cell (p := ⟨w.heap.size + 1, 0, none⟩) bb).trans kb0, ((Step.of (w := W3) inferInstance).h.cell (p := ⟨w.heap.size + 1, 1, none⟩) bb).trans kb1, Step.of inferInstance⟩ (fun hHeld => ?_)
                clear hK K
                refine wpAnyH_done (by kernel_rfl) ?_ _
                have h5 := two_stores n13 n14 hne lF0 lF1
                try simp only [World.size_alloc] at h5
                go_wp2_with fail
                go_meet
                exact ⟨_, _, rfl, rfl, Lib.hid ⟨h5.2.1, h5.2.2.1, h5.2.2.2.1, h5.2.2.2.2, h5.1⟩⟩
          · as_aux_lemma =>
            refine pos_in (by rfl) ?_
            simp only [List.getElem_toArray, List.getElem_cons_zero, List.getElem_cons_succ]
            refine wpA 22 (by rfl) Z hz.out ?_
            simp only [Act.put, List.setIfInBounds_toArray, List.set_cons_zero, List.set_cons_succ, World.size_alloc]
            have n14 : New W3 (x0.alloc (.cells Z 22)) (x0.heap.size) := by have h := New.made W3 (w := x0) Z 22 hsz; simpa only [World.size_alloc] using h
            refine hK.out _ _ ⟨((Step.of (w := W3) inferInstance).h.cell (p := ⟨w.heap.size, 0, none⟩) ba).trans ka0, ((Step.of (w := W3) inferInstance).h.cell (p := ⟨w.heap.size, 1, none⟩) ba).trans ka1, ((Step.of (w := W3) inferInstance).h.cell (p := ⟨w.heap.size + 1, 0, none⟩) bb).trans kb0, ((Step.of (w := W3) inferInstance).h.cell (p := ⟨w.heap.size + 1, 1, none⟩) bb).trans kb1, Step.of inferInstance⟩ (fun hHeld => ?_)
            clear hK K
            refine wpAnyH_ready (rs := [9, 10]) (by kernel_rfl) (by simp) ?_
            refine (AllReadyH.cons rfl (fun K hK => ?_) (AllReadyH.cons rfl (fun K hK => ?_) AllReadyH.nil))
            · refine pos_in (by rfl) ?_
              simp only [List.getElem_toArray, List.getElem_cons_zero, List.getElem_cons_succ]
              go_simp
              refine (cB _ hL.to).mono ?_
              rintro e x2 ⟨rfl, T2⟩
              have n14 := n14.to (w' := x2)
              refine hK.out _ _ ⟨((Step.of (w := W3) inferInstance).h.cell (p := ⟨w.heap.size, 0, none⟩) ba).trans ka0, ((Step.of (w := W3) inferInstance).h.cell (p := ⟨w.heap.size, 1, none⟩) ba).trans ka1, ((Step.of (w := W3) inferInstance).h.cell (p := ⟨w.heap.size + 1, 0, none⟩) bb).trans kb0, ((Step.of (w := W3) inferInstance).h.cell (p := ⟨w.heap.size + 1, 1, none⟩) bb).trans kb1, Step.of inferInstance⟩ (fun hHeld => ?_)
              clear hK K
              refine wpAnyH_ready (rs := [10]) (by kernel_rfl) (by simp) ?_
              refine (AllReadyH.cons rfl (fun K hK => ?_) AllReadyH.nil)
              · refine pos_in (by rfl) ?_
                simp only [List.getElem_toArray, List.getElem_cons_zero, List.getElem_cons_succ]
                refine wpA 22 (by rfl) Z hz.out ?_
                simp only [Act.put, List.setIfInBounds_toArray, List.set_cons_zero, List.set_cons_succ, World.size_alloc]
                have hne : x2.heap.size ≠ (x0.heap.size) := by have := n14.2.1; (try simp only [World.size_alloc] at this); omega
                have n14 := n14.to (w' := (x2.alloc (.cells Z 22)))
                have n13 : New W3 (x2.alloc (.cells Z 22)) (x2.heap.size) := by have h := New.made W3 (w := x2) Z 22 hsz; simpa only [World.size_alloc] using h
                refine hK.out _ _ ⟨((Step.of (w := W3) inferInstance).h.cell (p := ⟨w.heap.size, 0, none⟩) ba).trans ka0, ((Step.of (w := W3) inferInstance).h.cell (p := ⟨w.heap.size, 1, none⟩) ba).trans ka1, ((Step.of (w := W3) inferInstance).h.cell (p := ⟨w.heap.size + 1, 0, none⟩) bb).trans kb0, ((Step.of (w := W3) inferInstance).h.cell (p := ⟨w.heap.size + 1, 1, none⟩) bb).trans kb1, Step.of inferInstance⟩ (fun hHeld => ?_)
                clear hK K
                refine wpAnyH_ready (rs := [12]) (by kernel_rfl) (by simp) ?_
                refine AllReadyH.cons rfl (fun K hK => ?_) AllReadyH.nil
                refine pos_in (by rfl) ?_
                simp only [List.getElem_toArray, List.getElem_cons_zero, List.getElem_cons_succ]
                refine wp_store_mid 22 (.tmp 13) (.tmp 66) (by rfl) _ 0 F0.toArray (by rfl) (by rfl) (by rw [eF0]; exact n13.2.2) (by rw [eF0]; exact size32) oF0.out ?_
                simp only [Act.put, List.setIfInBounds_toArray, List.set_cons_zero, List.set_cons_succ]
                have SA : Step W3 ((x2.alloc (.cells Z 22)).setCells (x2.heap.size) 0 F0.toArray.toList) := ⟨Lg.below_setCells n13.1 _ _ _ (inferInstance : Ext W3 (x2.alloc (.cells Z 22))).h⟩
                refine hK.out _ _ ⟨((Step.of (w := W3) inferInstance).h.cell (p := ⟨w.heap.size, 0, none⟩) ba).trans ka0, ((Step.of (w := W3) inferInstance).h.cell (p := ⟨w.heap.size, 1, none⟩) ba).trans ka1, ((Step.of (w := W3) inferInstance).h.cell (p := ⟨w.heap.size + 1, 0, none⟩) bb).trans kb0, ((Step.of (w := W3) inferInstance).h.cell (p := ⟨w.heap.size + 1, 1, none⟩) bb).trans kb1, Step.of inferInstance⟩ (fun hHeld => ?_)
                clear hK K
                refine wpAnyH_ready (rs := [13]) (by kernel_rfl) (by simp) ?_
                refine AllReadyH.cons rfl (fun K hK => ?_) AllReadyH.nil
                refine pos_in (by rfl) ?_
                simp only [List.getElem_toArray, List.getElem_cons_zero, List.getElem_cons_succ]
                refine wp_store_mid 22 (.tmp 14) (.tmp 71) (by rfl) _ 0 F1.toArray (by rfl) (by rfl) (by rw [eF1]; exact World.there_setCells n14.2.2 _ _ _) (by rw [eF1]; exact size32) oF1.out ?_
                simp only [Act.put, List.setIfInBounds_toArray, List.set_cons_zero, List.set_cons_succ]
                have SB : Step W3 (((x2.alloc (.cells Z 22)).setCells (x2.heap.size) 0 F0.toArray.toList).setCells (x0.heap.size) 0 F1.toArray.toList) := ⟨Lg.below_setCells n14.1 _ _ _ SA.h⟩
                refine hK.out _ _ ⟨((Step.of (w := W3) inferInstance).h.cell (p := ⟨w.heap.size, 0, none⟩) ba).trans ka0, ((Step.of (w := W3) inferInstance).h.cell (p := ⟨w.heap.size, 1, none⟩) ba).trans ka1, ((Step.of (w := W3) inferInstance).h.cell (p := ⟨w.heap.size + 1, 0, none⟩) bb).trans kb0, ((Step.of (w := W3) inferInstance).h.cell (p := ⟨w.heap.size + 1, 1, none⟩) bb).trans kb1, Step.of inferInstance⟩ (fun hHeld => ?_)
                clear hK K
                refine wpAnyH_done (by kernel_rfl) ?_ _
                have h5 := two_stores n13 n14 hne lF0 lF1
                try simp only [World.size_alloc] at h5
                go_wp2_with fail
                go_meet
                exact ⟨_, _, rfl, rfl, Lib.hid ⟨h5.2.1, h5.2.2.1, h5.2.2.2.1, h5.2.2.2.2, h5.1⟩⟩
            · refine pos_in (by rfl) ?_
              simp only [List.getElem_toArray, List.getElem_cons_zero, List.getElem_cons_succ]
              refine wpA 22 (by rfl) Z hz.out ?_
              simp only [Act.put, List.setIfInBounds_toArray, List.set_cons_zero, List.set_cons_succ, World.size_alloc]
              have hne : x0.heap.size + 1 ≠ (x0.heap.size) := by have := n14.2.1; (try simp only [World.size_alloc] at this); omega
              have n14 := n14.to (w' := ((x0.alloc (.cells Z 22)).alloc (.cells Z 22)))
              have n13 : New W3 ((x0.alloc (.cells Z 22)).alloc (.cells Z 22)) (x0.heap.size + 1) := by have h := New.made W3 (w := (x0.alloc (.cells Z 22))) Z 22 hsz; simpa only [World.size_alloc] using h
              refine hK.out _ _ ⟨((Step.of (w := W3) inferInstance).h.cell (p := ⟨w.heap.size, 0, none⟩) ba).trans ka0, ((Step.of (w := W3) inferInstance).h.cell (p := ⟨w.heap.size, 1, none⟩) ba).trans ka1, ((Step.of (w := W3) inferInstance).h.cell (p := ⟨w.heap.size + 1, 0, none⟩) bb).trans kb0, ((Step.of (w := W3) inferInstance).h.cell (p := ⟨w.heap.size + 1, 1, none⟩) bb).trans kb1, Step.of inferInstance⟩ (fun hHeld => ?_)
              clear hK K
              refine wpAnyH_ready (rs := [9]) (by kernel_rfl) (by simp) ?_
              refine (AllReadyH.cons rfl (fun K hK => ?_) AllReadyH.nil)
              · refine pos_in (by rfl) ?_
                simp only [List.getElem_toArray, List.getElem_cons_zero, List.getElem_cons_succ]
                go_simp
                refine (cB _ hL.to).mono ?_
                rintro e x3 ⟨rfl, T3⟩
                have n14 := n14.to (w' := x3)
                have n13 := n13.to (w' := x3)
                refine hK.out _ _ ⟨((Step.of (w := W3) inferInstance).h.cell (p := ⟨w.heap.size, 0, none⟩) ba).trans ka0, ((Step.of (w := W3) inferInstance).h.cell (p := ⟨w.heap.size, 1, none⟩) ba).trans ka1, ((Step.of (w := W3) inferInstance).h.cell (p := ⟨w.heap.size + 1, 0, none⟩) bb).trans kb0, ((Step.of (w := W3) inferInstance).h.cell (p := ⟨w.heap.size + 1, 1, none⟩) bb).trans kb1, Step.of inferInstance⟩ (fun hHeld => ?_)
                clear hK K
                refine wpAnyH_ready (rs := [12]) (by kernel_rfl) (by simp) ?_
                refine AllReadyH.cons rfl (fun K hK => ?_) AllReadyH.nil
                refine pos_in (by rfl) ?_
                simp only [List.getElem_toArray, List.getElem_cons_zero, List.getElem_cons_succ]
                refine wp_store_mid 22 (.tmp 13) (.tmp 66) (by rfl) _ 0 F0.toArray (by rfl) (by rfl) (by rw [eF0]; exact n13.2.2) (by rw [eF0]; exact size32) oF0.out ?_
                simp only [Act.put, List.setIfInBounds_toArray, List.set_cons_zero, List.set_cons_succ]
                have SA : Step W3 (x3.setCells (x0.heap.size + 1) 0 F0.toArray.toList) := ⟨Lg.below_setCells n13.1 _ _ _ (inferInstance : Ext W3 x3).h⟩
                refine hK.out _ _ ⟨((Step.of (w := W3) inferInstance).h.cell (p := ⟨w.heap.size, 0, none⟩) ba).trans ka0, ((Step.of (w := W3) inferInstance).h.cell (p := ⟨w.heap.size, 1, none⟩) ba).trans ka1, ((Step.of (w := W3) inferInstance).h.cell (p := ⟨w.heap.size + 1, 0, none⟩) bb).trans kb0, ((Step.of (w := W3) inferInstance).h.cell (p := ⟨w.heap.size + 1, 1, none⟩) bb).trans kb1, Step.of inferInstance⟩ (fun hHeld => ?_)
                clear hK K
                refine wpAnyH_ready (rs := [13]) (by kernel_rfl) (by simp) ?_
                refine AllReadyH.cons rfl (fun K hK => ?_) AllReadyH.nil
                refine pos_in (by rfl) ?_
                simp only [List.getElem_toArray, List.getElem_cons_zero, List.getElem_cons_succ]
                refine wp_store_mid 22 (.tmp 14) (.tmp 71) (by rfl) _ 0 F1.toArray (by rfl) (by rfl) (by rw [eF1]; exact World.there_setCells n14.2.2 _ _ _) (by rw [eF1]; exact size32) oF1.out ?_
                simp only [Act.put, List.setIfInBounds_toArray, List.set_cons_zero, List.set_cons_succ]
                have SB : Step W3 ((x3.setCells (x0.heap.size + 1) 0 F0.toArray.toList).setCells (x0.heap.size) 0 F1.toArray.toList) := ⟨Lg.below_setCells n14.1 _ _ _ SA.h⟩
                refine hK.out _ _ ⟨((Step.of (w := W3) inferInstance).h.cell (p := ⟨w.heap.size, 0, none⟩) ba).trans ka0, ((Step.of (w := W3) inferInstance).h.cell (p := ⟨w.heap.size, 1, none⟩) ba).trans ka1, ((Step.of (w := W3) inferInstance).h.cell (p := ⟨w.heap.size + 1, 0, none⟩) bb).trans kb0, ((Step.of (w := W3) inferInstance).h.cell (p := ⟨w.heap.size + 1, 1, none⟩) bb).trans kb1, Step.of inferInstance⟩ (fun hHeld => ?_)
                clear hK K
                refine wpAnyH_done (by kernel_rfl) ?_ _
                have h5 := two_stores n13 n14 hne lF0 lF1
                try simp only [World.size_alloc] at h5
                go_wp2_with fail
                go_meet
                exact ⟨_, _, rfl, rfl, Lib.hid ⟨h5.2.1, h5.2.2.1, h5.2.2.2.1, h5.2.2.2.2, h5.1⟩⟩
        · as_aux_lemma =>
          refine pos_in (by rfl) ?_
          simp only [List.getElem_toArray, List.getElem_cons_zero, List.getElem_cons_succ]
          refine wpA 22 (by rfl) Z hz.out ?_
          simp only [Act.put, List.setIfInBounds_toArray, List.set_cons_zero, List.set_cons_succ, World.size_alloc]
          have n13 : New W3 (W3.alloc (.cells Z 22)) (W3.heap.size) := by have h := New.made W3 (w := W3) Z 22 hsz; simpa only [World.size_alloc] using h
          refine hK.out _ _ ⟨((Step.of (w := W3) inferInstance).h.cell (p := ⟨w.heap.size, 0, none⟩) ba).trans ka0, ((Step.of (w := W3) inferInstance).h.cell (p := ⟨w.heap.size, 1, none⟩) ba).trans ka1, ((Step.of (w := W3) inferInstance).h.cell (p := ⟨w.heap.size + 1, 0, none⟩) bb).trans kb0, ((Step.of (w := W3) inferInstance).h.cell (p := ⟨w.heap.size + 1, 1, none⟩) bb).trans kb1, Step.of inferInstance⟩ (fun hHeld => ?_)
          clear hK K
          refine wpAnyH_ready (rs := [4, 11]) (by kernel_rfl) (by simp) ?_
          refine (AllReadyH.cons rfl (fun K hK => ?_) (AllReadyH.cons rfl (fun K hK => ?_) AllReadyH.nil))
          · as_aux_lemma =>
            refine pos_in (by rfl) ?_
            simp only [List.getElem_toArray, List.getElem_cons_zero, List.getElem_cons_succ]
            go_simp
            refine (cA _ hL.to).mono ?_
            rintro e x1 ⟨rfl, T1⟩
            have n13 := n13.to (w' := x1)
            refine hK.out _ _ ⟨((Step.of (w := W3) inferInstance).h.cell (p := ⟨w.heap.size, 0, none⟩) ba).trans ka0, ((Step.of (w := W3) inferInstance).h.cell (p := ⟨w.heap.size, 1, none⟩) ba).trans ka1, ((Step.of (w := W3) inferInstance).h.cell (p := ⟨w.heap.size + 1, 0, none⟩) bb).trans kb0, ((Step.of (w := W3) inferInstance).h.cell (p := ⟨w.heap.size + 1, 1, none⟩) bb).trans kb1, Step.of inferInstance⟩ (fun hHeld => ?_)
            clear hK K
            refine wpAnyH_ready (rs := [9, 11]) (by kernel_rfl) (by simp) ?_
            refine (AllReadyH.cons rfl (fun K hK => ?_) (AllReadyH.cons rfl (fun K hK => ?_) AllReadyH.nil))
            · refine pos_in (by rfl) ?_
              simp only [List.getElem_toArray, List.getElem_cons_zero, List.getElem_cons_succ]
              go_simp
              refine (cB _ hL.to).mono ?_
              rintro e x2 ⟨rfl, T2⟩
              have n13 := n13.to (w' := x2)
              refine hK.out _ _ ⟨((Step.of (w := W3) inferInstance).h.cell (p := ⟨w.heap.size, 0, none⟩) ba).trans ka0, ((Step.of (w := W3) inferInstance).h.cell (p := ⟨w.heap.size, 1, none⟩) ba).trans ka1, ((Step.of (w := W3) inferInstance).h.cell (p := ⟨w.heap.size + 1, 0, none⟩) bb).trans kb0, ((Step.of (w := W3) inferInstance).h.cell (p := ⟨w.heap.size + 1, 1, none⟩) bb).trans kb1, Step.of inferInstance⟩ (fun hHeld => ?_)
              clear hK K
              refine wpAnyH_ready (rs := [11]) (by kernel_rfl) (by simp) ?_
              refine (AllReadyH.cons rfl (fun K hK => ?_) AllReadyH.nil)
              · refine pos_in (by rfl) ?_
                simp only [List.getElem_toArray, List.getElem_cons_zero, List.getElem_cons_succ]
                refine wpA 22 (by rfl) Z hz.out ?_
                simp only [Act.put, List.setIfInBounds_toArray, List.set_cons_zero, List.set_cons_succ, World.size_alloc]
                have hne : (W3.heap.size) ≠ x2.heap.size := by have := n13.2.1; (try simp only [World.size_alloc] at this); omega
                have n13 := n13.to (w' := (x2.alloc (.cells Z 22)))
                have n14 : New W3 (x2.alloc (.cells Z 22)) (x2.heap.size) := by have h := New.made W3 (w := x2) Z 22 hsz; simpa only [World.size_alloc] using h
                refine hK.out _ _ ⟨((Step.of (w := W3) inferInstance).h.cell (p := ⟨w.heap.size, 0, none⟩) ba).trans ka0, ((Step.of (w := W3) inferInstance).h.cell (p := ⟨w.heap.size, 1, none⟩) ba).trans ka1, ((Step.of (w := W3) inferInstance).h.cell (p := ⟨w.heap.size + 1, 0, none⟩) bb).trans kb0, ((Step.of (w := W3) inferInstance).h.cell (p := ⟨w.heap.size + 1, 1, none⟩) bb).trans kb1, Step.of inferInstance⟩ (fun hHeld => ?_)
                clear hK K
                refine wpAnyH_ready (rs := [12]) (by kernel_rfl) (by simp) ?_
                refine AllReadyH.cons rfl (fun K hK => ?_) AllReadyH.nil
                refine pos_in (by rfl) ?_
                simp only [List.getElem_toArray, List.getElem_cons_zero, List.getElem_cons_succ]
                refine wp_store_mid 22 (.tmp 13) (.tmp 66) (by rfl) _ 0 F0.toArray (by rfl) (by rfl) (by rw [eF0]; exact n13.2.2) (by rw [eF0]; exact size32) oF0.out ?_
                simp only [Act.put, List.setIfInBounds_toArray, List.set_cons_zero, List.set_cons_succ]
                have SA : Step W3 ((x2.alloc (.cells Z 22)).setCells (W3.heap.size) 0 F0.toArray.toList) := ⟨Lg.below_setCells n13.1 _ _ _ (inferInstance : Ext W3 (x2.alloc (.cells Z 22))).h⟩
                refine hK.out _ _ ⟨((Step.of (w := W3) inferInstance).h.cell (p := ⟨w.heap.size, 0, none⟩) ba).trans ka0, ((Step.of (w := W3) inferInstance).h.cell (p := ⟨w.heap.size, 1, none⟩) ba).trans ka1, ((Step.of (w := W3) inferInstance).h.cell (p := ⟨w.heap.size + 1, 0, none⟩) bb).trans kb0, ((Step.of (w := W3) inferInstance).h.cell (p := ⟨w.heap.size + 1, 1, none⟩) bb).trans kb1, Step.of inferInstance⟩ (fun hHeld => ?_)
                clear hK K
                refine wpAnyH_ready (rs := [13]) (by kernel_rfl) (by simp) ?_
                refine AllReadyH.cons rfl (fun K hK => ?_) AllReadyH.nil
                refine pos_in (by rfl) ?_
                simp only [List.getElem_toArray, List.getElem_cons_zero, List.getElem_cons_succ]
                refine wp_store_mid 22 (.tmp 14) (.tmp 71) (by rfl) _ 0 F1.toArray (by rfl) (by rfl) (by rw [eF1]; exact World.there_setCells n14.2.2 _ _ _) (by rw [eF1]; exact size32) oF1.out ?_
                simp only [Act.put, List.setIfInBounds_toArray, List.set_cons_zero, List.set_cons_succ]
                have SB : Step W3 (((x2.alloc (.cells Z 22)).setCells (W3.heap.size) 0 F0.toArray.toList).setCells (x2.heap.size) 0 F1.toArray.toList) := ⟨Lg.below_setCells n14.1 _ _ _ SA.h⟩
                refine hK.out _ _ ⟨((Step.of (w := W3) inferInstance).h.cell (p := ⟨w.heap.size, 0, none⟩) ba).trans ka0, ((Step.of (w := W3) inferInstance).h.cell (p := ⟨w.heap.size, 1, none⟩) ba).trans ka1, ((Step.of (w := W3) inferInstance).h.cell (p := ⟨w.heap.size + 1, 0, none⟩) bb).trans kb0, ((Step.of (w := W3) inferInstance).h.cell (p := ⟨w.heap.size + 1, 1, none⟩) bb).trans kb1, Step.of inferInstance⟩ (fun hHeld => ?_)
                clear hK K
                refine wpAnyH_done (by kernel_rfl) ?_ _
                have h5 := two_stores n13 n14 hne lF0 lF1
                try simp only [World.size_alloc] at h5
                go_wp2_with fail
                go_meet
                exact ⟨_, _, rfl, rfl, Lib.hid ⟨h5.2.1, h5.2.2.1, h5.2.2.2.1, h5.2.2.2.2, h5.1⟩⟩
            · refine pos_in (by rfl) ?_
              simp only [List.getElem_toArray, List.getElem_cons_zero, List.getElem_cons_succ]
              refine wpA 22 (by rfl) Z hz.out ?_
              simp only [Act.put, List.setIfInBounds_toArray, List.set_cons_zero, List.set_cons_succ, World.size_alloc]
              have hne : (W3.heap.size) ≠ x1.heap.size := by have := n13.2.1; (try simp only [World.size_alloc] at this); omega
              have n13 := n13.to (w' := (x1.alloc (.cells Z 22)))
              have n14 : New W3 (x1.alloc (.cells Z 22)) (x1.heap.size) := by have h := New.made W3 (w := x1) Z 22 hsz; simpa only [World.size_alloc] using h
              refine hK.out _ _ ⟨((Step.of (w := W3) inferInstance).h.cell (p := ⟨w.heap.size, 0, none⟩) ba).trans ka0, ((Step.of (w := W3) inferInstance).h.cell (p := ⟨w.heap.size, 1, none⟩) ba).trans ka1, ((Step.of (w := W3) inferInstance).h.cell (p := ⟨w.heap.size + 1, 0, none⟩) bb).trans kb0, ((Step.of (w := W3) inferInstance).h.cell (p := ⟨w.heap.size + 1, 1, none⟩) bb).trans kb1, Step.of inferInstance⟩ (fun hHeld => ?_)
              clear hK K
              refine wpAnyH_ready (rs := [9]) (by kernel_rfl) (by simp) ?_
              refine (AllReadyH.cons rfl (fun K hK => ?_) AllReadyH.nil)
              · refine pos_in (by rfl) ?_
                simp only [List.getElem_toArray, List.getElem_cons_zero, List.getElem_cons_succ]
                go_simp
                refine (cB _ hL.to).mono ?_
                rintro e x3 ⟨rfl, T3⟩
                have n13 := n13.to (w' := x3)
                have n14 := n14.to (w' := x3)
                refine hK.out _ _ ⟨((Step.of (w := W3) inferInstance).h.cell (p := ⟨w.heap.size, 0, none⟩) ba).trans ka0, ((Step.of (w := W3) inferInstance).h.cell (p := ⟨w.heap.size, 1, none⟩) ba).trans ka1, ((Step.of (w := W3) inferInstance).h.cell (p := ⟨w.heap.size + 1, 0, none⟩) bb).trans kb0, ((Step.of (w := W3) inferInstance).h.cell (p := ⟨w.heap.size + 1, 1, none⟩) bb).trans kb1, Step.of inferInstance⟩ (fun hHeld => ?_)
                clear hK K
                refine wpAnyH_ready (rs := [12]) (by kernel_rfl) (by simp) ?_
                refine AllReadyH.cons rfl (fun K hK => ?_) AllReadyH.nil
                refine pos_in (by rfl) ?_
                simp only [List.getElem_toArray, List.getElem_cons_zero, List.getElem_cons_succ]
                refine wp_store_mid 22 (.tmp 13) (.tmp 66) (by rfl) _ 0 F0.toArray (by rfl) (by rfl) (by rw [eF0]; exact n13.2.2) (by rw [eF0]; exact size32) oF0.out ?_
                simp only [Act.put, List.setIfInBounds_toArray, List.set_cons_zero, List.set_cons_succ]
                have SA : Step W3 (x3.setCells (W3.heap.size) 0 F0.toArray.toList) := ⟨Lg.below_setCells n13.1 _ _ _ (inferInstance : Ext W3 x3).h⟩
                refine hK.out _ _ ⟨((Step.of (w := W3) inferInstance).h.cell (p := ⟨w.heap.size, 0, none⟩) ba).trans ka0, ((Step.of (w := W3) inferInstance).h.cell (p := ⟨w.heap.size, 1, none⟩) ba).trans ka1, ((Step.of (w := W3) inferInstance).h.cell (p := ⟨w.heap.size + 1, 0, none⟩) bb).trans kb0, ((Step.of (w := W3) inferInstance).h.cell (p := ⟨w.heap.size + 1, 1, none⟩) bb).trans kb1, Step.of inferInstance⟩ (fun hHeld => ?_)
                clear hK K
                refine wpAnyH_ready (rs := [13]) (by kernel_rfl) (by simp) ?_
                refine AllReadyH.cons rfl (fun K hK => ?_) AllReadyH.nil
                refine pos_in (by rfl) ?_
                simp only [List.getElem_toArray, List.getElem_cons_zero, List.getElem_cons_succ]
                refine wp_store_mid 22 (.tmp 14) (.tmp 71) (by rfl) _ 0 F1.toArray (by rfl) (by rfl) (by rw [eF1]; exact World.there_setCells n14.2.2 _ _ _) (by rw [eF1]; exact size32) oF1.out ?_
                simp only [Act.put, List.setIfInBounds_toArray, List.set_cons_zero, List.set_cons_succ]
                have SB : Step W3 ((x3.setCells (W3.heap.size) 0 F0.toArray.toList).setCells (x1.heap.size) 0 F1.toArray.toList) := ⟨Lg.below_setCells n14.1 _ _ _ SA.h⟩
                refine hK.out _ _ ⟨((Step.of (w := W3) inferInstance).h.cell (p := ⟨w.heap.size, 0, none⟩) ba).trans ka0, ((Step.of (w := W3) inferInstance).h.cell (p := ⟨w.heap.size, 1, none⟩) ba).trans ka1, ((Step.of (w := W3) inferInstance).h.cell (p := ⟨w.heap.size + 1, 0, none⟩) bb).trans kb0, ((Step.of (w := W3) inferInstance).h.cell (p := ⟨w.heap.size + 1, 1, none⟩) bb).trans kb1, Step.of inferInstance⟩ (fun hHeld => ?_)
                clear hK K
                refine wpAnyH_done (by kernel_rfl) ?_ _
                have h5 := two_stores n13 n14 hne lF0 lF1
                try simp only [World.size_alloc] at h5
                go_wp2_with fail
                go_meet
                exact ⟨_, _, rfl, rfl, Lib.hid ⟨h5.2.1, h5.2.2.1, h5.2.2.2.1, h5.2.2.2.2, h5.1⟩⟩
          · as_aux_lemma =>
            refine pos_in (by rfl) ?_
            simp only [List.getElem_toArray, List.getElem_cons_zero, List.getElem_cons_succ]
            refine wpA 22 (by rfl) Z hz.out ?_
            simp only [Act.put, List.setIfInBounds_toArray, List.set_cons_zero, List.set_cons_succ, World.size_alloc]
            have hne : (W3.heap.size) ≠ W3.heap.size + 1 := by have := n13.2.1; (try simp only [World.size_alloc] at this); omega
            have n13 := n13.to (w' := ((W3.alloc (.cells Z 22)).alloc (.cells Z 22)))
            have n14 : New W3 ((W3.alloc (.cells Z 22)).alloc (.cells Z 22)) (W3.heap.size + 1) := by have h := New.made W3 (w := (W3.alloc (.cells Z 22))) Z 22 hsz; simpa only [World.size_alloc] using h
            refine hK.out _ _ ⟨((Step.of (w := W3) inferInstance).h.cell (p := ⟨w.heap.size, 0, none⟩) ba).trans ka0, ((Step.of (w := W3) inferInstance).h.cell (p := ⟨w.heap.size, 1, none⟩) ba).trans ka1, ((Step.of (w := W3) inferInstance).h.cell (p := ⟨w.heap.size + 1, 0, none⟩) bb).trans kb0, ((Step.of (w := W3) inferInstance).h.cell (p := ⟨w.heap.size + 1, 1, none⟩) bb).trans kb1, Step.of inferInstance⟩ (fun hHeld => ?_)
            clear hK K
            refine wpAnyH_ready (rs := [4]) (by kernel_rfl) (by simp) ?_
            refine (AllReadyH.cons rfl (fun K hK => ?_) AllReadyH.nil)
            · refine pos_in (by rfl) ?_
              simp only [List.getElem_toArray, List.getElem_cons_zero, List.getElem_cons_succ]
              go_simp
              refine (cA _ hL.to).mono ?_
              rintro e x2 ⟨rfl, T2⟩
              have n13 := n13.to (w' := x2)
              have n14 := n14.to (w' := x2)
              refine hK.out _ _ ⟨((Step.of (w := W3) inferInstance).h.cell (p := ⟨w.heap.size, 0, none⟩) ba).trans ka0, ((Step.of (w := W3) inferInstance).h.cell (p := ⟨w.heap.size, 1, none⟩) ba).trans ka1, ((Step.of (w := W3) inferInstance).h.cell (p := ⟨w.heap.size + 1, 0, none⟩) bb).trans kb0, ((Step.of (w := W3) inferInstance).h.cell (p := ⟨w.heap.size + 1, 1, none⟩) bb).trans kb1, Step.of inferInstance⟩ (fun hHeld => ?_)
              clear hK K
              refine wpAnyH_ready (rs := [9]) (by kernel_rfl) (by simp) ?_
              refine (AllReadyH.cons rfl (fun K hK => ?_) AllReadyH.nil)
              · refine pos_in (by rfl) ?_
                simp only [List.getElem_toArray, List.getElem_cons_zero, List.getElem_cons_succ]
                go_simp
                refine (cB _ hL.to).mono ?_
                rintro e x3 ⟨rfl, T3⟩
                have n13 := n13.to (w' := x3)
                have n14 := n14.to (w' := x3)
                refine hK.out _ _ ⟨((Step.of (w := W3) inferInstance).h.cell (p := ⟨w.heap.size, 0, none⟩) ba).trans ka0, ((Step.of (w := W3) inferInstance).h.cell (p := ⟨w.heap.size, 1, none⟩) ba).trans ka1, ((Step.of (w := W3) inferInstance).h.cell (p := ⟨w.heap.size + 1, 0, none⟩) bb).trans kb0, ((Step.of (w := W3) inferInstance).h.cell (p := ⟨w.heap.size + 1, 1, none⟩) bb).trans kb1, Step.of inferInstance⟩ (fun hHeld => ?_)
                clear hK K
                refine wpAnyH_ready (rs := [12]) (by kernel_rfl) (by simp) ?_
                refine AllReadyH.cons rfl (fun K hK => ?_) AllReadyH.nil
                refine pos_in (by rfl) ?_
                simp only [List.getElem_toArray, List.getElem_cons_zero, List.getElem_cons_succ]
                refine wp_store_mid 22 (.tmp 13) (.tmp 66) (by rfl) _ 0 F0.toArray (by rfl) (by rfl) (by rw [eF0]; exact n13.2.2) (by rw [eF0]; exact size32) oF0.out ?_
                simp only [Act.put, List.setIfInBounds_toArray, List.set_cons_zero, List.set_cons_succ]
                have SA : Step W3 (x3.setCells (W3.heap.size) 0 F0.toArray.toList) := ⟨Lg.below_setCells n13.1 _ _ _ (inferInstance : Ext W3 x3).h⟩
                refine hK.out _ _ ⟨((Step.of (w := W3) inferInstance).h.cell (p := ⟨w.heap.size, 0, none⟩) ba).trans ka0, ((Step.of (w := W3) inferInstance).h.cell (p := ⟨w.heap.size, 1, none⟩) ba).trans ka1, ((Step.of (w := W3) inferInstance).h.cell (p := ⟨w.heap.size + 1, 0, none⟩) bb).trans kb0, ((Step.of (w := W3) inferInstance).h.cell (p := ⟨w.heap.size + 1, 1, none⟩) bb).trans kb1, Step.of inferInstance⟩ (fun hHeld => ?_)
                clear hK K
                refine wpAnyH_ready (rs := [13]) (by kernel_rfl) (by simp) ?_
                refine AllReadyH.cons rfl (fun K hK => ?_) AllReadyH.nil
                refine pos_in (by rfl) ?_
                simp only [List.getElem_toArray, List.getElem_cons_zero, List.getElem_cons_succ]
                refine wp_store_mid 22 (.tmp 14) (.tmp 71) (by rfl) _ 0 F1.toArray (by rfl) (by rfl) (by rw [eF1]; exact World.there_setCells n14.2.2 _ _ _) (by rw [eF1]; exact size32) oF1.out ?_
                simp only [Act.put, List.setIfInBounds_toArray, List.set_cons_zero, List.set_cons_succ]
                have SB : Step W3 ((x3.setCells (W3.heap.size) 0 F0.toArray.toList).setCells (W3.heap.size + 1) 0 F1.toArray.toList) := ⟨Lg.below_setCells n14.1 _ _ _ SA.h⟩
                refine hK.out _ _ ⟨((Step.of (w := W3) inferInstance).h.cell (p := ⟨w.heap.size, 0, none⟩) ba).trans ka0, ((Step.of (w := W3) inferInstance).h.cell (p := ⟨w.heap.size, 1, none⟩) ba).trans ka1, ((Step.of (w := W3) inferInstance).h.cell (p := ⟨w.heap.size + 1, 0, none⟩) bb).trans kb0, ((Step.of (w := W3) inferInstance).h.cell (p := ⟨w.heap.size + 1, 1, none⟩) bb).trans kb1, Step.of inferInstance⟩ (fun hHeld => ?_)
                clear hK K
                refine wpAnyH_done (by kernel_rfl) ?_ _
                have h5 := two_stores n13 n14 hne lF0 lF1
                try simp only [World.size_alloc] at h5
                go_wp2_with fail
                go_meet
                exact ⟨_, _, rfl, rfl, Lib.hid ⟨h5.2.1, h5.2.2.1, h5.2.2.2.1, h5.2.2.2.2, h5.1⟩⟩
        · as_aux_lemma =>
          refine pos_in (by rfl) ?_
          simp only [List.getElem_toArray, List.getElem_cons_zero, List.getElem_cons_succ]
          refine wpA 22 (by rfl) Z hz.out ?_
          simp only [Act.put, List.setIfInBounds_toArray, List.set_cons_zero, List.set_cons_succ, World.size_alloc]
          have n14 : New W3 (W3.alloc (.cells Z 22)) (W3.heap.size) := by have h := New.made W3 (w := W3) Z 22 hsz; simpa only [World.size_alloc] using h
          refine hK.out _ _ ⟨((Step.of (w := W3) inferInstance).h.cell (p := ⟨w.heap.size, 0, none⟩) ba).trans ka0, ((Step.of (w := W3) inferInstance).h.cell (p := ⟨w.heap.size, 1, none⟩) ba).trans ka1, ((Step.of (w := W3) inferInstance).h.cell (p := ⟨w.heap.size + 1, 0, none⟩) bb).trans kb0, ((Step.of (w := W3) inferInstance).h.cell (p := ⟨w.heap.size + 1, 1, none⟩) bb).trans kb1, Step.of inferInstance⟩ (fun hHeld => ?_)
          clear hK K
          refine wpAnyH_ready (rs := [4, 10]) (by kernel_rfl) (by simp) ?_
          refine (AllReadyH.cons rfl (fun K hK => ?_) (AllReadyH.cons rfl (fun K hK => ?_) AllReadyH.nil))
          · as_aux_lemma =>
            refine pos_in (by rfl) ?_
            simp only [List.getElem_toArray, List.getElem_cons_zero, List.getElem_cons_succ]
            go_simp
            refine (cA _ hL.to).mono ?_
            rintro e x1 ⟨rfl, T1⟩
            have n14 := n14.to (w' := x1)
            refine hK.out _ _ ⟨((Step.of (w := W3) inferInstance).h.cell (p := ⟨w.heap.size, 0, none⟩) ba).trans ka0, ((Step.of (w := W3) inferInstance).h.cell (p := ⟨w.heap.size, 1, none⟩) ba).trans ka1, ((Step.of (w := W3) inferInstance).h.cell (p := ⟨w.heap.size + 1, 0, none⟩) bb).trans kb0, ((Step.of (w := W3) inferInstance).h.cell (p := ⟨w.heap.size + 1, 1, none⟩) bb).trans kb1, Step.of inferInstance⟩ (fun hHeld => ?_)
            clear hK K
            refine wpAnyH_ready (rs := [9, 10]) (by kernel_rfl) (by simp) ?_
            refine (AllReadyH.cons rfl (fun K hK => ?_) (AllReadyH.cons rfl (fun K hK => ?_) AllReadyH.nil))
            · refine pos_in (by rfl) ?_
              simp only [List.getElem_toArray, List.getElem_cons_zero, List.getElem_cons_succ]
              go_simp
              refine (cB _ hL.to).mono ?_
              rintro e x2 ⟨rfl, T2⟩
              have n14 := n14.to (w' := x2)
              refine hK.out _ _ ⟨((Step.of (w := W3) inferInstance).h.cell (p := ⟨w.heap.size, 0, none⟩) ba).trans ka0, ((Step.of (w := W3) inferInstance).h.cell (p := ⟨w.heap.size, 1, none⟩) ba).trans ka1, ((Step.of (w := W3) inferInstance).h.cell (p := ⟨w.heap.size + 1, 0, none⟩) bb).trans kb0, ((Step.of (w := W3) inferInstance).h.cell (p := ⟨w.heap.size + 1, 1, none⟩) bb).trans kb1, Step.of inferInstance⟩ (fun hHeld => ?_)
              clear hK K
              refine wpAnyH_ready (rs := [10]) (by kernel_rfl) (by simp) ?_
              refine (AllReadyH.cons rfl (fun K hK => ?_) AllReadyH.nil)
              · refine pos_in (by rfl) ?_
                simp only [List.getElem_toArray, List.getElem_cons_zero, List.getElem_cons_succ]
                refine wpA 22 (by rfl) Z hz.out ?_
                simp only [Act.put, List.setIfInBounds_toArray, List.set_cons_zero, List.set_cons_succ, World.size_alloc]
                have hne : x2.heap.size ≠ (W3.heap.size) := by have := n14.2.1; (try simp only [World.size_alloc] at this); omega
                have n14 := n14.to (w' := (x2.alloc (.cells Z 22)))
                have n13 : New W3 (x2.alloc (.cells Z 22)) (x2.heap.size) := by have h := New.made W3 (w := x2) Z 22 hsz; simpa only [World.size_alloc] using h
                refine hK.out _ _ ⟨((Step.of (w := W3) inferInstance).h.cell (p := ⟨w.heap.size, 0, none⟩) ba).trans ka0, ((Step.of (w := W3) inferInstance).h.cell (p := ⟨w.heap.size, 1, none⟩) ba).trans ka1, ((Step.of (w := W3) inferInstance).h.cell (p := ⟨w.heap.size + 1, 0, none⟩) bb).trans kb0, ((Step.of (w := W3) inferInstance).h.cell (p := ⟨w.heap.size + 1, 1, none⟩) bb).trans kb1, Step.of inferInstance⟩ (fun hHeld => ?_)
                clear hK K
                refine wpAnyH_ready (rs := [12]) (by kernel_rfl) (by simp) ?_
                refine AllReadyH.cons rfl (fun K hK => ?_) AllReadyH.nil
                refine pos_in (by rfl) ?_
                simp only [List.getElem_toArray, List.getElem_cons_zero, List.getElem_cons_succ]
                refine wp_store_mid 22 (.tmp 13) (.tmp 66) (by rfl) _ 0 F0.toArray (by rfl) (by rfl) (by rw [eF0]; exact n13.2.2) (by rw [eF0]; exact size32) oF0.out ?_
                simp only [Act.put, List.setIfInBounds_toArray, List.set_cons_zero, List.set_cons_succ]
                have SA : Step W3 ((x2.alloc (.cells Z 22)).setCells (x2.heap.size) 0 F0.toArray.toList) := ⟨Lg.below_setCells n13.1 _ _ _ (inferInstance : Ext W3 (x2.alloc (.cells Z 22))).h⟩
                refine hK.out _ _ ⟨((Step.of (w := W3) inferInstance).h.cell (p := ⟨w.heap.size, 0, none⟩) ba).trans ka0, ((Step.of (w := W3) inferInstance).h.cell (p := ⟨w.heap.size, 1, none⟩) ba).trans ka1, ((Step.of (w := W3) inferInstance).h.cell (p := ⟨w.heap.size + 1, 0, none⟩) bb).trans kb0, ((Step.of (w := W3) inferInstance).h.cell (p := ⟨w.heap.size + 1, 1, none⟩) bb).trans kb1, Step.of inferInstance⟩ (fun hHeld => ?_)
                clear hK K
                refine wpAnyH_ready (rs := [13]) (by kernel_rfl) (by simp) ?_
                refine AllReadyH.cons rfl (fun K hK => ?_) AllReadyH.nil
                refine pos_in (by rfl) ?_
                simp only [List.getElem_toArray, List.getElem_cons_zero, List.getElem_cons_succ]
                refine wp_store_mid 22 (.tmp 14) (.tmp 71) (by rfl) _ 0 F1.toArray (by rfl) (by rfl) (by rw [eF1]; exact World.there_setCells n14.2.2 _ _ _) (by rw [eF1]; exact size32) oF1.out ?_
                simp only [Act.put, List.setIfInBounds_toArray, List.set_cons_zero, List.set_cons_succ]
                have SB : Step W3 (((x2.alloc (.cells Z 22)).setCells (x2.heap.size) 0 F0.toArray.toList).setCells (W3.heap.size) 0 F1.toArray.toList) := ⟨Lg.below_setCells n14.1 _ _ _ SA.h⟩
                refine hK.out _ _ ⟨((Step.of (w := W3) inferInstance).h.cell (p := ⟨w.heap.size, 0, none⟩) ba).trans ka0, ((Step.of (w := W3) inferInstance).h.cell (p := ⟨w.heap.size, 1, none⟩) ba).trans ka1, ((Step.of (w := W3) inferInstance).h.cell (p := ⟨w.heap.size + 1, 0, none⟩) bb).trans kb0, ((Step.of (w := W3) inferInstance).h.cell (p := ⟨w.heap.size + 1, 1, none⟩) bb).trans kb1, Step.of inferInstance⟩ (fun hHeld => ?_)
                clear hK K
                refine wpAnyH_done (by kernel_rfl) ?_ _
                have h5 := two_stores n13 n14 hne lF0 lF1
                try simp only [World.size_alloc] at h5
                go_wp2_with fail
                go_meet
                exact ⟨_, _, rfl, rfl, Lib.hid ⟨h5.2.1, h5.2.2.1, h5.2.2.2.1, h5.2.2.2.2, h5.1⟩⟩
            · refine pos_in (by rfl) ?_
              simp only [List.getElem_toArray, List.getElem_cons_zero, List.getElem_cons_succ]
              refine wpA 22 (by rfl) Z hz.out ?_
              simp only [Act.put, List.setIfInBounds_toArray, List.set_cons_zero, List.set_cons_succ, World.size_alloc]
              have hne : x1.heap.size ≠ (W3.heap.size) := by have := n14.2.1; (try simp only [World.size_alloc] at this); omega
              have n14 := n14.to (w' := (x1.alloc (.cells Z 22)))
              have n13 : New W3 (x1.alloc (.cells Z 22)) (x1.heap.size) := by have h := New.made W3 (w := x1) Z 22 hsz; simpa only [World.size_alloc] using h
              refine hK.out _ _ ⟨((Step.of (w := W3) inferInstance).h.cell (p := ⟨w.heap.size, 0, none⟩) ba).trans ka0, ((Step.of (w := W3) inferInstance).h.cell (p := ⟨w.heap.size, 1, none⟩) ba).trans ka1, ((Step.of (w := W3) inferInstance).h.cell (p := ⟨w.heap.size + 1, 0, none⟩) bb).trans kb0, ((Step.of (w := W3) inferInstance).h.cell (p := ⟨w.heap.size + 1, 1, none⟩) bb).trans kb1, Step.of inferInstance⟩ (fun hHeld => ?_)
              clear hK K
              refine wpAnyH_ready (rs := [9]) (by kernel_rfl) (by simp) ?_
              refine (AllReadyH.cons rfl (fun K hK => ?_) AllReadyH.nil)
              · refine pos_in (by rfl) ?_
                simp only [List.getElem_toArray, List.getElem_cons_zero, List.getElem_cons_succ]
                go_simp
                refine (cB _ hL.to).mono ?_
                rintro e x3 ⟨rfl, T3⟩
                have n14 := n14.to (w' := x3)
                have n13 := n13.to (w' := x3)
                refine hK.out _ _ ⟨((Step.of (w := W3) inferInstance).h.cell (p := ⟨w.heap.size, 0, none⟩) ba).trans ka0, ((Step.of (w := W3) inferInstance).h.cell (p := ⟨w.heap.size, 1, none⟩) ba).trans ka1, ((Step.of (w := W3) inferInstance).h.cell (p := ⟨w.heap.size + 1, 0, none⟩) bb).trans kb0, ((Step.of (w := W3) inferInstance).h.cell (p := ⟨w.heap.size + 1, 1, none⟩) bb).trans kb1, Step.of inferInstance⟩ (fun hHeld => ?_)
                clear hK K
                refine wpAnyH_ready (rs := [12]) (by kernel_rfl) (by simp) ?_
                refine AllReadyH.cons rfl (fun K hK => ?_) AllReadyH.nil
                refine pos_in (by rfl) ?_
                simp only [List.getElem_toArray, List.getElem_cons_zero, List.getElem_cons_succ]
                refine wp_store_mid 22 (.tmp 13) (.tmp 66) (by rfl) _ 0 F0.toArray (by rfl) (by rfl) (by rw [eF0]; exact n13.2.2) (by rw [eF0]; exact size32) oF0.out ?_
                simp only [Act.put, List.setIfInBounds_toArray, List.set_cons_zero, List.set_cons_succ]
                have SA : Step W3 (x3.setCells (x1.heap.size) 0 F0.toArray.toList) := ⟨Lg.below_setCells n13.1 _ _ _ (inferInstance : Ext W3 x3).h⟩
                refine hK.out _ _ ⟨((Step.of (w := W3) inferInstance).h.cell (p := ⟨w.heap.size, 0, none⟩) ba).trans ka0, ((Step.of (w := W3) inferInstance).h.cell (p := ⟨w.heap.size, 1, none⟩) ba).trans ka1, ((Step.of (w := W3) inferInstance).h.cell (p := ⟨w.heap.size + 1, 0, none⟩) bb).trans kb0, ((Step.of (w := W3) inferInstance).h.cell (p := ⟨w.heap.size + 1, 1, none⟩) bb).trans kb1, Step.of inferInstance⟩ (fun hHeld => ?_)
                clear hK K
                refine wpAnyH_ready (rs := [13]) (by kernel_rfl) (by simp) ?_
                refine AllReadyH.cons rfl (fun K hK => ?_) AllReadyH.nil
                refine pos_in (by rfl) ?_
                simp only [List.getElem_toArray, List.getElem_cons_zero, List.getElem_cons_succ]
                refine wp_store_mid 22 (.tmp 14) (.tmp 71) (by rfl) _ 0 F1.toArray (by rfl) (by rfl) (by rw [eF1]; exact World.there_setCells n14.2.2 _ _ _) (by rw [eF1]; exact size32) oF1.out ?_
                simp only [Act.put, List.setIfInBounds_toArray, List.set_cons_zero, List.set_cons_succ]
                have SB : Step W3 ((x3.setCells (x1.heap.size) 0 F0.toArray.toList).setCells (W3.heap.size) 0 F1.toArray.toList) := ⟨Lg.below_setCells n14.1 _ _ _ SA.h⟩
                refine hK.out _ _ ⟨((Step.of (w := W3) inferInstance).h.cell (p := ⟨w.heap.size, 0, none⟩) ba).trans ka0, ((Step.of (w := W3) inferInstance).h.cell (p := ⟨w.heap.size, 1, none⟩) ba).trans ka1, ((Step.of (w := W3) inferInstance).h.cell (p := ⟨w.heap.size + 1, 0, none⟩) bb).trans kb0, ((Step.of (w := W3) inferInstance).h.cell (p := ⟨w.heap.size + 1, 1, none⟩) bb).trans kb1, Step.of inferInstance⟩ (fun hHeld => ?_)
                clear hK K
                refine wpAnyH_done (by kernel_rfl) ?_ _
                have h5 := two_stores n13 n14 hne lF0 lF1
                try simp only [World.size_alloc] at h5
                go_wp2_with fail
                go_meet
                exact ⟨_, _, rfl, rfl, Lib.hid ⟨h5.2.1, h5.2.2.1, h5.2.2.2.1, h5.2.2.2.2, h5.1⟩⟩
          · as_aux_lemma =>
            refine pos_in (by rfl) ?_
            simp only [List.getElem_toArray, List.getElem_cons_zero, List.getElem_cons_succ]
            refine wpA 22 (by rfl) Z hz.out ?_
            simp only [Act.put, List.setIfInBounds_toArray, List.set_cons_zero, List.set_cons_succ, World.size_alloc]
            have hne : W3.heap.size + 1 ≠ (W3.heap.size) := by have := n14.2.1; (try simp only [World.size_alloc] at this); omega
            have n14 := n14.to (w' := ((W3.alloc (.cells Z 22)).alloc (.cells Z 22)))
            have n13 : New W3 ((W3.alloc (.cells Z 22)).alloc (.cells Z 22)) (W3.heap.size + 1) := by have h := New.made W3 (w := (W3.alloc (.cells Z 22))) Z 22 hsz; simpa only [World.size_alloc] using h
            refine hK.out _ _ ⟨((Step.of (w := W3) inferInstance).h.cell (p := ⟨w.heap.size, 0, none⟩) ba).trans ka0, ((Step.of (w := W3) inferInstance).h.cell (p := ⟨w.heap.size, 1, none⟩) ba).trans ka1, ((Step.of (w := W3) inferInstance).h.cell (p := ⟨w.heap.size + 1, 0, none⟩) bb).trans kb0, ((Step.of (w := W3) inferInstance).h.cell (p := ⟨w.heap.size + 1, 1, none⟩) bb).trans kb1, Step.of inferInstance⟩ (fun hHeld => ?_)
            clear hK K
            refine wpAnyH_ready (rs := [4]) (by kernel_rfl) (by simp) ?_
            refine (AllReadyH.cons rfl (fun K hK => ?_) AllReadyH.nil)
            · refine pos_in (by rfl) ?_
              simp only [List.getElem_toArray, List.getElem_cons_zero, List.getElem_cons_succ]
              go_simp
              refine (cA _ hL.to).mono ?_
              rintro e x2 ⟨rfl, T2⟩
              have n14 := n14.to (w' := x2)
              have n13 := n13.to (w' := x2)
              refine hK.out _ _ ⟨((Step.of (w := W3) inferInstance).h.cell (p := ⟨w.heap.size, 0, none⟩) ba).trans ka0, ((Step.of (w := W3) inferInstance).h.cell (p := ⟨w.heap.size, 1, none⟩) ba).trans ka1, ((Step.of (w := W3) inferInstance).h.cell (p := ⟨w.heap.size + 1, 0, none⟩) bb).trans kb0, ((Step.of (w := W3) inferInstance).h.cell (p := ⟨w.heap.size + 1, 1, none⟩) bb).trans kb1, Step.of inferInstance⟩ (fun hHeld => ?_)
              clear hK K
              refine wpAnyH_ready (rs := [9]) (by kernel_rfl) (by simp) ?_
              refine (AllReadyH.cons rfl (fun K hK => ?_) AllReadyH.nil)
              · refine pos_in (by rfl) ?_
                simp only [List.getElem_toArray, List.getElem_cons_zero, List.getElem_cons_succ]
                go_simp
                refine (cB _ hL.to).mono ?_
                rintro e x3 ⟨rfl, T3⟩
                have n14 := n14.to (w' := x3)
                have n13 := n13.to (w' := x3)
                refine hK.out _ _ ⟨((Step.of (w := W3) inferInstance).h.cell (p := ⟨w.heap.size, 0, none⟩) ba).trans ka0, ((Step.of (w := W3) inferInstance).h.cell (p := ⟨w.heap.size, 1, none⟩) ba).trans ka1, ((Step.of (w := W3) inferInstance).h.cell (p := ⟨w.heap.size + 1, 0, none⟩) bb).trans kb0, ((Step.of (w := W3) inferInstance).h.cell (p := ⟨w.heap.size + 1, 1, none⟩) bb).trans kb1, Step.of inferInstance⟩ (fun hHeld => ?_)
                clear hK K
                refine wpAnyH_ready (rs := [12]) (by kernel_rfl) (by simp) ?_
                refine AllReadyH.cons rfl (fun K hK => ?_) AllReadyH.nil
                refine pos_in (by rfl) ?_
                simp only [List.getElem_toArray, List.getElem_cons_zero, List.getElem_cons_succ]
                refine wp_store_mid 22 (.tmp 13) (.tmp 66) (by rfl) _ 0 F0.toArray (by rfl) (by rfl) (by rw [eF0]; exact n13.2.2) (by rw [eF0]; exact size32) oF0.out ?_
                simp only [Act.put, List.setIfInBounds_toArray, List.set_cons_zero, List.set_cons_succ]
                have SA : Step W3 (x3.setCells (W3.heap.size + 1) 0 F0.toArray.toList) := ⟨Lg.below_setCells n13.1 _ _ _ (inferInstance : Ext W3 x3).h⟩
                refine hK.out _ _ ⟨((Step.of (w := W3) inferInstance).h.cell (p := ⟨w.heap.size, 0, none⟩) ba).trans ka0, ((Step.of (w := W3) inferInstance).h.cell (p := ⟨w.heap.size, 1, none⟩) ba).trans ka1, ((Step.of (w := W3) inferInstance).h.cell (p := ⟨w.heap.size + 1, 0, none⟩) bb).trans kb0, ((Step.of (w := W3) inferInstance).h.cell (p := ⟨w.heap.size + 1, 1, none⟩) bb).trans kb1, Step.of inferInstance⟩ (fun hHeld => ?_)
                clear hK K
                refine wpAnyH_ready (rs := [13]) (by kernel_rfl) (by simp) ?_
                refine AllReadyH.cons rfl (fun K hK => ?_) AllReadyH.nil
                refine pos_in (by rfl) ?_
                simp only [List.getElem_toArray, List.getElem_cons_zero, List.getElem_cons_succ]
                refine wp_store_mid 22 (.tmp 14) (.tmp 71) (by rfl) _ 0 F1.toArray (by rfl) (by rfl) (by rw [eF1]; exact World.there_setCells n14.2.2 _ _ _) (by rw [eF1]; exact size32) oF1.out ?_
                simp only [Act.put, List.setIfInBounds_toArray, List.set_cons_zero, List.set_cons_succ]
                have SB : Step W3 ((x3.setCells (W3.heap.size + 1) 0 F0.toArray.toList).setCells (W3.heap.size) 0 F1.toArray.toList) := ⟨Lg.below_setCells n14.1 _ _ _ SA.h⟩
                refine hK.out _ _ ⟨((Step.of (w := W3) inferInstance).h.cell (p := ⟨w.heap.size, 0, none⟩) ba).trans ka0, ((Step.of (w := W3) inferInstance).h.cell (p := ⟨w.heap.size, 1, none⟩) ba).trans ka1, ((Step.of (w := W3) inferInstance).h.cell (p := ⟨w.heap.size + 1, 0, none⟩) bb).trans kb0, ((Step.of (w := W3) inferInstance).h.cell (p := ⟨w.heap.size + 1, 1, none⟩) bb).trans kb1, Step.of inferInstance⟩ (fun hHeld => ?_)
                clear hK K
                refine wpAnyH_done (by kernel_rfl) ?_ _
                have h5 := two_stores n13 n14 hne lF0 lF1
                try simp only [World.size_alloc] at h5
                go_wp2_with fail
                go_meet
                exact ⟨_, _, rfl, rfl, Lib.hid ⟨h5.2.1, h5.2.2.1, h5.2.2.2.1, h5.2.2.2.2, h5.1⟩⟩
      case rest =>
        obtain ⟨g, h, rfl, rfl, hcut⟩ := hcut
        obtain ⟨W4, hW4⟩ : ∃ x, x = wc := ⟨_, rfl⟩
        subst hW4
        have S4 : Step W3 W4 := hcut.out.2.2.2.2
        have ma0 := (S4.h.cell (p := ⟨w.heap.size, 0, none⟩) ba).trans ka0
        have ma1 := (S4.h.cell (p := ⟨w.heap.size, 1, none⟩) ba).trans ka1
        have mb0 := (S4.h.cell (p := ⟨w.heap.size + 1, 0, none⟩) bb).trans kb0
        have mb1 := (S4.h.cell (p := ⟨w.heap.size + 1, 1, none⟩) bb).trans kb1
        have ml0 := (S4.h.cell (p := ⟨w.heap.size + 1 + 1, 0, none⟩) bl3).trans kl0
        have ml1 := (S4.h.cell (p := ⟨w.heap.size + 1 + 1, 1, none⟩) bl3).trans kl1
        have HR := Lib.hid hcut.out.1
        have HD := Lib.hid hcut.out.2.1
        have Hg := Lib.hid hcut.out.2.2.1
        have Hh := Lib.hid hcut.out.2.2.2.1
        go_upto_region 12 with fail
        go_cut [87] (fun s87 wx => s87 = .bool false ∧ W4 = wx)
        case first =>
          as_aux_lemma =>
          cases ab
          · go_wp2_with fail
            go_meet
            exact ⟨rfl, rfl⟩
          · have hT := heF rfl
            subst hT
            go_wp2_with (first
              | refine wpLoadG (by rfl) 22 (.tmp 13) (by rfl) g 0 (by rfl) F0 _ HR.out Tryd.underlying22 rfl i24F0 ?_
              | refine wpLoadG (by rfl) 22 (.tmp 14) (by rfl) h 0 (by rfl) F1 _ HD.out Tryd.underlying22 rfl i24F1 ?_)
            go_meet
            exact ⟨rfl, rfl⟩
        case rest =>
        obtain ⟨rfl, hw⟩ := hcut
        subst hw
        go_upto_block 4 with fail
        go_cut [15] (fun s15 wx => ∃ b : Bool, s15 = .bool b ∧ Hid (b = true ↔ ls = ks) ∧ Hid (Step W4 wx))
        case first =>
          as_aux_lemma =>
          have hall : Hid ((n = m ∧ ∀ i, i < n → ls.getD i [] = ks.getD i []) ↔ ls = ks) := Lib.hid (lists_eq ls ks n m HN.out HM.out)
          have bl4 : w.heap.size + 1 + 1 < W4.heap.size := Nat.lt_of_lt_of_le bl3 S4.h.size
          have hrc : Hid (RowsB W4 A ls) := Lib.hid (hr3.out.to)
          have grc : Hid (RowsB W4 B ks) := Lib.hid (gr3.out.to)
          have n31 : n ≤ 31 := hgood.out.1
          have n31I : (n : Int) ≤ 31 := by omega
          clear HR HD hr3 gr3 hr1 gr1 cS hgood cT0 cT1 cX0 cX1 cD hfin hUU
          go_wp2_with fail
          go_loopw [15, 16] (fun v i wr => ∃ (b : Bool) (j : Nat), v = .bool b ∧ i = .int .i64 j ∧ j ≤ n ∧ Hid (b = true ↔ n = m ∧ ∀ i, i < j → ls.getD i [] = ks.getD i []) ∧ Hid (Step W4 wr)) (fun _ i _ => n - (intOf i).toNat)
          case atStart => exact ⟨((n : Int) == (m : Int)), 0, rfl, rfl, Nat.zero_le _, Lib.hid (by simp; omega), Lib.hid (Step.of inferInstance)⟩
          case round =>
            obtain ⟨b, j, rfl, rfl, hj, hb, hS⟩ := hrel
            have SW : Step W4 wr := hS.out
            have ml0' := ((Step.of (w := W4) (w' := wr) inferInstance).h.cell (p := ⟨w.heap.size + 1 + 1, 0, none⟩) bl4).trans ml0
            have ml1' := ((Step.of (w := W4) (w' := wr) inferInstance).h.cell (p := ⟨w.heap.size + 1 + 1, 1, none⟩) bl4).trans ml1
            clear hS
            by_cases hlt : j < n
            · have hjI : (j : Int) < n := by omega
              cases b
              · have hE : Hid (false = true ↔ ls = ks) := Lib.hid ⟨(fun h => by cases h), fun h => by
                  have h2 := hall.out.2 h
                  exact hb.out.2 ⟨h2.1, fun i hi => h2.2 i (by omega)⟩⟩
                have hS := Lib.hid SW
                clear hall hb hrc grc
                go_wp2
                go_meet
                exact ⟨false, rfl, hE, hS⟩
              · have hb1 := hb.out.1 rfl
                have hnm : n = m := hb1.1
                have hpre := Lib.hid hb1.2
                have hjm : (j : Int) < m := by omega
                obtain ⟨ad, X, x, rfl, hax, hcx, hRx⟩ := hrc.out.at (j := j) (by rw [HN.out]; exact hlt)
                obtain ⟨bd, Y, y, rfl, hay, hcy, hRy⟩ := grc.out.at (j := j) (by rw [HM.out]; omega)
                have bx : (ad.add j).block < W4.heap.size := by rw [blockAdd]; exact hax
                have bY : (bd.add j).block < W4.heap.size := by rw [blockAdd]; exact hay
                have hst : Hid (∀ b' : Bool, (b' = true ↔ ls.getD j [] = ks.getD j []) → (b' = true ↔ n = m ∧ ∀ i, i < j + 1 → ls.getD i [] = ks.getD i [])) := Lib.hid fun b' h => ⟨fun h1 => ⟨hnm, fun i hi => by
                    by_cases e : i = j
                    · subst e; exact h.1 h1
                    · exact hpre.out i (by omega)⟩, fun h1 => h.2 (h1.2 j (by omega))⟩
                have hb1 := Lib.hid (b8r.out j)
                have hb2 := Lib.hid (b8k.out j)
                generalize ls.getD j [] = row at hcx hRx hst hb1
                generalize ks.getD j [] = row2 at hcy hRy hst hb2
                have j0 : (0 : Int) ≤ (j : Int) := by omega
                have hj1 : j + 1 ≤ n := hlt
                have hnm2 := Lib.hid hnm
                clear hnm hrc grc hall hb hpre
                go_wp2_with fail
                by_cases hrr : row = row2
                · as_aux_lemma =>
                  subst hrr
                  have hR := Lib.hid (hst.out true ⟨fun _ => rfl, fun _ => rfl⟩)
                  clear hst hb1 hb2
                  refine wp_region_held_drew (S := fun w' => w'.cell? ⟨w.heap.size + 1 + 1, 0, none⟩ = some (.slice (some ad) n c) ∧ w'.cell? ⟨w.heap.size + 1 + 1, 1, none⟩ = some (.slice (some bd) m d) ∧ w'.cell? (ad.add j) = some (.slice X row.length x) ∧ w'.cell? (bd.add j) = some (.slice Y row.length y) ∧ R8 w' X row ∧ R8 w' Y row ∧ Step W4 w') (by kernel_rfl) ⟨((Step.of (w := W4) inferInstance).h.cell bl4).trans ml0, ((Step.of (w := W4) inferInstance).h.cell bl4).trans ml1, ((Step.of (w := W4) inferInstance).h.cell bx).trans hcx, ((Step.of (w := W4) inferInstance).h.cell bY).trans hcy, hRx.to, hRy.to, Step.of inferInstance⟩ (fun hHeld => ?_)
                  refine wpAnyH_take (i := 0) (v := ?_) rfl (by kernel_rfl) (by kernel_rfl) (by kernel_rfl) (fun _ _ _ h => h) (Or.inl ⟨by rfl, ?_⟩) hHeld ?_
                  rotate_left
                  · intro w hSw
                    obtain ⟨h1, h2, h3, h4, h5, h6, h7⟩ := hSw
                    simp only [List.getElem_toArray, List.getElem_cons_zero]
                    go_simp
                    try with_reducible rfl
                  simp only [List.getElem_toArray, List.getElem_cons_zero, Act.put, List.setIfInBounds_toArray, List.set_cons_zero, List.set_cons_succ]
                  refine wpAnyH_take (i := 1) (v := ?_) rfl (by kernel_rfl) (by kernel_rfl) (by kernel_rfl) (fun _ _ _ h => h) (Or.inl ⟨by rfl, ?_⟩) hHeld ?_
                  rotate_left
                  · intro w hSw
                    obtain ⟨h1, h2, h3, h4, h5, h6, h7⟩ := hSw
                    simp only [List.getElem_toArray, List.getElem_cons_zero, List.getElem_cons_succ]
                    go_simp
                    try with_reducible rfl
                  simp only [List.getElem_toArray, List.getElem_cons_zero, List.getElem_cons_succ, Act.put, List.setIfInBounds_toArray, List.set_cons_zero, List.set_cons_succ]
                  refine wpAnyH_take (i := 2) (v := ?_) rfl (by kernel_rfl) (by kernel_rfl) (by kernel_rfl) (fun _ _ _ h => h) (Or.inl ⟨by rfl, ?_⟩) hHeld ?_
                  rotate_left
                  · intro w hSw
                    obtain ⟨h1, h2, h3, h4, h5, h6, h7⟩ := hSw
                    simp only [List.getElem_toArray, List.getElem_cons_zero, List.getElem_cons_succ]
                    go_simp
                    try with_reducible rfl
                  simp only [List.getElem_toArray, List.getElem_cons_zero, List.getElem_cons_succ, Act.put, List.setIfInBounds_toArray, List.set_cons_zero, List.set_cons_succ]
                  refine wpAnyH_take (i := 3) (v := ?_) rfl (by kernel_rfl) (by kernel_rfl) (by kernel_rfl) (fun _ _ _ h => h) (Or.inl ⟨by rfl, ?_⟩) hHeld ?_
                  rotate_left
                  · intro w hSw
                    obtain ⟨h1, h2, h3, h4, h5, h6, h7⟩ := hSw
                    simp only [List.getElem_toArray, List.getElem_cons_zero, List.getElem_cons_succ]
                    go_simp
                    try with_reducible rfl
                  simp only [List.getElem_toArray, List.getElem_cons_zero, List.getElem_cons_succ, Act.put, List.setIfInBounds_toArray, List.set_cons_zero, List.set_cons_succ]
                  refine wpAnyH_take (i := 4) (v := ?_) rfl (by kernel_rfl) (by kernel_rfl) (by kernel_rfl) (fun _ _ _ h => h) (Or.inl ⟨by rfl, ?_⟩) hHeld ?_
                  rotate_left
                  · intro w hSw
                    obtain ⟨h1, h2, h3, h4, h5, h6, h7⟩ := hSw
                    simp only [List.getElem_toArray, List.getElem_cons_zero, List.getElem_cons_succ]
                    go_simp
                    try with_reducible rfl
                  simp only [List.getElem_toArray, List.getElem_cons_zero, List.getElem_cons_succ, Act.put, List.setIfInBounds_toArray, List.set_cons_zero, List.set_cons_succ]
                  refine wpAnyH_take (i := 5) (v := ?_) rfl (by kernel_rfl) (by kernel_rfl) (by kernel_rfl) (fun _ _ _ h => h) (Or.inl ⟨by rfl, ?_⟩) hHeld ?_
                  rotate_left
                  · intro w hSw
                    obtain ⟨h1, h2, h3, h4, h5, h6, h7⟩ := hSw
                    have hcv := conv w X row.length x row rfl h5
                    simp only [List.getElem_toArray, List.getElem_cons_zero, List.getElem_cons_succ]
                    go_simp
                    try with_reducible rfl
                  simp only [List.getElem_toArray, List.getElem_cons_zero, List.getElem_cons_succ, Act.put, List.setIfInBounds_toArray, List.set_cons_zero, List.set_cons_succ]
                  refine wpAnyH_take (i := 6) (v := ?_) rfl (by kernel_rfl) (by kernel_rfl) (by kernel_rfl) (fun _ _ _ h => h) (Or.inl ⟨by rfl, ?_⟩) hHeld ?_
                  rotate_left
                  · intro w hSw
                    obtain ⟨h1, h2, h3, h4, h5, h6, h7⟩ := hSw
                    simp only [List.getElem_toArray, List.getElem_cons_zero, List.getElem_cons_succ]
                    go_simp
                    try with_reducible rfl
                  simp only [List.getElem_toArray, List.getElem_cons_zero, List.getElem_cons_succ, Act.put, List.setIfInBounds_toArray, List.set_cons_zero, List.set_cons_succ]
                  refine wpAnyH_take (i := 7) (v := ?_) rfl (by kernel_rfl) (by kernel_rfl) (by kernel_rfl) (fun _ _ _ h => h) (Or.inl ⟨by rfl, ?_⟩) hHeld ?_
                  rotate_left
                  · intro w hSw
                    obtain ⟨h1, h2, h3, h4, h5, h6, h7⟩ := hSw
                    simp only [List.getElem_toArray, List.getElem_cons_zero, List.getElem_cons_succ]
                    go_simp
                    try with_reducible rfl
                  simp only [List.getElem_toArray, List.getElem_cons_zero, List.getElem_cons_succ, Act.put, List.setIfInBounds_toArray, List.set_cons_zero, List.set_cons_succ]
                  refine wpAnyH_take (i := 8) (v := ?_) rfl (by kernel_rfl) (by kernel_rfl) (by kernel_rfl) (fun _ _ _ h => h) (Or.inl ⟨by rfl, ?_⟩) hHeld ?_
                  rotate_left
                  · intro w hSw
                    obtain ⟨h1, h2, h3, h4, h5, h6, h7⟩ := hSw
                    simp only [List.getElem_toArray, List.getElem_cons_zero, List.getElem_cons_succ]
                    go_simp
                    try with_reducible rfl
                  simp only [List.getElem_toArray, List.getElem_cons_zero, List.getElem_cons_succ, Act.put, List.setIfInBounds_toArray, List.set_cons_zero, List.set_cons_succ]
                  refine wpAnyH_take (i := 9) (v := ?_) rfl (by kernel_rfl) (by kernel_rfl) (by kernel_rfl) (fun _ _ _ h => h) (Or.inl ⟨by rfl, ?_⟩) hHeld ?_
                  rotate_left
                  · intro w hSw
                    obtain ⟨h1, h2, h3, h4, h5, h6, h7⟩ := hSw
                    simp only [List.getElem_toArray, List.getElem_cons_zero, List.getElem_cons_succ]
                    go_simp
                    try with_reducible rfl
                  simp only [List.getElem_toArray, List.getElem_cons_zero, List.getElem_cons_succ, Act.put, List.setIfInBounds_toArray, List.set_cons_zero, List.set_cons_succ]
                  refine wpAnyH_take (i := 10) (v := ?_) rfl (by kernel_rfl) (by kernel_rfl) (by kernel_rfl) (fun _ _ _ h => h) (Or.inl ⟨by rfl, ?_⟩) hHeld ?_
                  rotate_left
                  · intro w hSw
                    obtain ⟨h1, h2, h3, h4, h5, h6, h7⟩ := hSw
                    simp only [List.getElem_toArray, List.getElem_cons_zero, List.getElem_cons_succ]
                    go_simp
                    try with_reducible rfl
                  simp only [List.getElem_toArray, List.getElem_cons_zero, List.getElem_cons_succ, Act.put, List.setIfInBounds_toArray, List.set_cons_zero, List.set_cons_succ]
                  refine wpAnyH_take (i := 11) (v := ?_) rfl (by kernel_rfl) (by kernel_rfl) (by kernel_rfl) (fun _ _ _ h => h) (Or.inl ⟨by rfl, ?_⟩) hHeld ?_
                  rotate_left
                  · intro w hSw
                    obtain ⟨h1, h2, h3, h4, h5, h6, h7⟩ := hSw
                    have hcv := conv w Y row.length y row rfl h6
                    simp only [List.getElem_toArray, List.getElem_cons_zero, List.getElem_cons_succ]
                    go_simp
                    try with_reducible rfl
                  simp only [List.getElem_toArray, List.getElem_cons_zero, List.getElem_cons_succ, Act.put, List.setIfInBounds_toArray, List.set_cons_zero, List.set_cons_succ]
                  refine wpAnyH_take (i := 12) (v := ?_) rfl (by kernel_rfl) (by kernel_rfl) (by kernel_rfl) (fun _ _ _ h => h) (Or.inl ⟨by rfl, ?_⟩) hHeld ?_
                  rotate_left
                  · intro w hSw
                    obtain ⟨h1, h2, h3, h4, h5, h6, h7⟩ := hSw
                    simp only [List.getElem_toArray, List.getElem_cons_zero, List.getElem_cons_succ]
                    go_simp
                    try with_reducible rfl
                  simp only [List.getElem_toArray, List.getElem_cons_zero, List.getElem_cons_succ, Act.put, List.setIfInBounds_toArray, List.set_cons_zero, List.set_cons_succ]
                  refine wpAnyH_take (i := 13) (v := ?_) rfl (by kernel_rfl) (by kernel_rfl) (by kernel_rfl) (fun _ _ _ h => h) (Or.inl ⟨by rfl, ?_⟩) hHeld ?_
                  rotate_left
                  · intro w hSw
                    obtain ⟨h1, h2, h3, h4, h5, h6, h7⟩ := hSw
                    simp only [List.getElem_toArray, List.getElem_cons_zero, List.getElem_cons_succ]
                    go_simp
                    try with_reducible rfl
                  simp only [List.getElem_toArray, List.getElem_cons_zero, List.getElem_cons_succ, Act.put, List.setIfInBounds_toArray, List.set_cons_zero, List.set_cons_succ]
                  refine wpAnyH_done (by kernel_rfl) ?_ _
                  go_wp2
                  go_roundw
                  case rel => exact ⟨true, j + 1, rfl, by go_num, hj1, hR, Lib.hid (Step.of inferInstance)⟩
                  case measure => simp [intOf]; omega
                · as_aux_lemma =>
                  have hR := Lib.hid (hst.out false ⟨(fun h => by cases h), fun h => absurd h hrr⟩)
                  have hne := str_ne hb1.out hb2.out hrr
                  clear hst hb1 hb2
                  refine wp_region_held_drew (S := fun w' => w'.cell? ⟨w.heap.size + 1 + 1, 0, none⟩ = some (.slice (some ad) n c) ∧ w'.cell? ⟨w.heap.size + 1 + 1, 1, none⟩ = some (.slice (some bd) m d) ∧ w'.cell? (ad.add j) = some (.slice X row.length x) ∧ w'.cell? (bd.add j) = some (.slice Y row2.length y) ∧ R8 w' X row ∧ R8 w' Y row2 ∧ Step W4 w') (by kernel_rfl) ⟨((Step.of (w := W4) inferInstance).h.cell bl4).trans ml0, ((Step.of (w := W4) inferInstance).h.cell bl4).trans ml1, ((Step.of (w := W4) inferInstance).h.cell bx).trans hcx, ((Step.of (w := W4) inferInstance).h.cell bY).trans hcy, hRx.to, hRy.to, Step.of inferInstance⟩ (fun hHeld => ?_)
                  refine wpAnyH_take (i := 0) (v := ?_) rfl (by kernel_rfl) (by kernel_rfl) (by kernel_rfl) (fun _ _ _ h => h) (Or.inl ⟨by rfl, ?_⟩) hHeld ?_
                  rotate_left
                  · intro w hSw
                    obtain ⟨h1, h2, h3, h4, h5, h6, h7⟩ := hSw
                    simp only [List.getElem_toArray, List.getElem_cons_zero]
                    go_simp
                    try with_reducible rfl
                  simp only [List.getElem_toArray, List.getElem_cons_zero, Act.put, List.setIfInBounds_toArray, List.set_cons_zero, List.set_cons_succ]
                  refine wpAnyH_take (i := 1) (v := ?_) rfl (by kernel_rfl) (by kernel_rfl) (by kernel_rfl) (fun _ _ _ h => h) (Or.inl ⟨by rfl, ?_⟩) hHeld ?_
                  rotate_left
                  · intro w hSw
                    obtain ⟨h1, h2, h3, h4, h5, h6, h7⟩ := hSw
                    simp only [List.getElem_toArray, List.getElem_cons_zero, List.getElem_cons_succ]
                    go_simp
                    try with_reducible rfl
                  simp only [List.getElem_toArray, List.getElem_cons_zero, List.getElem_cons_succ, Act.put, List.setIfInBounds_toArray, List.set_cons_zero, List.set_cons_succ]
                  refine wpAnyH_take (i := 2) (v := ?_) rfl (by kernel_rfl) (by kernel_rfl) (by kernel_rfl) (fun _ _ _ h => h) (Or.inl ⟨by rfl, ?_⟩) hHeld ?_
                  rotate_left
                  · intro w hSw
                    obtain ⟨h1, h2, h3, h4, h5, h6, h7⟩ := hSw
                    simp only [List.getElem_toArray, List.getElem_cons_zero, List.getElem_cons_succ]
                    go_simp
                    try with_reducible rfl
                  simp only [List.getElem_toArray, List.getElem_cons_zero, List.getElem_cons_succ, Act.put, List.setIfInBounds_toArray, List.set_cons_zero, List.set_cons_succ]
                  refine wpAnyH_take (i := 3) (v := ?_) rfl (by kernel_rfl) (by kernel_rfl) (by kernel_rfl) (fun _ _ _ h => h) (Or.inl ⟨by rfl, ?_⟩) hHeld ?_
                  rotate_left
                  · intro w hSw
                    obtain ⟨h1, h2, h3, h4, h5, h6, h7⟩ := hSw
                    simp only [List.getElem_toArray, List.getElem_cons_zero, List.getElem_cons_succ]
                    go_simp
                    try with_reducible rfl
                  simp only [List.getElem_toArray, List.getElem_cons_zero, List.getElem_cons_succ, Act.put, List.setIfInBounds_toArray, List.set_cons_zero, List.set_cons_succ]
                  refine wpAnyH_take (i := 4) (v := ?_) rfl (by kernel_rfl) (by kernel_rfl) (by kernel_rfl) (fun _ _ _ h => h) (Or.inl ⟨by rfl, ?_⟩) hHeld ?_
                  rotate_left
                  · intro w hSw
                    obtain ⟨h1, h2, h3, h4, h5, h6, h7⟩ := hSw
                    simp only [List.getElem_toArray, List.getElem_cons_zero, List.getElem_cons_succ]
                    go_simp
                    try with_reducible rfl
                  simp only [List.getElem_toArray, List.getElem_cons_zero, List.getElem_cons_succ, Act.put, List.setIfInBounds_toArray, List.set_cons_zero, List.set_cons_succ]
                  refine wpAnyH_take (i := 5) (v := ?_) rfl (by kernel_rfl) (by kernel_rfl) (by kernel_rfl) (fun _ _ _ h => h) (Or.inl ⟨by rfl, ?_⟩) hHeld ?_
                  rotate_left
                  · intro w hSw
                    obtain ⟨h1, h2, h3, h4, h5, h6, h7⟩ := hSw
                    have hcv := conv w X row.length x row rfl h5
                    simp only [List.getElem_toArray, List.getElem_cons_zero, List.getElem_cons_succ]
                    go_simp
                    try with_reducible rfl
                  simp only [List.getElem_toArray, List.getElem_cons_zero, List.getElem_cons_succ, Act.put, List.setIfInBounds_toArray, List.set_cons_zero, List.set_cons_succ]
                  refine wpAnyH_take (i := 6) (v := ?_) rfl (by kernel_rfl) (by kernel_rfl) (by kernel_rfl) (fun _ _ _ h => h) (Or.inl ⟨by rfl, ?_⟩) hHeld ?_
                  rotate_left
                  · intro w hSw
                    obtain ⟨h1, h2, h3, h4, h5, h6, h7⟩ := hSw
                    simp only [List.getElem_toArray, List.getElem_cons_zero, List.getElem_cons_succ]
                    go_simp
                    try with_reducible rfl
                  simp only [List.getElem_toArray, List.getElem_cons_zero, List.getElem_cons_succ, Act.put, List.setIfInBounds_toArray, List.set_cons_zero, List.set_cons_succ]
                  refine wpAnyH_take (i := 7) (v := ?_) rfl (by kernel_rfl) (by kernel_rfl) (by kernel_rfl) (fun _ _ _ h => h) (Or.inl ⟨by rfl, ?_⟩) hHeld ?_
                  rotate_left
                  · intro w hSw
                    obtain ⟨h1, h2, h3, h4, h5, h6, h7⟩ := hSw
                    simp only [List.getElem_toArray, List.getElem_cons_zero, List.getElem_cons_succ]
                    go_simp
                    try with_reducible rfl
                  simp only [List.getElem_toArray, List.getElem_cons_zero, List.getElem_cons_succ, Act.put, List.setIfInBounds_toArray, List.set_cons_zero, List.set_cons_succ]
                  refine wpAnyH_take (i := 8) (v := ?_) rfl (by kernel_rfl) (by kernel_rfl) (by kernel_rfl) (fun _ _ _ h => h) (Or.inl ⟨by rfl, ?_⟩) hHeld ?_
                  rotate_left
                  · intro w hSw
                    obtain ⟨h1, h2, h3, h4, h5, h6, h7⟩ := hSw
                    simp only [List.getElem_toArray, List.getElem_cons_zero, List.getElem_cons_succ]
                    go_simp
                    try with_reducible rfl
                  simp only [List.getElem_toArray, List.getElem_cons_zero, List.getElem_cons_succ, Act.put, List.setIfInBounds_toArray, List.set_cons_zero, List.set_cons_succ]
                  refine wpAnyH_take (i := 9) (v := ?_) rfl (by kernel_rfl) (by kernel_rfl) (by kernel_rfl) (fun _ _ _ h => h) (Or.inl ⟨by rfl, ?_⟩) hHeld ?_
                  rotate_left
                  · intro w hSw
                    obtain ⟨h1, h2, h3, h4, h5, h6, h7⟩ := hSw
                    simp only [List.getElem_toArray, List.getElem_cons_zero, List.getElem_cons_succ]
                    go_simp
                    try with_reducible rfl
                  simp only [List.getElem_toArray, List.getElem_cons_zero, List.getElem_cons_succ, Act.put, List.setIfInBounds_toArray, List.set_cons_zero, List.set_cons_succ]
                  refine wpAnyH_take (i := 10) (v := ?_) rfl (by kernel_rfl) (by kernel_rfl) (by kernel_rfl) (fun _ _ _ h => h) (Or.inl ⟨by rfl, ?_⟩) hHeld ?_
                  rotate_left
                  · intro w hSw
                    obtain ⟨h1, h2, h3, h4, h5, h6, h7⟩ := hSw
                    simp only [List.getElem_toArray, List.getElem_cons_zero, List.getElem_cons_succ]
                    go_simp
                    try with_reducible rfl
                  simp only [List.getElem_toArray, List.getElem_cons_zero, List.getElem_cons_succ, Act.put, List.setIfInBounds_toArray, List.set_cons_zero, List.set_cons_succ]
                  refine wpAnyH_take (i := 11) (v := ?_) rfl (by kernel_rfl) (by kernel_rfl) (by kernel_rfl) (fun _ _ _ h => h) (Or.inl ⟨by rfl, ?_⟩) hHeld ?_
                  rotate_left
                  · intro w hSw
                    obtain ⟨h1, h2, h3, h4, h5, h6, h7⟩ := hSw
                    have hcv := conv w Y row2.length y row2 rfl h6
                    simp only [List.getElem_toArray, List.getElem_cons_zero, List.getElem_cons_succ]
                    go_simp
                    try with_reducible rfl
                  simp only [List.getElem_toArray, List.getElem_cons_zero, List.getElem_cons_succ, Act.put, List.setIfInBounds_toArray, List.set_cons_zero, List.set_cons_succ]
                  refine wpAnyH_take (i := 12) (v := ?_) rfl (by kernel_rfl) (by kernel_rfl) (by kernel_rfl) (fun _ _ _ h => h) (Or.inl ⟨by rfl, ?_⟩) hHeld ?_
                  rotate_left
                  · intro w hSw
                    obtain ⟨h1, h2, h3, h4, h5, h6, h7⟩ := hSw
                    simp only [List.getElem_toArray, List.getElem_cons_zero, List.getElem_cons_succ]
                    go_simp
                    try with_reducible rfl
                  simp only [List.getElem_toArray, List.getElem_cons_zero, List.getElem_cons_succ, Act.put, List.setIfInBounds_toArray, List.set_cons_zero, List.set_cons_succ]
                  refine wpAnyH_take (i := 13) (v := ?_) rfl (by kernel_rfl) (by kernel_rfl) (by kernel_rfl) (fun _ _ _ h => h) (Or.inl ⟨by rfl, ?_⟩) hHeld ?_
                  rotate_left
                  · intro w hSw
                    obtain ⟨h1, h2, h3, h4, h5, h6, h7⟩ := hSw
                    simp only [List.getElem_toArray, List.getElem_cons_zero, List.getElem_cons_succ]
                    go_simp
                    try with_reducible rfl
                  simp only [List.getElem_toArray, List.getElem_cons_zero, List.getElem_cons_succ, Act.put, List.setIfInBounds_toArray, List.set_cons_zero, List.set_cons_succ]
                  refine wpAnyH_done (by kernel_rfl) ?_ _
                  go_wp2
                  go_roundw
                  case rel => exact ⟨false, j + 1, rfl, by go_num, hj1, hR, Lib.hid (Step.of inferInstance)⟩
                  case measure => simp [intOf]; omega
            · have hjn : j = n := by omega
              subst hjn
              have hE : Hid (b = true ↔ ls = ks) := Lib.hid (hb.out.trans hall.out)
              have hS := Lib.hid SW
              clear hall hb hrc grc
              go_wp2
              go_meet
              exact ⟨b, rfl, hE, hS⟩
        case rest =>
        obtain ⟨sm, rfl, hsm, hS5⟩ := hcut
        obtain ⟨W5, hW5⟩ : ∃ x, x = wc := ⟨_, rfl⟩
        subst hW5
        have S35 : Step W3 W5 := by
          have h2 : Step W4 W5 := hS5.out
          exact Step.of inferInstance
        have na0 := (S35.h.cell (p := ⟨w.heap.size, 0, none⟩) ba).trans ka0
        have na1 := (S35.h.cell (p := ⟨w.heap.size, 1, none⟩) ba).trans ka1
        have nb0 := (S35.h.cell (p := ⟨w.heap.size + 1, 0, none⟩) bb).trans kb0
        have nb1 := (S35.h.cell (p := ⟨w.heap.size + 1, 1, none⟩) bb).trans kb1
        have nl0 := (S35.h.cell (p := ⟨w.heap.size + 1 + 1, 0, none⟩) bl3).trans kl0
        have nl1 := (S35.h.cell (p := ⟨w.heap.size + 1 + 1, 1, none⟩) bl3).trans kl1
        have ca : w.heap.size < W5.heap.size := Nat.lt_of_lt_of_le ba S35.h.size
        have cb : w.heap.size + 1 < W5.heap.size := Nat.lt_of_lt_of_le bb S35.h.size
        have cl : w.heap.size + 1 + 1 < W5.heap.size := Nat.lt_of_lt_of_le bl3 S35.h.size
        clear ma0 ma1 mb0 mb1 ml0 ml1 cA cB
        go_upto_region 21 with (first
          | (go_at_call 14; ((with_reducible refine (cT0 _ hr3.out.to).mono ?_); rintro e w8 ⟨A8, c8, rfl, R0, S8⟩; have nl1 := (S8.h.cell (p := ⟨w.heap.size + 1 + 1, 1, none⟩) cl).trans nl1))
          | (go_at_call 14; ((with_reducible refine (cT1 _ gr3.out.to).mono ?_); rintro e w9 ⟨A9, c9, rfl, R1, S9⟩)))
        have e59 := (inferInstance : Ext W5 w9)
        have ma0 := (e59.h.cell (p := ⟨w.heap.size, 0, none⟩) ca).trans na0
        have ma1 := (e59.h.cell (p := ⟨w.heap.size, 1, none⟩) ca).trans na1
        have mb0 := (e59.h.cell (p := ⟨w.heap.size + 1, 0, none⟩) cb).trans nb0
        have mb1 := (e59.h.cell (p := ⟨w.heap.size + 1, 1, none⟩) cb).trans nb1
        have da : w.heap.size < w9.heap.size := Nat.lt_of_lt_of_le ca e59.size
        have db : w.heap.size + 1 < w9.heap.size := Nat.lt_of_lt_of_le cb e59.size
        go_cut [21] (fun s21 wx => ∃ td : Addr, s21 = .slice (some td) 4 4 ∧ Hid (RowsB wx (some td) [T0, T1, T2, T3]) ∧ Hid (Step W5 wx))
        case first =>
          as_aux_lemma =>
          clear hr3 gr3 cT0 cT1 hfin hUU cS HR HD
          go_region_held3 (fun w' => w'.cell? ⟨w.heap.size, 0, none⟩ = some (.int .u64 p) ∧ w'.cell? ⟨w.heap.size, 1, none⟩ = some (.int .u64 q) ∧ w'.cell? ⟨w.heap.size + 1, 0, none⟩ = some (.int .u64 r) ∧ w'.cell? ⟨w.heap.size + 1, 1, none⟩ = some (.int .u64 s) ∧ Step w9 w')
            (exact ⟨((Step.of (w := w9) inferInstance).h.cell da).trans ma0, ((Step.of (w := w9) inferInstance).h.cell da).trans ma1, ((Step.of (w := w9) inferInstance).h.cell db).trans mb0, ((Step.of (w := w9) inferInstance).h.cell db).trans mb1, Step.of inferInstance⟩)
            (first
              | (go_at_call 19; ((with_reducible refine (cX0 _).mono ?_); rintro e w10 ⟨A10, c10, rfl, R2, S10⟩; clear cX0))
              | (go_at_call 19; ((with_reducible refine (cX1 _).mono ?_); rintro e w11 ⟨A11, c11, rfl, R3, S11⟩)))
          all_goals
            go_wp2_with fail
            go_meet
            exact ⟨_, rfl, Lib.hid (rows4 _ _ _ _ _ _ _ _ _ _ _ _ _ _ _ T0 T1 T2 T3 (by simp) lT0 lT1 lT2 lT3 R0.to R1.to R2.to R3.to), Lib.hid (Step.of inferInstance)⟩
        case rest =>
        obtain ⟨td, rfl, hrows, hS6⟩ := hcut
        obtain ⟨W6, hW6⟩ : ∃ x, x = wc := ⟨_, rfl⟩
        subst hW6
        have SE6 : Step W5 W6 := hS6.out
        have ltx : Hid ([T0, T1, T2, T3].length = 4) := Lib.hid rfl
        generalize [T0, T1, T2, T3] = tx at cD hfin b8t hrows ltx
        go_upto_block 6 with fail
        go_cut [22] (fun s22 wx => ∃ b : Bool, s22 = .bool b ∧ Hid (b = false → ∀ i k, k < i → i < 4 → tx.getD i [] = tx.getD k [] ∨ eU i k = false) ∧ Hid (Step W6 wx))
        case first =>
          as_aux_lemma =>
          clear hfin cS HR HD
          go_wp2_with fail
          go_loopw [22, 23] (fun v i wr => ∃ (b : Bool) (a : Nat), v = .bool b ∧ i = .int .i64 a ∧ a ≤ 4 ∧ Hid (b = false → ∀ i k, k < i → i < a → tx.getD i [] = tx.getD k [] ∨ eU i k = false) ∧ Hid (Step W6 wr)) (fun _ i _ => 4 - (intOf i).toNat)
          case atStart => exact ⟨false, 0, rfl, rfl, by omega, Lib.hid (fun _ i k _ h => absurd h (Nat.not_lt_zero _)), Lib.hid (Step.of inferInstance)⟩
          case round =>
            obtain ⟨b0, a, rfl, rfl, ha, hb0, hS⟩ := hrel
            obtain ⟨w15, hw15⟩ : ∃ x, x = wr := ⟨_, rfl⟩
            subst hw15
            by_cases hlt : a < 4
            · have haI : (a : Int) < 4 := by omega
              have ha1 : a + 1 ≤ 4 := hlt
              have hbs : Hid (b0 = false → ∀ i k', k' < i → (i < a ∨ (i = a ∧ k' < 0)) → tx.getD i [] = tx.getD k' [] ∨ eU i k' = false) := Lib.hid fun h i k' h1 h2 => hb0.out h i k' h1 (by omega)
              clear hb0
              go_wp2_with fail
              go_loopw [22, 24] (fun v i wi => ∃ (b : Bool) (k : Nat), v = .bool b ∧ i = .int .i64 k ∧ k ≤ a ∧ Hid (b = false → ∀ i k', k' < i → (i < a ∨ (i = a ∧ k' < k)) → tx.getD i [] = tx.getD k' [] ∨ eU i k' = false) ∧ Hid (Step W6 wi)) (fun _ i _ => a - (intOf i).toNat)
              case atStart => exact ⟨b0, 0, rfl, rfl, Nat.zero_le _, hbs, hS⟩
              case round =>
                obtain ⟨b, k, rfl, rfl, hk, hb, hT⟩ := hrel
                have SW : Step W6 wr := hT.out
                clear hbs hS hT
                by_cases hka : k < a
                · have hkI : (k : Int) < a := by omega
                  have hk1 : k + 1 ≤ a := hka
                  have hk4 : (k : Int) < 4 := by omega
                  have k0 : (0 : Int) ≤ (k : Int) := by omega
                  have a0 : (0 : Int) ≤ (a : Int) := by omega
                  have hst : Hid (∀ b' : Bool, (b' = false → b = false ∧ (tx.getD a [] = tx.getD k [] ∨ eU a k = false)) → (b' = false → ∀ i k', k' < i → (i < a ∨ (i = a ∧ k' < k + 1)) → tx.getD i [] = tx.getD k' [] ∨ eU i k' = false)) := Lib.hid fun b' h h1 i k' h2 h3 => by
                    obtain ⟨h4, h5⟩ := h h1
                    by_cases e : i = a ∧ k' = k
                    · obtain ⟨rfl, rfl⟩ := e
                      exact h5
                    · exact hb.out h4 i k' h2 (by omega)
                  obtain ⟨td', X, x, htd, hax, hcx, hRx⟩ := hrows.out.at (j := a) (by rw [ltx.out]; exact hlt)
                  cases htd
                  obtain ⟨td', Y, y, htd, hay, hcy, hRy⟩ := hrows.out.at (j := k) (by rw [ltx.out]; omega)
                  cases htd
                  have bx : (td.add a).block < W6.heap.size := by rw [blockAdd]; exact hax
                  have bY : (td.add k).block < W6.heap.size := by rw [blockAdd]; exact hay
                  have hb1 := Lib.hid (b8t.out a)
                  have hb2 := Lib.hid (b8t.out k)
                  have cDa := cD.out a hlt
                  have cDk := cD.out k (by omega)
                  have hU := hUU.out a k
                  clear hb
                  go_wp2_with fail
                  cases b
                  · generalize hD : eU a k = D at hst hU
                    have hD2 := Lib.hid hD
                    generalize tx.getD a [] = row at hcx hRx hst hb1 cDa
                    generalize tx.getD k [] = row2 at hcy hRy hst hb2 cDk
                    generalize U a = Ua at cDa hU
                    generalize U k = Uk at cDk hU
                    clear hD hrows cD hUU b8t
                    by_cases hrr : row = row2
                    · as_aux_lemma =>
                      subst hrr
                      have hR := Lib.hid (hst.out false fun _ => ⟨rfl, .inl rfl⟩)
                      clear hst hb1 hb2 hD2 hU cDa cDk
                      refine wp_region_held_drew (S := fun w' => w'.cell? (td.add a) = some (.slice X row.length x) ∧ w'.cell? (td.add k) = some (.slice Y row.length y) ∧ R8 w' X row ∧ R8 w' Y row ∧ Step W6 w') (by kernel_rfl) ⟨((Step.of (w := W6) inferInstance).h.cell bx).trans hcx, ((Step.of (w := W6) inferInstance).h.cell bY).trans hcy, hRx.to, hRy.to, Step.of inferInstance⟩ (fun hHeld => ?_)
                      refine wpAnyH_take (i := 0) (v := ?_) rfl (by kernel_rfl) (by kernel_rfl) (by kernel_rfl) (fun _ _ _ h => h) (Or.inl ⟨by rfl, ?_⟩) hHeld ?_
                      rotate_left
                      · intro w hSw
                        obtain ⟨h1, h2, h3, h4, h5⟩ := hSw
                        simp only [List.getElem_toArray, List.getElem_cons_zero]
                        go_simp
                        try with_reducible rfl
                      simp only [List.getElem_toArray, List.getElem_cons_zero, Act.put, List.setIfInBounds_toArray, List.set_cons_zero, List.set_cons_succ]
                      refine wpAnyH_take (i := 1) (v := ?_) rfl (by kernel_rfl) (by kernel_rfl) (by kernel_rfl) (fun _ _ _ h => h) (Or.inl ⟨by rfl, ?_⟩) hHeld ?_
                      rotate_left
                      · intro w hSw
                        obtain ⟨h1, h2, h3, h4, h5⟩ := hSw
                        simp only [List.getElem_toArray, List.getElem_cons_zero, List.getElem_cons_succ]
                        go_simp
                        try with_reducible rfl
                      simp only [List.getElem_toArray, List.getElem_cons_zero, List.getElem_cons_succ, Act.put, List.setIfInBounds_toArray, List.set_cons_zero, List.set_cons_succ]
                      refine wpAnyH_take (i := 2) (v := ?_) rfl (by kernel_rfl) (by kernel_rfl) (by kernel_rfl) (fun _ _ _ h => h) (Or.inl ⟨by rfl, ?_⟩) hHeld ?_
                      rotate_left
                      · intro w hSw
                        obtain ⟨h1, h2, h3, h4, h5⟩ := hSw
                        simp only [List.getElem_toArray, List.getElem_cons_zero, List.getElem_cons_succ]
                        go_simp
                        try with_reducible rfl
                      simp only [List.getElem_toArray, List.getElem_cons_zero, List.getElem_cons_succ, Act.put, List.setIfInBounds_toArray, List.set_cons_zero, List.set_cons_succ]
                      refine wpAnyH_take (i := 3) (v := ?_) rfl (by kernel_rfl) (by kernel_rfl) (by kernel_rfl) (fun _ _ _ h => h) (Or.inl ⟨by rfl, ?_⟩) hHeld ?_
                      rotate_left
                      · intro w hSw
                        obtain ⟨h1, h2, h3, h4, h5⟩ := hSw
                        simp only [List.getElem_toArray, List.getElem_cons_zero, List.getElem_cons_succ]
                        go_simp
                        try with_reducible rfl
                      simp only [List.getElem_toArray, List.getElem_cons_zero, List.getElem_cons_succ, Act.put, List.setIfInBounds_toArray, List.set_cons_zero, List.set_cons_succ]
                      refine wpAnyH_take (i := 4) (v := ?_) rfl (by kernel_rfl) (by kernel_rfl) (by kernel_rfl) (fun _ _ _ h => h) (Or.inl ⟨by rfl, ?_⟩) hHeld ?_
                      rotate_left
                      · intro w hSw
                        obtain ⟨h1, h2, h3, h4, h5⟩ := hSw
                        simp only [List.getElem_toArray, List.getElem_cons_zero, List.getElem_cons_succ]
                        go_simp
                        try with_reducible rfl
                      simp only [List.getElem_toArray, List.getElem_cons_zero, List.getElem_cons_succ, Act.put, List.setIfInBounds_toArray, List.set_cons_zero, List.set_cons_succ]
                      refine wpAnyH_take (i := 5) (v := ?_) rfl (by kernel_rfl) (by kernel_rfl) (by kernel_rfl) (fun _ _ _ h => h) (Or.inl ⟨by rfl, ?_⟩) hHeld ?_
                      rotate_left
                      · intro w hSw
                        obtain ⟨h1, h2, h3, h4, h5⟩ := hSw
                        simp only [List.getElem_toArray, List.getElem_cons_zero, List.getElem_cons_succ]
                        go_simp
                        try with_reducible rfl
                      simp only [List.getElem_toArray, List.getElem_cons_zero, List.getElem_cons_succ, Act.put, List.setIfInBounds_toArray, List.set_cons_zero, List.set_cons_succ]
                      refine wpAnyH_take (i := 6) (v := ?_) rfl (by kernel_rfl) (by kernel_rfl) (by kernel_rfl) (fun _ _ _ h => h) (Or.inl ⟨by rfl, ?_⟩) hHeld ?_
                      rotate_left
                      · intro w hSw
                        obtain ⟨h1, h2, h3, h4, h5⟩ := hSw
                        have hcv := conv w X row.length x row rfl h3
                        simp only [List.getElem_toArray, List.getElem_cons_zero, List.getElem_cons_succ]
                        go_simp
                        try with_reducible rfl
                      simp only [List.getElem_toArray, List.getElem_cons_zero, List.getElem_cons_succ, Act.put, List.setIfInBounds_toArray, List.set_cons_zero, List.set_cons_succ]
                      refine wpAnyH_take (i := 7) (v := ?_) rfl (by kernel_rfl) (by kernel_rfl) (by kernel_rfl) (fun _ _ _ h => h) (Or.inl ⟨by rfl, ?_⟩) hHeld ?_
                      rotate_left
                      · intro w hSw
                        obtain ⟨h1, h2, h3, h4, h5⟩ := hSw
                        simp only [List.getElem_toArray, List.getElem_cons_zero, List.getElem_cons_succ]
                        go_simp
                        try with_reducible rfl
                      simp only [List.getElem_toArray, List.getElem_cons_zero, List.getElem_cons_succ, Act.put, List.setIfInBounds_toArray, List.set_cons_zero, List.set_cons_succ]
                      refine wpAnyH_take (i := 8) (v := ?_) rfl (by kernel_rfl) (by kernel_rfl) (by kernel_rfl) (fun _ _ _ h => h) (Or.inl ⟨by rfl, ?_⟩) hHeld ?_
                      rotate_left
                      · intro w hSw
                        obtain ⟨h1, h2, h3, h4, h5⟩ := hSw
                        simp only [List.getElem_toArray, List.getElem_cons_zero, List.getElem_cons_succ]
                        go_simp
                        try with_reducible rfl
                      simp only [List.getElem_toArray, List.getElem_cons_zero, List.getElem_cons_succ, Act.put, List.setIfInBounds_toArray, List.set_cons_zero, List.set_cons_succ]
                      refine wpAnyH_take (i := 9) (v := ?_) rfl (by kernel_rfl) (by kernel_rfl) (by kernel_rfl) (fun _ _ _ h => h) (Or.inl ⟨by rfl, ?_⟩) hHeld ?_
                      rotate_left
                      · intro w hSw
                        obtain ⟨h1, h2, h3, h4, h5⟩ := hSw
                        simp only [List.getElem_toArray, List.getElem_cons_zero, List.getElem_cons_succ]
                        go_simp
                        try with_reducible rfl
                      simp only [List.getElem_toArray, List.getElem_cons_zero, List.getElem_cons_succ, Act.put, List.setIfInBounds_toArray, List.set_cons_zero, List.set_cons_succ]
                      refine wpAnyH_take (i := 10) (v := ?_) rfl (by kernel_rfl) (by kernel_rfl) (by kernel_rfl) (fun _ _ _ h => h) (Or.inl ⟨by rfl, ?_⟩) hHeld ?_
                      rotate_left
                      · intro w hSw
                        obtain ⟨h1, h2, h3, h4, h5⟩ := hSw
                        simp only [List.getElem_toArray, List.getElem_cons_zero, List.getElem_cons_succ]
                        go_simp
                        try with_reducible rfl
                      simp only [List.getElem_toArray, List.getElem_cons_zero, List.getElem_cons_succ, Act.put, List.setIfInBounds_toArray, List.set_cons_zero, List.set_cons_succ]
                      refine wpAnyH_take (i := 11) (v := ?_) rfl (by kernel_rfl) (by kernel_rfl) (by kernel_rfl) (fun _ _ _ h => h) (Or.inl ⟨by rfl, ?_⟩) hHeld ?_
                      rotate_left
                      · intro w hSw
                        obtain ⟨h1, h2, h3, h4, h5⟩ := hSw
                        have hcv := conv w Y row.length y row rfl h4
                        simp only [List.getElem_toArray, List.getElem_cons_zero, List.getElem_cons_succ]
                        go_simp
                        try with_reducible rfl
                      simp only [List.getElem_toArray, List.getElem_cons_zero, List.getElem_cons_succ, Act.put, List.setIfInBounds_toArray, List.set_cons_zero, List.set_cons_succ]
                      refine wpAnyH_take (i := 12) (v := ?_) rfl (by kernel_rfl) (by kernel_rfl) (by kernel_rfl) (fun _ _ _ h => h) (Or.inl ⟨by rfl, ?_⟩) hHeld ?_
                      rotate_left
                      · intro w hSw
                        obtain ⟨h1, h2, h3, h4, h5⟩ := hSw
                        simp only [List.getElem_toArray, List.getElem_cons_zero, List.getElem_cons_succ]
                        go_simp
                        try with_reducible rfl
                      simp only [List.getElem_toArray, List.getElem_cons_zero, List.getElem_cons_succ, Act.put, List.setIfInBounds_toArray, List.set_cons_zero, List.set_cons_succ]
                      refine wpAnyH_take (i := 13) (v := ?_) rfl (by kernel_rfl) (by kernel_rfl) (by kernel_rfl) (fun _ _ _ h => h) (Or.inl ⟨by rfl, ?_⟩) hHeld ?_
                      rotate_left
                      · intro w hSw
                        obtain ⟨h1, h2, h3, h4, h5⟩ := hSw
                        simp only [List.getElem_toArray, List.getElem_cons_zero, List.getElem_cons_succ]
                        go_simp
                        try with_reducible rfl
                      simp only [List.getElem_toArray, List.getElem_cons_zero, List.getElem_cons_succ, Act.put, List.setIfInBounds_toArray, List.set_cons_zero, List.set_cons_succ]
                      refine wpAnyH_take (i := 14) (v := undef) rfl (by kernel_rfl) (by kernel_rfl) (by kernel_rfl) (fun _ _ _ h => h) (Or.inr ⟨by rfl, rfl⟩) hHeld ?_
                      simp only [List.getElem_toArray, List.getElem_cons_zero, List.getElem_cons_succ, Act.put, List.setIfInBounds_toArray, List.set_cons_zero, List.set_cons_succ]
                      refine wpAnyH_take (i := 15) (v := undef) rfl (by kernel_rfl) (by kernel_rfl) (by kernel_rfl) (fun _ _ _ h => h) (Or.inr ⟨by rfl, rfl⟩) hHeld ?_
                      simp only [List.getElem_toArray, List.getElem_cons_zero, List.getElem_cons_succ, Act.put, List.setIfInBounds_toArray, List.set_cons_zero, List.set_cons_succ]
                      refine wpAnyH_take (i := 16) (v := undef) rfl (by kernel_rfl) (by kernel_rfl) (by kernel_rfl) (fun _ _ _ h => h) (Or.inr ⟨by rfl, rfl⟩) hHeld ?_
                      simp only [List.getElem_toArray, List.getElem_cons_zero, List.getElem_cons_succ, Act.put, List.setIfInBounds_toArray, List.set_cons_zero, List.set_cons_succ]
                      refine wpAnyH_take (i := 17) (v := undef) rfl (by kernel_rfl) (by kernel_rfl) (by kernel_rfl) (fun _ _ _ h => h) (Or.inr ⟨by rfl, rfl⟩) hHeld ?_
                      simp only [List.getElem_toArray, List.getElem_cons_zero, List.getElem_cons_succ, Act.put, List.setIfInBounds_toArray, List.set_cons_zero, List.set_cons_succ]
                      refine wpAnyH_take (i := 18) (v := undef) rfl (by kernel_rfl) (by kernel_rfl) (by kernel_rfl) (fun _ _ _ h => h) (Or.inr ⟨by rfl, rfl⟩) hHeld ?_
                      simp only [List.getElem_toArray, List.getElem_cons_zero, List.getElem_cons_succ, Act.put, List.setIfInBounds_toArray, List.set_cons_zero, List.set_cons_succ]
                      refine wpAnyH_take (i := 19) (v := undef) rfl (by kernel_rfl) (by kernel_rfl) (by kernel_rfl) (fun _ _ _ h => h) (Or.inr ⟨by rfl, rfl⟩) hHeld ?_
                      simp only [List.getElem_toArray, List.getElem_cons_zero, List.getElem_cons_succ, Act.put, List.setIfInBounds_toArray, List.set_cons_zero, List.set_cons_succ]
                      refine wpAnyH_take (i := 20) (v := undef) rfl (by kernel_rfl) (by kernel_rfl) (by kernel_rfl) (fun _ _ _ h => h) (Or.inr ⟨by rfl, rfl⟩) hHeld ?_
                      simp only [List.getElem_toArray, List.getElem_cons_zero, List.getElem_cons_succ, Act.put, List.setIfInBounds_toArray, List.set_cons_zero, List.set_cons_succ]
                      refine wpAnyH_take (i := 21) (v := undef) rfl (by kernel_rfl) (by kernel_rfl) (by kernel_rfl) (fun _ _ _ h => h) (Or.inr ⟨by rfl, rfl⟩) hHeld ?_
                      simp only [List.getElem_toArray, List.getElem_cons_zero, List.getElem_cons_succ, Act.put, List.setIfInBounds_toArray, List.set_cons_zero, List.set_cons_succ]
                      refine wpAnyH_take (i := 22) (v := undef) rfl (by kernel_rfl) (by kernel_rfl) (by kernel_rfl) (fun _ _ _ h => h) (Or.inr ⟨by rfl, rfl⟩) hHeld ?_
                      simp only [List.getElem_toArray, List.getElem_cons_zero, List.getElem_cons_succ, Act.put, List.setIfInBounds_toArray, List.set_cons_zero, List.set_cons_succ]
                      refine wpAnyH_take (i := 23) (v := undef) rfl (by kernel_rfl) (by kernel_rfl) (by kernel_rfl) (fun _ _ _ h => h) (Or.inr ⟨by rfl, rfl⟩) hHeld ?_
                      simp only [List.getElem_toArray, List.getElem_cons_zero, List.getElem_cons_succ, Act.put, List.setIfInBounds_toArray, List.set_cons_zero, List.set_cons_succ]
                      refine wpAnyH_take (i := 24) (v := undef) rfl (by kernel_rfl) (by kernel_rfl) (by kernel_rfl) (fun _ _ _ h => h) (Or.inr ⟨by rfl, rfl⟩) hHeld ?_
                      simp only [List.getElem_toArray, List.getElem_cons_zero, List.getElem_cons_succ, Act.put, List.setIfInBounds_toArray, List.set_cons_zero, List.set_cons_succ]
                      refine wpAnyH_take (i := 25) (v := ?_) rfl (by kernel_rfl) (by kernel_rfl) (by kernel_rfl) (fun _ _ _ h => h) (Or.inl ⟨by rfl, ?_⟩) hHeld ?_
                      rotate_left
                      · intro w hSw
                        obtain ⟨h1, h2, h3, h4, h5⟩ := hSw
                        simp only [List.getElem_toArray, List.getElem_cons_zero, List.getElem_cons_succ]
                        go_simp
                        try with_reducible rfl
                      simp only [List.getElem_toArray, List.getElem_cons_zero, List.getElem_cons_succ, Act.put, List.setIfInBounds_toArray, List.set_cons_zero, List.set_cons_succ]
                      refine wpAnyH_take (i := 26) (v := ?_) rfl (by kernel_rfl) (by kernel_rfl) (by kernel_rfl) (fun _ _ _ h => h) (Or.inl ⟨by rfl, ?_⟩) hHeld ?_
                      rotate_left
                      · intro w hSw
                        obtain ⟨h1, h2, h3, h4, h5⟩ := hSw
                        simp only [List.getElem_toArray, List.getElem_cons_zero, List.getElem_cons_succ]
                        go_simp
                        try with_reducible rfl
                      simp only [List.getElem_toArray, List.getElem_cons_zero, List.getElem_cons_succ, Act.put, List.setIfInBounds_toArray, List.set_cons_zero, List.set_cons_succ]
                      refine wpAnyH_take (i := 27) (v := ?_) rfl (by kernel_rfl) (by kernel_rfl) (by kernel_rfl) (fun _ _ _ h => h) (Or.inl ⟨by rfl, ?_⟩) hHeld ?_
                      rotate_left
                      · intro w hSw
                        obtain ⟨h1, h2, h3, h4, h5⟩ := hSw
                        simp only [List.getElem_toArray, List.getElem_cons_zero, List.getElem_cons_succ]
                        go_simp
                        try with_reducible rfl
                      simp only [List.getElem_toArray, List.getElem_cons_zero, List.getElem_cons_succ, Act.put, List.setIfInBounds_toArray, List.set_cons_zero, List.set_cons_succ]
                      refine wpAnyH_done (by kernel_rfl) ?_ _
                      go_wp2
                      go_roundw
                      case rel => exact ⟨false, k + 1, rfl, by go_num, hk1, hR, Lib.hid (Step.of inferInstance)⟩
                      case measure => simp [intOf]; omega
                    · as_aux_lemma =>
                      have hR := Lib.hid (hst.out D fun h => ⟨rfl, .inr h⟩)
                      have hne := str_ne hb1.out hb2.out hrr
                      clear hst hb1 hb2 hD2
                      refine wp_region_held_drew (S := fun w' => w'.cell? (td.add a) = some (.slice X row.length x) ∧ w'.cell? (td.add k) = some (.slice Y row2.length y) ∧ R8 w' X row ∧ R8 w' Y row2 ∧ Step W6 w') (by kernel_rfl) ⟨((Step.of (w := W6) inferInstance).h.cell bx).trans hcx, ((Step.of (w := W6) inferInstance).h.cell bY).trans hcy, hRx.to, hRy.to, Step.of inferInstance⟩ (fun hHeld => ?_)
                      refine wpAnyH_take (i := 0) (v := ?_) rfl (by kernel_rfl) (by kernel_rfl) (by kernel_rfl) (fun _ _ _ h => h) (Or.inl ⟨by rfl, ?_⟩) hHeld ?_
                      rotate_left
                      · intro w hSw
                        obtain ⟨h1, h2, h3, h4, h5⟩ := hSw
                        simp only [List.getElem_toArray, List.getElem_cons_zero]
                        go_simp
                        try with_reducible rfl
                      simp only [List.getElem_toArray, List.getElem_cons_zero, Act.put, List.setIfInBounds_toArray, List.set_cons_zero, List.set_cons_succ]
                      refine wpAnyH_take (i := 1) (v := ?_) rfl (by kernel_rfl) (by kernel_rfl) (by kernel_rfl) (fun _ _ _ h => h) (Or.inl ⟨by rfl, ?_⟩) hHeld ?_
                      rotate_left
                      · intro w hSw
                        obtain ⟨h1, h2, h3, h4, h5⟩ := hSw
                        simp only [List.getElem_toArray, List.getElem_cons_zero, List.getElem_cons_succ]
                        go_simp
                        try with_reducible rfl
                      simp only [List.getElem_toArray, List.getElem_cons_zero, List.getElem_cons_succ, Act.put, List.setIfInBounds_toArray, List.set_cons_zero, List.set_cons_succ]
                      refine wpAnyH_take (i := 2) (v := ?_) rfl (by kernel_rfl) (by kernel_rfl) (by kernel_rfl) (fun _ _ _ h => h) (Or.inl ⟨by rfl, ?_⟩) hHeld ?_
                      rotate_left
                      · intro w hSw
                        obtain ⟨h1, h2, h3, h4, h5⟩ := hSw
                        simp only [List.getElem_toArray, List.getElem_cons_zero, List.getElem_cons_succ]
                        go_simp
                        try with_reducible rfl
                      simp only [List.getElem_toArray, List.getElem_cons_zero, List.getElem_cons_succ, Act.put, List.setIfInBounds_toArray, List.set_cons_zero, List.set_cons_succ]
                      refine wpAnyH_take (i := 3) (v := ?_) rfl (by kernel_rfl) (by kernel_rfl) (by kernel_rfl) (fun _ _ _ h => h) (Or.inl ⟨by rfl, ?_⟩) hHeld ?_
                      rotate_left
                      · intro w hSw
                        obtain ⟨h1, h2, h3, h4, h5⟩ := hSw
                        simp only [List.getElem_toArray, List.getElem_cons_zero, List.getElem_cons_succ]
                        go_simp
                        try with_reducible rfl
                      simp only [List.getElem_toArray, List.getElem_cons_zero, List.getElem_cons_succ, Act.put, List.setIfInBounds_toArray, List.set_cons_zero, List.set_cons_succ]
                      refine wpAnyH_take (i := 4) (v := ?_) rfl (by kernel_rfl) (by kernel_rfl) (by kernel_rfl) (fun _ _ _ h => h) (Or.inl ⟨by rfl, ?_⟩) hHeld ?_
                      rotate_left
                      · intro w hSw
                        obtain ⟨h1, h2, h3, h4, h5⟩ := hSw
                        simp only [List.getElem_toArray, List.getElem_cons_zero, List.getElem_cons_succ]
                        go_simp
                        try with_reducible rfl
                      simp only [List.getElem_toArray, List.getElem_cons_zero, List.getElem_cons_succ, Act.put, List.setIfInBounds_toArray, List.set_cons_zero, List.set_cons_succ]
                      refine wpAnyH_take (i := 5) (v := ?_) rfl (by kernel_rfl) (by kernel_rfl) (by kernel_rfl) (fun _ _ _ h => h) (Or.inl ⟨by rfl, ?_⟩) hHeld ?_
                      rotate_left
                      · intro w hSw
                        obtain ⟨h1, h2, h3, h4, h5⟩ := hSw
                        simp only [List.getElem_toArray, List.getElem_cons_zero, List.getElem_cons_succ]
                        go_simp
                        try with_reducible rfl
                      simp only [List.getElem_toArray, List.getElem_cons_zero, List.getElem_cons_succ, Act.put, List.setIfInBounds_toArray, List.set_cons_zero, List.set_cons_succ]
                      refine wpAnyH_take (i := 6) (v := ?_) rfl (by kernel_rfl) (by kernel_rfl) (by kernel_rfl) (fun _ _ _ h => h) (Or.inl ⟨by rfl, ?_⟩) hHeld ?_
                      rotate_left
                      · intro w hSw
                        obtain ⟨h1, h2, h3, h4, h5⟩ := hSw
                        have hcv := conv w X row.length x row rfl h3
                        simp only [List.getElem_toArray, List.getElem_cons_zero, List.getElem_cons_succ]
                        go_simp
                        try with_reducible rfl
                      simp only [List.getElem_toArray, List.getElem_cons_zero, List.getElem_cons_succ, Act.put, List.setIfInBounds_toArray, List.set_cons_zero, List.set_cons_succ]
                      refine wpAnyH_take (i := 7) (v := ?_) rfl (by kernel_rfl) (by kernel_rfl) (by kernel_rfl) (fun _ _ _ h => h) (Or.inl ⟨by rfl, ?_⟩) hHeld ?_
                      rotate_left
                      · intro w hSw
                        obtain ⟨h1, h2, h3, h4, h5⟩ := hSw
                        simp only [List.getElem_toArray, List.getElem_cons_zero, List.getElem_cons_succ]
                        go_simp
                        try with_reducible rfl
                      simp only [List.getElem_toArray, List.getElem_cons_zero, List.getElem_cons_succ, Act.put, List.setIfInBounds_toArray, List.set_cons_zero, List.set_cons_succ]
                      refine wpAnyH_take (i := 8) (v := ?_) rfl (by kernel_rfl) (by kernel_rfl) (by kernel_rfl) (fun _ _ _ h => h) (Or.inl ⟨by rfl, ?_⟩) hHeld ?_
                      rotate_left
                      · intro w hSw
                        obtain ⟨h1, h2, h3, h4, h5⟩ := hSw
                        simp only [List.getElem_toArray, List.getElem_cons_zero, List.getElem_cons_succ]
                        go_simp
                        try with_reducible rfl
                      simp only [List.getElem_toArray, List.getElem_cons_zero, List.getElem_cons_succ, Act.put, List.setIfInBounds_toArray, List.set_cons_zero, List.set_cons_succ]
                      refine wpAnyH_take (i := 9) (v := ?_) rfl (by kernel_rfl) (by kernel_rfl) (by kernel_rfl) (fun _ _ _ h => h) (Or.inl ⟨by rfl, ?_⟩) hHeld ?_
                      rotate_left
                      · intro w hSw
                        obtain ⟨h1, h2, h3, h4, h5⟩ := hSw
                        simp only [List.getElem_toArray, List.getElem_cons_zero, List.getElem_cons_succ]
                        go_simp
                        try with_reducible rfl
                      simp only [List.getElem_toArray, List.getElem_cons_zero, List.getElem_cons_succ, Act.put, List.setIfInBounds_toArray, List.set_cons_zero, List.set_cons_succ]
                      refine wpAnyH_take (i := 10) (v := ?_) rfl (by kernel_rfl) (by kernel_rfl) (by kernel_rfl) (fun _ _ _ h => h) (Or.inl ⟨by rfl, ?_⟩) hHeld ?_
                      rotate_left
                      · intro w hSw
                        obtain ⟨h1, h2, h3, h4, h5⟩ := hSw
                        simp only [List.getElem_toArray, List.getElem_cons_zero, List.getElem_cons_succ]
                        go_simp
                        try with_reducible rfl
                      simp only [List.getElem_toArray, List.getElem_cons_zero, List.getElem_cons_succ, Act.put, List.setIfInBounds_toArray, List.set_cons_zero, List.set_cons_succ]
                      refine wpAnyH_take (i := 11) (v := ?_) rfl (by kernel_rfl) (by kernel_rfl) (by kernel_rfl) (fun _ _ _ h => h) (Or.inl ⟨by rfl, ?_⟩) hHeld ?_
                      rotate_left
                      · intro w hSw
                        obtain ⟨h1, h2, h3, h4, h5⟩ := hSw
                        have hcv := conv w Y row2.length y row2 rfl h4
                        simp only [List.getElem_toArray, List.getElem_cons_zero, List.getElem_cons_succ]
                        go_simp
                        try with_reducible rfl
                      simp only [List.getElem_toArray, List.getElem_cons_zero, List.getElem_cons_succ, Act.put, List.setIfInBounds_toArray, List.set_cons_zero, List.set_cons_succ]
                      refine wpAnyH_take (i := 12) (v := ?_) rfl (by kernel_rfl) (by kernel_rfl) (by kernel_rfl) (fun _ _ _ h => h) (Or.inl ⟨by rfl, ?_⟩) hHeld ?_
                      rotate_left
                      · intro w hSw
                        obtain ⟨h1, h2, h3, h4, h5⟩ := hSw
                        simp only [List.getElem_toArray, List.getElem_cons_zero, List.getElem_cons_succ]
                        go_simp
                        try with_reducible rfl
                      simp only [List.getElem_toArray, List.getElem_cons_zero, List.getElem_cons_succ, Act.put, List.setIfInBounds_toArray, List.set_cons_zero, List.set_cons_succ]
                      refine wpAnyH_take (i := 13) (v := ?_) rfl (by kernel_rfl) (by kernel_rfl) (by kernel_rfl) (fun _ _ _ h => h) (Or.inl ⟨by rfl, ?_⟩) hHeld ?_
                      rotate_left
                      · intro w hSw
                        obtain ⟨h1, h2, h3, h4, h5⟩ := hSw
                        simp only [List.getElem_toArray, List.getElem_cons_zero, List.getElem_cons_succ]
                        go_simp
                        try with_reducible rfl
                      simp only [List.getElem_toArray, List.getElem_cons_zero, List.getElem_cons_succ, Act.put, List.setIfInBounds_toArray, List.set_cons_zero, List.set_cons_succ]
                      refine wpAnyH_take (i := 14) (v := ?_) rfl (by kernel_rfl) (by kernel_rfl) (by kernel_rfl) (fun _ _ _ h => h) (Or.inl ⟨by rfl, ?_⟩) hHeld ?_
                      rotate_left
                      · intro w hSw
                        obtain ⟨h1, h2, h3, h4, h5⟩ := hSw
                        simp only [List.getElem_toArray, List.getElem_cons_zero, List.getElem_cons_succ]
                        go_simp
                        try with_reducible rfl
                      simp only [List.getElem_toArray, List.getElem_cons_zero, List.getElem_cons_succ, Act.put, List.setIfInBounds_toArray, List.set_cons_zero, List.set_cons_succ]
                      refine wpAnyH_take (i := 15) (v := ?_) rfl (by kernel_rfl) (by kernel_rfl) (by kernel_rfl) (fun _ _ _ h => h) (Or.inl ⟨by rfl, ?_⟩) hHeld ?_
                      rotate_left
                      · intro w hSw
                        obtain ⟨h1, h2, h3, h4, h5⟩ := hSw
                        simp only [List.getElem_toArray, List.getElem_cons_zero, List.getElem_cons_succ]
                        go_simp
                        try with_reducible rfl
                      simp only [List.getElem_toArray, List.getElem_cons_zero, List.getElem_cons_succ, Act.put, List.setIfInBounds_toArray, List.set_cons_zero, List.set_cons_succ]
                      refine wpAnyH_take (i := 16) (v := ?_) rfl (by kernel_rfl) (by kernel_rfl) (by kernel_rfl) (fun _ _ _ h => h) (Or.inl ⟨by rfl, ?_⟩) hHeld ?_
                      rotate_left
                      · intro w hSw
                        obtain ⟨h1, h2, h3, h4, h5⟩ := hSw
                        simp only [List.getElem_toArray, List.getElem_cons_zero, List.getElem_cons_succ]
                        go_simp
                        try with_reducible rfl
                      simp only [List.getElem_toArray, List.getElem_cons_zero, List.getElem_cons_succ, Act.put, List.setIfInBounds_toArray, List.set_cons_zero, List.set_cons_succ]
                      refine wpAnyH_take (i := 17) (v := ?_) rfl (by kernel_rfl) (by kernel_rfl) (by kernel_rfl) (fun _ _ _ h => h) (Or.inl ⟨by rfl, ?_⟩) hHeld ?_
                      rotate_left
                      · intro w hSw
                        obtain ⟨h1, h2, h3, h4, h5⟩ := hSw
                        simp only [List.getElem_toArray, List.getElem_cons_zero, List.getElem_cons_succ]
                        go_simp
                        try with_reducible rfl
                      simp only [List.getElem_toArray, List.getElem_cons_zero, List.getElem_cons_succ, Act.put, List.setIfInBounds_toArray, List.set_cons_zero, List.set_cons_succ]
                      refine wpAnyH_take (i := 19) (v := ?_) rfl (by kernel_rfl) (by kernel_rfl) (by kernel_rfl) (fun _ _ _ h => h) (Or.inl ⟨by rfl, ?_⟩) hHeld ?_
                      rotate_left
                      · intro w hSw
                        obtain ⟨h1, h2, h3, h4, h5⟩ := hSw
                        simp only [List.getElem_toArray, List.getElem_cons_zero, List.getElem_cons_succ]
                        go_simp
                        try with_reducible rfl
                      simp only [List.getElem_toArray, List.getElem_cons_zero, List.getElem_cons_succ, Act.put, List.setIfInBounds_toArray, List.set_cons_zero, List.set_cons_succ]
                      refine wpAnyH_take (i := 20) (v := ?_) rfl (by kernel_rfl) (by kernel_rfl) (by kernel_rfl) (fun _ _ _ h => h) (Or.inl ⟨by rfl, ?_⟩) hHeld ?_
                      rotate_left
                      · intro w hSw
                        obtain ⟨h1, h2, h3, h4, h5⟩ := hSw
                        simp only [List.getElem_toArray, List.getElem_cons_zero, List.getElem_cons_succ]
                        go_simp
                        try with_reducible rfl
                      simp only [List.getElem_toArray, List.getElem_cons_zero, List.getElem_cons_succ, Act.put, List.setIfInBounds_toArray, List.set_cons_zero, List.set_cons_succ]
                      refine wpAnyH_take (i := 21) (v := ?_) rfl (by kernel_rfl) (by kernel_rfl) (by kernel_rfl) (fun _ _ _ h => h) (Or.inl ⟨by rfl, ?_⟩) hHeld ?_
                      rotate_left
                      · intro w hSw
                        obtain ⟨h1, h2, h3, h4, h5⟩ := hSw
                        simp only [List.getElem_toArray, List.getElem_cons_zero, List.getElem_cons_succ]
                        go_simp
                        try with_reducible rfl
                      simp only [List.getElem_toArray, List.getElem_cons_zero, List.getElem_cons_succ, Act.put, List.setIfInBounds_toArray, List.set_cons_zero, List.set_cons_succ]
                      refine wpAnyH_take (i := 22) (v := ?_) rfl (by kernel_rfl) (by kernel_rfl) (by kernel_rfl) (fun _ _ _ h => h) (Or.inl ⟨by rfl, ?_⟩) hHeld ?_
                      rotate_left
                      · intro w hSw
                        obtain ⟨h1, h2, h3, h4, h5⟩ := hSw
                        simp only [List.getElem_toArray, List.getElem_cons_zero, List.getElem_cons_succ]
                        go_simp
                        try with_reducible rfl
                      simp only [List.getElem_toArray, List.getElem_cons_zero, List.getElem_cons_succ, Act.put, List.setIfInBounds_toArray, List.set_cons_zero, List.set_cons_succ]
                      refine wpAnyH_ready (rs := [18]) (by kernel_rfl) (by simp) ?_
                      refine AllReadyH.cons rfl (fun K hK => ?_) AllReadyH.nil
                      refine pos_in (by rfl) ?_
                      simp only [List.getElem_toArray, List.getElem_cons_zero, List.getElem_cons_succ]
                      go_simp
                      refine (cDa _ _ _ hRx.to).mono ?_
                      rintro e y1 ⟨rfl, V1⟩
                      refine hK.out _ _ ⟨((Step.of (w := W6) inferInstance).h.cell bx).trans hcx, ((Step.of (w := W6) inferInstance).h.cell bY).trans hcy, hRx.to, hRy.to, Step.of inferInstance⟩ (fun hHeld => ?_)
                      clear hK K
                      refine wpAnyH_ready (rs := [23]) (by kernel_rfl) (by simp) ?_
                      refine AllReadyH.cons rfl (fun K hK => ?_) AllReadyH.nil
                      refine pos_in (by rfl) ?_
                      simp only [List.getElem_toArray, List.getElem_cons_zero, List.getElem_cons_succ]
                      go_simp
                      refine (cDk _ _ _ hRy.to).mono ?_
                      rintro e y2 ⟨rfl, V2⟩
                      refine hK.out _ _ ⟨((Step.of (w := W6) inferInstance).h.cell bx).trans hcx, ((Step.of (w := W6) inferInstance).h.cell bY).trans hcy, hRx.to, hRy.to, Step.of inferInstance⟩ (fun hHeld => ?_)
                      clear hK K
                      refine wpAnyH_take (i := 24) (v := ?_) rfl (by kernel_rfl) (by kernel_rfl) (by kernel_rfl) (fun _ _ _ h => h) (Or.inl ⟨by rfl, ?_⟩) hHeld ?_
                      rotate_left
                      · intro w hSw
                        obtain ⟨h1, h2, h3, h4, h5⟩ := hSw
                        simp only [List.getElem_toArray, List.getElem_cons_zero, List.getElem_cons_succ]
                        go_simp
                        try with_reducible rfl
                      simp only [List.getElem_toArray, List.getElem_cons_zero, List.getElem_cons_succ, Act.put, List.setIfInBounds_toArray, List.set_cons_zero, List.set_cons_succ]
                      refine wpAnyH_take (i := 25) (v := ?_) rfl (by kernel_rfl) (by kernel_rfl) (by kernel_rfl) (fun _ _ _ h => h) (Or.inl ⟨by rfl, ?_⟩) hHeld ?_
                      rotate_left
                      · intro w hSw
                        obtain ⟨h1, h2, h3, h4, h5⟩ := hSw
                        simp only [List.getElem_toArray, List.getElem_cons_zero, List.getElem_cons_succ]
                        go_simp
                        try with_reducible rfl
                      simp only [List.getElem_toArray, List.getElem_cons_zero, List.getElem_cons_succ, Act.put, List.setIfInBounds_toArray, List.set_cons_zero, List.set_cons_succ]
                      refine wpAnyH_take (i := 26) (v := ?_) rfl (by kernel_rfl) (by kernel_rfl) (by kernel_rfl) (fun _ _ _ h => h) (Or.inl ⟨by rfl, ?_⟩) hHeld ?_
                      rotate_left
                      · intro w hSw
                        obtain ⟨h1, h2, h3, h4, h5⟩ := hSw
                        simp only [List.getElem_toArray, List.getElem_cons_zero, List.getElem_cons_succ]
                        go_simp
                        try with_reducible rfl
                      simp only [List.getElem_toArray, List.getElem_cons_zero, List.getElem_cons_succ, Act.put, List.setIfInBounds_toArray, List.set_cons_zero, List.set_cons_succ]
                      refine wpAnyH_take (i := 27) (v := ?_) rfl (by kernel_rfl) (by kernel_rfl) (by kernel_rfl) (fun _ _ _ h => h) (Or.inl ⟨by rfl, ?_⟩) hHeld ?_
                      rotate_left
                      · intro w hSw
                        obtain ⟨h1, h2, h3, h4, h5⟩ := hSw
                        simp only [List.getElem_toArray, List.getElem_cons_zero, List.getElem_cons_succ]
                        go_simp
                        try with_reducible rfl
                      simp only [List.getElem_toArray, List.getElem_cons_zero, List.getElem_cons_succ, Act.put, List.setIfInBounds_toArray, List.set_cons_zero, List.set_cons_succ]
                      refine wpAnyH_done (by kernel_rfl) ?_ _
                      go_wp2
                      go_roundw
                      case rel => exact ⟨D, k + 1, rfl, by go_num, hk1, hR, Lib.hid (Step.of inferInstance)⟩
                      case measure => simp [intOf]; omega
                  · as_aux_lemma =>
                    have hR := Lib.hid (hst.out true fun h => by cases h)
                    generalize tx.getD a [] = row at hcx hRx
                    generalize tx.getD k [] = row2 at hcy hRy
                    clear hst hb1 hb2 cDa cDk hU hrows cD hUU b8t
                    refine wp_region_held_drew (S := fun w' => w'.cell? (td.add a) = some (.slice X row.length x) ∧ w'.cell? (td.add k) = some (.slice Y row2.length y) ∧ R8 w' X row ∧ R8 w' Y row2 ∧ Step W6 w') (by kernel_rfl) ⟨((Step.of (w := W6) inferInstance).h.cell bx).trans hcx, ((Step.of (w := W6) inferInstance).h.cell bY).trans hcy, hRx.to, hRy.to, Step.of inferInstance⟩ (fun hHeld => ?_)
                    refine wpAnyH_take (i := 0) (v := ?_) rfl (by kernel_rfl) (by kernel_rfl) (by kernel_rfl) (fun _ _ _ h => h) (Or.inl ⟨by rfl, ?_⟩) hHeld ?_
                    rotate_left
                    · intro w hSw
                      obtain ⟨h1, h2, h3, h4, h5⟩ := hSw
                      simp only [List.getElem_toArray, List.getElem_cons_zero]
                      go_simp
                      try with_reducible rfl
                    simp only [List.getElem_toArray, List.getElem_cons_zero, Act.put, List.setIfInBounds_toArray, List.set_cons_zero, List.set_cons_succ]
                    refine wpAnyH_take (i := 1) (v := ?_) rfl (by kernel_rfl) (by kernel_rfl) (by kernel_rfl) (fun _ _ _ h => h) (Or.inl ⟨by rfl, ?_⟩) hHeld ?_
                    rotate_left
                    · intro w hSw
                      obtain ⟨h1, h2, h3, h4, h5⟩ := hSw
                      simp only [List.getElem_toArray, List.getElem_cons_zero, List.getElem_cons_succ]
                      go_simp
                      try with_reducible rfl
                    simp only [List.getElem_toArray, List.getElem_cons_zero, List.getElem_cons_succ, Act.put, List.setIfInBounds_toArray, List.set_cons_zero, List.set_cons_succ]
                    refine wpAnyH_take (i := 2) (v := undef) rfl (by kernel_rfl) (by kernel_rfl) (by kernel_rfl) (fun _ _ _ h => h) (Or.inr ⟨by rfl, rfl⟩) hHeld ?_
                    simp only [List.getElem_toArray, List.getElem_cons_zero, List.getElem_cons_succ, Act.put, List.setIfInBounds_toArray, List.set_cons_zero, List.set_cons_succ]
                    refine wpAnyH_take (i := 3) (v := undef) rfl (by kernel_rfl) (by kernel_rfl) (by kernel_rfl) (fun _ _ _ h => h) (Or.inr ⟨by rfl, rfl⟩) hHeld ?_
                    simp only [List.getElem_toArray, List.getElem_cons_zero, List.getElem_cons_succ, Act.put, List.setIfInBounds_toArray, List.set_cons_zero, List.set_cons_succ]
                    refine wpAnyH_take (i := 4) (v := undef) rfl (by kernel_rfl) (by kernel_rfl) (by kernel_rfl) (fun _ _ _ h => h) (Or.inr ⟨by rfl, rfl⟩) hHeld ?_
                    simp only [List.getElem_toArray, List.getElem_cons_zero, List.getElem_cons_succ, Act.put, List.setIfInBounds_toArray, List.set_cons_zero, List.set_cons_succ]
                    refine wpAnyH_take (i := 5) (v := undef) rfl (by kernel_rfl) (by kernel_rfl) (by kernel_rfl) (fun _ _ _ h => h) (Or.inr ⟨by rfl, rfl⟩) hHeld ?_
                    simp only [List.getElem_toArray, List.getElem_cons_zero, List.getElem_cons_succ, Act.put, List.setIfInBounds_toArray, List.set_cons_zero, List.set_cons_succ]
                    refine wpAnyH_take (i := 6) (v := undef) rfl (by kernel_rfl) (by kernel_rfl) (by kernel_rfl) (fun _ _ _ h => h) (Or.inr ⟨by rfl, rfl⟩) hHeld ?_
                    simp only [List.getElem_toArray, List.getElem_cons_zero, List.getElem_cons_succ, Act.put, List.setIfInBounds_toArray, List.set_cons_zero, List.set_cons_succ]
                    refine wpAnyH_take (i := 7) (v := undef) rfl (by kernel_rfl) (by kernel_rfl) (by kernel_rfl) (fun _ _ _ h => h) (Or.inr ⟨by rfl, rfl⟩) hHeld ?_
                    simp only [List.getElem_toArray, List.getElem_cons_zero, List.getElem_cons_succ, Act.put, List.setIfInBounds_toArray, List.set_cons_zero, List.set_cons_succ]
                    refine wpAnyH_take (i := 8) (v := undef) rfl (by kernel_rfl) (by kernel_rfl) (by kernel_rfl) (fun _ _ _ h => h) (Or.inr ⟨by rfl, rfl⟩) hHeld ?_
                    simp only [List.getElem_toArray, List.getElem_cons_zero, List.getElem_cons_succ, Act.put, List.setIfInBounds_toArray, List.set_cons_zero, List.set_cons_succ]
                    refine wpAnyH_take (i := 9) (v := undef) rfl (by kernel_rfl) (by kernel_rfl) (by kernel_rfl) (fun _ _ _ h => h) (Or.inr ⟨by rfl, rfl⟩) hHeld ?_
                    simp only [List.getElem_toArray, List.getElem_cons_zero, List.getElem_cons_succ, Act.put, List.setIfInBounds_toArray, List.set_cons_zero, List.set_cons_succ]
                    refine wpAnyH_take (i := 10) (v := undef) rfl (by kernel_rfl) (by kernel_rfl) (by kernel_rfl) (fun _ _ _ h => h) (Or.inr ⟨by rfl, rfl⟩) hHeld ?_
                    simp only [List.getElem_toArray, List.getElem_cons_zero, List.getElem_cons_succ, Act.put, List.setIfInBounds_toArray, List.set_cons_zero, List.set_cons_succ]
                    refine wpAnyH_take (i := 11) (v := undef) rfl (by kernel_rfl) (by kernel_rfl) (by kernel_rfl) (fun _ _ _ h => h) (Or.inr ⟨by rfl, rfl⟩) hHeld ?_
                    simp only [List.getElem_toArray, List.getElem_cons_zero, List.getElem_cons_succ, Act.put, List.setIfInBounds_toArray, List.set_cons_zero, List.set_cons_succ]
                    refine wpAnyH_take (i := 12) (v := undef) rfl (by kernel_rfl) (by kernel_rfl) (by kernel_rfl) (fun _ _ _ h => h) (Or.inr ⟨by rfl, rfl⟩) hHeld ?_
                    simp only [List.getElem_toArray, List.getElem_cons_zero, List.getElem_cons_succ, Act.put, List.setIfInBounds_toArray, List.set_cons_zero, List.set_cons_succ]
                    refine wpAnyH_take (i := 13) (v := undef) rfl (by kernel_rfl) (by kernel_rfl) (by kernel_rfl) (fun _ _ _ h => h) (Or.inr ⟨by rfl, rfl⟩) hHeld ?_
                    simp only [List.getElem_toArray, List.getElem_cons_zero, List.getElem_cons_succ, Act.put, List.setIfInBounds_toArray, List.set_cons_zero, List.set_cons_succ]
                    refine wpAnyH_take (i := 14) (v := undef) rfl (by kernel_rfl) (by kernel_rfl) (by kernel_rfl) (fun _ _ _ h => h) (Or.inr ⟨by rfl, rfl⟩) hHeld ?_
                    simp only [List.getElem_toArray, List.getElem_cons_zero, List.getElem_cons_succ, Act.put, List.setIfInBounds_toArray, List.set_cons_zero, List.set_cons_succ]
                    refine wpAnyH_take (i := 15) (v := undef) rfl (by kernel_rfl) (by kernel_rfl) (by kernel_rfl) (fun _ _ _ h => h) (Or.inr ⟨by rfl, rfl⟩) hHeld ?_
                    simp only [List.getElem_toArray, List.getElem_cons_zero, List.getElem_cons_succ, Act.put, List.setIfInBounds_toArray, List.set_cons_zero, List.set_cons_succ]
                    refine wpAnyH_take (i := 16) (v := undef) rfl (by kernel_rfl) (by kernel_rfl) (by kernel_rfl) (fun _ _ _ h => h) (Or.inr ⟨by rfl, rfl⟩) hHeld ?_
                    simp only [List.getElem_toArray, List.getElem_cons_zero, List.getElem_cons_succ, Act.put, List.setIfInBounds_toArray, List.set_cons_zero, List.set_cons_succ]
                    refine wpAnyH_take (i := 17) (v := undef) rfl (by kernel_rfl) (by kernel_rfl) (by kernel_rfl) (fun _ _ _ h => h) (Or.inr ⟨by rfl, rfl⟩) hHeld ?_
                    simp only [List.getElem_toArray, List.getElem_cons_zero, List.getElem_cons_succ, Act.put, List.setIfInBounds_toArray, List.set_cons_zero, List.set_cons_succ]
                    refine wpAnyH_take (i := 18) (v := undef) rfl (by kernel_rfl) (by kernel_rfl) (by kernel_rfl) (fun _ _ _ h => h) (Or.inr ⟨by rfl, rfl⟩) hHeld ?_
                    simp only [List.getElem_toArray, List.getElem_cons_zero, List.getElem_cons_succ, Act.put, List.setIfInBounds_toArray, List.set_cons_zero, List.set_cons_succ]
                    refine wpAnyH_take (i := 19) (v := undef) rfl (by kernel_rfl) (by kernel_rfl) (by kernel_rfl) (fun _ _ _ h => h) (Or.inr ⟨by rfl, rfl⟩) hHeld ?_
                    simp only [List.getElem_toArray, List.getElem_cons_zero, List.getElem_cons_succ, Act.put, List.setIfInBounds_toArray, List.set_cons_zero, List.set_cons_succ]
                    refine wpAnyH_take (i := 20) (v := undef) rfl (by kernel_rfl) (by kernel_rfl) (by kernel_rfl) (fun _ _ _ h => h) (Or.inr ⟨by rfl, rfl⟩) hHeld ?_
                    simp only [List.getElem_toArray, List.getElem_cons_zero, List.getElem_cons_succ, Act.put, List.setIfInBounds_toArray, List.set_cons_zero, List.set_cons_succ]
                    refine wpAnyH_take (i := 21) (v := undef) rfl (by kernel_rfl) (by kernel_rfl) (by kernel_rfl) (fun _ _ _ h => h) (Or.inr ⟨by rfl, rfl⟩) hHeld ?_
                    simp only [List.getElem_toArray, List.getElem_cons_zero, List.getElem_cons_succ, Act.put, List.setIfInBounds_toArray, List.set_cons_zero, List.set_cons_succ]
                    refine wpAnyH_take (i := 22) (v := undef) rfl (by kernel_rfl) (by kernel_rfl) (by kernel_rfl) (fun _ _ _ h => h) (Or.inr ⟨by rfl, rfl⟩) hHeld ?_
                    simp only [List.getElem_toArray, List.getElem_cons_zero, List.getElem_cons_succ, Act.put, List.setIfInBounds_toArray, List.set_cons_zero, List.set_cons_succ]
                    refine wpAnyH_take (i := 23) (v := undef) rfl (by kernel_rfl) (by kernel_rfl) (by kernel_rfl) (fun _ _ _ h => h) (Or.inr ⟨by rfl, rfl⟩) hHeld ?_
                    simp only [List.getElem_toArray, List.getElem_cons_zero, List.getElem_cons_succ, Act.put, List.setIfInBounds_toArray, List.set_cons_zero, List.set_cons_succ]
                    refine wpAnyH_take (i := 24) (v := undef) rfl (by kernel_rfl) (by kernel_rfl) (by kernel_rfl) (fun _ _ _ h => h) (Or.inr ⟨by rfl, rfl⟩) hHeld ?_
                    simp only [List.getElem_toArray, List.getElem_cons_zero, List.getElem_cons_succ, Act.put, List.setIfInBounds_toArray, List.set_cons_zero, List.set_cons_succ]
                    refine wpAnyH_take (i := 25) (v := undef) rfl (by kernel_rfl) (by kernel_rfl) (by kernel_rfl) (fun _ _ _ h => h) (Or.inr ⟨by rfl, rfl⟩) hHeld ?_
                    simp only [List.getElem_toArray, List.getElem_cons_zero, List.getElem_cons_succ, Act.put, List.setIfInBounds_toArray, List.set_cons_zero, List.set_cons_succ]
                    refine wpAnyH_take (i := 26) (v := ?_) rfl (by kernel_rfl) (by kernel_rfl) (by kernel_rfl) (fun _ _ _ h => h) (Or.inl ⟨by rfl, ?_⟩) hHeld ?_
                    rotate_left
                    · intro w hSw
                      obtain ⟨h1, h2, h3, h4, h5⟩ := hSw
                      simp only [List.getElem_toArray, List.getElem_cons_zero, List.getElem_cons_succ]
                      go_simp
                      try with_reducible rfl
                    simp only [List.getElem_toArray, List.getElem_cons_zero, List.getElem_cons_succ, Act.put, List.setIfInBounds_toArray, List.set_cons_zero, List.set_cons_succ]
                    refine wpAnyH_take (i := 27) (v := ?_) rfl (by kernel_rfl) (by kernel_rfl) (by kernel_rfl) (fun _ _ _ h => h) (Or.inl ⟨by rfl, ?_⟩) hHeld ?_
                    rotate_left
                    · intro w hSw
                      obtain ⟨h1, h2, h3, h4, h5⟩ := hSw
                      simp only [List.getElem_toArray, List.getElem_cons_zero, List.getElem_cons_succ]
                      go_simp
                      try with_reducible rfl
                    simp only [List.getElem_toArray, List.getElem_cons_zero, List.getElem_cons_succ, Act.put, List.setIfInBounds_toArray, List.set_cons_zero, List.set_cons_succ]
                    refine wpAnyH_done (by kernel_rfl) ?_ _
                    go_wp2
                    go_roundw
                    case rel => exact ⟨true, k + 1, rfl, by go_num, hk1, hR, Lib.hid (Step.of inferInstance)⟩
                    case measure => simp [intOf]; omega
                · have hke : k = a := by omega
                  subst hke
                  have hB : Hid (b = false → ∀ i k', k' < i → i < k + 1 → tx.getD i [] = tx.getD k' [] ∨ eU i k' = false) := Lib.hid fun h i k' h1 h2 => hb.out h i k' h1 (by omega)
                  have hS := Lib.hid SW
                  clear hb hrows cD hUU b8t
                  go_wp2
                  go_roundw
                  case rel => exact ⟨b, k + 1, rfl, by go_num, ha1, hB, hS⟩
                  case measure => simp [intOf]; omega
            · have ha4 : a = 4 := by omega
              subst ha4
              clear hrows cD hUU b8t
              go_wp2
              go_meet
              exact ⟨b0, rfl, hb0, hS⟩
        case rest =>
        obtain ⟨met, rfl, hmet, hS7⟩ := hcut
        obtain ⟨W7, hW7⟩ : ∃ x, x = wc := ⟨_, rfl⟩
        subst hW7
        go_upto_region 30 with fail
        have S47 : Step W4 W7 := by
          have h2 : Step W4 W5 := hS5.out
          have h3 : Step W6 W7 := hS7.out
          exact Step.of inferInstance
        have S37 : Step W3 W7 := Step.of inferInstance
        have oa0 := (S37.h.cell (p := ⟨w.heap.size, 0, none⟩) ba).trans ka0
        have oa1 := (S37.h.cell (p := ⟨w.heap.size, 1, none⟩) ba).trans ka1
        have ob0 := (S37.h.cell (p := ⟨w.heap.size + 1, 0, none⟩) bb).trans kb0
        have ob1 := (S37.h.cell (p := ⟨w.heap.size + 1, 1, none⟩) bb).trans kb1
        have da7 : w.heap.size < W7.heap.size := Nat.lt_of_lt_of_le ba S37.h.size
        have db7 : w.heap.size + 1 < W7.heap.size := Nat.lt_of_lt_of_le bb S37.h.size
        have b0 : G0 < W7.heap.size := Nat.lt_of_lt_of_le l2' S37.h.size
        have b1 : G1 < W7.heap.size := Nat.lt_of_lt_of_le l3 S37.h.size
        have bg : g < W7.heap.size := Nat.lt_of_lt_of_le Hg.out S47.h.size
        have bh : h < W7.heap.size := Nat.lt_of_lt_of_le Hh.out S47.h.size
        have u0 : W7.rangeAt G0 0 E0 := range_under q2' S37.h l2'
        have u1 : W7.rangeAt G1 0 E1 := range_under q3 S37.h l3
        have ug : W7.rangeAt g 0 F0 := range_under HR.out S47.h Hg.out
        have uh : W7.rangeAt h 0 F1 := range_under HD.out S47.h Hh.out
        have hL7 : LaidK W7 := hL3.to
        have SW7 : Hid (Step w W7) := Lib.hid (by
          have h1 : Step w W3 := SW3.out
          exact Step.of inferInstance)
        clear hrows cD hUU b8t hr3 gr3 hr1 gr1 cT0 cT1 cX0 cX1 heF
        cases met
        · as_aux_lemma =>
          have hf := hfin.out (hmet.out rfl)
          have hse : eE = sm := by
            have h1 := hf.1
            have h2 := hsm.out
            cases eE <;> cases sm <;> simp_all
          have hfa := hf.2
          subst hse
          subst hfa
          clear hf hfin hmet hsm
          refine wp_region_held_drew (S := fun w' => w'.rangeAt G0 0 E0 ∧ w'.rangeAt G1 0 E1 ∧ w'.rangeAt g 0 F0 ∧ w'.rangeAt h 0 F1 ∧ w'.cell? ⟨w.heap.size, 0, none⟩ = some (.int .u64 p) ∧ w'.cell? ⟨w.heap.size, 1, none⟩ = some (.int .u64 q) ∧ w'.cell? ⟨w.heap.size + 1, 0, none⟩ = some (.int .u64 r) ∧ w'.cell? ⟨w.heap.size + 1, 1, none⟩ = some (.int .u64 s) ∧ Step W7 w') (by kernel_rfl) ⟨range_under u0 (Step.of (w := W7) inferInstance).h b0, range_under u1 (Step.of (w := W7) inferInstance).h b1, range_under ug (Step.of (w := W7) inferInstance).h bg, range_under uh (Step.of (w := W7) inferInstance).h bh, ((Step.of (w := W7) inferInstance).h.cell da7).trans oa0, ((Step.of (w := W7) inferInstance).h.cell da7).trans oa1, ((Step.of (w := W7) inferInstance).h.cell db7).trans ob0, ((Step.of (w := W7) inferInstance).h.cell db7).trans ob1, Step.of inferInstance⟩ (fun hHeld => ?_)
          refine wpAnyH_take (i := 0) (v := ?_) rfl (by kernel_rfl) (by kernel_rfl) (by kernel_rfl) (fun _ _ _ h => h) (Or.inl ⟨by rfl, ?_⟩) hHeld ?_
          rotate_left
          · intro w hSw
            obtain ⟨hh1, hh2, hh3, hh4, hh5, hh6, hh7, hh8, hh9⟩ := hSw
            simp only [List.getElem_toArray, List.getElem_cons_zero]
            go_simp
            try with_reducible rfl
          simp only [List.getElem_toArray, List.getElem_cons_zero, Act.put, List.setIfInBounds_toArray, List.set_cons_zero, List.set_cons_succ]
          refine wpAnyH_take (i := 1) (v := ?_) rfl (by kernel_rfl) (by kernel_rfl) (by kernel_rfl) (fun _ _ _ h => h) (Or.inl ⟨by rfl, ?_⟩) hHeld ?_
          rotate_left
          · intro w hSw
            obtain ⟨hh1, hh2, hh3, hh4, hh5, hh6, hh7, hh8, hh9⟩ := hSw
            simp only [List.getElem_toArray, List.getElem_cons_zero, List.getElem_cons_succ]
            go_simp
            try with_reducible rfl
          simp only [List.getElem_toArray, List.getElem_cons_zero, List.getElem_cons_succ, Act.put, List.setIfInBounds_toArray, List.set_cons_zero, List.set_cons_succ]
          refine wpAnyH_take (i := 2) rfl (by kernel_rfl) (by kernel_rfl) (by kernel_rfl) (fun _ _ _ h => h) (yieldsIf_load_mid (by rfl) 22 (.tmp 9) (by rfl) G0 0 (by rfl) E0 _ (fun _ h => h.1) Tryd.underlying22 rfl i24E0) hHeld ?_
          simp only [List.getElem_toArray, List.getElem_cons_zero, List.getElem_cons_succ, Act.put, List.setIfInBounds_toArray, List.set_cons_zero, List.set_cons_succ]
          refine wpAnyH_take (i := 3) rfl (by kernel_rfl) (by kernel_rfl) (by kernel_rfl) (fun _ _ _ h => h) (yieldsIf_load_mid (by rfl) 22 (.tmp 11) (by rfl) G1 0 (by rfl) E1 _ (fun _ h => h.2.1) Tryd.underlying22 rfl i24E1) hHeld ?_
          simp only [List.getElem_toArray, List.getElem_cons_zero, List.getElem_cons_succ, Act.put, List.setIfInBounds_toArray, List.set_cons_zero, List.set_cons_succ]
          refine wpAnyH_take (i := 4) (v := ?_) rfl (by kernel_rfl) (by kernel_rfl) (by kernel_rfl) (fun _ _ _ h => h) (Or.inl ⟨by rfl, ?_⟩) hHeld ?_
          rotate_left
          · intro w hSw
            obtain ⟨hh1, hh2, hh3, hh4, hh5, hh6, hh7, hh8, hh9⟩ := hSw
            simp only [List.getElem_toArray, List.getElem_cons_zero, List.getElem_cons_succ]
            go_simp
            try with_reducible rfl
          simp only [List.getElem_toArray, List.getElem_cons_zero, List.getElem_cons_succ, Act.put, List.setIfInBounds_toArray, List.set_cons_zero, List.set_cons_succ]
          refine wpAnyH_take (i := 5) (v := ?_) rfl (by kernel_rfl) (by kernel_rfl) (by kernel_rfl) (fun _ _ _ h => h) (Or.inl ⟨by rfl, ?_⟩) hHeld ?_
          rotate_left
          · intro w hSw
            obtain ⟨hh1, hh2, hh3, hh4, hh5, hh6, hh7, hh8, hh9⟩ := hSw
            simp only [List.getElem_toArray, List.getElem_cons_zero, List.getElem_cons_succ]
            go_simp
            try with_reducible rfl
          simp only [List.getElem_toArray, List.getElem_cons_zero, List.getElem_cons_succ, Act.put, List.setIfInBounds_toArray, List.set_cons_zero, List.set_cons_succ]
          refine wpAnyH_take (i := 6) (v := ?_) rfl (by kernel_rfl) (by kernel_rfl) (by kernel_rfl) (fun _ _ _ h => h) (Or.inl ⟨by rfl, ?_⟩) hHeld ?_
          rotate_left
          · intro w hSw
            obtain ⟨hh1, hh2, hh3, hh4, hh5, hh6, hh7, hh8, hh9⟩ := hSw
            simp only [List.getElem_toArray, List.getElem_cons_zero, List.getElem_cons_succ]
            go_simp
            try with_reducible rfl
          simp only [List.getElem_toArray, List.getElem_cons_zero, List.getElem_cons_succ, Act.put, List.setIfInBounds_toArray, List.set_cons_zero, List.set_cons_succ]
          refine wpAnyH_take (i := 7) (v := ?_) rfl (by kernel_rfl) (by kernel_rfl) (by kernel_rfl) (fun _ _ _ h => h) (Or.inl ⟨by rfl, ?_⟩) hHeld ?_
          rotate_left
          · intro w hSw
            obtain ⟨hh1, hh2, hh3, hh4, hh5, hh6, hh7, hh8, hh9⟩ := hSw
            simp only [List.getElem_toArray, List.getElem_cons_zero, List.getElem_cons_succ]
            go_simp
            try with_reducible rfl
          simp only [List.getElem_toArray, List.getElem_cons_zero, List.getElem_cons_succ, Act.put, List.setIfInBounds_toArray, List.set_cons_zero, List.set_cons_succ]
          refine wpAnyH_take (i := 8) rfl (by kernel_rfl) (by kernel_rfl) (by kernel_rfl) (fun _ _ _ h => h) (yieldsIf_load_mid (by rfl) 22 (.tmp 13) (by rfl) g 0 (by rfl) F0 _ (fun _ h => h.2.2.1) Tryd.underlying22 rfl i24F0) hHeld ?_
          simp only [List.getElem_toArray, List.getElem_cons_zero, List.getElem_cons_succ, Act.put, List.setIfInBounds_toArray, List.set_cons_zero, List.set_cons_succ]
          refine wpAnyH_take (i := 9) rfl (by kernel_rfl) (by kernel_rfl) (by kernel_rfl) (fun _ _ _ h => h) (yieldsIf_load_mid (by rfl) 22 (.tmp 14) (by rfl) h 0 (by rfl) F1 _ (fun _ h => h.2.2.2.1) Tryd.underlying22 rfl i24F1) hHeld ?_
          simp only [List.getElem_toArray, List.getElem_cons_zero, List.getElem_cons_succ, Act.put, List.setIfInBounds_toArray, List.set_cons_zero, List.set_cons_succ]
          refine wpAnyH_take (i := 10) (v := ?_) rfl (by kernel_rfl) (by kernel_rfl) (by kernel_rfl) (fun _ _ _ h => h) (Or.inl ⟨by rfl, ?_⟩) hHeld ?_
          rotate_left
          · intro w hSw
            obtain ⟨hh1, hh2, hh3, hh4, hh5, hh6, hh7, hh8, hh9⟩ := hSw
            simp only [List.getElem_toArray, List.getElem_cons_zero, List.getElem_cons_succ]
            go_simp
            try with_reducible rfl
          simp only [List.getElem_toArray, List.getElem_cons_zero, List.getElem_cons_succ, Act.put, List.setIfInBounds_toArray, List.set_cons_zero, List.set_cons_succ]
          refine wpAnyH_take (i := 11) (v := ?_) rfl (by kernel_rfl) (by kernel_rfl) (by kernel_rfl) (fun _ _ _ h => h) (Or.inl ⟨by rfl, ?_⟩) hHeld ?_
          rotate_left
          · intro w hSw
            obtain ⟨hh1, hh2, hh3, hh4, hh5, hh6, hh7, hh8, hh9⟩ := hSw
            simp only [List.getElem_toArray, List.getElem_cons_zero, List.getElem_cons_succ]
            go_simp
            try with_reducible rfl
          simp only [List.getElem_toArray, List.getElem_cons_zero, List.getElem_cons_succ, Act.put, List.setIfInBounds_toArray, List.set_cons_zero, List.set_cons_succ]
          refine wpAnyH_take (i := 12) (v := ?_) rfl (by kernel_rfl) (by kernel_rfl) (by kernel_rfl) (fun _ _ _ h => h) (Or.inl ⟨by rfl, ?_⟩) hHeld ?_
          rotate_left
          · intro w hSw
            obtain ⟨hh1, hh2, hh3, hh4, hh5, hh6, hh7, hh8, hh9⟩ := hSw
            simp only [List.getElem_toArray, List.getElem_cons_zero, List.getElem_cons_succ]
            go_simp
            try with_reducible rfl
          simp only [List.getElem_toArray, List.getElem_cons_zero, List.getElem_cons_succ, Act.put, List.setIfInBounds_toArray, List.set_cons_zero, List.set_cons_succ]
          refine wpAnyH_take (i := 13) (v := ?_) rfl (by kernel_rfl) (by kernel_rfl) (by kernel_rfl) (fun _ _ _ h => h) (Or.inl ⟨by rfl, ?_⟩) hHeld ?_
          rotate_left
          · intro w hSw
            obtain ⟨hh1, hh2, hh3, hh4, hh5, hh6, hh7, hh8, hh9⟩ := hSw
            simp only [List.getElem_toArray, List.getElem_cons_zero, List.getElem_cons_succ]
            go_simp
            try with_reducible rfl
          simp only [List.getElem_toArray, List.getElem_cons_zero, List.getElem_cons_succ, Act.put, List.setIfInBounds_toArray, List.set_cons_zero, List.set_cons_succ]
          refine wpAnyH_take (i := 14) (v := ?_) rfl (by kernel_rfl) (by kernel_rfl) (by kernel_rfl) (fun _ _ _ h => h) (Or.inl ⟨by rfl, ?_⟩) hHeld ?_
          rotate_left
          · intro w hSw
            obtain ⟨hh1, hh2, hh3, hh4, hh5, hh6, hh7, hh8, hh9⟩ := hSw
            simp only [List.getElem_toArray, List.getElem_cons_zero, List.getElem_cons_succ]
            go_simp
            try with_reducible rfl
          simp only [List.getElem_toArray, List.getElem_cons_zero, List.getElem_cons_succ, Act.put, List.setIfInBounds_toArray, List.set_cons_zero, List.set_cons_succ]
          refine wpAnyH_take (i := 15) (v := ?_) rfl (by kernel_rfl) (by kernel_rfl) (by kernel_rfl) (fun _ _ _ h => h) (Or.inl ⟨by rfl, ?_⟩) hHeld ?_
          rotate_left
          · intro w hSw
            obtain ⟨hh1, hh2, hh3, hh4, hh5, hh6, hh7, hh8, hh9⟩ := hSw
            simp only [List.getElem_toArray, List.getElem_cons_zero, List.getElem_cons_succ]
            go_simp
            try with_reducible rfl
          simp only [List.getElem_toArray, List.getElem_cons_zero, List.getElem_cons_succ, Act.put, List.setIfInBounds_toArray, List.set_cons_zero, List.set_cons_succ]
          refine wpAnyH_take (i := 16) (v := ?_) rfl (by kernel_rfl) (by kernel_rfl) (by kernel_rfl) (fun _ _ _ h => h) (Or.inl ⟨by rfl, ?_⟩) hHeld ?_
          rotate_left
          · intro w hSw
            obtain ⟨hh1, hh2, hh3, hh4, hh5, hh6, hh7, hh8, hh9⟩ := hSw
            simp only [List.getElem_toArray, List.getElem_cons_zero, List.getElem_cons_succ]
            go_simp
            try with_reducible rfl
          simp only [List.getElem_toArray, List.getElem_cons_zero, List.getElem_cons_succ, Act.put, List.setIfInBounds_toArray, List.set_cons_zero, List.set_cons_succ]
          refine wpAnyH_take (i := 17) (v := ?_) rfl (by kernel_rfl) (by kernel_rfl) (by kernel_rfl) (fun _ _ _ h => h) (Or.inl ⟨by rfl, ?_⟩) hHeld ?_
          rotate_left
          · intro w hSw
            obtain ⟨hh1, hh2, hh3, hh4, hh5, hh6, hh7, hh8, hh9⟩ := hSw
            simp only [List.getElem_toArray, List.getElem_cons_zero, List.getElem_cons_succ]
            go_simp
            try with_reducible rfl
          simp only [List.getElem_toArray, List.getElem_cons_zero, List.getElem_cons_succ, Act.put, List.setIfInBounds_toArray, List.set_cons_zero, List.set_cons_succ]
          refine wpAnyH_ready (rs := [18]) (by kernel_rfl) (by simp) ?_
          refine AllReadyH.cons rfl (fun K hK => ?_) AllReadyH.nil
          refine pos_in (by rfl) ?_
          simp only [List.getElem_toArray, List.getElem_cons_zero, List.getElem_cons_succ]
          go_simp
          refine (cS _ hL7.to).mono ?_
          rintro e y1 ⟨rfl, V1⟩
          refine hK.out _ _ ⟨range_under u0 (Step.of (w := W7) inferInstance).h b0, range_under u1 (Step.of (w := W7) inferInstance).h b1, range_under ug (Step.of (w := W7) inferInstance).h bg, range_under uh (Step.of (w := W7) inferInstance).h bh, ((Step.of (w := W7) inferInstance).h.cell da7).trans oa0, ((Step.of (w := W7) inferInstance).h.cell da7).trans oa1, ((Step.of (w := W7) inferInstance).h.cell db7).trans ob0, ((Step.of (w := W7) inferInstance).h.cell db7).trans ob1, Step.of inferInstance⟩ (fun hHeld => ?_)
          clear hK K
          refine wpAnyH_take (i := 19) (v := ?_) rfl (by kernel_rfl) (by kernel_rfl) (by kernel_rfl) (fun _ _ _ h => h) (Or.inl ⟨by rfl, ?_⟩) hHeld ?_
          rotate_left
          · intro w hSw
            obtain ⟨hh1, hh2, hh3, hh4, hh5, hh6, hh7, hh8, hh9⟩ := hSw
            simp only [List.getElem_toArray, List.getElem_cons_zero, List.getElem_cons_succ]
            go_simp
            try with_reducible rfl
          simp only [List.getElem_toArray, List.getElem_cons_zero, List.getElem_cons_succ, Act.put, List.setIfInBounds_toArray, List.set_cons_zero, List.set_cons_succ]
          refine wpAnyH_take (i := 20) (v := ?_) rfl (by kernel_rfl) (by kernel_rfl) (by kernel_rfl) (fun _ _ _ h => h) (Or.inl ⟨by rfl, ?_⟩) hHeld ?_
          rotate_left
          · intro w hSw
            obtain ⟨hh1, hh2, hh3, hh4, hh5, hh6, hh7, hh8, hh9⟩ := hSw
            simp only [List.getElem_toArray, List.getElem_cons_zero, List.getElem_cons_succ]
            go_simp
            try with_reducible rfl
          simp only [List.getElem_toArray, List.getElem_cons_zero, List.getElem_cons_succ, Act.put, List.setIfInBounds_toArray, List.set_cons_zero, List.set_cons_succ]
          refine wpAnyH_done (by kernel_rfl) ?_ _
          go_wp2
          go_ret
          have h1 : Step w W7 := SW7.out
          exact ⟨rfl, Step.of inferInstance⟩
        · as_aux_lemma =>
          clear hfin hmet hsm
          refine wp_region_held_drew (S := fun w' => w'.rangeAt G0 0 E0 ∧ w'.rangeAt G1 0 E1 ∧ w'.rangeAt g 0 F0 ∧ w'.rangeAt h 0 F1 ∧ w'.cell? ⟨w.heap.size, 0, none⟩ = some (.int .u64 p) ∧ w'.cell? ⟨w.heap.size, 1, none⟩ = some (.int .u64 q) ∧ w'.cell? ⟨w.heap.size + 1, 0, none⟩ = some (.int .u64 r) ∧ w'.cell? ⟨w.heap.size + 1, 1, none⟩ = some (.int .u64 s) ∧ Step W7 w') (by kernel_rfl) ⟨range_under u0 (Step.of (w := W7) inferInstance).h b0, range_under u1 (Step.of (w := W7) inferInstance).h b1, range_under ug (Step.of (w := W7) inferInstance).h bg, range_under uh (Step.of (w := W7) inferInstance).h bh, ((Step.of (w := W7) inferInstance).h.cell da7).trans oa0, ((Step.of (w := W7) inferInstance).h.cell da7).trans oa1, ((Step.of (w := W7) inferInstance).h.cell db7).trans ob0, ((Step.of (w := W7) inferInstance).h.cell db7).trans ob1, Step.of inferInstance⟩ (fun hHeld => ?_)
          refine wpAnyH_take (i := 0) (v := ?_) rfl (by kernel_rfl) (by kernel_rfl) (by kernel_rfl) (fun _ _ _ h => h) (Or.inl ⟨by rfl, ?_⟩) hHeld ?_
          rotate_left
          · intro w hSw
            obtain ⟨hh1, hh2, hh3, hh4, hh5, hh6, hh7, hh8, hh9⟩ := hSw
            simp only [List.getElem_toArray, List.getElem_cons_zero]
            go_simp
            try with_reducible rfl
          simp only [List.getElem_toArray, List.getElem_cons_zero, Act.put, List.setIfInBounds_toArray, List.set_cons_zero, List.set_cons_succ]
          refine wpAnyH_take (i := 1) (v := ?_) rfl (by kernel_rfl) (by kernel_rfl) (by kernel_rfl) (fun _ _ _ h => h) (Or.inl ⟨by rfl, ?_⟩) hHeld ?_
          rotate_left
          · intro w hSw
            obtain ⟨hh1, hh2, hh3, hh4, hh5, hh6, hh7, hh8, hh9⟩ := hSw
            simp only [List.getElem_toArray, List.getElem_cons_zero, List.getElem_cons_succ]
            go_simp
            try with_reducible rfl
          simp only [List.getElem_toArray, List.getElem_cons_zero, List.getElem_cons_succ, Act.put, List.setIfInBounds_toArray, List.set_cons_zero, List.set_cons_succ]
          refine wpAnyH_take (i := 2) (v := undef) rfl (by kernel_rfl) (by kernel_rfl) (by kernel_rfl) (fun _ _ _ h => h) (Or.inr ⟨by rfl, rfl⟩) hHeld ?_
          simp only [List.getElem_toArray, List.getElem_cons_zero, List.getElem_cons_succ, Act.put, List.setIfInBounds_toArray, List.set_cons_zero, List.set_cons_succ]
          refine wpAnyH_take (i := 3) (v := undef) rfl (by kernel_rfl) (by kernel_rfl) (by kernel_rfl) (fun _ _ _ h => h) (Or.inr ⟨by rfl, rfl⟩) hHeld ?_
          simp only [List.getElem_toArray, List.getElem_cons_zero, List.getElem_cons_succ, Act.put, List.setIfInBounds_toArray, List.set_cons_zero, List.set_cons_succ]
          refine wpAnyH_take (i := 4) (v := undef) rfl (by kernel_rfl) (by kernel_rfl) (by kernel_rfl) (fun _ _ _ h => h) (Or.inr ⟨by rfl, rfl⟩) hHeld ?_
          simp only [List.getElem_toArray, List.getElem_cons_zero, List.getElem_cons_succ, Act.put, List.setIfInBounds_toArray, List.set_cons_zero, List.set_cons_succ]
          refine wpAnyH_take (i := 5) (v := undef) rfl (by kernel_rfl) (by kernel_rfl) (by kernel_rfl) (fun _ _ _ h => h) (Or.inr ⟨by rfl, rfl⟩) hHeld ?_
          simp only [List.getElem_toArray, List.getElem_cons_zero, List.getElem_cons_succ, Act.put, List.setIfInBounds_toArray, List.set_cons_zero, List.set_cons_succ]
          refine wpAnyH_take (i := 6) (v := undef) rfl (by kernel_rfl) (by kernel_rfl) (by kernel_rfl) (fun _ _ _ h => h) (Or.inr ⟨by rfl, rfl⟩) hHeld ?_
          simp only [List.getElem_toArray, List.getElem_cons_zero, List.getElem_cons_succ, Act.put, List.setIfInBounds_toArray, List.set_cons_zero, List.set_cons_succ]
          refine wpAnyH_take (i := 7) (v := undef) rfl (by kernel_rfl) (by kernel_rfl) (by kernel_rfl) (fun _ _ _ h => h) (Or.inr ⟨by rfl, rfl⟩) hHeld ?_
          simp only [List.getElem_toArray, List.getElem_cons_zero, List.getElem_cons_succ, Act.put, List.setIfInBounds_toArray, List.set_cons_zero, List.set_cons_succ]
          refine wpAnyH_take (i := 8) (v := undef) rfl (by kernel_rfl) (by kernel_rfl) (by kernel_rfl) (fun _ _ _ h => h) (Or.inr ⟨by rfl, rfl⟩) hHeld ?_
          simp only [List.getElem_toArray, List.getElem_cons_zero, List.getElem_cons_succ, Act.put, List.setIfInBounds_toArray, List.set_cons_zero, List.set_cons_succ]
          refine wpAnyH_take (i := 9) (v := undef) rfl (by kernel_rfl) (by kernel_rfl) (by kernel_rfl) (fun _ _ _ h => h) (Or.inr ⟨by rfl, rfl⟩) hHeld ?_
          simp only [List.getElem_toArray, List.getElem_cons_zero, List.getElem_cons_succ, Act.put, List.setIfInBounds_toArray, List.set_cons_zero, List.set_cons_succ]
          refine wpAnyH_take (i := 10) (v := undef) rfl (by kernel_rfl) (by kernel_rfl) (by kernel_rfl) (fun _ _ _ h => h) (Or.inr ⟨by rfl, rfl⟩) hHeld ?_
          simp only [List.getElem_toArray, List.getElem_cons_zero, List.getElem_cons_succ, Act.put, List.setIfInBounds_toArray, List.set_cons_zero, List.set_cons_succ]
          refine wpAnyH_take (i := 11) (v := undef) rfl (by kernel_rfl) (by kernel_rfl) (by kernel_rfl) (fun _ _ _ h => h) (Or.inr ⟨by rfl, rfl⟩) hHeld ?_
          simp only [List.getElem_toArray, List.getElem_cons_zero, List.getElem_cons_succ, Act.put, List.setIfInBounds_toArray, List.set_cons_zero, List.set_cons_succ]
          refine wpAnyH_take (i := 12) (v := undef) rfl (by kernel_rfl) (by kernel_rfl) (by kernel_rfl) (fun _ _ _ h => h) (Or.inr ⟨by rfl, rfl⟩) hHeld ?_
          simp only [List.getElem_toArray, List.getElem_cons_zero, List.getElem_cons_succ, Act.put, List.setIfInBounds_toArray, List.set_cons_zero, List.set_cons_succ]
          refine wpAnyH_take (i := 13) (v := undef) rfl (by kernel_rfl) (by kernel_rfl) (by kernel_rfl) (fun _ _ _ h => h) (Or.inr ⟨by rfl, rfl⟩) hHeld ?_
          simp only [List.getElem_toArray, List.getElem_cons_zero, List.getElem_cons_succ, Act.put, List.setIfInBounds_toArray, List.set_cons_zero, List.set_cons_succ]
          refine wpAnyH_take (i := 14) (v := undef) rfl (by kernel_rfl) (by kernel_rfl) (by kernel_rfl) (fun _ _ _ h => h) (Or.inr ⟨by rfl, rfl⟩) hHeld ?_
          simp only [List.getElem_toArray, List.getElem_cons_zero, List.getElem_cons_succ, Act.put, List.setIfInBounds_toArray, List.set_cons_zero, List.set_cons_succ]
          refine wpAnyH_take (i := 15) (v := undef) rfl (by kernel_rfl) (by kernel_rfl) (by kernel_rfl) (fun _ _ _ h => h) (Or.inr ⟨by rfl, rfl⟩) hHeld ?_
          simp only [List.getElem_toArray, List.getElem_cons_zero, List.getElem_cons_succ, Act.put, List.setIfInBounds_toArray, List.set_cons_zero, List.set_cons_succ]
          refine wpAnyH_take (i := 16) (v := ?_) rfl (by kernel_rfl) (by kernel_rfl) (by kernel_rfl) (fun _ _ _ h => h) (Or.inl ⟨by rfl, ?_⟩) hHeld ?_
          rotate_left
          · intro w hSw
            obtain ⟨hh1, hh2, hh3, hh4, hh5, hh6, hh7, hh8, hh9⟩ := hSw
            simp only [List.getElem_toArray, List.getElem_cons_zero, List.getElem_cons_succ]
            go_simp
            try with_reducible rfl
          simp only [List.getElem_toArray, List.getElem_cons_zero, List.getElem_cons_succ, Act.put, List.setIfInBounds_toArray, List.set_cons_zero, List.set_cons_succ]
          refine wpAnyH_take (i := 17) (v := ?_) rfl (by kernel_rfl) (by kernel_rfl) (by kernel_rfl) (fun _ _ _ h => h) (Or.inl ⟨by rfl, ?_⟩) hHeld ?_
          rotate_left
          · intro w hSw
            obtain ⟨hh1, hh2, hh3, hh4, hh5, hh6, hh7, hh8, hh9⟩ := hSw
            simp only [List.getElem_toArray, List.getElem_cons_zero, List.getElem_cons_succ]
            go_simp
            try with_reducible rfl
          simp only [List.getElem_toArray, List.getElem_cons_zero, List.getElem_cons_succ, Act.put, List.setIfInBounds_toArray, List.set_cons_zero, List.set_cons_succ]
          refine wpAnyH_ready (rs := [18]) (by kernel_rfl) (by simp) ?_
          refine AllReadyH.cons rfl (fun K hK => ?_) AllReadyH.nil
          refine pos_in (by rfl) ?_
          simp only [List.getElem_toArray, List.getElem_cons_zero, List.getElem_cons_succ]
          go_simp
          refine (cS _ hL7.to).mono ?_
          rintro e y1 ⟨rfl, V1⟩
          refine hK.out _ _ ⟨range_under u0 (Step.of (w := W7) inferInstance).h b0, range_under u1 (Step.of (w := W7) inferInstance).h b1, range_under ug (Step.of (w := W7) inferInstance).h bg, range_under uh (Step.of (w := W7) inferInstance).h bh, ((Step.of (w := W7) inferInstance).h.cell da7).trans oa0, ((Step.of (w := W7) inferInstance).h.cell da7).trans oa1, ((Step.of (w := W7) inferInstance).h.cell db7).trans ob0, ((Step.of (w := W7) inferInstance).h.cell db7).trans ob1, Step.of inferInstance⟩ (fun hHeld => ?_)
          clear hK K
          refine wpAnyH_take (i := 19) (v := ?_) rfl (by kernel_rfl) (by kernel_rfl) (by kernel_rfl) (fun _ _ _ h => h) (Or.inl ⟨by rfl, ?_⟩) hHeld ?_
          rotate_left
          · intro w hSw
            obtain ⟨hh1, hh2, hh3, hh4, hh5, hh6, hh7, hh8, hh9⟩ := hSw
            simp only [List.getElem_toArray, List.getElem_cons_zero, List.getElem_cons_succ]
            go_simp
            try with_reducible rfl
          simp only [List.getElem_toArray, List.getElem_cons_zero, List.getElem_cons_succ, Act.put, List.setIfInBounds_toArray, List.set_cons_zero, List.set_cons_succ]
          refine wpAnyH_take (i := 20) (v := ?_) rfl (by kernel_rfl) (by kernel_rfl) (by kernel_rfl) (fun _ _ _ h => h) (Or.inl ⟨by rfl, ?_⟩) hHeld ?_
          rotate_left
          · intro w hSw
            obtain ⟨hh1, hh2, hh3, hh4, hh5, hh6, hh7, hh8, hh9⟩ := hSw
            simp only [List.getElem_toArray, List.getElem_cons_zero, List.getElem_cons_succ]
            go_simp
            try with_reducible rfl
          simp only [List.getElem_toArray, List.getElem_cons_zero, List.getElem_cons_succ, Act.put, List.setIfInBounds_toArray, List.set_cons_zero, List.set_cons_succ]
          refine wpAnyH_done (by kernel_rfl) ?_ _
          go_wp2
          go_ret
          have h1 : Step w W7 := SW7.out
          exact ⟨rfl, Step.of inferInstance⟩
end LawSealApart
end Go.Proofs.YtkcldacdpoiecaaDoor
