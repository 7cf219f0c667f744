/- The walk of the law MacZeros: true whatever comes. Conditions: what is handed in reads as bytes; sha.k reads as laid. -/
import Derived.Test.YtkihhflmgceckaaDoorSure06
import Derived.Test.YtkihhflmgceckaaDoorMacEq
import Derived.Test.YtkihhflmgceckaaDoorLaidK
import Derived.Test.YtkihhflmgceckaaDoorApZ
import Derived.Test.YtkihhflmgceckaaDoorApE
import Derived.Deep.RegionHeld3
import Derived.Laws.BytesArg
namespace Go.Proofs.YtkihhflmgceckaaDoor
open Go.RowKit Go.Lib
namespace LawMacZeros
open SlR Sh Sp Mc
theorem fill_zeros (s : List Nat) (p : Nat) (h : s.length + p ≤ 64) : fill (s ++ List.replicate p 0) = fill s := by
  unfold fill
  rw [List.append_assoc, List.replicate_append_replicate, List.length_append, List.length_replicate]
  congr 2
  omega
/-- Noughts behind a short key make no difference; a longer key is as its own sum. -/
theorem blk_zeros (k : List Nat) (p : Nat) (h : k.length + p ≤ 64) : blk (k ++ List.replicate p 0) = blk k := by
  unfold blk key
  rw [if_pos (by rw [List.length_append, List.length_replicate]; exact h), if_pos (by omega), fill_zeros k p h]
theorem blk_sum (k : List Nat) (h : ¬ k.length ≤ 64) : blk (Sh.sum k) = blk k := by
  unfold blk key
  rw [if_pos (by rw [sum_fine]; omega), if_neg h]
theorem hm_zeros (k t : List Nat) (p : Nat) (h : k.length + p ≤ 64) : Mc.hm (k ++ List.replicate p 0) t = Mc.hm k t := by
  unfold Mc.hm
  rw [blk_zeros k p h]
theorem hm_sum (k t : List Nat) (h : ¬ k.length ≤ 64) : Mc.hm (Sh.sum k) t = Mc.hm k t := by
  unfold Mc.hm
  rw [blk_sum k h]
theorem nl_rep (p : Nat) : NL (List.replicate p 0) = List.replicate p (0 : Int) := by unfold NL; rw [List.map_replicate]; rfl
theorem conv (w : World) (A : Option Addr) (n c : Nat) (b : List Nat) (hn : b.length = n) (hr : R8 w A b) :
    (convert 22 9 (.slice A n c)).run Tryd.prog w = .ok (.string (strOfNums (NL b))) w := by
  cases A with
  | none =>
    have h0 : b = [] := by
      cases b with
      | nil => rfl
      | cons x t =>
        obtain ⟨_, e, _, _⟩ := Row.atN hr (j := 0) (by simp)
        cases e
    subst h0
    exact run_convert_bytes_nil w 22 5 Tryd.underlying22 Tryd.underlying5 n c 9 Tryd.underlying9
  | some ad =>
    have hl : (loadCells ad n).run Tryd.prog w = .ok ((NL b).map (Value.int .u8)).toArray w := by
      have := run_loadCells_list (P := Tryd.prog) w ad ((NL b).map (Value.int .u8)) (fun j v hj => by
        have hjl : j < b.length := by
          have := (List.getElem?_eq_some_iff.1 hj).1
          simpa [NL] using this
        obtain ⟨_, e, _, h⟩ := Row.atN hr hjl
        cases e
        rw [h, ← hj, List.getElem?_map]
        unfold NL
        rw [List.getElem?_map, List.getElem?_eq_getElem hjl, List.getD_eq_getElem?_getD, List.getElem?_eq_getElem hjl]
        rfl)
      simpa [NL_len, hn] using this
    rw [run_convert_bytes_string w 22 9 5 _ n c Tryd.underlying22 Tryd.underlying5 Tryd.underlying9, run_bytesToString w _ n c (NL b) hl, foldl_push_bytes]
    simp [strOfNums, ByteArray.empty, ByteArray.emptyWithCapacity]
    rfl
theorem row_of_range {w : World} {g : Nat} {s : List Nat} (hg : g < w.heap.size) (h : w.rangeAt g 0 (vl .u8 s)) : R8 w (some ⟨g, 0, none⟩) s := fun j x hx => by
  refine ⟨_, rfl, hg, ?_⟩
  have := h j (.int .u8 x) (by unfold vl; rw [List.getElem?_map]; unfold NL at hx; rw [List.getElem?_map] at hx; cases hq : s[j]? with
    | none => rw [hq] at hx; cases hx
    | some v => rw [hq] at hx; cases hx; rfl)
  rw [Addr.add_mid]
  exact this
theorem lit0 (w : World) : ApE.Own .u8 5 (w.alloc (.cells #[] 5 (0, 0))) w.heap.size (.slice (some ⟨w.heap.size, 0, none⟩) 0 0) 0 [] := World.ownsRow_lit w #[] 0 (Nat.le_refl _) (by omega) rfl
set_option maxHeartbeats 6400000 in
set_option maxRecDepth 1000000 in
/-- A key of at most 64 bytes; p noughts behind it. -/
theorem core_lo (A : Option Addr) (n c : Nat) (k : List Nat) (A2 : Option Addr) (m c2 : Nat) (t : List Nat) (q : Int) (p : Nat) (E F : List Value) (w : World) (hn : k.length = n) (hr : R8 w A k) (hr2 : R8 w A2 t) (hL : LaidK w) (h1 : (n : Int) ≤ 64) (h2 : (m : Int) ≤ 400)
    (q0 : 0 ≤ q) (q1 : q < 256) (hp : Int.tmod q (65 - (n : Int)) = (p : Int)) (hp2 : n + p ≤ 64)
    (lF : F.length = 32) (oF : Hid (F.toArray.all (·.oneCell') = true))
    (cO : ∀ w A c, n ≤ c → R8 w A k → R8 w A2 t → LaidK w → Calls Tryd.prog 19 #[.slice A n c, .slice A2 m c2] w fun e w' => e = .returned (.agg F.toArray) ∧ Step w w')
    (cO9 : ∀ w A c, n + p ≤ c → R8 w A (k ++ List.replicate p 0) → R8 w A2 t → LaidK w → Calls Tryd.prog 19 #[.slice A (n + p) c, .slice A2 m c2] w fun e w' => e = .returned (.agg F.toArray) ∧ Step w w')
    (cB : ∀ w, R8 w A k → LaidK w → Calls Tryd.prog 17 #[.slice A n c] w fun e w' => e = .returned (.agg E.toArray) ∧ Step w w')
    (cB9 : ∀ w A c, n + p ≤ c → R8 w A (k ++ List.replicate p 0) → LaidK w → Calls Tryd.prog 17 #[.slice A (n + p) c] w fun e w' => e = .returned (.agg E.toArray) ∧ Step w w')
    (hEE : ∀ w, (Op.equalIn 10000 37 (.agg E.toArray) (.agg E.toArray)).run Tryd.prog w = .ok true w)
    (hFF : ∀ w, (Op.equalIn 10000 24 (.agg F.toArray) (.agg F.toArray)).run Tryd.prog w = .ok true w) :
    Calls Tryd.prog 6 #[.slice A n c, .slice A2 m c2, .int .u8 q] w fun e w' => e = .returned (.bool true) ∧ Step w w' := by
  obtain ⟨i0, hi, hz0, hz1, hz2⟩ := info_parts infoB
  obtain ⟨Z, hZ⟩ : ∃ Z, zs.toArray = Z := ⟨_, rfl⟩
  have hz : Hid (∀ w, (zeroValue 24).run Tryd.prog w = .ok (.agg Z) w) := Lib.hid (hZ ▸ zero32)
  have hsz : Z.size = 32 := by rw [← hZ]; rfl
  clear hZ
  have cS := fun (w : World) h1 => Mc.sure_any w h1
  have i24F : (Tryd.prog.info? 24).map (·.size) = some F.length := by rw [lF]; exact size32
  have h0 : (n : Int) ≤ 300 := by omega
  have lk : (NL k).length = n := by rw [NL_len, hn]
  have x1 : IntKind.i64.wrap (65 - (n : Int)) = 65 - (n : Int) := by simp [IntKind.wrap, IntKind.bits, IntKind.signed]; omega
  have x2 : IntKind.i64.wrap q = q := by simp [IntKind.wrap, IntKind.bits, IntKind.signed]; omega
  have x3 : ¬ (65 - (n : Int) = 0) := by omega
  have x4 : IntKind.i64.wrap (p : Int) = (p : Int) := by simp [IntKind.wrap, IntKind.bits, IntKind.signed]; omega
  have hp3 := Lib.hid hp2
  have hn2 : Hid (n ≤ 64) := Lib.hid (by omega)
  clear hp2
  go_enter Tryd.func6, Tryd.ntmps6
  go_wp2_with (first
    | refine Lg.wpAlloc (by rfl) 24 (by rfl) Z hz.out ?_
    | (at_builtin; refine App.copyO .u8 w.heap.size rfl _ _ 22 rfl 5 i0 _ 1 Tryd.underlying22 hi hz0 hz1 hz2 rfl rfl rfl A n c (NL k) rfl lk hr (by unfold maxLen; have := hn2.out; omega) (by have := hn2.out; omega) ?_; intro A3 c3 w3 O3 S3; have rA3 : R8 w3 A3 k := Row.of_own O3; have hcap := ApE.capped O3; clear O3)
    | (go_at_call 19; ((with_reducible refine (cO _ _ _ hcap rA3.to hr2.to hL.to).mono ?_); rintro e w4 ⟨rfl, S4⟩; obtain ⟨W4, st4, X4, q8, l4⟩ := store_new w4 Z F hsz lF oF.out)))
  clear st4 hz
  go_region_held3 (fun w' => Step W4 w')
    (exact Step.of inferInstance)
    (first
    | (refine ApE.stepE .u8 W4 (W4.alloc (.cells #[] 5 (0, 0))) (by rfl) _ _ 22 (by rfl) 5 i0 _ 1 Tryd.underlying22 hi hz0 hz1 hz2 rfl _ 0 [] (by rfl) (lit0 W4) A n c (NL k) (by rfl) lk hr.to (by have := hn2.out; omega) (by omega) ?_; intro A8 c8 w8 O8 S8)
    | (refine ApZ.step .u8 W4 w8 (by rfl) _ _ 22 3 (by rfl) 5 i0 .i64 .i64 Tryd.underlying22 Tryd.underlying3 hi hz0 hz1 hz2 _ (0 + n) _ (by rfl) O8 p (by first | rfl | (simp; done)) (by have := hp3.out; omega) ?_; intro A9 c9 w9 O9 S9))
  have k9 : n + p ≤ c9 := by
    have := ApE.capped O9
    omega
  have rM : R8 w9 A9 (k ++ List.replicate p 0) := by
    have := Row.of_own O9
    unfold R8
    rw [NL_app, nl_rep]
    exact this
  clear O8 O9
  go_wp2_with fail
  refine wp_region_held_drew (S := fun w' => w'.rangeAt w4.heap.size 0 F ∧ R8 w' A3 k ∧ R8 w' A k ∧ Step w9 w') (by kernel_rfl) ⟨range_under q8 (inferInstance : Ext W4 _).h l4, rA3.to, hr.to, Step.of inferInstance⟩ (fun hHeld => ?_)
  refine wpAnyH_take (i := 0) (v := ?_) rfl (by kernel_rfl) (by kernel_rfl) (by kernel_rfl) (fun _ _ _ h => h) (Or.inl ⟨by rfl, ?_⟩) hHeld ?_
  rotate_left
  · intro w hSw
    simp only [List.getElem_toArray, List.getElem_cons_zero]
    go_simp
    try with_reducible rfl
  simp only [List.getElem_toArray, List.getElem_cons_zero, Act.put, List.setIfInBounds_toArray, List.set_cons_zero, List.set_cons_succ]
  refine wpAnyH_take (i := 1) (v := ?_) rfl (by kernel_rfl) (by kernel_rfl) (by kernel_rfl) (fun _ _ _ h => h) (Or.inl ⟨by rfl, ?_⟩) hHeld ?_
  rotate_left
  · intro w hSw
    simp only [List.getElem_toArray, List.getElem_cons_zero, List.getElem_cons_succ]
    go_simp
    try with_reducible rfl
  simp only [List.getElem_toArray, List.getElem_cons_zero, List.getElem_cons_succ, Act.put, List.setIfInBounds_toArray, List.set_cons_zero, List.set_cons_succ]
  refine wpAnyH_take (i := 3) rfl (by kernel_rfl) (by kernel_rfl) (by kernel_rfl) (fun _ _ _ h => h) (yieldsIf_load_mid (by rfl) 24 (.tmp 8) (by rfl) w4.heap.size 0 (by rfl) F _ (fun _ h => h.1) Tryd.underlying24 rfl i24F) hHeld ?_
  simp only [List.getElem_toArray, List.getElem_cons_zero, List.getElem_cons_succ, Act.put, List.setIfInBounds_toArray, List.set_cons_zero, List.set_cons_succ]
  refine wpAnyH_ready (rs := [2]) (by kernel_rfl) (by simp) ?_
  refine AllReadyH.cons rfl (fun K hK => ?_) AllReadyH.nil
  refine pos_in (by rfl) ?_
  simp only [List.getElem_toArray, List.getElem_cons_zero, List.getElem_cons_succ]
  go_simp
  refine (cO9 _ _ _ k9 rM.to hr2.to hL.to).mono ?_
  rintro e w7 ⟨rfl, S7⟩
  refine hK.out _ _ ⟨range_under q8 (inferInstance : Ext W4 _).h l4, rA3.to, hr.to, Step.of inferInstance⟩ (fun hHeld => ?_)
  clear hK K
  refine wpAnyH_take (i := 4) (v := ?_) rfl (by kernel_rfl) (by kernel_rfl) (by kernel_rfl) (fun _ _ _ h => h) (Or.inl ⟨by rfl, ?_⟩) hHeld ?_
  rotate_left
  · intro w hSw
    simp only [List.getElem_toArray, List.getElem_cons_zero, List.getElem_cons_succ]
    go_simp
    try with_reducible rfl
  simp only [List.getElem_toArray, List.getElem_cons_zero, List.getElem_cons_succ, Act.put, List.setIfInBounds_toArray, List.set_cons_zero, List.set_cons_succ]
  refine wpAnyH_take (i := 5) (v := ?_) rfl (by kernel_rfl) (by kernel_rfl) (by kernel_rfl) (fun _ _ _ h => h) (Or.inl ⟨by rfl, ?_⟩) hHeld ?_
  rotate_left
  · intro w hSw
    simp only [List.getElem_toArray, List.getElem_cons_zero, List.getElem_cons_succ]
    go_simp
    try with_reducible rfl
  simp only [List.getElem_toArray, List.getElem_cons_zero, List.getElem_cons_succ, Act.put, List.setIfInBounds_toArray, List.set_cons_zero, List.set_cons_succ]
  refine wpAnyH_take (i := 6) (v := ?_) rfl (by kernel_rfl) (by kernel_rfl) (by kernel_rfl) (fun _ _ _ h => h) (Or.inl ⟨by rfl, ?_⟩) hHeld ?_
  rotate_left
  · intro w hSw
    simp only [List.getElem_toArray, List.getElem_cons_zero, List.getElem_cons_succ]
    go_simp
    try with_reducible rfl
  simp only [List.getElem_toArray, List.getElem_cons_zero, List.getElem_cons_succ, Act.put, List.setIfInBounds_toArray, List.set_cons_zero, List.set_cons_succ]
  refine wpAnyH_take (i := 8) (v := ?_) rfl (by kernel_rfl) (by kernel_rfl) (by kernel_rfl) (fun _ _ _ h => h) (Or.inl ⟨by rfl, ?_⟩) hHeld ?_
  rotate_left
  · intro w hSw
    simp only [List.getElem_toArray, List.getElem_cons_zero, List.getElem_cons_succ]
    go_simp
    try with_reducible rfl
  simp only [List.getElem_toArray, List.getElem_cons_zero, List.getElem_cons_succ, Act.put, List.setIfInBounds_toArray, List.set_cons_zero, List.set_cons_succ]
  refine wpAnyH_ready (rs := [7]) (by kernel_rfl) (by simp) ?_
  refine AllReadyH.cons rfl (fun K hK => ?_) AllReadyH.nil
  refine pos_in (by rfl) ?_
  simp only [List.getElem_toArray, List.getElem_cons_zero, List.getElem_cons_succ]
  go_simp
  refine (cB9 _ _ _ k9 rM.to hL.to).mono ?_
  rintro e w7 ⟨rfl, S7⟩
  refine hK.out _ _ ⟨range_under q8 (inferInstance : Ext W4 _).h l4, rA3.to, hr.to, Step.of inferInstance⟩ (fun hHeld => ?_)
  clear hK K
  refine wpAnyH_ready (rs := [9]) (by kernel_rfl) (by simp) ?_
  refine AllReadyH.cons rfl (fun K hK => ?_) AllReadyH.nil
  refine pos_in (by rfl) ?_
  simp only [List.getElem_toArray, List.getElem_cons_zero, List.getElem_cons_succ]
  go_simp
  refine (cB _ hr.to hL.to).mono ?_
  rintro e w7 ⟨rfl, S7⟩
  refine hK.out _ _ ⟨range_under q8 (inferInstance : Ext W4 _).h l4, rA3.to, hr.to, Step.of inferInstance⟩ (fun hHeld => ?_)
  clear hK K
  refine wpAnyH_take (i := 10) (v := ?_) rfl (by kernel_rfl) (by kernel_rfl) (by kernel_rfl) (fun _ _ _ h => h) (Or.inl ⟨by rfl, ?_⟩) hHeld ?_
  rotate_left
  · intro w hSw
    simp only [List.getElem_toArray, List.getElem_cons_zero, List.getElem_cons_succ]
    go_simp
    try with_reducible rfl
  simp only [List.getElem_toArray, List.getElem_cons_zero, List.getElem_cons_succ, Act.put, List.setIfInBounds_toArray, List.set_cons_zero, List.set_cons_succ]
  refine wpAnyH_take (i := 11) (v := ?_) rfl (by kernel_rfl) (by kernel_rfl) (by kernel_rfl) (fun _ _ _ h => h) (Or.inl ⟨by rfl, ?_⟩) hHeld ?_
  rotate_left
  · intro w hSw
    simp only [List.getElem_toArray, List.getElem_cons_zero, List.getElem_cons_succ]
    go_simp
    try with_reducible rfl
  simp only [List.getElem_toArray, List.getElem_cons_zero, List.getElem_cons_succ, Act.put, List.setIfInBounds_toArray, List.set_cons_zero, List.set_cons_succ]
  refine wpAnyH_take (i := 12) (v := ?_) rfl (by kernel_rfl) (by kernel_rfl) (by kernel_rfl) (fun _ _ _ h => h) (Or.inl ⟨by rfl, ?_⟩) hHeld ?_
  rotate_left
  · intro w hSw
    simp only [List.getElem_toArray, List.getElem_cons_zero, List.getElem_cons_succ]
    go_simp
    try with_reducible rfl
  simp only [List.getElem_toArray, List.getElem_cons_zero, List.getElem_cons_succ, Act.put, List.setIfInBounds_toArray, List.set_cons_zero, List.set_cons_succ]
  refine wpAnyH_take (i := 13) (v := ?_) rfl (by kernel_rfl) (by kernel_rfl) (by kernel_rfl) (fun _ _ _ h => h) (Or.inl ⟨by rfl, ?_⟩) hHeld ?_
  rotate_left
  · intro w hSw
    simp only [List.getElem_toArray, List.getElem_cons_zero, List.getElem_cons_succ]
    go_simp
    try with_reducible rfl
  simp only [List.getElem_toArray, List.getElem_cons_zero, List.getElem_cons_succ, Act.put, List.setIfInBounds_toArray, List.set_cons_zero, List.set_cons_succ]
  refine wpAnyH_take (i := 14) (v := ?_) rfl (by kernel_rfl) (by kernel_rfl) (by kernel_rfl) (fun _ _ _ h => h) (Or.inl ⟨by rfl, ?_⟩) hHeld ?_
  rotate_left
  · intro w hSw
    have hcv := conv w A3 n c3 k hn (And.left (And.right hSw))
    simp only [List.getElem_toArray, List.getElem_cons_zero, List.getElem_cons_succ]
    go_simp
    try with_reducible rfl
  simp only [List.getElem_toArray, List.getElem_cons_zero, List.getElem_cons_succ, Act.put, List.setIfInBounds_toArray, List.set_cons_zero, List.set_cons_succ]
  refine wpAnyH_take (i := 15) (v := ?_) rfl (by kernel_rfl) (by kernel_rfl) (by kernel_rfl) (fun _ _ _ h => h) (Or.inl ⟨by rfl, ?_⟩) hHeld ?_
  rotate_left
  · intro w hSw
    simp only [List.getElem_toArray, List.getElem_cons_zero, List.getElem_cons_succ]
    go_simp
    try with_reducible rfl
  simp only [List.getElem_toArray, List.getElem_cons_zero, List.getElem_cons_succ, Act.put, List.setIfInBounds_toArray, List.set_cons_zero, List.set_cons_succ]
  refine wpAnyH_take (i := 16) (v := ?_) rfl (by kernel_rfl) (by kernel_rfl) (by kernel_rfl) (fun _ _ _ h => h) (Or.inl ⟨by rfl, ?_⟩) hHeld ?_
  rotate_left
  · intro w hSw
    have hcv := conv w A n c k hn (And.left (And.right (And.right hSw)))
    simp only [List.getElem_toArray, List.getElem_cons_zero, List.getElem_cons_succ]
    go_simp
    try with_reducible rfl
  simp only [List.getElem_toArray, List.getElem_cons_zero, List.getElem_cons_succ, Act.put, List.setIfInBounds_toArray, List.set_cons_zero, List.set_cons_succ]
  refine wpAnyH_take (i := 17) (v := ?_) rfl (by kernel_rfl) (by kernel_rfl) (by kernel_rfl) (fun _ _ _ h => h) (Or.inl ⟨by rfl, ?_⟩) hHeld ?_
  rotate_left
  · intro w hSw
    simp only [List.getElem_toArray, List.getElem_cons_zero, List.getElem_cons_succ]
    go_simp
    try with_reducible rfl
  simp only [List.getElem_toArray, List.getElem_cons_zero, List.getElem_cons_succ, Act.put, List.setIfInBounds_toArray, List.set_cons_zero, List.set_cons_succ]
  refine wpAnyH_take (i := 18) (v := ?_) rfl (by kernel_rfl) (by kernel_rfl) (by kernel_rfl) (fun _ _ _ h => h) (Or.inl ⟨by rfl, ?_⟩) hHeld ?_
  rotate_left
  · intro w hSw
    simp only [List.getElem_toArray, List.getElem_cons_zero, List.getElem_cons_succ]
    go_simp
    try with_reducible rfl
  simp only [List.getElem_toArray, List.getElem_cons_zero, List.getElem_cons_succ, Act.put, List.setIfInBounds_toArray, List.set_cons_zero, List.set_cons_succ]
  refine wpAnyH_take (i := 19) (v := ?_) rfl (by kernel_rfl) (by kernel_rfl) (by kernel_rfl) (fun _ _ _ h => h) (Or.inl ⟨by rfl, ?_⟩) hHeld ?_
  rotate_left
  · intro w hSw
    simp only [List.getElem_toArray, List.getElem_cons_zero, List.getElem_cons_succ]
    go_simp
    try with_reducible rfl
  simp only [List.getElem_toArray, List.getElem_cons_zero, List.getElem_cons_succ, Act.put, List.setIfInBounds_toArray, List.set_cons_zero, List.set_cons_succ]
  refine wpAnyH_ready (rs := [20]) (by kernel_rfl) (by simp) ?_
  refine AllReadyH.cons rfl (fun K hK => ?_) AllReadyH.nil
  refine pos_in (by rfl) ?_
  simp only [List.getElem_toArray, List.getElem_cons_zero, List.getElem_cons_succ]
  go_simp
  refine (cS _ hL.to).mono ?_
  rintro e w7 ⟨rfl, S7⟩
  refine hK.out _ _ ⟨range_under q8 (inferInstance : Ext W4 _).h l4, rA3.to, hr.to, Step.of inferInstance⟩ (fun hHeld => ?_)
  clear hK K
  refine wpAnyH_take (i := 21) (v := ?_) rfl (by kernel_rfl) (by kernel_rfl) (by kernel_rfl) (fun _ _ _ h => h) (Or.inl ⟨by rfl, ?_⟩) hHeld ?_
  rotate_left
  · intro w hSw
    simp only [List.getElem_toArray, List.getElem_cons_zero, List.getElem_cons_succ]
    go_simp
    try with_reducible rfl
  simp only [List.getElem_toArray, List.getElem_cons_zero, List.getElem_cons_succ, Act.put, List.setIfInBounds_toArray, List.set_cons_zero, List.set_cons_succ]
  refine wpAnyH_take (i := 22) (v := ?_) rfl (by kernel_rfl) (by kernel_rfl) (by kernel_rfl) (fun _ _ _ h => h) (Or.inl ⟨by rfl, ?_⟩) hHeld ?_
  rotate_left
  · intro w hSw
    simp only [List.getElem_toArray, List.getElem_cons_zero, List.getElem_cons_succ]
    go_simp
    try with_reducible rfl
  simp only [List.getElem_toArray, List.getElem_cons_zero, List.getElem_cons_succ, Act.put, List.setIfInBounds_toArray, List.set_cons_zero, List.set_cons_succ]
  refine wpAnyH_done (by kernel_rfl) ?_ _
  go_wp2
  go_ret
  exact ⟨rfl, Step.of inferInstance⟩
set_option maxHeartbeats 6400000 in
set_option maxRecDepth 1000000 in
/-- A key of more than 64 bytes. -/
theorem core_hi (A : Option Addr) (n c : Nat) (k : List Nat) (A2 : Option Addr) (m c2 : Nat) (t : List Nat) (q : Int) (D : List Value) (s : List Nat) (F : List Value) (w : World) (hn : k.length = n) (hr : R8 w A k) (hr2 : R8 w A2 t) (hL : LaidK w) (h0 : (n : Int) ≤ 300) (h1 : ¬ (n : Int) ≤ 64) (h2 : (m : Int) ≤ 400)
    (lF : F.length = 32) (oF : Hid (F.toArray.all (·.oneCell') = true)) (lD : D.length = 32) (oD : Hid (D.toArray.all (·.oneCell') = true)) (rD : ∀ (w : World) (g : Nat), g < w.heap.size → w.rangeAt g 0 D → R8 w (some ⟨g, 0, none⟩) s)
    (cO : ∀ w A c, n ≤ c → R8 w A k → R8 w A2 t → LaidK w → Calls Tryd.prog 19 #[.slice A n c, .slice A2 m c2] w fun e w' => e = .returned (.agg F.toArray) ∧ Step w w')
    (cU : ∀ w, R8 w A k → LaidK w → Calls Tryd.prog 8 #[.slice A n c] w fun e w' => e = .returned (.agg D.toArray) ∧ Step w w')
    (cH : ∀ w A, R8 w A s → R8 w A2 t → LaidK w → Calls Tryd.prog 19 #[.slice A 32 32, .slice A2 m c2] w fun e w' => e = .returned (.agg F.toArray) ∧ Step w w')
    (hFF : ∀ w, (Op.equalIn 10000 24 (.agg F.toArray) (.agg F.toArray)).run Tryd.prog w = .ok true w) :
    Calls Tryd.prog 6 #[.slice A n c, .slice A2 m c2, .int .u8 q] w fun e w' => e = .returned (.bool true) ∧ Step w w' := by
  obtain ⟨i0, hi, hz0, hz1, hz2⟩ := info_parts infoB
  obtain ⟨Z, hZ⟩ : ∃ Z, zs.toArray = Z := ⟨_, rfl⟩
  have hz : Hid (∀ w, (zeroValue 24).run Tryd.prog w = .ok (.agg Z) w) := Lib.hid (hZ ▸ zero32)
  have hsz : Z.size = 32 := by rw [← hZ]; rfl
  clear hZ
  have cS := fun (w : World) h1 => Mc.sure_any w h1
  have i24F : (Tryd.prog.info? 24).map (·.size) = some F.length := by rw [lF]; exact size32
  have lk : (NL k).length = n := by rw [NL_len, hn]
  have hn2 : Hid (n ≤ 300) := Lib.hid (by omega)
  go_enter Tryd.func6, Tryd.ntmps6
  go_wp2_with (first
    | refine Lg.wpAlloc (by rfl) 24 (by rfl) Z hz.out ?_
    | (at_builtin; refine App.copyO .u8 w.heap.size rfl _ _ 22 rfl 5 i0 _ 1 Tryd.underlying22 hi hz0 hz1 hz2 rfl rfl rfl A n c (NL k) rfl lk hr (by unfold maxLen; have := hn2.out; omega) (by have := hn2.out; omega) ?_; intro A3 c3 w3 O3 S3; have rA3 : R8 w3 A3 k := Row.of_own O3; have hcap := ApE.capped O3; clear O3)
    | (go_at_call 19; ((with_reducible refine (cO _ _ _ hcap rA3.to hr2.to hL.to).mono ?_); rintro e w4 ⟨rfl, S4⟩; obtain ⟨W4, st4, X4, q8, l4⟩ := store_new w4 Z F hsz lF oF.out))
    | (go_at_call 8; ((with_reducible refine (cU _ hr.to hL.to).mono ?_); rintro e w5 ⟨rfl, S5⟩; obtain ⟨W5, st5, X5, q10, l5⟩ := store_new w5 Z D hsz lD oD.out)))
  have rH := rD _ _ l5 q10
  clear st4 st5 hz
  refine wp_region_held_drew (S := fun w' => w'.rangeAt w4.heap.size 0 F ∧ R8 w' A3 k ∧ R8 w' A k ∧ Step W5 w') (by kernel_rfl) ⟨range_under q8 (inferInstance : Ext W4 _).h l4, rA3.to, hr.to, Step.of inferInstance⟩ (fun hHeld => ?_)
  refine wpAnyH_take (i := 0) (v := ?_) rfl (by kernel_rfl) (by kernel_rfl) (by kernel_rfl) (fun _ _ _ h => h) (Or.inl ⟨by rfl, ?_⟩) hHeld ?_
  rotate_left
  · intro w hSw
    simp only [List.getElem_toArray, List.getElem_cons_zero]
    go_simp
    try with_reducible rfl
  simp only [List.getElem_toArray, List.getElem_cons_zero, Act.put, List.setIfInBounds_toArray, List.set_cons_zero, List.set_cons_succ]
  refine wpAnyH_take (i := 1) (v := ?_) rfl (by kernel_rfl) (by kernel_rfl) (by kernel_rfl) (fun _ _ _ h => h) (Or.inl ⟨by rfl, ?_⟩) hHeld ?_
  rotate_left
  · intro w hSw
    simp only [List.getElem_toArray, List.getElem_cons_zero, List.getElem_cons_succ]
    go_simp
    try with_reducible rfl
  simp only [List.getElem_toArray, List.getElem_cons_zero, List.getElem_cons_succ, Act.put, List.setIfInBounds_toArray, List.set_cons_zero, List.set_cons_succ]
  refine wpAnyH_take (i := 3) rfl (by kernel_rfl) (by kernel_rfl) (by kernel_rfl) (fun _ _ _ h => h) (yieldsIf_load_mid (by rfl) 24 (.tmp 8) (by rfl) w4.heap.size 0 (by rfl) F _ (fun _ h => h.1) Tryd.underlying24 rfl i24F) hHeld ?_
  simp only [List.getElem_toArray, List.getElem_cons_zero, List.getElem_cons_succ, Act.put, List.setIfInBounds_toArray, List.set_cons_zero, List.set_cons_succ]
  refine wpAnyH_ready (rs := [2]) (by kernel_rfl) (by simp) ?_
  refine AllReadyH.cons rfl (fun K hK => ?_) AllReadyH.nil
  refine pos_in (by rfl) ?_
  simp only [List.getElem_toArray, List.getElem_cons_zero, List.getElem_cons_succ]
  go_simp
  refine (cH _ _ rH.to hr2.to hL.to).mono ?_
  rintro e w7 ⟨rfl, S7⟩
  refine hK.out _ _ ⟨range_under q8 (inferInstance : Ext W4 _).h l4, rA3.to, hr.to, Step.of inferInstance⟩ (fun hHeld => ?_)
  clear hK K
  refine wpAnyH_take (i := 4) (v := ?_) rfl (by kernel_rfl) (by kernel_rfl) (by kernel_rfl) (fun _ _ _ h => h) (Or.inl ⟨by rfl, ?_⟩) hHeld ?_
  rotate_left
  · intro w hSw
    simp only [List.getElem_toArray, List.getElem_cons_zero, List.getElem_cons_succ]
    go_simp
    try with_reducible rfl
  simp only [List.getElem_toArray, List.getElem_cons_zero, List.getElem_cons_succ, Act.put, List.setIfInBounds_toArray, List.set_cons_zero, List.set_cons_succ]
  refine wpAnyH_take (i := 5) (v := ?_) rfl (by kernel_rfl) (by kernel_rfl) (by kernel_rfl) (fun _ _ _ h => h) (Or.inl ⟨by rfl, ?_⟩) hHeld ?_
  rotate_left
  · intro w hSw
    simp only [List.getElem_toArray, List.getElem_cons_zero, List.getElem_cons_succ]
    go_simp
    try with_reducible rfl
  simp only [List.getElem_toArray, List.getElem_cons_zero, List.getElem_cons_succ, Act.put, List.setIfInBounds_toArray, List.set_cons_zero, List.set_cons_succ]
  refine wpAnyH_take (i := 6) (v := ?_) rfl (by kernel_rfl) (by kernel_rfl) (by kernel_rfl) (fun _ _ _ h => h) (Or.inl ⟨by rfl, ?_⟩) hHeld ?_
  rotate_left
  · intro w hSw
    simp only [List.getElem_toArray, List.getElem_cons_zero, List.getElem_cons_succ]
    go_simp
    try with_reducible rfl
  simp only [List.getElem_toArray, List.getElem_cons_zero, List.getElem_cons_succ, Act.put, List.setIfInBounds_toArray, List.set_cons_zero, List.set_cons_succ]
  refine wpAnyH_take (i := 7) (v := ?_) rfl (by kernel_rfl) (by kernel_rfl) (by kernel_rfl) (fun _ _ _ h => h) (Or.inl ⟨by rfl, ?_⟩) hHeld ?_
  rotate_left
  · intro w hSw
    have hcv := conv w A3 n c3 k hn (And.left (And.right hSw))
    simp only [List.getElem_toArray, List.getElem_cons_zero, List.getElem_cons_succ]
    go_simp
    try with_reducible rfl
  simp only [List.getElem_toArray, List.getElem_cons_zero, List.getElem_cons_succ, Act.put, List.setIfInBounds_toArray, List.set_cons_zero, List.set_cons_succ]
  refine wpAnyH_take (i := 8) (v := ?_) rfl (by kernel_rfl) (by kernel_rfl) (by kernel_rfl) (fun _ _ _ h => h) (Or.inl ⟨by rfl, ?_⟩) hHeld ?_
  rotate_left
  · intro w hSw
    simp only [List.getElem_toArray, List.getElem_cons_zero, List.getElem_cons_succ]
    go_simp
    try with_reducible rfl
  simp only [List.getElem_toArray, List.getElem_cons_zero, List.getElem_cons_succ, Act.put, List.setIfInBounds_toArray, List.set_cons_zero, List.set_cons_succ]
  refine wpAnyH_take (i := 9) (v := ?_) rfl (by kernel_rfl) (by kernel_rfl) (by kernel_rfl) (fun _ _ _ h => h) (Or.inl ⟨by rfl, ?_⟩) hHeld ?_
  rotate_left
  · intro w hSw
    have hcv := conv w A n c k hn (And.left (And.right (And.right hSw)))
    simp only [List.getElem_toArray, List.getElem_cons_zero, List.getElem_cons_succ]
    go_simp
    try with_reducible rfl
  simp only [List.getElem_toArray, List.getElem_cons_zero, List.getElem_cons_succ, Act.put, List.setIfInBounds_toArray, List.set_cons_zero, List.set_cons_succ]
  refine wpAnyH_take (i := 10) (v := ?_) rfl (by kernel_rfl) (by kernel_rfl) (by kernel_rfl) (fun _ _ _ h => h) (Or.inl ⟨by rfl, ?_⟩) hHeld ?_
  rotate_left
  · intro w hSw
    simp only [List.getElem_toArray, List.getElem_cons_zero, List.getElem_cons_succ]
    go_simp
    try with_reducible rfl
  simp only [List.getElem_toArray, List.getElem_cons_zero, List.getElem_cons_succ, Act.put, List.setIfInBounds_toArray, List.set_cons_zero, List.set_cons_succ]
  refine wpAnyH_take (i := 11) (v := ?_) rfl (by kernel_rfl) (by kernel_rfl) (by kernel_rfl) (fun _ _ _ h => h) (Or.inl ⟨by rfl, ?_⟩) hHeld ?_
  rotate_left
  · intro w hSw
    simp only [List.getElem_toArray, List.getElem_cons_zero, List.getElem_cons_succ]
    go_simp
    try with_reducible rfl
  simp only [List.getElem_toArray, List.getElem_cons_zero, List.getElem_cons_succ, Act.put, List.setIfInBounds_toArray, List.set_cons_zero, List.set_cons_succ]
  refine wpAnyH_take (i := 12) (v := ?_) rfl (by kernel_rfl) (by kernel_rfl) (by kernel_rfl) (fun _ _ _ h => h) (Or.inl ⟨by rfl, ?_⟩) hHeld ?_
  rotate_left
  · intro w hSw
    simp only [List.getElem_toArray, List.getElem_cons_zero, List.getElem_cons_succ]
    go_simp
    try with_reducible rfl
  simp only [List.getElem_toArray, List.getElem_cons_zero, List.getElem_cons_succ, Act.put, List.setIfInBounds_toArray, List.set_cons_zero, List.set_cons_succ]
  refine wpAnyH_ready (rs := [13]) (by kernel_rfl) (by simp) ?_
  refine AllReadyH.cons rfl (fun K hK => ?_) AllReadyH.nil
  refine pos_in (by rfl) ?_
  simp only [List.getElem_toArray, List.getElem_cons_zero, List.getElem_cons_succ]
  go_simp
  refine (cS _ hL.to).mono ?_
  rintro e w7 ⟨rfl, S7⟩
  refine hK.out _ _ ⟨range_under q8 (inferInstance : Ext W4 _).h l4, rA3.to, hr.to, Step.of inferInstance⟩ (fun hHeld => ?_)
  clear hK K
  refine wpAnyH_take (i := 14) (v := ?_) rfl (by kernel_rfl) (by kernel_rfl) (by kernel_rfl) (fun _ _ _ h => h) (Or.inl ⟨by rfl, ?_⟩) hHeld ?_
  rotate_left
  · intro w hSw
    simp only [List.getElem_toArray, List.getElem_cons_zero, List.getElem_cons_succ]
    go_simp
    try with_reducible rfl
  simp only [List.getElem_toArray, List.getElem_cons_zero, List.getElem_cons_succ, Act.put, List.setIfInBounds_toArray, List.set_cons_zero, List.set_cons_succ]
  refine wpAnyH_take (i := 15) (v := ?_) rfl (by kernel_rfl) (by kernel_rfl) (by kernel_rfl) (fun _ _ _ h => h) (Or.inl ⟨by rfl, ?_⟩) hHeld ?_
  rotate_left
  · intro w hSw
    simp only [List.getElem_toArray, List.getElem_cons_zero, List.getElem_cons_succ]
    go_simp
    try with_reducible rfl
  simp only [List.getElem_toArray, List.getElem_cons_zero, List.getElem_cons_succ, Act.put, List.setIfInBounds_toArray, List.set_cons_zero, List.set_cons_succ]
  refine wpAnyH_done (by kernel_rfl) ?_ _
  go_wp2
  go_ret
  exact ⟨rfl, Step.of inferInstance⟩
set_option maxHeartbeats 3200000 in
set_option maxRecDepth 100000 in
theorem far (A : Option Addr) (n c : Nat) (A2 : Option Addr) (m c2 : Nat) (q : Int) (w : World) (hL : LaidK w) (h : 300 < n ∨ 400 < m) :
    Calls Tryd.prog 6 #[.slice A n c, .slice A2 m c2, .int .u8 q] w fun e w' => e = .returned (.bool true) ∧ Step w w' := by
  have cS := fun (w : World) h1 => Mc.sure_any w h1
  rcases (by omega : (¬ (n : Int) ≤ 300) ∨ ((n : Int) ≤ 300 ∧ ¬ (m : Int) ≤ 400)) with h1 | ⟨h1, h2⟩
  all_goals
    clear h
    go_enter Tryd.func6, Tryd.ntmps6
    go_wp2_with (go_at_call 15; ((with_reducible refine (cS _ hL.to).mono ?_); rintro e w7 ⟨rfl, S7⟩))
    go_ret
    exact ⟨rfl, Step.of inferInstance⟩
theorem walkN (A : Option Addr) (n c : Nat) (k : List Nat) (A2 : Option Addr) (m c2 : Nat) (t : List Nat) (q : Int) (w : World) (hn : k.length = n) (hnc : n ≤ c) (hr : R8 w A k) (hb : B8 k) (hm : t.length = m) (hr2 : R8 w A2 t) (hb2 : B8 t) (q0 : 0 ≤ q) (q1 : q < 256) (hL : LaidK w) :
    Calls Tryd.prog 6 #[.slice A n c, .slice A2 m c2, .int .u8 q] w fun e w' => e = .returned (.bool true) ∧ Step w w' := by
  by_cases h : 300 < n ∨ 400 < m
  · exact far A n c A2 m c2 q w hL h
  have h1 : n ≤ 300 := by omega
  have h2 : m ≤ 400 := by omega
  clear h
  have cO : ∀ w A c, n ≤ c → R8 w A k → R8 w A2 t → LaidK w → Calls Tryd.prog 19 #[.slice A n c, .slice A2 m c2] w fun e w' => e = .returned (.agg (vl .u8 (Mc.hm k t)).toArray) ∧ Step w w' :=
    fun w A c hc h h' hL => of_mac A c n k A2 c2 m t w hn hc (by omega) h hb hm (by omega) h' hb2 hL
  have hFF : ∀ w, (Op.equalIn 10000 24 (.agg (vl .u8 (Mc.hm k t)).toArray) (.agg (vl .u8 (Mc.hm k t)).toArray)).run Tryd.prog w = .ok true w := fun w => by simpa using eq32 (Mc.hm k t) (Mc.hm k t) (hm_len k t) (hm_len k t) w
  by_cases h64 : n ≤ 64
  · obtain ⟨p, hp⟩ : ∃ p : Nat, Int.tmod q (65 - (n : Int)) = (p : Int) := by
      have := Int.tmod_nonneg (65 - (n : Int)) q0
      exact ⟨(Int.tmod q (65 - (n : Int))).toNat, (Int.toNat_of_nonneg this).symm⟩
    have hp2 : n + p ≤ 64 := by
      have := Int.tmod_lt_of_pos q (show 0 < 65 - (n : Int) by omega)
      omega
    have lM : (k ++ List.replicate p 0).length = n + p := by rw [List.length_append, List.length_replicate, hn]
    have bM : B8 (k ++ List.replicate p 0) := b8_app hb (b8_rep p)
    refine core_lo A n c k A2 m c2 t q p (vl .u8 (blk k)) (vl .u8 (Mc.hm k t)) w hn hr hr2 hL (by omega) (by omega) q0 q1 hp hp2 (by rw [vl_len, hm_len]) (Lib.hid (vl_one .u8 _)) cO
      (fun w A c hc h h' hL => ?_) (fun w h hL => block_any A c n k w hn hnc (by omega) h hb hL) (fun w A c hc h hL => ?_) (fun w => by simpa using eq64 (blk k) (blk k) (blk_len k) (blk_len k) w) hFF
    · have := of_mac A c (n + p) (k ++ List.replicate p 0) A2 c2 m t w lM hc (by omega) h bM hm (by omega) h' hb2 hL
      rwa [hm_zeros k t p (by omega)] at this
    · have := block_any A c (n + p) (k ++ List.replicate p 0) w lM hc (by omega) h bM hL
      rwa [blk_zeros k p (by omega)] at this
  · have bS : B8 (Sh.sum k) := sum_b8 ⟨k, hb, by omega⟩
    refine core_hi A n c k A2 m c2 t q (vl .u8 (Sh.sum k)) (Sh.sum k) (vl .u8 (Mc.hm k t)) w hn hr hr2 hL (by omega) (by omega) (by omega) (by rw [vl_len, hm_len]) (Lib.hid (vl_one .u8 _)) (by rw [vl_len, sum_fine]) (Lib.hid (vl_one .u8 _)) (fun w g => row_of_range) cO
      (fun w h hL => of_dev A c n ⟨k, hb, by omega⟩ w hn hnc h hL) (fun w A h h' hL => ?_) hFF
    have := of_mac A 32 32 (Sh.sum k) A2 c2 m t w (sum_fine k) (Nat.le_refl _) (by omega) h bS hm (by omega) h' hb2 hL
    rwa [hm_sum k t (by omega)] at this
/-- Integers that are bytes, as naturals. -/
theorem row_nl {w : World} {A : Option Addr} {n : Nat} (xs : List Int) (hl : xs.length = n) (hr : Row .u8 w A xs) (bd : ∀ z ∈ xs, 0 ≤ z ∧ z < 256) : ∃ bs : List Nat, bs.length = n ∧ R8 w A bs ∧ B8 bs := by
  have e : xs = NL (xs.map Int.toNat) := by
    unfold NL
    rw [List.map_map]
    refine (List.map_id' xs).symm.trans (List.map_congr_left fun z hz => ?_)
    have := bd z hz
    exact (Int.toNat_of_nonneg this.1).symm
  have b8 : B8 (xs.map Int.toNat) := Sp.b8_mem fun x hx => by
    obtain ⟨z, hz, rfl⟩ := List.mem_map.1 hx
    have := bd z hz
    omega
  rw [e] at hr
  exact ⟨_, by simp [hl], hr, b8⟩
theorem walk (A : Option Addr) (n c : Nat) (xs : List Int) (A2 : Option Addr) (m c2 : Nat) (ys : List Int) (q : Int) (w : World) (hl : xs.length = n) (hnc : n ≤ c) (hr : Row .u8 w A xs) (bd : ∀ z ∈ xs, 0 ≤ z ∧ z < 256)
    (hm : ys.length = m) (_hmc : m ≤ c2) (hr2 : Row .u8 w A2 ys) (bd2 : ∀ z ∈ ys, 0 ≤ z ∧ z < 256) (bq : 0 ≤ q ∧ q ≤ 255) (hL : Sp.LaidK w) :
    Calls Tryd.prog 6 #[.slice A n c, .slice A2 m c2, .int .u8 q] w fun e w' => e = .returned (.bool true) ∧ Step w w' := by
  obtain ⟨k, h1, h2, h3⟩ := row_nl xs hl hr bd
  obtain ⟨t, g1, g2, g3⟩ := row_nl ys hm hr2 bd2
  exact walkN A n c k A2 m c2 t q w h1 hnc h2 h3 g1 g2 g3 bq.1 (by omega) hL
end LawMacZeros
end Go.Proofs.YtkihhflmgceckaaDoor
