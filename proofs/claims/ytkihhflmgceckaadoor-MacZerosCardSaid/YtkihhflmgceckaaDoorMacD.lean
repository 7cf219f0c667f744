/- mac.Of and mac.Check: the sum with a key. Conditions: what is handed in reads as bytes; sha.k reads as laid. -/
import Derived.Test.YtkihhflmgceckaaDoorMacC
import Derived.Deep.RegionHeld3
namespace Go.Proofs.YtkihhflmgceckaaDoor
open Go.RowKit Go.Lib
namespace Mc
open SlR Sh Sp
theorem store_new64 (w : World) (Z : Array Value) (C : List Value) (hsz : Z.size = 64) (lC : C.length = 64) (oC : C.toArray.all (·.oneCell') = true) :
    ∃ W, (storeCells ⟨w.heap.size, 0, none⟩ C).run Tryd.prog (w.alloc (.cells Z 37)) = .ok () W ∧ Step w W ∧ W.rangeAt w.heap.size 0 C ∧ w.heap.size < W.heap.size := by
  have ht := Lg.there_new w Z 37 64 hsz
  have hB : Below w.heap.size w ((w.alloc (.cells Z 37)).setCells w.heap.size 0 C) := Lg.below_setCells (Nat.le_refl _) _ _ _ ((Below.refl _ w).alloc (Nat.le_refl _) _)
  have hR := World.rangeAt_setCells_same (w.alloc (.cells Z 37)) w.heap.size 0 C (by rw [lC]; exact ht)
  refine ⟨_, ?_, ⟨hB⟩, hR, ?_⟩
  · have := run_storeCells_cells (P := Tryd.prog) w.heap.size 0 C 0 (w.alloc (.cells Z 37)) (fun j hj => by simpa using (ht j (by omega)).1) (fun j hj => by have := (ht j (by omega)).2; simp at this; simp) (fun v hv => (Array.all_eq_true_iff_forall_mem.1 oC) v (by simpa using hv))
    simp at this
    exact this
  · have h := hR 0 _ (List.getElem?_eq_getElem (by omega))
    unfold World.cell? at h
    apply Classical.byContradiction
    intro hn
    rw [Array.getElem?_eq_none (by simpa using hn)] at h
    cases h
theorem step_store_mid {P : Program} {ops : Array Oper} {o : Oper} {a : Act} {w : World} {K : Act → World → Prop} {Q : Exit → Act → World → Prop} {E : Prop} (hgd : o.guard = none) (ty : TypeId) (x y : Operand) (ho : o.op = .store ty x y)
    (b p : Nat) (cells : Array Value) (hx : a.eval x = .pointer (some ⟨b, p, none⟩)) (hy : a.eval y = .agg cells) (ht : w.there b p cells.size) (hi : (P.info? ty).map (·.size) = some cells.size) (h1 : cells.all (·.oneCell') = true)
    (h : K (a.put o.dst undef) (w.setCells b p cells.toList)) : if Region.wanted o (yielded ops a.tmps) = true then Oper.wp P o a w K Q else E := by
  have hw : Region.wanted o (yielded ops a.tmps) = true := by simp [Region.wanted, hgd]
  rw [if_pos hw]
  exact wp_store_mid ty x y ho b p cells hx hy ht hi h1 h
theorem b8_inner {k t : List Nat} (hk : B8 k) (hl : k.length ≤ 100000) (ht : B8 t) : B8 (msk 54 (blk k) ++ t) := b8_app (msk_b8 54 (by omega) (blk_b8 hk hl)) ht
set_option maxHeartbeats 3200000 in
set_option maxRecDepth 100000 in
theorem of_mac (A : Option Addr) (c n : Nat) (k : List Nat) (A2 : Option Addr) (c2 m : Nat) (t : List Nat) (w : World) (hn : k.length = n) (hnc : n ≤ c) (hn2 : n ≤ 90000) (hr : R8 w A k) (hb : B8 k) (hm2 : t.length = m) (hm3 : m ≤ 90000) (hr2 : R8 w A2 t) (hb2 : B8 t) (hL : LaidK w) :
    Calls Tryd.prog 19 #[.slice A n c, .slice A2 m c2] w fun e w' => e = .returned (.agg (vl .u8 (hm k t)).toArray) ∧ Step w w' := by
  obtain ⟨Z6, hZ6⟩ : ∃ Z, (vl .u8 (List.replicate 64 0)).toArray = Z := ⟨_, rfl⟩
  have hz6 : Hid (∀ w, (zeroValue 37).run Tryd.prog w = .ok (.agg Z6) w) := Lib.hid (hZ6 ▸ zero64)
  have hsz6 : Z6.size = 64 := by rw [← hZ6]; rfl
  clear hZ6
  obtain ⟨Z3, hZ3⟩ : ∃ Z, zs.toArray = Z := ⟨_, rfl⟩
  have hz3 : Hid (∀ w, (zeroValue 24).run Tryd.prog w = .ok (.agg Z3) w) := Lib.hid (hZ3 ▸ zero32)
  have hsz3 : Z3.size = 32 := by rw [← hZ3]; rfl
  clear hZ3
  have kb := blk_b8 hb (by omega)
  have kl := blk_len k
  have b8i : B8 (msk 54 (blk k) ++ t) := b8_inner hb (by omega) hb2
  have li : (msk 54 (blk k) ++ t).length = 64 + m := by rw [List.length_append, msk_len, kl, hm2]
  have b8s : B8 (Sh.sum (msk 54 (blk k) ++ t)) := sum_b8 ⟨_, b8i, by omega⟩
  have b8o : B8 (msk 92 (blk k) ++ Sh.sum (msk 54 (blk k) ++ t)) := b8_app (msk_b8 92 (by omega) kb) b8s
  have ls : (Sh.sum (msk 54 (blk k) ++ t)).length = 32 := sum_fine _
  have lo : (msk 92 (blk k) ++ Sh.sum (msk 54 (blk k) ++ t)).length = 64 + 32 := by rw [List.length_append, msk_len, kl, ls]
  have cB := fun (w : World) (h : R8 w A k) (hL : LaidK w) => block_any A c n k w hn hnc (by omega) h hb hL
  have c1 : ∀ (w : World), R8 w A2 t → Calls Tryd.prog 32 #[.agg (vl .u8 (blk k)).toArray, .int .u8 54, .slice A2 m c2] w fun e w' => ∃ A' c', e = .returned (.slice A' (64 + m) c') ∧ 64 + m ≤ c' ∧ R8 w' A' (msk 54 (blk k) ++ t) ∧ Step w w' := fun (w : World) (h : R8 w A2 t) => behind_any (blk k) 54 A2 c2 m t w kl kb (by omega) hm2 hm3 h
  have cO1 := fun (A : Option Addr) (c : Nat) (w : World) (hc : 64 + m ≤ c) (h : R8 w A (msk 54 (blk k) ++ t)) (hL : LaidK w) => of_dev A c (64 + m) ⟨_, b8i, by omega⟩ w li hc h hL
  have d3 : ∀ (A : Option Addr) (w : World), R8 w A (Sh.sum (msk 54 (blk k) ++ t)) → Calls Tryd.prog 32 #[.agg (vl .u8 (blk k)).toArray, .int .u8 92, .slice A 32 32] w fun e w' => ∃ A' c', e = .returned (.slice A' 96 c') ∧ 96 ≤ c' ∧ R8 w' A' (msk 92 (blk k) ++ Sh.sum (msk 54 (blk k) ++ t)) ∧ Step w w' := fun (A : Option Addr) (w : World) (h : R8 w A (Sh.sum (msk 54 (blk k) ++ t))) => behind_any (blk k) 92 A 32 32 _ w kl kb (by omega) ls (by omega) h
  have cO2 := fun (A : Option Addr) (c : Nat) (w : World) (hc : 64 + 32 ≤ c) (h : R8 w A (msk 92 (blk k) ++ Sh.sum (msk 54 (blk k) ++ t))) (hL : LaidK w) => of_dev A c (64 + 32) ⟨_, b8o, by omega⟩ w lo hc h hL
  have lE : (vl .u8 (blk k)).length = 64 := by rw [vl_len, kl]
  have oE := Lib.hid (vl_one .u8 (blk k))
  have lI : (vl .u8 (Sh.sum (msk 54 (blk k) ++ t))).length = 32 := by rw [vl_len, ls]
  have oI := Lib.hid (vl_one .u8 (Sh.sum (msk 54 (blk k) ++ t)))
  have rI : ∀ (w : World) (g : Nat), g < w.heap.size → w.rangeAt g 0 (vl .u8 (Sh.sum (msk 54 (blk k) ++ t))) → R8 w (some ⟨g, 0, none⟩) (Sh.sum (msk 54 (blk k) ++ t)) := fun w g hg h j x hx => by
    refine ⟨_, rfl, hg, ?_⟩
    have := h j (.int .u8 x) (by unfold vl; rw [List.getElem?_map]; unfold NL at hx; rw [List.getElem?_map] at hx; cases hq : (Sh.sum (msk 54 (blk k) ++ t))[j]? with
      | none => rw [hq] at hx; cases hx
      | some v => rw [hq] at hx; cases hx; rfl)
    rw [Addr.add_mid]
    exact this
  change ∀ (A : Option Addr) (c : Nat) (w : World), 64 + m ≤ c → R8 w A (msk 54 (blk k) ++ t) → LaidK w → Calls Tryd.prog 8 #[.slice A (64 + m) c] w fun e w' => e = .returned (.agg (vl .u8 (Sh.sum (msk 54 (blk k) ++ t))).toArray) ∧ Step w w' at cO1
  change ∀ (A : Option Addr) (c : Nat) (w : World), 96 ≤ c → R8 w A (msk 92 (blk k) ++ Sh.sum (msk 54 (blk k) ++ t)) → LaidK w → Calls Tryd.prog 8 #[.slice A 96 c] w fun e w' => e = .returned (.agg (vl .u8 (hm k t)).toArray) ∧ Step w w' at cO2
  have lF : (vl .u8 (hm k t)).length = 32 := by rw [vl_len, hm_len]
  have oF := Lib.hid (vl_one .u8 (hm k t))
  generalize vl .u8 (hm k t) = F at cO2 lF oF
  generalize vl .u8 (Sh.sum (msk 54 (blk k) ++ t)) = I at cO1 lI oI rI
  generalize vl .u8 (blk k) = E at cB c1 d3 lE oE
  have eF : F.toArray.size = 32 := lF
  have T0 := Lg.there_new w Z3 24 32 hsz3
  clear kb b8i li b8s b8o ls lo
  go_enter Tryd.func19, Tryd.ntmps19
  go_wp2_with (first
    | refine Lg.wpAlloc (by rfl) 37 (by rfl) Z6 hz6.out ?_
    | refine Lg.wpAlloc (by rfl) 24 (by rfl) Z3 hz3.out ?_
    | (go_at_call 17; ((with_reducible refine (cB _ hr.to hL.to).mono ?_); rintro e w2 ⟨rfl, S2⟩; obtain ⟨W2, st2, X2, R2, l2⟩ := store_new64 w2 Z6 E hsz6 lE oE.out))
    | refine wpList_load_mid (by rfl) 37 (.tmp 5) (by rfl) w2.heap.size 0 (by rfl) E _ R2 Tryd.underlying37 rfl (by rw [lE]; exact size64) ?_
    | (go_at_call 32; ((with_reducible refine (c1 _ hr2.to).mono ?_); rintro e w3 ⟨A3, c3, rfl, k3, R3, S3⟩))
    | (go_at_call 8; ((with_reducible refine (cO1 _ _ _ k3 R3 hL.to).mono ?_); rintro e w4 ⟨rfl, S4⟩; obtain ⟨W4, st4, X4, R4, l4⟩ := store_new w4 Z3 I hsz3 lI oI.out)))
  have hne : w.heap.size < w2.heap.size := by
    have := (inferInstance : Ext (w.alloc (Obj.cells Z3 24)) w2).h.size
    simp at this
    omega
  have u37 := Tryd.underlying37
  have u24 := Tryd.underlying24
  have i37 : (Tryd.prog.info? 37).map (·.size) = some E.length := by rw [lE]; exact size64
  have i24 : (Tryd.prog.info? 24).map (·.size) = some F.length := by rw [lF]; exact size32
  have o24 : ∀ v ∈ F, v.oneCell' = true := fun v hv => (Array.all_eq_true_iff_forall_mem.1 oF.out) v (by simpa using hv)
  go_region_held3 (fun w' => w'.rangeAt w2.heap.size 0 E ∧ w'.there w.heap.size 0 32 ∧ Step w w')
    (first | exact ⟨range_under R2 (inferInstance : Ext W2 _).h l2, there_under T0 (inferInstance : Ext (w.alloc (Obj.cells Z3 24)) _).h (by simp), Step.of inferInstance⟩ | exact ⟨World.rangeAt_setCells_apart R6 _ _ _ (.inl (by omega)), World.there_setCells T6 _ _ _, ⟨Lg.below_setCells (Nat.le_refl _) _ _ _ B6⟩⟩)
    (first
    | (go_at_call 32; ((with_reducible refine (d3 _ _ (rI _ _ l4 R4).to).mono ?_); rintro e w5 ⟨A5, c5, rfl, k5, R5, S5⟩))
    | (go_at_call 8; ((with_reducible refine (cO2 _ _ _ k5 R5 hL.to).mono ?_); rintro e w6 ⟨rfl, S6⟩; have T6 : w6.there w.heap.size 0 32 := there_under T0 (inferInstance : Ext (w.alloc (Obj.cells Z3 24)) w6).h (by simp); have B6 : Below w.heap.size w w6 := (inferInstance : Ext w w6).h; have R6 : w6.rangeAt w2.heap.size 0 E := range_under R2 (inferInstance : Ext W2 w6).h l2))
    | (refine step_store_mid rfl 24 (.tmp 4) (.tmp 16) rfl w.heap.size 0 F.toArray rfl rfl (by rw [eF]; exact T6) (by rw [eF]; exact size32) oF.out ?_))
  go_wp2
  refine bodyPost_ret (results_one (by rfl) _ _ w.heap.size 0 F _ (by rfl) (World.rangeAt_setCells_same _ _ _ _ (by rw [lF]; exact T6)) u24 rfl i24) (by rfl) ?_
  exact ⟨rfl, ⟨Lg.below_setCells (Nat.le_refl _) _ _ _ B6⟩⟩
set_option maxHeartbeats 3200000 in
set_option maxRecDepth 100000 in
theorem check_mac (A : Option Addr) (c n : Nat) (k : List Nat) (A2 : Option Addr) (c2 m : Nat) (t s : List Nat) (w : World) (hn : k.length = n) (hnc : n ≤ c) (hn2 : n ≤ 90000) (hr : R8 w A k) (hb : B8 k) (hm2 : t.length = m) (hm3 : m ≤ 90000) (hr2 : R8 w A2 t) (hb2 : B8 t) (ls : s.length = 32) (hL : LaidK w) :
    Calls Tryd.prog 20 #[.slice A n c, .slice A2 m c2, .agg (vl .u8 s).toArray] w fun e w' => e = .returned (.bool (decide (hm k t = s))) ∧ Step w w' := by
  have cO := fun (w : World) (h : R8 w A k) (h2 : R8 w A2 t) (hL : LaidK w) => of_mac A c n k A2 c2 m t w hn hnc hn2 h hb hm2 hm3 h2 hb2 hL
  have hE : ∀ w, (Op.equalIn 10000 24 (.agg (vl .u8 (hm k t)).toArray) (.agg (vl .u8 s).toArray)).run Tryd.prog w = .ok (decide (hm k t = s)) w := fun w => eq32 (hm k t) s (hm_len k t) ls w
  have lF : (vl .u8 (hm k t)).length = 32 := by rw [vl_len, hm_len]
  have lG : (vl .u8 s).length = 32 := by rw [vl_len, ls]
  generalize vl .u8 (hm k t) = F at cO hE lF
  generalize vl .u8 s = G at hE lG
  generalize decide (hm k t = s) = d at hE
  have rG := range_new w G.toArray 24
  have u24 := Tryd.underlying24
  have i24 : (Tryd.prog.info? 24).map (·.size) = some G.length := by rw [lG]; exact size32
  go_enter Tryd.func20, Tryd.ntmps20
  go_wp2_with fail
  go_region_held3 (fun w' => w'.rangeAt w.heap.size 0 G ∧ Step w w')
    (exact ⟨range_under rG (inferInstance : Ext (w.alloc (Obj.cells G.toArray 24)) _).h (by simp), Step.of inferInstance⟩)
    (first
    | (go_at_call 19; ((with_reducible refine (cO _ hr.to hr2.to hL.to).mono ?_); rintro e w5 ⟨rfl, S5⟩)))
  go_wp2
  go_ret
  exact ⟨rfl, Step.of inferInstance⟩
end Mc
end Go.Proofs.YtkihhflmgceckaaDoor
