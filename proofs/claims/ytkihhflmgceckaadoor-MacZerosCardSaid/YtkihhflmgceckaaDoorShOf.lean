/- The program's own sum (package sha's Of). Conditions: what is handed in reads as bytes, at most 100000; the listed variable sha.k reads as laid. -/
import Derived.Test.YtkihhflmgceckaaDoorShBlocks
import Derived.Test.YtkihhflmgceckaaDoorLongIn
namespace Go.Proofs.YtkihhflmgceckaaDoor
open Go.RowKit Go.Lib Go.Shelf
attribute [local go_sem] Oper.semAt_some
namespace Sp
open SlR Sh
theorem blocks_any (A : Option Addr) (n c : Nat) (w : World) :
    Calls Tryd.prog 21 #[.slice A n c] w fun e w' => e = .returned (.func (.func 33) #[] #[.pointer (some ⟨w.heap.size, 0, none⟩)]) ∧ w' = w.alloc (.cells #[.slice A n c] 22) := by
  go_enter Tryd.func21, Tryd.ntmps21
  go_wp2
  go_ret
  exact ⟨rfl, rfl⟩
theorem own_range {β : Type} (g : Nat) (cs : β → List Value) : Own (fun s W => W.rangeAt g 0 (cs s)) := fun _ _ _ _ hs hg hr j v hv => cell_kept (hs j v hv) hg hr
theorem own_there {β : Type} (g n : Nat) : Own (fun (_ : β) W => W.there g 0 n) := fun _ X Y _ hs hg hr j hj => by
  obtain ⟨u, hu⟩ := Option.isSome_iff_exists.1 (hs j hj).1
  exact ⟨by rw [cell_kept hu hg hr]; rfl, (frozen_kept hu hg hr).trans (hs j hj).2⟩
theorem pos_in {b : Bool} {p q : Prop} (h : b = true) (hp : p) : if b = true then p else q := by rw [if_pos h]; exact hp
theorem keeps_of_below {B : Nat} {X Y : World} (h : Below X.heap.size X Y) : KeepsFrom B X Y := ⟨h.size, fun k _ _ hk _ => (h.block k (Array.getElem?_eq_some_iff.1 hk).1).trans hk⟩
/-- What blocks make of eight words. -/
def hs (pre : List Blk) : List Nat := pre.foldl (fun h x => ad8 h (run (ext x.1 48) h 64) 8) HL
theorem hs_snoc (pre : List Blk) (x : Blk) : hs (pre ++ [x]) = ad8 (hs pre) (run (ext x.1 48) (hs pre) 64) 8 := by simp [hs]
theorem ad8_fine (S R : List Nat) : (ad8 S R 8).length = 8 ∧ B32 (ad8 S R 8) := by
  refine ⟨by simp [ad8], fun i => ?_⟩
  rw [ad8_end, List.getD_eq_getElem?_getD, List.getElem?_map]
  cases hq : (List.range 8)[i]? with
  | none => show (0 : Nat) < _; omega
  | some v => exact md_lt _
theorem HL_fine : HL.length = 8 ∧ B32 HL := ⟨rfl, b32_8 (by decide) (by decide) (by decide) (by decide) (by decide) (by decide) (by decide) (by decide)⟩
theorem hs_fine (pre : List Blk) : (hs pre).length = 8 ∧ B32 (hs pre) := by
  have h : ∀ (l : List Blk) (z : List Nat), z.length = 8 ∧ B32 z → (l.foldl (fun h x => ad8 h (run (ext x.1 48) h 64) 8) z).length = 8 ∧ B32 (l.foldl (fun h x => ad8 h (run (ext x.1 48) h 64) 8) z) := fun l => by
    induction l with
    | nil => exact fun z hz => hz
    | cons x t ih => exact fun z _ => ih _ (ad8_fine _ _)
  exact h pre HL HL_fine
theorem keeps_setCells {b : Nat} : ∀ (vs : List Value) (o : Nat) (w : World), KeepsOthers w (w.setCells b o vs)
  | [], _, w => KeepsOthers.refl w
  | v :: r, o, w => (KeepsOthers.setCell w ⟨b, o, none⟩ v).trans (keeps_setCells r (o + 1) _)
theorem cell_setCells {b : Nat} {p : Addr} (h : p.block ≠ b) : ∀ (vs : List Value) (o : Nat) (w : World), (w.setCells b o vs).cell? p = w.cell? p
  | [], _, _ => rfl
  | v :: r, o, w => (cell_setCells h r (o + 1) _).trans (World.cell?_setCell_other _ _ _ _ (fun e => h (by rw [← e])))
theorem hs_hsh (b : Byt) : ∀ n, hs (bks b n) = hsh (pad b.1) n
  | 0 => rfl
  | n + 1 => by
    rw [← bks_snoc, hs_snoc, hs_hsh b n, ad8_end]
    rfl
/-- The bytes of words, as many as have come. -/
def ol (H : List Nat) (n : Nat) : List Nat := (List.range 32).map fun m => if m < n then (bys H).getD m 0 else 0
theorem ol_len (H : List Nat) (n : Nat) : (vl .u8 (ol H n)).length = 32 := by simp [vl, ol]
theorem ol_step (H : List Nat) (n : Nat) : (ol H n).set n ((bys H).getD n 0) = ol H (n + 1) := by
  refine List.ext_getElem (by simp [ol]) fun i h1 h2 => ?_
  rw [List.getElem_set]
  by_cases e : n = i
  · subst e
    simp [ol]
  · have e2 : i < n + 1 ↔ i < n := by omega
    simp [ol, e, e2]
theorem ol_end (H : List Nat) (h : H.length = 8) : ol H 32 = bys H := by
  refine List.ext_getElem (by simp [ol, bys_len, h]) fun i h1 h2 => ?_
  have hi : i < 32 := by simpa [ol] using h1
  simp [ol, hi, List.getElem?_eq_getElem h2]
theorem ol_zero (H : List Nat) : vl .u8 (ol H 0) = zs := by
  have e : ol H 0 = List.replicate 32 0 := by
    unfold ol
    simp
    rfl
  rw [e]
  rfl
theorem bys_at (H : List Nat) (hB : B32 H) : ∀ (i j : Nat), i < H.length → j < 4 → (bys H).getD (4 * i + j) 0 = H.getD i 0 / 256 ^ (3 - j) % 256 := by
  induction H with
  | nil => intro i j h _; exact absurd h (Nat.not_lt_zero _)
  | cons x t ih =>
    intro i j hi hj
    have hx : x < 4294967296 := hB 0
    have e : bys (x :: t) = by4 x ++ bys t := by unfold bys; rw [List.flatMap_cons]
    have l4 : (by4 x).length = 4 := rfl
    rw [e, List.getD_eq_getElem?_getD]
    cases i with
    | zero =>
      rw [List.getElem?_append_left (by rw [l4]; omega)]
      rcases (by omega : j = 0 ∨ j = 1 ∨ j = 2 ∨ j = 3) with rfl | rfl | rfl | rfl <;> simp [by4] <;> omega
    | succ i =>
      rw [List.getElem?_append_right (by rw [l4]; omega), l4, show 4 * (i + 1) + j - 4 = 4 * i + j by omega, ← List.getD_eq_getElem?_getD, ih (fun k => hB (k + 1)) i j (by simpa using hi) hj]
      rfl
theorem byte_form (h j : Nat) (hj : j < 4) : (h : Int) / 2 ^ (24 - 8 * j) % 256 = ((h / 256 ^ (3 - j) % 256 : Nat) : Int) := by
  have e : (2 : Nat) ^ (24 - 8 * j) = 256 ^ (3 - j) := by rw [show 24 - 8 * j = 8 * (3 - j) by omega, Nat.pow_mul]
  rw [← e, Int.natCast_emod, Int.natCast_ediv, Int.natCast_pow]
  rfl
set_option maxHeartbeats 3200000 in
set_option maxRecDepth 100000 in
theorem of_dev (A : Option Addr) (c nb : Nat) (b : Byt) (w : World) (hn : b.1.length = nb) (hc : nb ≤ c) (hr : R8 w A b.1) (hL : LaidK w) :
    Calls Tryd.prog 8 #[.slice A nb c] w fun e w' => e = .returned (.agg (vl .u8 (Sh.sum b.1)).toArray) ∧ Step w w' := by
  obtain ⟨Z, hZ⟩ : ∃ Z, zs.toArray = Z := ⟨_, rfl⟩
  have hz : Hid (∀ w, (zeroValue 24).run Tryd.prog w = .ok (.agg Z) w) := Lib.hid (hZ ▸ zero32)
  have hsz : Z.size = 32 := by rw [← hZ]; rfl
  have hZl : Hid (zs = Z.toList) := Lib.hid (by rw [← hZ])
  clear hZ
  obtain ⟨X, hX⟩ : ∃ X, (vl .u32 (List.replicate 16 0)).toArray = X := ⟨_, rfl⟩
  have hzX : Hid (∀ w, (zeroValue 46).run Tryd.prog w = .ok (.agg X) w) := Lib.hid (hX ▸ zero41)
  have hsX : X.size = 16 := by rw [← hX]; rfl
  clear hX
  refine (callsIn_wide (n := 10)).1 (callsIn_of_wp_marks Tryd.func8 rfl trivial ?_ rfl)
  simp only [Tryd.ntmps8, List.size_toArray, List.length_cons, List.length_nil, Nat.reduceAdd, Nat.reduceSub, Array.replicate_succ, Array.replicate_zero, List.push_toArray, List.append_toArray, List.nil_append, List.cons_append]
  refine wpIn_wide.2 ?_
  go_wp2_with (first
    | refine Lg.wpAlloc (by rfl) 24 (by rfl) Z hz.out ?_
    | (go_at_call 21; ((with_reducible refine (blocks_any _ _ _ _).mono ?_); rintro e w2 ⟨rfl, rfl⟩)))
  refine (wpIn_wide (n := 10)).1 ?_
  show Code.wpIn Fence.wide 10 _ _ _ _ (((w.alloc (Obj.cells Z 24)).alloc (Obj.cells (vl .u32 HL).toArray 42)).alloc (Obj.cells #[Value.slice A nb c] 22))
  have T0 : (((w.alloc (Obj.cells Z 24)).alloc (Obj.cells (vl .u32 HL).toArray 42)).alloc (Obj.cells #[Value.slice A nb c] 22)).there w.heap.size 0 32 := World.there_alloc (World.there_alloc (Lg.there_new w Z 24 32 hsz) _) _
  have T1 : (((w.alloc (Obj.cells Z 24)).alloc (Obj.cells (vl .u32 HL).toArray 42)).alloc (Obj.cells #[Value.slice A nb c] 22)).there (w.heap.size + 1) 0 8 := World.there_alloc (by have := Lg.there_new (w.alloc (Obj.cells Z 24)) (vl .u32 HL).toArray 42 8 rfl; simpa using this) _
  have R1 : (((w.alloc (Obj.cells Z 24)).alloc (Obj.cells (vl .u32 HL).toArray 42)).alloc (Obj.cells #[Value.slice A nb c] 22)).rangeAt (w.heap.size + 1) 0 (vl .u32 (hs [])) := World.rangeAt_alloc (by have := range_new (w.alloc (Obj.cells Z 24)) (vl .u32 HL).toArray 42; rw [World.size_alloc] at this; exact this) _
  have C2 : (((w.alloc (Obj.cells Z 24)).alloc (Obj.cells (vl .u32 HL).toArray 42)).alloc (Obj.cells #[Value.slice A nb c] 22)).cell? ⟨w.heap.size + 2, 0, none⟩ = some (.slice A nb c) := by
    have := range_new ((w.alloc (Obj.cells Z 24)).alloc (Obj.cells (vl .u32 HL).toArray 42)) #[Value.slice A nb c] 22 0 (.slice A nb c) rfl
    simpa using this
  have B2 : Below w.heap.size w (((w.alloc (Obj.cells Z 24)).alloc (Obj.cells (vl .u32 HL).toArray 42)).alloc (Obj.cells #[Value.slice A nb c] 22)) := (inferInstance : Ext w (((w.alloc (Obj.cells Z 24)).alloc (Obj.cells (vl .u32 HL).toArray 42)).alloc (Obj.cells #[Value.slice A nb c] 22))).h
  have s2 : (((w.alloc (Obj.cells Z 24)).alloc (Obj.cells (vl .u32 HL).toArray 42)).alloc (Obj.cells #[Value.slice A nb c] 22)).heap.size = w.heap.size + 3 := by simp
  generalize (((w.alloc (Obj.cells Z 24)).alloc (Obj.cells (vl .u32 HL).toArray 42)).alloc (Obj.cells #[Value.slice A nb c] 22)) = w2 at T0 T1 R1 C2 B2 s2 ⊢
  refine wpIn_rangeFunc_ownH rfl (by omega) (gf := 33) (lb := #[.pointer (some ⟨w.heap.size + 2, 0, none⟩)]) rfl trivial (enters_of Tryd.func33 (by kernel_rfl) rfl)
    (w0 := w2) (encs := encB) (Kp := KpB w.heap.size (w.heap.size + 2)) (S := fun ys => ys = bks b ((pad b.1).length / 64)) (Sp := fun _ => True) (N := (pad b.1).length / 64)
    (fun l J Jx W hW hJ _ hY h0 => blocks1_in _ l (w.heap.size + 2) A c nb b w hn hc hr J Jx W hJ hY (B2.trans (hW.mono (by omega))) ((hW.cell (p := ⟨w.heap.size + 2, 0, none⟩) (by show w.heap.size + 2 < _; omega)).trans C2) h0)
    KpB.t
    (fun W l o o' hl h ho hw => ⟨belowK_b (w := w2) (by omega) W l o o' hl h ho hw, fun v hv => (cell_kept hv (grownBy_putObj' W l o') (fun r e => by cases e; exact ⟨o, h, ho⟩))⟩)
    (Below.refl _ _) (fun _ => rfl)
    (fun pre W => ((W.rangeAt (w.heap.size + 1) 0 (vl .u32 (hs pre)) ∧ W.there (w.heap.size + 1) 0 8) ∧ W.there w.heap.size 0 32) ∧ Below w.heap.size w2 W)
    (fun _ _ _ => False)
    (OwnFrom.and (OwnFrom.and (OwnFrom.and (Own.from (own_range _ _) _) (Own.from (own_there _ _) _)) (Own.from (own_there _ _) _)) (ownFrom_below (by omega) (by omega)))
    (fun _ _ _ _ _ hs _ _ => hs)
    ⟨⟨⟨R1, T1⟩, T0⟩, Below.refl _ _⟩
    (fun x a' W => ∃ Bx, w.heap.size + 2 < Bx ∧ W.rangeAt Bx 0 (vl .u32 x.1) ∧ a' = { tmps := #[Value.slice A nb c, undef, Value.pointer (some { block := w.heap.size, off := 0 }), Value.pointer (some { block := w.heap.size + 1, off := 0 }), Value.pointer (some ⟨Bx, 0, none⟩), undef, undef, undef, undef, Value.agg (vl .u32 HL).toArray, Value.slice A nb c, Value.func (Fn.func 33) #[] #[Value.pointer (some { block := w.heap.size + 2, off := 0 })], .agg (vl .u32 x.1).toArray, undef, undef, undef, undef, undef, undef, undef, undef, undef, undef, undef, undef, undef, undef, undef, undef, undef, undef, undef, undef, undef, undef, undef, undef, undef, undef], defers := [] })
    (fun x a' _ X Y row hs hg hr => by obtain ⟨Bx, h1, h2, h3⟩ := hs; exact ⟨Bx, h1, own_range Bx (fun (_ : Unit) => vl .u32 x.1) () X Y row h2 hg (fun r e => (hr r e).2), h3⟩)
    ?assign ?body ?done ?stop
  case assign =>
    rintro l pre x W K ⟨⟨⟨r1, t1⟩, t0⟩, B1⟩ hK
    have lx : (vl .u32 x.1).length = 16 := by rw [vl_len, x.2.1]
    have ox := Lib.hid (vl_one .u32 x.1)
    have hK' := Lib.hid hK
    clear hK
    unfold encB
    generalize hV : vl .u32 x.1 = V at lx ox ⊢
    have ez : ∀ (T : Array Value), (#[12].zip #[Value.agg V.toArray]).foldl (fun t (p, v) => t.setIfInBounds p v) T = T.setIfInBounds 12 (.agg V.toArray) := fun T => by simp
    rw [ez]
    have eV : V.toArray.size = 16 := lx
    have h3 : w.heap.size + 3 ≤ W.heap.size := by have := B1.size; omega
    have hTn := Lg.there_new W X 46 16 hsX
    gi_wp2_with (first
      | refine Lg.wpListIn_alloc (by rfl) 46 (by rfl) X hzX.out ?_
      | refine Lg.wpListIn_store (by rfl) 46 (.tmp 4) (.tmp 12) (by rfl) W.heap.size 0 V.toArray (by rfl) (by rfl) (by rw [eV]; exact hTn) (by rw [eV]; exact size41) ox.out ?_)
    have hBW : Below W.heap.size W ((W.alloc (Obj.cells X 46)).setCells W.heap.size 0 V) := Lg.below_setCells (Nat.le_refl _) _ _ _ ((Below.refl _ W).alloc (Nat.le_refl _) _)
    refine hK'.out _ _ (keeps_of_below hBW) (KpB.step hBW (by omega)) ⟨⟨⟨range_under r1 hBW (by omega), there_under t1 hBW (by omega)⟩, there_under t0 hBW (by omega)⟩, B1.trans (hBW.mono (by omega))⟩ ⟨W.heap.size, by omega, ?_, ?_⟩
    · rw [hV]
      exact World.rangeAt_setCells_same _ _ _ _ (by rw [lx]; exact hTn)
    · rw [hV]
      rfl
  case body =>
    rintro l pre x a' W hl ⟨r, hr'⟩ ⟨⟨⟨r1, t1⟩, t0⟩, B1⟩ ⟨Bx, hBx, rX, rfl⟩ hlt
    have hf := hs_fine pre
    have lH : (vl .u32 (hs pre)).length = 8 := by rw [vl_len, hf.1]
    have lV : (vl .u32 x.1).length = 16 := by rw [vl_len, x.2.1]
    have h3 : w.heap.size + 3 ≤ W.heap.size := by have := B1.size; omega
    have hlX : Bx < W.heap.size := by
      have h := rX 0 _ (vl_at .u32 x.1 0 (by rw [x.2.1]; omega))
      unfold World.cell? at h
      apply Classical.byContradiction
      intro hn
      rw [Array.getElem?_eq_none (by simpa using hn)] at h
      cases h
    have lE : (ext x.1 48).length = 64 := by rw [ext_len, x.2.1]
    have cS := fun w => spread_dev x.1 w x.2.1 (Lib.hid x.2.2)
    have cT := fun w h => turn_dev (hs pre) (ext x.1 48) w hf.1 lE (Lib.hid hf.2) (Lib.hid (ext_B32 x.2.2 48)) h
    have hLW : LaidK W := by
      have e : Ext w W := ⟨B2.trans B1⟩
      exact hL.to
    have fin : Hid (∀ X, Below W.heap.size W X → ∀ a, ownPostG w2.heap.size (KpB w.heap.size (w.heap.size + 2)) (fun pre W => ((W.rangeAt (w.heap.size + 1) 0 (vl .u32 (hs pre)) ∧ W.there (w.heap.size + 1) 0 8) ∧ W.there w.heap.size 0 32) ∧ Below w.heap.size w2 W) (fun _ _ _ => False) (pre ++ [x]) W .normal a (X.setCells (w.heap.size + 1) 0 (vl .u32 (ad8 (hs pre) (run (ext x.1 48) (hs pre) 64) 8)))) := Lib.hid fun X hX a => by
      have tX := there_under t1 hX (by omega)
      have l8 : (vl .u32 (ad8 (hs pre) (run (ext x.1 48) (hs pre) 64) 8)).length = 8 := ad8_len _ _ _
      refine ⟨(keeps_of_below hX).trans ((keeps_setCells _ _ _).from _), ⟨Lg.below_setCells (by omega) _ _ _ (hX.mono (by omega)), fun v hv => ?_⟩, ⟨⟨?_, World.there_setCells tX _ _ _⟩, World.there_setCells (there_under t0 hX (by omega)) _ _ _⟩, Lg.below_setCells (by omega) _ _ _ (B1.trans (hX.mono (by omega)))⟩
      · rw [cell_setCells (by show w.heap.size + 2 ≠ w.heap.size + 1; omega)]
        exact (hX.cell (p := ⟨w.heap.size + 2, 0, none⟩) (by show w.heap.size + 2 < _; omega)).trans hv
      · rw [hs_snoc]
        exact World.rangeAt_setCells_same _ _ _ _ (by rw [l8]; exact tX)
    have l8 : (vl .u32 (ad8 (hs pre) (run (ext x.1 48) (hs pre) 64) 8)).length = 8 := ad8_len _ _ _
    have o8 := Lib.hid (vl_one .u32 (ad8 (hs pre) (run (ext x.1 48) (hs pre) 64) 8))
    generalize vl .u32 (ad8 (hs pre) (run (ext x.1 48) (hs pre) 64) 8) = N8 at cT fin l8 o8
    have e8 : N8.toArray.size = 8 := l8
    have hd : Below W.heap.size W W.drew := (Below.refl _ W).drew
    gi_wp2
    refine wpIn_region_any (by kernel_rfl) ?_
    change wpAnyIn _ _ _ _ _ _ _ _ _ (World.drew _)
    refine wpAnyIn_ready (rs := [0, 1]) (by kernel_rfl) (by simp) ?_
    refine AllReadyIn.cons rfl (fun K hK => ?_) (AllReadyIn.cons rfl (fun K hK => ?_) AllReadyIn.nil)
    · refine pos_in (by rfl) ?_
      refine Lg.wpIn_load 42 (.tmp 3) (by rfl) (w.heap.size + 1) 0 (by rfl) (vl .u32 (hs pre)) _ (range_under r1 hd (by omega)) Tryd.underlying42 rfl (by rw [lH]; exact size37) ?_
      refine hK _ _ ?_
      clear hK K
      refine wpAnyIn_ready (rs := [1]) (by kernel_rfl) (by simp) ?_
      refine AllReadyIn.cons rfl (fun K hK => ?_) AllReadyIn.nil
      refine pos_in (by rfl) ?_
      refine Lg.wpIn_load 46 (.tmp 4) (by rfl) Bx 0 (by rfl) (vl .u32 x.1) _ (range_under rX hd hlX) Tryd.underlying46 rfl (by rw [lV]; exact size41) ?_
      refine hK _ _ ?_
      clear hK K
      refine wpAnyIn_ready (rs := [2]) (by kernel_rfl) (by simp) ?_
      refine AllReadyIn.cons rfl (fun K hK => ?_) AllReadyIn.nil
      go_simp
      refine ⟨trivial, ?_⟩
      refine (CallsIn.inRound l (callsIn_wide.2 (cS _))).mono ?_
      rintro e w3 ⟨rfl, S3⟩
      refine hK _ _ ?_
      clear hK K
      have hd3 : Below W.heap.size W w3 := hd.trans (S3.h.mono (Nat.le_refl _))
      refine wpAnyIn_ready (rs := [3]) (by kernel_rfl) (by simp) ?_
      refine AllReadyIn.cons rfl (fun K hK => ?_) AllReadyIn.nil
      go_simp
      refine ⟨trivial, ?_⟩
      refine (CallsIn.inRound l (callsIn_wide.2 (cT _ (LaidK.to (e := ⟨hd3⟩) hLW)))).mono ?_
      rintro e w4 ⟨rfl, S4⟩
      refine hK _ _ ?_
      clear hK K
      have hd4 : Below W.heap.size W w4 := hd3.trans (S4.h.mono hd3.size)
      refine wpAnyIn_ready (rs := [4]) (by kernel_rfl) (by simp) ?_
      refine AllReadyIn.cons rfl (fun K hK => ?_) AllReadyIn.nil
      refine pos_in (by rfl) ?_
      refine Lg.wpIn_store 42 (.tmp 3) (.tmp 16) (by rfl) (w.heap.size + 1) 0 N8.toArray (by rfl) (by rfl) (by rw [e8]; exact there_under t1 hd4 (by omega)) (by rw [e8]; exact size37) o8.out ?_
      refine hK _ _ ?_
      clear hK K
      refine wpAnyIn_done (by kernel_rfl) ?_ _
      exact fin.out w4 hd4 { tmps := #[], defers := [] }
    · refine pos_in (by rfl) ?_
      refine Lg.wpIn_load 46 (.tmp 4) (by rfl) Bx 0 (by rfl) (vl .u32 x.1) _ (range_under rX hd hlX) Tryd.underlying46 rfl (by rw [lV]; exact size41) ?_
      refine hK _ _ ?_
      clear hK K
      refine wpAnyIn_ready (rs := [0, 2]) (by kernel_rfl) (by simp) ?_
      refine AllReadyIn.cons rfl (fun K hK => ?_) (AllReadyIn.cons rfl (fun K hK => ?_) AllReadyIn.nil)
      · refine pos_in (by rfl) ?_
        refine Lg.wpIn_load 42 (.tmp 3) (by rfl) (w.heap.size + 1) 0 (by rfl) (vl .u32 (hs pre)) _ (range_under r1 hd (by omega)) Tryd.underlying42 rfl (by rw [lH]; exact size37) ?_
        refine hK _ _ ?_
        clear hK K
        refine wpAnyIn_ready (rs := [2]) (by kernel_rfl) (by simp) ?_
        refine AllReadyIn.cons rfl (fun K hK => ?_) AllReadyIn.nil
        go_simp
        refine ⟨trivial, ?_⟩
        refine (CallsIn.inRound l (callsIn_wide.2 (cS _))).mono ?_
        rintro e w3 ⟨rfl, S3⟩
        refine hK _ _ ?_
        clear hK K
        have hd3 : Below W.heap.size W w3 := hd.trans (S3.h.mono (Nat.le_refl _))
        refine wpAnyIn_ready (rs := [3]) (by kernel_rfl) (by simp) ?_
        refine AllReadyIn.cons rfl (fun K hK => ?_) AllReadyIn.nil
        go_simp
        refine ⟨trivial, ?_⟩
        refine (CallsIn.inRound l (callsIn_wide.2 (cT _ (LaidK.to (e := ⟨hd3⟩) hLW)))).mono ?_
        rintro e w4 ⟨rfl, S4⟩
        refine hK _ _ ?_
        clear hK K
        have hd4 : Below W.heap.size W w4 := hd3.trans (S4.h.mono hd3.size)
        refine wpAnyIn_ready (rs := [4]) (by kernel_rfl) (by simp) ?_
        refine AllReadyIn.cons rfl (fun K hK => ?_) AllReadyIn.nil
        refine pos_in (by rfl) ?_
        refine Lg.wpIn_store 42 (.tmp 3) (.tmp 16) (by rfl) (w.heap.size + 1) 0 N8.toArray (by rfl) (by rfl) (by rw [e8]; exact there_under t1 hd4 (by omega)) (by rw [e8]; exact size37) o8.out ?_
        refine hK _ _ ?_
        clear hK K
        refine wpAnyIn_done (by kernel_rfl) ?_ _
        exact fin.out w4 hd4 { tmps := #[], defers := [] }
      · go_simp
        refine ⟨trivial, ?_⟩
        refine (CallsIn.inRound l (callsIn_wide.2 (cS _))).mono ?_
        rintro e w3 ⟨rfl, S3⟩
        refine hK _ _ ?_
        clear hK K
        have hd3 : Below W.heap.size W w3 := hd.trans (S3.h.mono (Nat.le_refl _))
        refine wpAnyIn_ready (rs := [0]) (by kernel_rfl) (by simp) ?_
        refine AllReadyIn.cons rfl (fun K hK => ?_) AllReadyIn.nil
        refine pos_in (by rfl) ?_
        refine Lg.wpIn_load 42 (.tmp 3) (by rfl) (w.heap.size + 1) 0 (by rfl) (vl .u32 (hs pre)) _ (range_under r1 hd3 (by omega)) Tryd.underlying42 rfl (by rw [lH]; exact size37) ?_
        refine hK _ _ ?_
        clear hK K
        refine wpAnyIn_ready (rs := [3]) (by kernel_rfl) (by simp) ?_
        refine AllReadyIn.cons rfl (fun K hK => ?_) AllReadyIn.nil
        go_simp
        refine ⟨trivial, ?_⟩
        refine (CallsIn.inRound l (callsIn_wide.2 (cT _ (LaidK.to (e := ⟨hd3⟩) hLW)))).mono ?_
        rintro e w4 ⟨rfl, S4⟩
        refine hK _ _ ?_
        clear hK K
        have hd4 : Below W.heap.size W w4 := hd3.trans (S4.h.mono hd3.size)
        refine wpAnyIn_ready (rs := [4]) (by kernel_rfl) (by simp) ?_
        refine AllReadyIn.cons rfl (fun K hK => ?_) AllReadyIn.nil
        refine pos_in (by rfl) ?_
        refine Lg.wpIn_store 42 (.tmp 3) (.tmp 16) (by rfl) (w.heap.size + 1) 0 N8.toArray (by rfl) (by rfl) (by rw [e8]; exact there_under t1 hd4 (by omega)) (by rw [e8]; exact size37) o8.out ?_
        refine hK _ _ ?_
        clear hK K
        refine wpAnyIn_done (by kernel_rfl) ?_ _
        exact fin.out w4 hd4 { tmps := #[], defers := [] }
  case done =>
    rintro D ys W hD rfl ⟨⟨⟨r1, t1⟩, t0⟩, B1⟩ hK
    obtain ⟨H, hH⟩ : ∃ H, Hid (H = hs (bks b ((pad b.1).length / 64))) := ⟨_, Lib.hid rfl⟩
    have hf := hs_fine (bks b ((pad b.1).length / 64))
    have eS : Hid (vl .u8 (bys H) = vl .u8 (Sh.sum b.1)) := Lib.hid (by rw [hH.out, hs_hsh]; rfl)
    rw [← hH.out] at r1 hf
    clear hH
    have lN : (vl .u32 H).length = 8 := by rw [vl_len, hf.1]
    have cN : ∀ i, i < 8 → (vl .u32 H)[i]? = some (.int .u32 (H.getD i 0 : Nat)) := fun i hi => vl_at _ _ _ (by rw [hf.1]; exact hi)
    have Tn := Lg.there_new W Z 24 32 hsz
    have Rn : (W.alloc (Obj.cells Z 24)).rangeAt W.heap.size 0 (vl .u8 (ol H 0)) := by
      rw [ol_zero, hZl.out]
      exact range_new W Z 24
    have T0n := World.there_alloc t0 (Obj.cells Z 24)
    have R1n := World.rangeAt_alloc r1 (Obj.cells Z 24)
    have hBn : Below w.heap.size w (W.alloc (Obj.cells Z 24)) := (B2.trans B1).alloc (by have := B1.size; omega) _
    have hKn : (W.alloc (Obj.cells Z 24)).heap[D]? = some (.deferred (some [])) := (KeepsOthers.alloc W _).same D _ hK rfl
    have hDV : w.heap.size ≤ W.heap.size := by have := B1.size; omega
    generalize hNN : vl .u32 H = N at lN cN R1n
    go_wp2_with (first
      | refine Lg.wpAlloc (by rfl) 24 (by rfl) Z hz.out ?_
      | refine wpList_load_mid (by rfl) 42 (.tmp 3) (by rfl) (w.heap.size + 1) 0 (by rfl) N _ R1n Tryd.underlying42 rfl (by rw [lN]; exact size37) ?_)
    obtain ⟨V, hV⟩ : ∃ V, V = W.heap.size := ⟨_, rfl⟩
    rw [← hV] at Tn Rn hDV ⊢
    obtain ⟨G, hG⟩ : ∃ G, G = w.heap.size := ⟨_, rfl⟩
    have hGV : w.heap.size ≤ V := hDV
    generalize W.alloc (Obj.cells Z 24) = W5 at Tn Rn T0n hBn hKn ⊢
    clear hV r1 t1 t0 B1 hK R1n hNN hDV T0 T1 R1 C2
    go_loopw [6, 7, 8, 18, 22] (fun _ _ _ p _ wr => ∃ i : Nat, Hid (i ≤ 8) ∧ p = .int .i64 i ∧ wr.there w.heap.size 0 32 ∧ wr.there V 0 32 ∧ wr.rangeAt V 0 (vl .u8 (ol H (4 * i))) ∧ Below w.heap.size w wr ∧ wr.heap[D]? = some (.deferred (some []))) (fun _ _ _ p _ _ => 8 - (intOf p).toNat)
    case atStart => exact ⟨0, Lib.hid (Nat.zero_le _), rfl, T0n, Tn, Rn, hBn, hKn⟩
    case round =>
      obtain ⟨i, hi, rfl, t0, tV, rV, B, hK⟩ := hrel
      by_cases hlt : i < 8
      · have hI : ∀ w, (Instr.index 42 (.agg N.toArray) (.int .i64 i)).run Tryd.prog w = .ok (.int .u32 (H.getD i 0 : Nat)) w := run_index Tryd.underlying42 Tryd.sizeOf41 Tryd.isAgg41 i hlt (by rw [List.getElem?_toArray]; exact cN i hlt)
        have hx := hf.2 i
        have hb4 : ∀ j, j < 4 → (bys H).getD (4 * i + j) 0 = H.getD i 0 / 256 ^ (3 - j) % 256 := fun j hj => bys_at H hf.2 i j (by rw [hf.1]; exact hlt) hj
        have hb4' := Lib.hid hb4
        clear hb4
        generalize H.getD i 0 = x at hI hx hb4'
        have xI : (x : Int) < 4294967296 := by omega
        have iI : (i : Int) < 8 := by omega
        have hlt' := Lib.hid hlt
        obtain ⟨w9, h9⟩ : ∃ w9, w9 = wr := ⟨_, rfl⟩
        subst h9
        clear hlt
        go_wp2
        go_loopw [8, 22] (fun _ p wr => ∃ j : Nat, Hid (j ≤ 4) ∧ p = .int .i64 j ∧ wr.there w.heap.size 0 32 ∧ wr.there V 0 32 ∧ wr.rangeAt V 0 (vl .u8 (ol H (4 * i + j))) ∧ Below w.heap.size w wr ∧ wr.heap[D]? = some (.deferred (some []))) (fun _ p _ => 4 - (intOf p).toNat)
        case atStart => exact ⟨0, Lib.hid (Nat.zero_le _), rfl, t0, tV, rV, B, hK⟩
        case round =>
          obtain ⟨j, hj, rfl, t0, tV, rV, B, hK⟩ := hrel
          by_cases hlt2 : j < 4
          · have hm : 4 * i + j < 32 := by have := hlt'.out; omega
            obtain ⟨u, ec⟩ := Option.isSome_iff_exists.1 (tV (4 * i + j) hm).1
            have hfz := (tV (4 * i + j) hm).2
            rw [Nat.zero_add] at ec hfz
            have jI : (j : Int) < 4 := by omega
            have hst := Lib.hid (ol_step H (4 * i + j))
            have hv := Lib.hid (byte_form x j hlt2)
            go_wp2
            go_roundw
            case rel => exact ⟨j + 1, Lib.hid (by omega), by go_num, there_setCell t0 _ _, there_setCell tV _ _, by
              rw [hv.out, ← hb4'.out j hlt2, ← Nat.add_assoc, ← hst.out, ← vl_set]
              exact rangeAt_set rV (4 * i + j) _ (by rw [ol_len]; exact hm), B.setCell (by show w.heap.size ≤ V; exact hGV) _, (KeepsOthers.setCell wr ⟨V, 4 * i + j, none⟩ _).same D _ hK rfl⟩
            case measure => simp [intOf]; omega
          · have hj4 : j = 4 := by have := hj.out; omega
            subst hj4
            go_wp2
            go_roundw
            case rel => exact ⟨i + 1, Lib.hid (by have := hlt'.out; omega), by go_num, t0, tV, rV, B, hK⟩
            case measure => have := hlt'.out; simp [intOf]; omega
      · have hi8 : i = 8 := by have := hi.out; omega
        subst hi8
        have lF := ol_len H 32
        have eF : Hid (vl .u8 (ol H (4 * 8)) = vl .u8 (bys H)) := Lib.hid (by rw [ol_end H hf.1])
        have oF := Lib.hid (vl_one .u8 (ol H 32))
        have rV : wr.rangeAt V 0 (vl .u8 (ol H 32)) := rV
        have eF : Hid (vl .u8 (ol H 32) = vl .u8 (bys H)) := eF
        generalize vl .u8 (ol H 32) = E at rV lF eF oF
        have eE : E.toArray.size = 32 := lF
        go_wp2_with (first
          | refine wpList_load_mid (by rfl) 24 (.tmp 5) (by rfl) V 0 (by rfl) E _ rV Tryd.underlying24 rfl (by rw [lF]; exact size32) ?_
          | refine wpList_store_mid (by rfl) 24 (.tmp 2) (.tmp 38) (by rfl) w.heap.size 0 E.toArray (by rfl) (by rfl) (by rw [eE]; exact t0) (by rw [eE]; exact size32) oF.out ?_)
        have hKf : (wr.setCells w.heap.size 0 E).heap[D]? = some (.deferred (some [])) := (keeps_setCells E 0 wr).same D _ hK rfl
        have rE : (wr.setCells w.heap.size 0 E).rangeAt w.heap.size 0 E := World.rangeAt_setCells_same _ _ _ _ (by rw [lF]; exact t0)
        have rE2 := own_range (β := Unit) w.heap.size (fun _ => E) () _ _ _ rE (grownBy_putObj' (wr.setCells w.heap.size 0 E) D (.deferred none)) (fun r e => by cases e; exact ⟨_, hKf, rfl⟩)
        have BF : Below w.heap.size w (wr.setCells w.heap.size 0 E) := Lg.below_setCells (Nat.le_refl _) _ _ _ B
        refine ⟨by simp, .inl ⟨_, _, rfl, run_takeDeferred hKf, ?_⟩⟩
        exact ⟨_, results_one (by rfl) _ _ w.heap.size 0 E _ (by rfl) rE2 Tryd.underlying24 rfl (by rw [lF]; exact size32), by rw [eF.out, eS.out], ⟨BF.trans (belowK_b (w := w) (Nat.le_refl _) _ D _ _ (by omega) hKf rfl rfl)⟩⟩
  case stop =>
    rintro D c' pre W _ _ h _
    exact h.elim
end Sp
end Go.Proofs.YtkihhflmgceckaaDoor
