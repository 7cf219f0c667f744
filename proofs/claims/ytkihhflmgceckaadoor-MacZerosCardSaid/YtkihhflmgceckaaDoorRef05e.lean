/- The document's own answers of layer 5 (package caucusref05): a text's sum. Conditions: none on the text. -/
import Derived.Test.YtkihhflmgceckaaDoorRef05d
import Derived.Test.YtkihhflmgceckaaDoorLong
namespace Go.Proofs.YtkihhflmgceckaaDoor
open Go.RowKit Go.Lib
namespace Sh
open SlR
def zs : List Value := List.replicate 32 (Value.int .u8 0)
theorem zs_one : zs.toArray.all (·.oneCell') = true := all_oneCell_toArray fun v hv => by
  unfold zs at hv
  rw [List.eq_of_mem_replicate hv]
  rfl
theorem size32 : (Tryd.prog.info? 24).map (·.size) = some 32 := by kernel_rfl
theorem zero32 (w : World) : (zeroValue 24).run Tryd.prog w = .ok (.agg zs.toArray) w := Tryd.zeroValue24 w
set_option maxHeartbeats 1600000 in
set_option maxRecDepth 100000 in
theorem parse_len (s : ByteArray) (w : World) (hs : Hid (s.size ≠ 64)) :
    Calls Tryd.prog 11 #[.string s] w fun e w' => e = .returned (.tuple #[.agg zs.toArray, .int .i64 3]) ∧ Step w w' := by
  have h1 : ¬ (s.size : Int) = 64 := by have := hs.out; omega
  obtain ⟨Z, hZ⟩ : ∃ Z, zs.toArray = Z := ⟨_, rfl⟩
  have hz : Hid (∀ w, (zeroValue 24).run Tryd.prog w = .ok (.agg Z) w) := Lib.hid (hZ ▸ zero32)
  have hsz : Z.size = 32 := by rw [← hZ]; rfl
  have hone : Hid (Z.all (·.oneCell') = true) := Lib.hid (hZ ▸ zs_one)
  rw [hZ]
  clear hZ
  go_enter Tryd.func11, Tryd.ntmps11
  go_wp2_with (first
    | refine Lg.wpAlloc (by rfl) 24 (by rfl) Z hz.out ?_
    | refine Lg.wpBuild (by rfl) 24 (by rfl) Z 32 5 hz.out Tryd.underlying24 1 Tryd.sizeOf5 ?_
    | refine wpList_store_mid (by rfl) 24 (.tmp 2) (.tmp 11) (by rfl) w.heap.size 0 Z (by rfl) (by rfl) (Lg.there_new _ _ _ _ rfl) (by rw [hsz]; exact size32) hone.out ?_)
  refine bodyPost_ret (Lg.results_mid (by rfl) _ _ w.heap.size 0 Z.toList _ (by rfl) (World.rangeAt_setCells_same _ _ _ _ (Lg.there_new _ _ _ _ rfl)) Tryd.underlying24 rfl (by rw [Array.length_toList, hsz]; exact size32)) (by rfl) ?_
  exact ⟨rfl, ⟨Lg.below_setCells (Nat.le_refl _) _ _ _ (Ext.alloc (w := w) (a := w) _).h⟩⟩
/-- A string's bytes as numbers. -/
def bl (s : ByteArray) : List Nat := s.data.toList.map (·.toNat)
theorem bl_at (s : ByteArray) (i n : Nat) (h : n = i) (p : n < s.size) : (s[n]'p).toNat = (bl s).getD i 0 := by
  subst h
  have p2 : n < s.data.toList.length := by simpa using p
  have e : (bl s)[n]? = some (s[n]'p).toNat := by
    unfold bl
    rw [List.getElem?_map, List.getElem?_eq_getElem p2]
    rfl
  rw [List.getD_eq_getElem?_getD, e]
  rfl
def cl (s : ByteArray) (k : Nat) : List Value := (vals (bl s) k).map (fun v => Value.int .u8 (v : Nat)) ++ List.replicate (32 - k) (Value.int .u8 0)
theorem there_setCell {w : World} {b o n : Nat} (h : w.there b o n) (p : Addr) (v : Value) : (w.setCell p v).there b o n := fun j hj => by
  refine ⟨?_, by rw [World.frozen?_setCell]; exact (h j hj).2⟩
  obtain ⟨u, hu⟩ := Option.isSome_iff_exists.1 (h j hj).1
  by_cases e : p = ⟨b, o + j, none⟩
  · subst e; rw [World.cell?_setCell_same _ _ _ hu]; rfl
  · rw [World.cell?_setCell_other _ _ _ _ e, hu]; rfl
theorem cl_len (s : ByteArray) (k : Nat) (h : k ≤ 32) : (cl s k).length = 32 := by simp [cl, vals]; omega
theorem cl_set (s : ByteArray) (k : Nat) (h : k < 32) : (cl s k).set k (Value.int .u8 (val2 (bl s) k : Nat)) = cl s (k + 1) := by
  have e : 32 - k = (32 - (k + 1)) + 1 := by omega
  have l : ((vals (bl s) k).map (fun v => Value.int .u8 (v : Nat))).length = k := by simp [vals]
  unfold cl
  rw [List.set_append_right _ _ (by omega), l, Nat.sub_self, e, List.replicate_succ, List.set_cons_zero]
  simp [vals, List.range_succ]
theorem rangeAt_set {w : World} {b : Nat} {cs : List Value} (h : w.rangeAt b 0 cs) (k : Nat) (v : Value) (hk : k < cs.length) : (w.setCell ⟨b, k, none⟩ v).rangeAt b 0 (cs.set k v) := fun j u hu => by
  have hj : j < cs.length := by have := (List.getElem?_eq_some_iff.1 hu).1; simpa using this
  rw [Nat.zero_add]
  have hc := fun i (hi : i < cs.length) => h i _ (List.getElem?_eq_getElem hi)
  by_cases e : k = j
  · subst e
    have := hc k hk
    rw [Nat.zero_add] at this
    rw [World.cell?_setCell_same _ _ _ this, ← hu, List.getElem?_set_self hk]
  · have := hc j hj
    rw [Nat.zero_add] at this
    rw [World.cell?_setCell_other _ _ _ _ (by intro q; injection q; omega), this, ← hu, List.getElem?_set_ne e, List.getElem?_eq_getElem hj]
set_option maxHeartbeats 3200000 in
set_option maxRecDepth 100000 in
theorem parse_any (s : ByteArray) (w : World) (hs : Hid (s.size = 64)) :
    Calls Tryd.prog 11 #[.string s] w fun e w' =>
      (((∀ i, i < 32 → ok2 (bl s) i) ∧ e = .returned (.tuple #[.agg (cl s 32).toArray, .int .i64 0])) ∨ ((∃ i, i < 32 ∧ ¬ ok2 (bl s) i) ∧ e = .returned (.tuple #[.agg zs.toArray, .int .i64 3]))) ∧ Step w w' := by
  have h1 : (s.size : Int) = 64 := by have := hs.out; omega
  obtain ⟨Z, hZ⟩ : ∃ Z, zs.toArray = Z := ⟨_, rfl⟩
  have hz : Hid (∀ w, (zeroValue 24).run Tryd.prog w = .ok (.agg Z) w) := Lib.hid (hZ ▸ zero32)
  have hsz : Z.size = 32 := by rw [← hZ]; rfl
  have hone : Hid (Z.all (·.oneCell') = true) := Lib.hid (hZ ▸ zs_one)
  have hz0 : Hid (Z.toList = cl s 0) := Lib.hid (by rw [← hZ]; rfl)
  rw [hZ]
  clear hZ
  go_enter Tryd.func11, Tryd.ntmps11
  go_wp2_with (refine Lg.wpAlloc (by rfl) 24 (by rfl) Z hz.out ?_)
  have T1 : ((w.alloc (Obj.cells Z 24)).alloc (Obj.cells Z 24)).there w.heap.size 0 32 := World.there_alloc (Lg.there_new _ _ _ _ hsz) _
  have T2 : ((w.alloc (Obj.cells Z 24)).alloc (Obj.cells Z 24)).there (w.heap.size + 1) 0 32 := by
    have := Lg.there_new (w.alloc (Obj.cells Z 24)) Z 24 32 hsz
    simpa using this
  have R2 : ((w.alloc (Obj.cells Z 24)).alloc (Obj.cells Z 24)).rangeAt (w.heap.size + 1) 0 (cl s 0) := by
    rw [← hz0.out]
    intro j v hv
    have e : (w.alloc (Obj.cells Z 24)).heap.size = w.heap.size + 1 := by simp
    rw [Nat.zero_add, ← e, World.cell?_alloc_new]
    simpa using hv
  have S1 : Step w ((w.alloc (Obj.cells Z 24)).alloc (Obj.cells Z 24)) := Step.of inferInstance
  generalize ((w.alloc (Obj.cells Z 24)).alloc (Obj.cells Z 24)) = w1 at T1 T2 R2 S1 ⊢
  generalize hG : w.heap.size = G at T1 T2 R2 ⊢
  go_loopw [5, 6, 7] (fun i _ _ wr => ∃ k : Nat, k ≤ 32 ∧ i = .int .i64 k ∧ Hid (∀ j, j < k → ok2 (bl s) j) ∧ wr.there G 0 32 ∧ wr.there (G + 1) 0 32 ∧ wr.rangeAt (G + 1) 0 (cl s k) ∧ Below w.heap.size w wr) (fun i _ _ _ => 32 - (intOf i).toNat)
  case atStart => exact ⟨0, Nat.zero_le _, rfl, Lib.hid (fun _ h => absurd h (Nat.not_lt_zero _)), T1, T2, R2, S1.h⟩
  case round =>
    obtain ⟨k, hk, rfl, hok, t1, t2, r2, B⟩ := hrel
    by_cases hlt : k < 32
    · have hx : ∀ p, (s[((2 : Int) * k).toNat]'p).toNat = (bl s).getD (2 * k) 0 := fun p => bl_at s _ _ (by omega) p
      have hy : ∀ p, (s[((2 : Int) * k + 1).toNat]'p).toNat = (bl s).getD (2 * k + 1) 0 := fun p => bl_at s _ _ (by omega) p
      have hxl : (bl s).getD (2 * k) 0 < 256 := by rw [← hx (by omega)]; exact UInt8.toNat_lt _
      have hyl : (bl s).getD (2 * k + 1) 0 < 256 := by rw [← hy (by omega)]; exact UInt8.toNat_lt _
      have hv : Hid (ok2 (bl s) k ↔ 0 ≤ dg ((bl s).getD (2 * k) 0) ∧ 0 ≤ dg ((bl s).getD (2 * k + 1) 0)) := Lib.hid Iff.rfl
      have hv2 : Hid (val2 (bl s) k = (16 * dg ((bl s).getD (2 * k) 0) + dg ((bl s).getD (2 * k + 1) 0)).toNat) := Lib.hid rfl
      generalize (bl s).getD (2 * k) 0 = x at hx hxl hv hv2
      generalize (bl s).getD (2 * k + 1) 0 = y at hy hyl hv hv2
      have dx := dg_le x
      have dy := dg_le y
      have cx := fun w => digit_any x w hxl
      have cy := fun w => digit_any y w hyl
      generalize dg x = p at dx hv hv2 cx
      generalize dg y = q at dy hv hv2 cy
      have SW : Step w wr := ⟨B⟩
      by_cases hp : p < 0
      · have nok : ¬ ok2 (bl s) k := fun h => by have := (hv.out.1 h).1; omega
        go_wp2
        go_quiet (first
          | with_reducible exact Calls.quiet_of_same (cx _)
          | with_reducible exact Calls.quiet_of_same (cy _))
        go_wp2_with (first
          | refine Lg.wpBuild (by rfl) 24 (by rfl) Z 32 5 hz.out Tryd.underlying24 1 Tryd.sizeOf5 ?_
          | refine wpList_store_mid (by rfl) 24 (.tmp 2) (.tmp 33) (by rfl) G 0 Z (by rfl) (by rfl) (hsz ▸ t1) (by rw [hsz]; exact size32) hone.out ?_)
        refine bodyPost_ret (Lg.results_mid (by rfl) _ _ G 0 Z.toList _ (by rfl) (World.rangeAt_setCells_same _ _ _ _ (by rw [Array.length_toList, hsz]; exact t1)) Tryd.underlying24 rfl (by rw [Array.length_toList, hsz]; exact size32)) (by rfl) ?_
        exact ⟨.inr ⟨⟨k, hlt, nok⟩, rfl⟩, ⟨Lg.below_setCells (Nat.le_of_eq hG) _ _ _ (inferInstance : Ext w _).h⟩⟩
      · by_cases hq : q < 0
        · have nok : ¬ ok2 (bl s) k := fun h => by have := (hv.out.1 h).2; omega
          go_wp2
          go_quiet (first
            | with_reducible exact Calls.quiet_of_same (cx _)
            | with_reducible exact Calls.quiet_of_same (cy _))
          go_wp2_with (first
            | refine Lg.wpBuild (by rfl) 24 (by rfl) Z 32 5 hz.out Tryd.underlying24 1 Tryd.sizeOf5 ?_
            | refine wpList_store_mid (by rfl) 24 (.tmp 2) (.tmp 33) (by rfl) G 0 Z (by rfl) (by rfl) (hsz ▸ t1) (by rw [hsz]; exact size32) hone.out ?_)
          refine bodyPost_ret (Lg.results_mid (by rfl) _ _ G 0 Z.toList _ (by rfl) (World.rangeAt_setCells_same _ _ _ _ (by rw [Array.length_toList, hsz]; exact t1)) Tryd.underlying24 rfl (by rw [Array.length_toList, hsz]; exact size32)) (by rfl) ?_
          exact ⟨.inr ⟨⟨k, hlt, nok⟩, rfl⟩, ⟨Lg.below_setCells (Nat.le_of_eq hG) _ _ _ (inferInstance : Ext w _).h⟩⟩
        · have yok : ok2 (bl s) k := hv.out.2 ⟨by omega, by omega⟩
          obtain ⟨u, hc⟩ := Option.isSome_iff_exists.1 (t2 k hlt).1
          rw [Nat.zero_add] at hc
          have hf := (t2 k hlt).2
          rw [Nat.zero_add] at hf
          have hval : Hid (16 * p + q = ((val2 (bl s) k : Nat) : Int)) := Lib.hid (by rw [hv2.out]; omega)
          have hok2 : Hid (∀ j, j < k + 1 → ok2 (bl s) j) := Lib.hid fun j hj => by
            by_cases e : j = k
            · subst e; exact yok
            · exact hok.out j (by omega)
          go_wp2
          go_quiet (first
            | with_reducible exact Calls.quiet_of_same (cx _)
            | with_reducible exact Calls.quiet_of_same (cy _))
          go_wp2
          go_roundw
          case rel => exact ⟨k + 1, by omega, by go_num, hok2, there_setCell t1 _ _, there_setCell t2 _ _, by
            rw [hval.out, ← cl_set s k hlt]
            exact rangeAt_set r2 k _ (by rw [cl_len _ _ hk]; exact hlt), (inferInstance : Ext w (wr.drewN _)).h.setCell (by show w.heap.size ≤ G + 1; omega) _⟩
          case measure => simp [intOf]; omega
    · have hkn : k = 32 := by omega
      subst hkn
      have hcl : (cl s 32).length = 32 := cl_len s 32 (Nat.le_refl _)
      have hc1 : Hid ((cl s 32).toArray.all (·.oneCell') = true) := Lib.hid (all_oneCell_toArray fun v hv => by
        unfold cl at hv
        rw [Nat.sub_self, List.replicate_zero, List.append_nil, List.mem_map] at hv
        obtain ⟨a, -, rfl⟩ := hv
        rfl)
      generalize hC : cl s 32 = C at r2 hcl hc1
      have hC2 := Lib.hid hC
      clear hC
      go_wp2_with (first
        | refine wpList_load_mid (by rfl) 24 (.tmp 4) (by rfl) (G + 1) 0 (by rfl) C _ r2 Tryd.underlying24 rfl (by rw [hcl]; exact size32) ?_
        | refine wpList_store_mid (by rfl) 24 (.tmp 2) (.tmp 41) (by rfl) G 0 C.toArray (by rfl) (by rfl) (by rw [List.size_toArray, hcl]; exact t1) (by rw [List.size_toArray, hcl]; exact size32) hc1.out ?_)
      have SW : Step w wr := ⟨B⟩
      refine bodyPost_ret (Lg.results_mid (by rfl) _ _ G 0 C _ (by rfl) (World.rangeAt_setCells_same _ _ _ _ (by rw [hcl]; exact t1)) Tryd.underlying24 rfl (by rw [hcl]; exact size32)) (by rfl) ?_
      exact ⟨.inl ⟨hok.out, by rw [hC2.out]; rfl⟩, ⟨Lg.below_setCells (Nat.le_of_eq hG) _ _ _ (inferInstance : Ext w _).h⟩⟩
end Sh
end Go.Proofs.YtkihhflmgceckaaDoor
