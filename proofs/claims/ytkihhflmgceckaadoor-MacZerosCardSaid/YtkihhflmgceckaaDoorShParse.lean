/- The program's own parse of a sum's text (package sha's Parse, strings.IndexByte). Conditions: none on the text. -/
import Derived.Test.YtkihhflmgceckaaDoorShText
import Derived.Test.YtkihhflmgceckaaDoorRef05e
import Derived.Lib.Bytealg
namespace Go.Proofs.YtkihhflmgceckaaDoor
open Go.RowKit Go.Lib
namespace Sp
open SlR Sh
theorem idx_lite (s : ByteArray) (c : Int) (w : World) :
    Calls Tryd.prog 37 #[.string s, .int .u8 c] w fun e w' => e = .returned (.int .i64 (Lib.indexByte s.data.toList c.toNat.toUInt8)) ∧ w' = w := by
  go_enter Tryd.func37, Tryd.ntmps37
  go_wp2
  rw [run_callFunc_extern Tryd.func43 (by kernel_rfl) (by kernel_rfl) (by kernel_rfl) (e := Extern.BytealgIndexByte.indexByte) (by kernel_rfl), Lib.run_indexByteString]
  simp only [Result.andThen]
  rw [Oper.upon_value]
  go_wp2
  go_ret
  exact ⟨rfl, rfl⟩
theorem idx_any (s : ByteArray) (c : Int) (w : World) :
    Calls Tryd.prog 29 #[.string s, .int .u8 c] w fun e w' => e = .returned (.int .i64 (Lib.indexByte s.data.toList c.toNat.toUInt8)) ∧ w' = w := by
  go_enter Tryd.func29, Tryd.ntmps29
  go_wp2_with (go_at_call 37; ((with_reducible refine (idx_lite _ _ _).mono ?_); rintro e w' ⟨rfl, rfl⟩))
  go_ret
  exact ⟨rfl, rfl⟩
theorem idx_dg : ∀ c : Nat, c < 256 → Lib.indexByte [48, 49, 50, 51, 52, 53, 54, 55, 56, 57, 97, 98, 99, 100, 101, 102] (((c : Int).toNat).toUInt8) = dg c := by decide +kernel
theorem idx_digit (c : Nat) (hc : c < 256) (w : World) :
    Calls Tryd.prog 29 #[.string (ByteArray.mk #[48, 49, 50, 51, 52, 53, 54, 55, 56, 57, 97, 98, 99, 100, 101, 102]), .int .u8 c] w fun e w' => e = .returned (.int .i64 (dg c)) ∧ w' = w := by
  have h := idx_any (ByteArray.mk #[48, 49, 50, 51, 52, 53, 54, 55, 56, 57, 97, 98, 99, 100, 101, 102]) c w
  have e : Lib.indexByte (ByteArray.mk #[48, 49, 50, 51, 52, 53, 54, 55, 56, 57, 97, 98, 99, 100, 101, 102]).data.toList ((c : Int).toNat.toUInt8) = dg c := idx_dg c hc
  rw [e] at h
  exact h
set_option maxHeartbeats 1600000 in
set_option maxRecDepth 100000 in
theorem parse_dlen (s : ByteArray) (w : World) (hs : Hid (s.size ≠ 64)) :
    Calls Tryd.prog 10 #[.string s] w fun e w' => e = .returned (.tuple #[.agg zs.toArray, .iface 56 (.int .i64 3)]) ∧ Step w w' := by
  have h1 : ¬ (s.size : Int) = 64 := by have := hs.out; omega
  obtain ⟨Z, hZ⟩ : ∃ Z, zs.toArray = Z := ⟨_, rfl⟩
  have hz : Hid (∀ w, (zeroValue 24).run Tryd.prog w = .ok (.agg Z) w) := Lib.hid (hZ ▸ zero32)
  have hsz : Z.size = 32 := by rw [← hZ]; rfl
  have hone : Hid (Z.all (·.oneCell') = true) := Lib.hid (hZ ▸ zs_one)
  rw [hZ]
  clear hZ
  go_enter Tryd.func10, Tryd.ntmps10
  go_wp2_with (first
    | refine Lg.wpAlloc (by rfl) 24 (by rfl) Z hz.out ?_
    | refine Lg.wpBuild (by rfl) 24 (by rfl) Z 32 5 hz.out Tryd.underlying24 1 Tryd.sizeOf5 ?_
    | refine wpList_store_mid (by rfl) 24 (.tmp 2) (.tmp 11) (by rfl) w.heap.size 0 Z (by rfl) (by rfl) (World.there_alloc (Lg.there_new _ _ _ _ rfl) _) (by rw [hsz]; exact size32) hone.out ?_)
  refine bodyPost_ret (Lg.results_mid (by rfl) _ _ w.heap.size 0 Z.toList _ (by rfl) (World.rangeAt_setCells_same _ _ _ _ (World.there_alloc (Lg.there_new _ _ _ _ rfl) _)) Tryd.underlying24 rfl (by rw [Array.length_toList, hsz]; exact size32)) (by rfl) ?_
  exact ⟨rfl, ⟨Lg.below_setCells (Nat.le_refl _) _ _ _ (inferInstance : Ext w ((w.alloc (Obj.cells Z 24)).alloc (Obj.cells Z 24))).h⟩⟩
set_option maxHeartbeats 3200000 in
set_option maxRecDepth 100000 in
theorem parse_dev (s : ByteArray) (w : World) (hs : Hid (s.size = 64)) :
    Calls Tryd.prog 10 #[.string s] w fun e w' =>
      (((∀ i, i < 32 → ok2 (bl s) i) ∧ e = .returned (.tuple #[.agg (cl s 32).toArray, .nilIface])) ∨ ((∃ i, i < 32 ∧ ¬ ok2 (bl s) i) ∧ e = .returned (.tuple #[.agg zs.toArray, .iface 56 (.int .i64 3)]))) ∧ Step w w' := by
  have h1 : (s.size : Int) = 64 := by have := hs.out; omega
  obtain ⟨Z, hZ⟩ : ∃ Z, zs.toArray = Z := ⟨_, rfl⟩
  have hz : Hid (∀ w, (zeroValue 24).run Tryd.prog w = .ok (.agg Z) w) := Lib.hid (hZ ▸ zero32)
  have hsz : Z.size = 32 := by rw [← hZ]; rfl
  have hone : Hid (Z.all (·.oneCell') = true) := Lib.hid (hZ ▸ zs_one)
  have hz0 : Hid (Z.toList = cl s 0) := Lib.hid (by rw [← hZ]; rfl)
  rw [hZ]
  clear hZ
  go_enter Tryd.func10, Tryd.ntmps10
  go_wp2_with (refine Lg.wpAlloc (by rfl) 24 (by rfl) Z hz.out ?_)
  have T1 : ((w.alloc (Obj.cells Z 24)).alloc (Obj.cells Z 24)).there w.heap.size 0 32 := World.there_alloc (Lg.there_new _ _ _ _ hsz) _
  have T2 : ((w.alloc (Obj.cells Z 24)).alloc (Obj.cells Z 24)).there (w.heap.size + 1) 0 32 := by
    have := Lg.there_new (w.alloc (Obj.cells Z 24)) Z 24 32 hsz
    simpa using this
  have R2 : ((w.alloc (Obj.cells Z 24)).alloc (Obj.cells Z 24)).rangeAt (w.heap.size + 1) 0 (cl s 0) := by
    rw [← hz0.out]
    intro j v hv
    have e : (w.alloc (Obj.cells Z 24)).heap.size = w.heap.size + 1 := by simp
    rw [Nat.zero_add, ← e, World.cell?_alloc_new]
    simpa using hv
  have S1 : Step w ((w.alloc (Obj.cells Z 24)).alloc (Obj.cells Z 24)) := Step.of inferInstance
  generalize ((w.alloc (Obj.cells Z 24)).alloc (Obj.cells Z 24)) = w1 at T1 T2 R2 S1 ⊢
  generalize hG : w.heap.size = G at T1 T2 R2 ⊢
  go_loopw [5, 6, 7, 13] (fun _ _ _ i wr => ∃ k : Nat, k ≤ 32 ∧ i = .int .i64 k ∧ Hid (∀ j, j < k → ok2 (bl s) j) ∧ wr.there G 0 32 ∧ wr.there (G + 1) 0 32 ∧ wr.rangeAt (G + 1) 0 (cl s k) ∧ Below w.heap.size w wr) (fun _ _ _ i _ => 32 - (intOf i).toNat)
  case atStart => exact ⟨0, Nat.zero_le _, rfl, Lib.hid (fun _ h => absurd h (Nat.not_lt_zero _)), T1, T2, R2, S1.h⟩
  case round =>
    obtain ⟨k, hk, rfl, hok, t1, t2, r2, B⟩ := hrel
    by_cases hlt : k < 32
    · have hx : ∀ p, (s[((2 : Int) * k).toNat]'p).toNat = (bl s).getD (2 * k) 0 := fun p => bl_at s _ _ (by omega) p
      have hy : ∀ p, (s[((2 : Int) * k + 1).toNat]'p).toNat = (bl s).getD (2 * k + 1) 0 := fun p => bl_at s _ _ (by omega) p
      have hxl : (bl s).getD (2 * k) 0 < 256 := by rw [← hx (by omega)]; exact UInt8.toNat_lt _
      have hyl : (bl s).getD (2 * k + 1) 0 < 256 := by rw [← hy (by omega)]; exact UInt8.toNat_lt _
      have hv : Hid (ok2 (bl s) k ↔ 0 ≤ dg ((bl s).getD (2 * k) 0) ∧ 0 ≤ dg ((bl s).getD (2 * k + 1) 0)) := Lib.hid Iff.rfl
      have hv2 : Hid (val2 (bl s) k = (16 * dg ((bl s).getD (2 * k) 0) + dg ((bl s).getD (2 * k + 1) 0)).toNat) := Lib.hid rfl
      generalize (bl s).getD (2 * k) 0 = x at hx hxl hv hv2
      generalize (bl s).getD (2 * k + 1) 0 = y at hy hyl hv hv2
      have dx := dg_le x
      have dy := dg_le y
      have cx := fun w => idx_digit x hxl w
      have cy := fun w => idx_digit y hyl w
      generalize dg x = p at dx hv hv2 cx
      generalize dg y = q at dy hv hv2 cy
      have SW : Step w wr := ⟨B⟩
      by_cases hp : p < 0
      · have nok : ¬ ok2 (bl s) k := fun h => by have := (hv.out.1 h).1; omega
        go_wp2_with (first
          | ((with_reducible refine (cx _).mono ?_); rintro e w' ⟨rfl, rfl⟩)
          | ((with_reducible refine (cy _).mono ?_); rintro e w' ⟨rfl, rfl⟩)
          | refine Lg.wpBuild (by rfl) 24 (by rfl) Z 32 5 hz.out Tryd.underlying24 1 Tryd.sizeOf5 ?_
          | refine wpList_store_mid (by rfl) 24 (.tmp 2) (.tmp 33) (by rfl) G 0 Z (by rfl) (by rfl) (hsz ▸ t1) (by rw [hsz]; exact size32) hone.out ?_)
        refine bodyPost_ret (Lg.results_mid (by rfl) _ _ G 0 Z.toList _ (by rfl) (World.rangeAt_setCells_same _ _ _ _ (by rw [Array.length_toList, hsz]; exact t1)) Tryd.underlying24 rfl (by rw [Array.length_toList, hsz]; exact size32)) (by rfl) ?_
        exact ⟨.inr ⟨⟨k, hlt, nok⟩, rfl⟩, ⟨Lg.below_setCells (Nat.le_of_eq hG) _ _ _ (inferInstance : Ext w _).h⟩⟩
      · by_cases hq : q < 0
        · have nok : ¬ ok2 (bl s) k := fun h => by have := (hv.out.1 h).2; omega
          go_wp2_with (first
            | ((with_reducible refine (cx _).mono ?_); rintro e w' ⟨rfl, rfl⟩)
            | ((with_reducible refine (cy _).mono ?_); rintro e w' ⟨rfl, rfl⟩)
            | refine Lg.wpBuild (by rfl) 24 (by rfl) Z 32 5 hz.out Tryd.underlying24 1 Tryd.sizeOf5 ?_
            | refine wpList_store_mid (by rfl) 24 (.tmp 2) (.tmp 33) (by rfl) G 0 Z (by rfl) (by rfl) (hsz ▸ t1) (by rw [hsz]; exact size32) hone.out ?_)
          refine bodyPost_ret (Lg.results_mid (by rfl) _ _ G 0 Z.toList _ (by rfl) (World.rangeAt_setCells_same _ _ _ _ (by rw [Array.length_toList, hsz]; exact t1)) Tryd.underlying24 rfl (by rw [Array.length_toList, hsz]; exact size32)) (by rfl) ?_
          exact ⟨.inr ⟨⟨k, hlt, nok⟩, rfl⟩, ⟨Lg.below_setCells (Nat.le_of_eq hG) _ _ _ (inferInstance : Ext w _).h⟩⟩
        · have yok : ok2 (bl s) k := hv.out.2 ⟨by omega, by omega⟩
          obtain ⟨u, hc⟩ := Option.isSome_iff_exists.1 (t2 k hlt).1
          rw [Nat.zero_add] at hc
          have hf := (t2 k hlt).2
          rw [Nat.zero_add] at hf
          have hval : Hid (16 * p + q = ((val2 (bl s) k : Nat) : Int)) := Lib.hid (by rw [hv2.out]; omega)
          have hok2 : Hid (∀ j, j < k + 1 → ok2 (bl s) j) := Lib.hid fun j hj => by
            by_cases e : j = k
            · subst e; exact yok
            · exact hok.out j (by omega)
          go_wp2_with (first
            | ((with_reducible refine (cx _).mono ?_); rintro e w' ⟨rfl, rfl⟩)
            | ((with_reducible refine (cy _).mono ?_); rintro e w' ⟨rfl, rfl⟩))
          go_roundw
          case rel => exact ⟨k + 1, by omega, by go_num, hok2, there_setCell t1 _ _, there_setCell t2 _ _, by
            rw [hval.out, ← cl_set s k hlt]
            exact rangeAt_set r2 k _ (by rw [cl_len _ _ hk]; exact hlt), (inferInstance : Ext w w').h.setCell (by show w.heap.size ≤ G + 1; omega) _⟩
          case measure => simp [intOf]; omega
    · have hkn : k = 32 := by omega
      subst hkn
      have hcl : (cl s 32).length = 32 := cl_len s 32 (Nat.le_refl _)
      have hc1 : Hid ((cl s 32).toArray.all (·.oneCell') = true) := Lib.hid (all_oneCell_toArray fun v hv => by
        unfold cl at hv
        rw [Nat.sub_self, List.replicate_zero, List.append_nil, List.mem_map] at hv
        obtain ⟨a, -, rfl⟩ := hv
        rfl)
      generalize hC : cl s 32 = C at r2 hcl hc1
      have hC2 := Lib.hid hC
      clear hC
      go_wp2_with (first
        | refine wpList_load_mid (by rfl) 24 (.tmp 4) (by rfl) (G + 1) 0 (by rfl) C _ r2 Tryd.underlying24 rfl (by rw [hcl]; exact size32) ?_
        | refine wpList_store_mid (by rfl) 24 (.tmp 2) (.tmp 43) (by rfl) G 0 C.toArray (by rfl) (by rfl) (by rw [List.size_toArray, hcl]; exact t1) (by rw [List.size_toArray, hcl]; exact size32) hc1.out ?_)
      have SW : Step w wr := ⟨B⟩
      refine bodyPost_ret (Lg.results_mid (by rfl) _ _ G 0 C _ (by rfl) (World.rangeAt_setCells_same _ _ _ _ (by rw [hcl]; exact t1)) Tryd.underlying24 rfl (by rw [hcl]; exact size32)) (by rfl) ?_
      exact ⟨.inl ⟨hok.out, by rw [hC2.out]; rfl⟩, ⟨Lg.below_setCells (Nat.le_of_eq hG) _ _ _ (inferInstance : Ext w _).h⟩⟩
end Sp
end Go.Proofs.YtkihhflmgceckaaDoor
