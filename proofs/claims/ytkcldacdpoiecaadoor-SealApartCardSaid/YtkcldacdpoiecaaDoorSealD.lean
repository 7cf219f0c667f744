/- Layer 8, the document's: what a seed and a salt are bound to, and what a list is summed as. Conditions: at most 31 rows of at most 300 bytes; the document's sum as a contract. -/
import Derived.Test.YtkcldacdpoiecaaDoorSealC
namespace Go.Proofs.YtkcldacdpoiecaaDoor
open Go.RowKit Go.Lib
namespace Se
open SlR Sh Sp Pg
/-- The document's sum as a contract. -/
abbrev OfC : Prop := ∀ (A : Option Addr) (c n : Nat) (b : List Nat) (w : World), b.length = n → n ≤ 90000 → R8 w A b → B8 b →
  Calls Tryd.prog 18 #[.slice A n c] w fun e w' => e = .returned (.agg (vl .u8 (Sh.sum b)).toArray) ∧ Step w w'
set_option maxHeartbeats 3200000 in
set_option maxRecDepth 100000 in
theorem rof_any (hOf : OfC) (x y : Nat) (w : World) (hx : Hid (x < 18446744073709551616)) (hy : Hid (y < 18446744073709551616)) :
    Calls Tryd.prog 15 #[.int .u64 x, .int .u64 y] w fun e w' => e = .returned (.agg (vl .u8 (sdS x y)).toArray) ∧ Step w w' := by
  obtain ⟨Z3, hZ3⟩ : ∃ Z, zs.toArray = Z := ⟨_, rfl⟩
  have hz3 : Hid (∀ w, (zeroValue 22).run Tryd.prog w = .ok (.agg Z3) w) := Lib.hid (hZ3 ▸ zero32)
  have hsz3 : Z3.size = 32 := by rw [← hZ3]; rfl
  clear hZ3
  have T0 := Lg.there_new w Z3 22 32 hsz3
  have cT := fun w : World => rtext_any x y w hx hy
  have cS : ∀ (w : World) (A : Option Addr) (c : Nat), R8 w A (sdt x y) → Calls Tryd.prog 18 #[.slice A 17 c] w fun e w' => e = .returned (.agg (vl .u8 (sdS x y)).toArray) ∧ Step w w' :=
    fun w A c h1 => hOf A c 17 (sdt x y) w (sdt_len x y) (by omega) h1 (sdt_b8 x y)
  have lF : (vl .u8 (sdS x y)).length = 32 := by rw [vl_len, sdS_len]
  have oF := Lib.hid (vl_one .u8 (sdS x y))
  generalize vl .u8 (sdS x y) = F at cS lF oF
  have eF : F.toArray.size = 32 := lF
  generalize sdt x y = T at cT cS
  clear hx hy
  go_enter Tryd.func15, Tryd.ntmps15
  go_wp2_with (first
    | refine Lg.wpAlloc (by rfl) 22 (by rfl) Z3 hz3.out ?_
    | (go_at_call 19; ((with_reducible refine (cT _).mono ?_); rintro e w4 ⟨A4, d4, rfl, O4, S4⟩))
    | (go_at_call 18; ((with_reducible refine (cS _ _ _ (Row.of_own O4)).mono ?_); rintro e w5 ⟨rfl, S5⟩; have T5 : w5.there w.heap.size 0 32 := there_under T0 (inferInstance : Ext (w.alloc (Obj.cells Z3 22)) w5).h (by simp)))
    | refine wpList_store_mid (by rfl) 22 (.tmp 4) (.tmp 8) (by rfl) w.heap.size 0 F.toArray (by rfl) (by rfl) (by rw [eF]; exact T5) (by rw [eF]; exact size32) oF.out ?_)
  refine bodyPost_ret (results_one (by rfl) _ _ w.heap.size 0 F _ (by rfl) (World.rangeAt_setCells_same _ _ _ _ (by rw [lF]; exact T5)) Tryd.underlying22 rfl (by rw [lF]; exact size32)) (by rfl) ?_
  exact ⟨rfl, ⟨Lg.below_setCells (Nat.le_refl _) _ _ _ (inferInstance : Ext w w5).h⟩⟩
theorem spl2 (n : Nat) : spl n 2 = [n / 256 % 256, n % 256] := by simp [spl]
theorem two_eq (m : Nat) (h : m ≤ 300) : [IntKind.u8.wrap (IntKind.i64.wrap ((m : Int) / 256)), IntKind.u8.wrap ((m : Int).tmod 256)] = NL (spl m 2) := by
  rw [spl2]
  have e1 : IntKind.u8.wrap (IntKind.i64.wrap ((m : Int) / 256)) = ((m / 256 % 256 : Nat) : Int) := by simp [IntKind.wrap, IntKind.bits, IntKind.signed]; omega
  have e2 : IntKind.u8.wrap ((m : Int).tmod 256) = ((m % 256 : Nat) : Int) := by rw [Int.tmod_eq_emod_of_nonneg (by omega), IntKind.wrap_u8']; omega
  rw [e1, e2]
  rfl
set_option maxHeartbeats 6400000 in
set_option maxRecDepth 100000 in
theorem rlist_any (A : Option Addr) (n c : Nat) (ls : List (List Nat)) (w : World) (hn : ls.length = n) (h31 : n ≤ 31) (hl : Hid (∀ j, (ls.getD j []).length ≤ 300)) (hr : RowsB w A ls) :
    Calls Tryd.prog 14 #[.slice A n c] w fun e w' => ∃ A' L c', e = .returned (.tuple #[.slice A' L c', .bool true]) ∧ L ≤ 10000 ∧ Ow w' w.heap.size (.slice A' L c') L (ltx ls) ∧ Step w w' := by
  obtain ⟨i0, hi, hz0, hz1, hz2⟩ := info_parts infoB
  have hst : Hid (∀ k, k < n → (lt ls k ++ spl (ls.getD k []).length 2) ++ ls.getD k [] = lt ls (k + 1)) := Lib.hid fun k hk => lt_step ls k (by omega)
  have h0 : Hid (lt ls 0 = [76, n / 256 % 256, n % 256]) := Lib.hid (by rw [lt_zero, hn, spl2]; rfl)
  have hE : Hid (ltx ls = lt ls n) := Lib.hid (by rw [ltx, hn])
  have HN := Lib.hid hn
  have HR := Lib.hid hr
  have nI : (n : Int) ≤ 31 := by omega
  clear hn hr
  go_enter Tryd.func14, Tryd.ntmps14
  go_wp2
  have O0 : Hid (Ow (w.alloc (Obj.cells #[Value.int .u8 76, Value.int .u8 ((n : Int) / 256), Value.int .u8 ((n : Int) % 256)] 5)) w.heap.size (.slice (some ⟨w.heap.size, 0, none⟩) 3 3) 3 (lt ls 0)) := Lib.hid (by
    rw [h0.out]
    exact Ow.lit3 w w.heap.size w.heap.size 76 (n / 256 % 256) (n % 256) _ _ _ (Nat.le_refl _) rfl rfl (by omega) (by omega))
  have S0 : Hid (Step w (w.alloc (Obj.cells #[Value.int .u8 76, Value.int .u8 ((n : Int) / 256), Value.int .u8 ((n : Int) % 256)] 5))) := Lib.hid (Step.of inferInstance)
  generalize w.alloc (Obj.cells #[Value.int .u8 76, Value.int .u8 ((n : Int) / 256), Value.int .u8 ((n : Int) % 256)] 5) = W1 at O0 S0 ⊢
  go_loopw [4, 5] (fun v i wr => ∃ (k L : Nat), k ≤ n ∧ i = .int .i64 k ∧ L ≤ 3 + 302 * k ∧ Hid (Ow wr w.heap.size v L (lt ls k)) ∧ Hid (Step w wr)) (fun _ i _ => n - (intOf i).toNat)
  case atStart => exact ⟨0, 3, Nat.zero_le _, rfl, by omega, O0, S0⟩
  case round =>
    obtain ⟨k, L, hk, rfl, hLk, hO, hS⟩ := hrel
    have SW : Step w wr := hS.out
    obtain ⟨A4, d4, rfl⟩ := own_form hO.out
    have hL2 : L ≤ 100000 := by omega
    clear O0 S0 hS h0
    by_cases hlt : k < n
    · obtain ⟨ad, A', c', rfl, hab, hc1, hR⟩ := HR.out.at (j := k) (by rw [HN.out]; exact hlt)
      have hc := (SW.h.cell (p := ad.add k) (by rw [blockAdd]; exact hab)).trans hc1
      have bl : (ad.add k).block < w.heap.size := by rw [blockAdd]; exact hab
      have hx := hl.out k
      have hX := Lib.hid (hst.out k hlt)
      have HR2 := Lib.hid hR
      have HC1 := Lib.hid hc1
      generalize ls.getD k [] = row at hc hc1 hx hX HR2 HC1
      have hxI : (row.length : Int) ≤ 300 := by omega
      have Hlr : Hid ((NL row).length = row.length) := Lib.hid (NL_len row)
      have hs2 : Hid ([IntKind.u8.wrap (IntKind.i64.wrap ((row.length : Int) / 256)), IntKind.u8.wrap ((row.length : Int).tmod 256)] = NL (spl row.length 2)) := Lib.hid (two_eq _ hx)
      generalize row.length = m at *
      clear hR HR HN hl hst hE hc1 hab
      go_wp2
      go_region_held3 (fun w' => w'.cell? (ad.add k) = some (.slice A' m c') ∧ Step w w')
        (exact ⟨((Step.of (w := w) inferInstance).h.cell bl).trans HC1.out, Step.of inferInstance⟩)
        ((refine ApE.stepE .u8 w wr (by rfl) _ _ 37 (by rfl) 5 i0 _ 1 Tryd.underlying37 hi hz0 hz1 hz2 rfl _ L (NL (lt ls k)) (by rfl) hO.out _ 2 2 _ (by rfl) rfl (Row.lit2 _ _ _ _ _ (by simp)) (by omega) (by omega) ?_; intro A5 c5 w5 O5 S5))
      rename_i hHeld
      clear hHeld
      have hc5 := (S5.h.cell bl).trans HC1.out
      have O6 : Hid (ApE.Own .u8 5 w5 w.heap.size (.slice A5 (L + 2) c5) (L + 2) (NL (lt ls k ++ spl m 2))) := Lib.hid (by
        rw [NL_app]
        exact own_list O5 hs2.out)
      clear hc HC1 O5 hs2 hO
      go_wp2_with (at_builtin; refine ApE.wpE .u8 w w5 (by rfl) _ _ 37 (by rfl) 5 i0 _ 1 Tryd.underlying37 hi hz0 hz1 hz2 rfl _ (L + 2) (NL (lt ls k ++ spl m 2)) (by rfl) O6.out A' m c' (NL row) (by rfl) Hlr.out (Row.to HR2.out) (by omega) (by omega) ?_; intro A7 c7 w7 O7 S7)
      go_roundw
      case rel => exact ⟨k + 1, L + 2 + m, by omega, by go_num, by omega, Lib.hid (by rw [← hX.out]; exact Ow.app O7), Lib.hid S7⟩
      case measure => simp [intOf]; omega
    · have hkn : k = n := by omega
      subst hkn
      have HO : Hid (Ow wr w.heap.size (.slice A4 L d4) L (ltx ls)) := Lib.hid (by rw [hE.out]; exact hO.out)
      clear hO hE hst hl HN HR
      go_wp2
      go_ret2
      exact ⟨_, _, _, rfl, by omega, HO.out, SW⟩
end Se
end Go.Proofs.YtkcldacdpoiecaaDoor
