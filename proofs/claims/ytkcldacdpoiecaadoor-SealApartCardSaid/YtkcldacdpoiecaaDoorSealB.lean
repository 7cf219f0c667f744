/- Layer 8, the program's: what a list is bound to. Conditions: sha.k reads as laid; at most 31 rows of at most 300 bytes. -/
import Derived.Test.YtkcldacdpoiecaaDoorSealA
namespace Go.Proofs.YtkcldacdpoiecaaDoor
open Go.RowKit Go.Lib
namespace Se
open SlR Sh Sp Pg
/-- A slice of rows of bytes. -/
def RowsB (w : World) (A : Option Addr) (ls : List (List Nat)) : Prop := ∀ j row, ls[j]? = some row → ∃ (ad : Addr) (A' : Option Addr) (c' : Nat), A = some ad ∧ ad.block < w.heap.size ∧ w.cell? (ad.add j) = some (.slice A' row.length c') ∧ R8 w A' row
theorem RowsB.to {w w' : World} {A : Option Addr} {ls : List (List Nat)} (h : RowsB w A ls) [e : Ext w w'] : RowsB w' A ls := fun j row hj => by
  obtain ⟨ad, A', c', h1, h2, h3, h4⟩ := h j row hj
  exact ⟨ad, A', c', h1, Nat.lt_of_lt_of_le h2 e.size, (e.h.cell (by rw [blockAdd]; exact h2)).trans h3, h4.to⟩
theorem RowsB.at {w : World} {A : Option Addr} {ls : List (List Nat)} {j : Nat} (h : RowsB w A ls) (hj : j < ls.length) : ∃ (ad : Addr) (A' : Option Addr) (c' : Nat), A = some ad ∧ ad.block < w.heap.size ∧ w.cell? (ad.add j) = some (.slice A' (ls.getD j []).length c') ∧ R8 w A' (ls.getD j []) := by
  have e : ls[j]? = some (ls.getD j []) := by rw [List.getD_eq_getElem?_getD, List.getElem?_eq_getElem hj]; rfl
  exact h j _ e
theorem RowsB.nil {w : World} {A : Option Addr} : RowsB w A [] := fun j row h => by simp at h
/-- What stands of a row. -/
def seg (r : List Nat) : List Nat := spl r.length 2 ++ r
/-- What stands of the first so many rows. -/
def lt (ls : List (List Nat)) (k : Nat) : List Nat := [76] ++ spl ls.length 2 ++ ((ls.take k).map seg).flatten
/-- What a list is summed as. -/
def ltx (ls : List (List Nat)) : List Nat := lt ls ls.length
def ltS (ls : List (List Nat)) : List Nat := Sh.sum (ltx ls)
theorem ltS_len (ls : List (List Nat)) : (ltS ls).length = 32 := sum_fine _
theorem lt_zero (ls : List (List Nat)) : lt ls 0 = [76] ++ spl ls.length 2 := by simp [lt]
theorem lt_step (ls : List (List Nat)) (k : Nat) (h : k < ls.length) : (lt ls k ++ spl (ls.getD k []).length 2) ++ ls.getD k [] = lt ls (k + 1) := by
  have e : ls.take (k + 1) = ls.take k ++ [ls.getD k []] := by rw [List.take_add_one, List.getD_eq_getElem?_getD, List.getElem?_eq_getElem h]; rfl
  unfold lt
  rw [e, List.map_append, List.flatten_append]
  simp [seg]
theorem lt_b8 (ls : List (List Nat)) (hb : ∀ row ∈ ls, B8 row) (k : Nat) : B8 (lt ls k) := by
  refine b8_app (b8_app (b8_mem (by simp)) (spl_b8 _ 2)) (b8_mem fun x hx => ?_)
  obtain ⟨l, hl, hx⟩ := List.mem_flatten.1 hx
  obtain ⟨r, hr, rfl⟩ := List.mem_map.1 hl
  have h1 : B8 (seg r) := b8_app (spl_b8 _ 2) (hb r (List.mem_of_mem_take hr))
  obtain ⟨i, hi, rfl⟩ := List.getElem_of_mem hx
  have := h1 i
  rwa [List.getD_eq_getElem?_getD, List.getElem?_eq_getElem hi] at this
theorem Ow.len {w : World} {B n : Nat} {v : Value} {xs : List Nat} (h : Ow w B v n xs) : xs.length = n := by
  have := h.1
  simpa [NL] using this
set_option maxHeartbeats 3200000 in
set_option maxRecDepth 100000 in
theorem isList_any (A : Option Addr) (n c : Nat) (ls : List (List Nat)) (w : World) (hn : ls.length = n) (h31 : n ≤ 31) (hl : Hid (∀ j, (ls.getD j []).length ≤ 300)) (hr : RowsB w A ls) :
    Calls Tryd.prog 24 #[.slice A n c] w fun e w' => e = .returned (.bool true) ∧ w' = w := by
  have HR := Lib.hid hr
  have HN := Lib.hid hn
  clear hr hn
  have nI : (n : Int) ≤ 31 := by omega
  go_enter Tryd.func24, Tryd.ntmps24
  go_wp2
  go_loop [10] (fun i => ∃ k : Nat, k ≤ n ∧ i = .int .i64 k) (fun i => n - (intOf i).toNat)
  case atStart => exact ⟨0, Nat.zero_le _, rfl⟩
  case round =>
    obtain ⟨k, hk, rfl⟩ := hrel
    by_cases hlt : k < n
    · obtain ⟨ad, A', c', rfl, hab, hc, _⟩ := HR.out.at (j := k) (by rw [HN.out]; exact hlt)
      have hx := hl.out k
      generalize ls.getD k [] = row at hc hx
      have hxI : (row.length : Int) ≤ 300 := by omega
      clear HR HN hl
      go_wp2
      go_round
      case rel => exact ⟨k + 1, by omega, by go_num⟩
      case measure => simp [intOf]; omega
    · clear HR HN hl
      go_wp2
      go_ret
      exact ⟨rfl, rfl⟩
set_option maxHeartbeats 6400000 in
set_option maxRecDepth 100000 in
theorem list_any (A : Option Addr) (n c : Nat) (ls : List (List Nat)) (w : World) (hn : ls.length = n) (h31 : n ≤ 31) (hl : Hid (∀ j, (ls.getD j []).length ≤ 300)) (hb : Hid (∀ row ∈ ls, B8 row)) (hr : RowsB w A ls) (hL : LaidK w) :
    Calls Tryd.prog 13 #[.slice A n c] w fun e w' => e = .returned (.tuple #[.agg (vl .u8 (ltS ls)).toArray, .nilIface]) ∧ Step w w' := by
  obtain ⟨i0, hi, hz0, hz1, hz2⟩ := info_parts infoB
  obtain ⟨Z3, hZ3⟩ : ∃ Z, zs.toArray = Z := ⟨_, rfl⟩
  have hz3 : Hid (∀ w, (zeroValue 22).run Tryd.prog w = .ok (.agg Z3) w) := Lib.hid (hZ3 ▸ zero32)
  have hsz3 : Z3.size = 32 := by rw [← hZ3]; rfl
  clear hZ3
  have T0 := Lg.there_new w Z3 22 32 hsz3
  have hr1 : Hid (RowsB (w.alloc (.cells Z3 22)) A ls) := Lib.hid hr.to
  have hL1 : Hid (LaidK (w.alloc (.cells Z3 22))) := Lib.hid hL.to
  have S0 : Hid (Step w (w.alloc (.cells Z3 22))) := Lib.hid (Step.of inferInstance)
  have cI : ∀ w1 : World, Ext (w.alloc (.cells Z3 22)) w1 → Calls Tryd.prog 24 #[.slice A n c] w1 fun e w' => e = .returned (.bool true) ∧ w' = w1 := fun w1 e => isList_any A n c ls w1 hn h31 hl hr1.out.to
  have c1 : ∀ (w1 : World), Ext (w.alloc (.cells Z3 22)) w1 → ∀ v, Ow w1 (w.alloc (.cells Z3 22)).heap.size v 1 [76] → Calls Tryd.prog 25 #[v, .int .u64 n, .int .i64 2] w1 fun e w' => ∃ A c, e = .returned (.slice A 3 c) ∧ Ow w' (w.alloc (.cells Z3 22)).heap.size (.slice A 3 c) 3 (lt ls 0) ∧ Step (w.alloc (.cells Z3 22)) w' :=
    fun w1 e v h => by
      have := spell2 _ w1 e v 1 [76] n (Lib.hid (by omega)) h (by omega)
      rw [lt_zero, hn]
      exact this
  have c2 : ∀ (w1 : World), Ext (w.alloc (.cells Z3 22)) w1 → ∀ v L xs m, L ≤ 100000 → m ≤ 300 → Ow w1 (w.alloc (.cells Z3 22)).heap.size v L xs → Calls Tryd.prog 25 #[v, .int .u64 (m : Nat), .int .i64 2] w1 fun e w' => ∃ A c, e = .returned (.slice A (L + 2) c) ∧ Ow w' (w.alloc (.cells Z3 22)).heap.size (.slice A (L + 2) c) (L + 2) (xs ++ spl m 2) ∧ Step (w.alloc (.cells Z3 22)) w' :=
    fun w1 e v L xs m h1 h2 h => spell2 _ w1 e v L xs m (Lib.hid (by omega)) h (by omega)
  have cS : ∀ (w1 : World) (A : Option Addr) (L c : Nat), L ≤ 100000 → Ow w1 (w.alloc (.cells Z3 22)).heap.size (.slice A L c) L (lt ls n) → LaidK w1 → Calls Tryd.prog 20 #[.slice A L c] w1 fun e w' => e = .returned (.agg (vl .u8 (ltS ls)).toArray) ∧ Step w1 w' :=
    fun w1 A L c h1 h2 hL => by
      have hb2 := lt_b8 ls hb.out n
      have := of_dev A c L ⟨lt ls n, hb2, by rw [Ow.len h2]; exact h1⟩ w1 (Ow.len h2) (ApE.capped h2) (Row.of_own h2) hL
      unfold ltS ltx
      rw [hn]
      exact this
  have hst : Hid (∀ k, k < n → (lt ls k ++ spl (ls.getD k []).length 2) ++ ls.getD k [] = lt ls (k + 1)) := Lib.hid fun k hk => lt_step ls k (by omega)
  have lF : (vl .u8 (ltS ls)).length = 32 := by rw [vl_len, ltS_len]
  have oF := Lib.hid (vl_one .u8 (ltS ls))
  have bW : w.heap.size < (w.alloc (.cells Z3 22)).heap.size := by simp
  generalize vl .u8 (ltS ls) = F at cS lF oF
  have eF : F.toArray.size = 32 := lF
  have HN := Lib.hid hn
  have nI : (n : Int) ≤ 31 := by omega
  clear hn hr hL hb
  go_enter Tryd.func13, Tryd.ntmps13
  go_wp2_with (first
    | refine Lg.wpAlloc (by rfl) 22 (by rfl) Z3 hz3.out ?_
    | (go_at_call 24; ((with_reducible refine (cI _ inferInstance).mono ?_); rintro e w1 ⟨rfl, rfl⟩))
    | (go_at_call 25; ((with_reducible refine (c1 _ inferInstance _ (Ow.lit1 _ _ _ _ _ (by simp) (by simp) (by simp))).mono ?_); rintro e w3 ⟨A3, d3, rfl, O3, S3⟩)))
  generalize w.alloc (Obj.cells Z3 22) = W1 at *
  have HO := Lib.hid O3
  have HS := Lib.hid S3
  clear O3 S3 cI c1
  go_loopw [4, 19] (fun v i wr => ∃ (k L : Nat), k ≤ n ∧ i = .int .i64 k ∧ L ≤ 3 + 302 * k ∧ Hid (Ow wr W1.heap.size v L (lt ls k)) ∧ Hid (Step W1 wr)) (fun _ i _ => n - (intOf i).toNat)
  case atStart => exact ⟨0, 3, Nat.zero_le _, rfl, by omega, HO, HS⟩
  case round =>
    obtain ⟨k, L, hk, rfl, hLk, hO, hS⟩ := hrel
    have SW : Step W1 wr := hS.out
    obtain ⟨A4, d4, rfl⟩ := own_form hO.out
    have hL2 : L ≤ 100000 := by omega
    clear HO HS hS
    by_cases hlt : k < n
    · obtain ⟨ad, A', c', rfl, hab, hc1, hR⟩ := hr1.out.at (j := k) (by rw [HN.out]; exact hlt)
      have hc := (SW.h.cell (p := ad.add k) (by rw [blockAdd]; exact hab)).trans hc1
      have hab : ad.block < wr.heap.size := Nat.lt_of_lt_of_le hab SW.h.size
      clear hc1
      have hx := hl.out k
      have hX := Lib.hid (hst.out k hlt)
      have HR := Lib.hid hR
      generalize ls.getD k [] = row at hc hx hX HR
      have hxI : (row.length : Int) ≤ 300 := by omega
      have hlr : (NL row).length = row.length := NL_len row
      have Hlr := Lib.hid hlr
      clear hR hr1 HN hl hst hlr cS
      go_wp2_with (first
        | (go_at_call 25; ((with_reducible refine (c2 _ inferInstance _ _ _ _ hL2 hx hO.out).mono ?_); rintro e w3 ⟨A3, d3, rfl, O3, S3⟩))
        | (at_builtin; refine ApE.wpE .u8 W1 w3 (by rfl) _ _ 37 (by rfl) 5 i0 _ 1 Tryd.underlying37 hi hz0 hz1 hz2 rfl _ (L + 2) (NL (lt ls k ++ spl row.length 2)) (by rfl) O3 A' row.length c' (NL row) (by rfl) Hlr.out (Row.to HR.out) (by omega) (by omega) ?_; intro A5 c5 w5 O5 S5))
      go_roundw
      case rel => exact ⟨k + 1, L + 2 + row.length, by omega, by go_num, by omega, Lib.hid (by rw [← hX.out]; exact Ow.app O5), Lib.hid S5⟩
      case measure => simp [intOf]; omega
    · have hkn : k = n := by omega
      subst hkn
      have HO := Lib.hid hO.out
      clear hO hr1 HN hl hst c2
      go_wp2_with (first
        | (go_at_call 20; ((with_reducible refine (cS _ _ _ _ hL2 HO.out hL1.out.to).mono ?_); rintro e w5 ⟨rfl, S5⟩; have T5 : w5.there w.heap.size 0 32 := there_under T0 (inferInstance : Ext W1 w5).h bW))
        | refine wpList_store_mid (by rfl) 22 (.tmp 2) (.tmp 32) (by rfl) w.heap.size 0 F.toArray (by rfl) (by rfl) (by rw [eF]; exact T5) (by rw [eF]; exact size32) oF.out ?_)
      have S1 : Step w W1 := S0.out
      refine bodyPost_ret (Lg.results_mid (by rfl) _ _ w.heap.size 0 F _ (by rfl) (World.rangeAt_setCells_same _ _ _ _ (by rw [lF]; exact T5)) Tryd.underlying22 rfl (by rw [lF]; exact size32)) (by rfl) ?_
      exact ⟨rfl, ⟨Lg.below_setCells (Nat.le_refl _) _ _ _ (inferInstance : Ext w w5).h⟩⟩
end Se
end Go.Proofs.YtkcldacdpoiecaaDoor
