/- poly.apart: places that were seen stand in a map of the call's own. Conditions: what is handed in reads as a row of 64 bits. -/
import Derived.Test.YtphelljbaodhpaaDoorPoly
import Derived.Maps.OwnSet
import Derived.Maps.AppendAt
import Derived.WalkArith
namespace Go.Proofs.YtphelljbaodhpaaDoor
open Go.RowKit Go.Lib Go.Maps
namespace PoC
open SlR FpM FpC PoM
theorem keys : Keyed Tryd.prog 22 := int_keyed Tryd.underlying22
theorem unitT : ∃ e, Tryd.prog.underlying 108 = some (.map 22 e) ∧ ∀ w : World, (zeroValue e).run Tryd.prog w = .ok (.agg #[]) w := ⟨_, Tryd.underlying108, fun w => by kernel_rfl⟩
def KL (xs : List Nat) : List Lit := xs.map fun n => Lit.int .u64 (fOf n : Nat)
/-- The places seen. -/
def Sd (xs : List Nat) (k : Nat) : DataW Unit := setOf (.agg []) (KL (xs.take k))
theorem Sd_zero (xs : List Nat) : Sd xs 0 = .map [] := rfl
theorem Sd_succ {xs : List Nat} {k : Nat} (hk : k < xs.length) : Sd xs (k + 1) = (Sd xs k).put (.int .u64 (fOf (xs.getD k 0) : Nat)) (.agg []) := by
  unfold Sd
  rw [take_snocN xs k hk, KL, List.map_append, List.map_singleton, setOf_snoc]; rfl
theorem has_Sd (xs : List Nat) (k x : Nat) : Maps.has (Sd xs k) (.int .u64 (fOf x : Nat)) = (xs.take k).any (fun y => decide (fOf y = fOf x)) := by
  unfold Sd
  rw [has_setOf _ _ _ (fun y hy => by unfold KL at hy; obtain ⟨_, _, rfl⟩ := List.mem_map.1 hy; trivial), KL, List.any_map]
  congr 1
  funext y
  show decide (IntKind.u64 = IntKind.u64 ∧ ((fOf y : Nat) : Int) = (fOf x : Nat)) = _
  by_cases h : fOf y = fOf x
  · simp [h]
  · rw [decide_eq_false h]
    exact decide_eq_false (fun e => h (by have := e.2; omega))
theorem seen_no {xs : List Nat} {k : Nat} (hk : k < xs.length) (h : ∀ b, b < k → fOf (xs.getD k 0) ≠ fOf (xs.getD b 0)) : Maps.has (Sd xs k) (.int .u64 (fOf (xs.getD k 0) : Nat)) = false := by
  rw [has_Sd, List.any_eq_false]
  intro y hy
  obtain ⟨j, hj, rfl⟩ := List.mem_iff_getElem.mp hy
  rw [List.length_take] at hj
  have := h j (by omega)
  rw [getD_of (by omega : j < xs.length)] at this
  simp only [List.getElem_take]
  simpa using Ne.symm this
theorem seen_yes {xs : List Nat} {k b : Nat} (hk : k < xs.length) (hb : b < k) (h : fOf (xs.getD k 0) = fOf (xs.getD b 0)) : Maps.has (Sd xs k) (.int .u64 (fOf (xs.getD k 0) : Nat)) = true := by
  rw [has_Sd, List.any_eq_true]
  refine ⟨xs[b]'(by omega), ?_, ?_⟩
  · rw [List.mem_iff_getElem]
    exact ⟨b, by rw [List.length_take]; omega, by rw [List.getElem_take]⟩
  · rw [h, getD_of (by omega : b < xs.length)]; simp
set_option maxHeartbeats 800000 in
theorem apart_any (A : Option Addr) (c n : Nat) (xs : List Nat) (w : World) (hn : xs.length = n) (hn2 : n ≤ 64) (hr : RowN w A xs) :
    Calls Tryd.prog 37 #[.slice A n c] w fun e w' => (Hid (Ap xs) ∧ e = .returned .nilIface ∨ Hid (¬ Ap xs) ∧ e = .returned (.iface 55 (.int .i64 8))) ∧ Step w w' := by
  have hmm := @run_makeMap Tryd.prog
  obtain ⟨E, hE, hzE⟩ := unitT
  have hbig : ¬ (64 : Int) < n := by omega
  go_enter Tryd.func37, Tryd.ntmps37
  go_wp2
  go_loopw [16] (fun i wr => ∃ k : Nat, k ≤ n ∧ i = .int .i64 k ∧ wr.ownsMap Tryd.prog 22 (unitElem (H := Unit)) w.heap.size k (Sd xs k) ∧ Below w.heap.size w wr ∧ (∀ a b, b < a → a < k → fOf (xs.getD a 0) ≠ fOf (xs.getD b 0))) (fun i _ => n - (intOf i).toNat)
  case atStart => exact ⟨0, Nat.zero_le _, rfl, World.ownsMap_made _ _ _ _, (Below.refl _ _).alloc (Nat.le_refl _) _, fun _ _ _ h => absurd h (Nat.not_lt_zero _)⟩
  case round =>
    obtain ⟨k, hk, rfl, hown, hb, hd⟩ := hrel
    have HD := Lib.hid hd
    clear hd
    by_cases hlt : k < n
    · obtain ⟨ad, rfl, hc⟩ := (show RowN wr A xs from have : Step w wr := ⟨hb⟩; hr.to).at (j := k) (by omega)
      have hkx : ∀ b, b < k → b < xs.length := fun b h => by omega
      obtain ⟨x, hx⟩ : ∃ x : Nat, Hid (x = xs.getD k 0) := ⟨_, Lib.hid rfl⟩
      have HS := Lib.hid (Sd_succ (xs := xs) (k := k) (by omega))
      have hkey : keyOf Tryd.prog 22 (.int .u64 (fOf x : Nat)) = some (.int .u64 (fOf x : Nat)) := keyOf_int_mk Tryd.underlying22 (WalkArith.wf_u64 (by
        have := fOf_lt x; rw [P_lit] at this; omega))
      by_cases hs : ∃ b, b < k ∧ fOf x = fOf (xs.getD b 0)
      · obtain ⟨b, hbk, hbe⟩ := hs
        have hT : Maps.has (Sd xs k) (.int .u64 (fOf x : Nat)) = true := by rw [hx.out]; exact seen_yes (by omega) hbk (by rw [← hx.out]; exact hbe)
        have hno : Hid (¬ Ap xs) := Lib.hid fun h => (ap_iff xs).mp h k b hbk (by omega) (by rw [← hx.out]; exact hbe)
        rw [← hx.out] at hc
        clear hr hbe
        go_wp2_with (first
          | (go_at_call 39; (refine (of_any _ _).mono ?_); rintro e w' ⟨rfl, rfl⟩)
          | (at_lookup; refine wpList_lookup_own_unit _ rfl _ _ 108 rfl 22 _ keys hE (hzE _) w.heap.size k _ rfl hown _ _ rfl hkey ?_)
          | go_in)
        exact bodyPost_ret (v := .iface 55 (.int .i64 8)) (by simp [results, Tryd.results37, go_sem]) rfl ⟨.inr ⟨hno, rfl⟩, ⟨hb.alloc hb.size _⟩⟩
      · have hT : Maps.has (Sd xs k) (.int .u64 (fOf x : Nat)) = false := by
          rw [hx.out]; exact seen_no (by omega) fun b hb h => hs ⟨b, hb, by rw [hx.out]; exact h⟩
        rw [← hx.out] at hc
        clear hr
        go_wp2_with (first
          | (go_at_call 39; (refine (of_any _ _).mono ?_); rintro e w' ⟨rfl, rfl⟩)
          | (at_lookup; refine wpList_lookup_own_unit _ rfl _ _ 108 rfl 22 _ keys hE (hzE _) w.heap.size k _ rfl hown _ _ rfl hkey ?_)
          | (at_mapUpdate; refine wpList_mapUpdate_own _ rfl _ _ _ 108 rfl 22 _ keys hE (unitElem (H := Unit)) w.heap.size k _ rfl (hown.alloc _) (by unfold maxLen; omega) _ _ _ rfl rfl hkey _ [] unitElem_mk ?_; intro w1 hown1 hgrow1)
          | go_in)
        go_roundw
        case rel => exact ⟨k + 1, by omega, by go_num, by rw [HS.out, ← hx.out]; exact hown1, (hb.alloc hb.size _).grown hgrow1 (by have := hb.size; simp; omega) (fun j hj => by cases hj; exact Nat.le_refl _), fun a b hba ha => by
          rcases Nat.lt_or_ge a k with h | h
          · exact HD.out a b hba h
          · have e : a = k := by omega
            subst e
            rw [← hx.out]; exact fun h => hs ⟨b, hba, h⟩⟩
        case measure => simp [intOf]; omega
    · have hkn : k = n := by omega
      subst hkn
      have hyes : Hid (Ap xs) := Lib.hid ((ap_iff xs).mpr (by rw [hn]; exact HD.out))
      go_wp2
      go_ret
      exact ⟨.inl ⟨hyes, rfl⟩, ⟨hb⟩⟩
theorem apart_yes (A : Option Addr) (c n : Nat) (xs : List Nat) (w : World) (hn : xs.length = n) (hn2 : n ≤ 64) (hr : RowN w A xs) (ha : Hid (Ap xs)) :
    Calls Tryd.prog 37 #[.slice A n c] w fun e w' => e = .returned .nilIface ∧ Step w w' := (apart_any A c n xs w hn hn2 hr).mono fun _ _ ⟨h, s⟩ => by
  rcases h with h | h
  · exact ⟨h.2, s⟩
  · exact absurd ha.out h.1.out
theorem apart_no (A : Option Addr) (c n : Nat) (xs : List Nat) (w : World) (hn : xs.length = n) (hn2 : n ≤ 64) (hr : RowN w A xs) (ha : Hid (¬ Ap xs)) :
    Calls Tryd.prog 37 #[.slice A n c] w fun e w' => e = .returned (.iface 55 (.int .i64 8)) ∧ Step w w' := (apart_any A c n xs w hn hn2 hr).mono fun _ _ ⟨h, s⟩ => by
  rcases h with h | h
  · exact absurd h.1.out ha.out
  · exact ⟨h.2, s⟩
theorem apart_big (A : Option Addr) (c n : Nat) (w : World) (hn : 64 < n) :
    Calls Tryd.prog 37 #[.slice A n c] w fun e w' => e = .returned (.iface 55 (.int .i64 1)) ∧ Step w w' := by
  have hbig : (64 : Int) < n := by omega
  go_enter Tryd.func37, Tryd.ntmps37
  go_wp2
  exact bodyPost_ret (v := .iface 55 (.int .i64 1)) (by simp [results, Tryd.results37, go_sem]) rfl ⟨rfl, Step.of inferInstance⟩
/-- A row of points. -/
def RowS (w : World) (A : Option Addr) (xs ys : List Nat) : Prop :=
  ∀ j, j < xs.length → ∃ b o, A = some ⟨b, o, none⟩ ∧ b < w.heap.size ∧ w.cell? ⟨b, o + j * 2, none⟩ = some (.int .u64 (xs.getD j 0 : Nat)) ∧ w.cell? ⟨b, o + j * 2 + 1, none⟩ = some (.int .u64 (ys.getD j 0 : Nat))
theorem RowS.to {w w' : World} {A : Option Addr} {xs ys : List Nat} (h : RowS w A xs ys) [e : Ext w w'] : RowS w' A xs ys := fun j hj => by
  obtain ⟨b, o, h1, h2, h3, h4⟩ := h j hj
  have hs := e.size
  exact ⟨b, o, h1, by omega, (e.h.cell h2).trans h3, (e.h.cell h2).trans h4⟩
theorem mixN (zs : List Nat) (k n z : Nat) (h1 : zs.length = n) (hk : k < n) (hz : zs.getD k 0 = z) :
    ((NL (zs.take k ++ List.replicate (n - k) 0)).map (Value.int .u64)).set k (.int .u64 z) = (NL (zs.take (k + 1) ++ List.replicate (n - (k + 1)) 0)).map (Value.int .u64) := by
  unfold NL
  rw [take_snocN zs k (by omega), hz, show n - k = (n - (k + 1)) + 1 by omega, List.replicate_succ, List.append_assoc]
  simp only [List.map_append, List.map_cons, List.map_take]
  rw [List.set_append_right _ _ (by simp; omega)]
  congr 1
  have e : k - (List.take k (List.map (Value.int .u64) (zs.map fun n : Nat => (n : Int)))).length = 0 := by simp; omega
  rw [e]; rfl
theorem mixAt (zs : List Nat) (k n : Nat) (h1 : zs.length = n) (hk : k < n) : ((NL (zs.take k ++ List.replicate (n - k) 0)).map (Value.int .u64))[k]? = some (.int .u64 0) := by
  unfold NL
  rw [show n - k = (n - (k + 1)) + 1 by omega, List.replicate_succ, List.getElem?_map, List.getElem?_map, List.getElem?_append_right (by simp; omega)]
  have e : k - (zs.take k).length = 0 := by simp; omega
  rw [e]; rfl
theorem infoN : (Tryd.prog.info? 22).map (fun i => (i.zero, i.size, i.bytes)) = some (some (.int .u64 0), 1, 8) := by kernel_rfl
set_option maxHeartbeats 800000 in
set_option maxRecDepth 100000 in
theorem places_any (A : Option Addr) (c n : Nat) (xs ys : List Nat) (w : World) (hn : xs.length = n) (hn2 : n ≤ 100000) (hr : RowS w A xs ys) :
    Calls Tryd.prog 38 #[.slice A n c] w fun e w' => ∃ A' c', e = .returned (.slice A' n c') ∧ RowN w' A' xs ∧ Step w w' := by
  obtain ⟨i0, hi, hz0, hz1, hz2⟩ := info_parts infoN
  have h1 : ¬ ((n : Int) < 0) := by omega
  go_enter Tryd.func38, Tryd.ntmps38
  go_wp2_with (at_make; refine wpList_make_full _ rfl _ _ 23 rfl w.heap.size 22 i0 (.int .u64 0) 1 Tryd.underlying23 hi hz0 hz1 _ _ _ _ n rfl rfl rfl rfl (by rw [hz2]; omega) (by unfold maxLen; omega) (Nat.le_refl _) ?_; intro w1 hown hgrow)
  have hst : Hid (w1.ownsRow w.heap.size 22 1 (.slice (some ⟨w.heap.size, 0, none⟩) n n) n ((NL (xs.take 0 ++ List.replicate (n - 0) 0)).map (Value.int .u64))) := Lib.hid (by
    rw [show (Value.int .u64 0).cells = #[Value.int .u64 0] from rfl, Nat.mul_one, toList_madeCells_one] at hown
    simpa [NL] using hown)
  have HB := Lib.hid ((Below.refl w.heap.size w).grown hgrow (Nat.le_refl _) (fun k h => by cases h))
  clear hown hgrow
  go_loopw [11] (fun i wr => ∃ (k : Nat), k ≤ n ∧ i = .int .i64 k ∧ wr.ownsRow w.heap.size 22 1 (.slice (some ⟨w.heap.size, 0, none⟩) n n) n ((NL (xs.take k ++ List.replicate (n - k) 0)).map (Value.int .u64)) ∧ Below w.heap.size w wr) (fun i _ => n - (intOf i).toNat)
  case atStart => exact ⟨0, Nat.zero_le _, rfl, hst.out, HB.out⟩
  case round =>
    clear hst HB
    obtain ⟨k, hk, rfl, hown, hb⟩ := hrel
    by_cases hlt : k < n
    · obtain ⟨B, O, rfl, hab, hc1, hc2⟩ := (show RowS wr A xs ys from have : Step w wr := ⟨hb⟩; hr.to) k (by omega)
      obtain ⟨x, hx⟩ : ∃ x : Nat, Hid (x = xs.getD k 0) := ⟨_, Lib.hid rfl⟩
      obtain ⟨y, hy⟩ : ∃ y : Nat, Hid (y = ys.getD k 0) := ⟨_, Lib.hid rfl⟩
      rw [← hx.out] at hc1
      rw [← hy.out] at hc2
      have hoc : ∀ o, (wr.alloc o).cell? ⟨w.heap.size, k, none⟩ = some (.int .u64 0) := fun o => by
        rw [(hown.alloc o).cellAt k (by omega)]; exact mixAt xs k n hn hlt
      have hof := fun o => (hown.alloc o).frozenAt k
      have HT := Lib.hid (mixN xs k n x hn hlt hx.out.symm)
      have HB := Lib.hid hb
      have HO := Lib.hid hown
      clear hr hb hown
      go_wp2
      go_roundw
      case rel => exact ⟨k + 1, by omega, by go_num, by rw [← HT.out]; exact ((HO.out.alloc _).stored k _).1, (HB.out.alloc HB.out.size _).setCell (Nat.le_refl _) _⟩
      case measure => simp [intOf]; omega
    · have hkn : k = n := by omega
      subst hkn
      have HT : Hid (xs.take k ++ List.replicate (k - k) 0 = xs) := Lib.hid (by rw [List.take_of_length_le (by omega), Nat.sub_self]; simp)
      rw [HT.out] at hown
      clear hr
      go_wp2
      go_ret
      exact ⟨_, _, rfl, Row.of_own hown, ⟨hb⟩⟩
end PoC
end Go.Proofs.YtphelljbaodhpaaDoor
