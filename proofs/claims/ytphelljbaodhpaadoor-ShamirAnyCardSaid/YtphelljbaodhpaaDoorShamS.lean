/- shamir.Sorted: sorted by the library's SortFunc, by its contract. Conditions: what is handed in reads as a row of points. -/
import Derived.Test.YtphelljbaodhpaaDoorRef04
import Derived.Test.YtphelljbaodhpaaDoorLay04
namespace Go.Proofs.YtphelljbaodhpaaDoor
open Go.RowKit Go.Lib Go.Maps Go.Proofs
namespace ShM
open SlR FpM FpC PoM PoC
def enc (p : Nat × Nat) : List Value := [.int .u64 (p.1 : Nat), .int .u64 (p.2 : Nat)]
theorem arr_at (ps : List (Nat × Nat)) (i : Nat) : ps.toArray[i]! = ps.getD i (0, 0) := by
  by_cases h : i < ps.length
  · rw [getElem!_pos _ _ (by simpa using h), getD_ofP h]; simp
  · rw [getElem!_neg _ _ (by simpa using h), List.getD_eq_getElem?_getD, List.getElem?_eq_none (by omega)]; rfl
theorem flat_at (ps : List (Nat × Nat)) (j : Nat) (hj : j < ps.length * 2) : (pc ps)[j]? = some ((Sort.flatK enc 2 ps.toArray)[j]!) := by
  rw [Sort.get_flatK _ _ _ _ (by simpa using hj), arr_at]
  have hp := pc_at ps (j / 2) (by omega)
  rcases Nat.mod_two_eq_zero_or_one j with hm | hm
  · rw [show j / 2 * 2 = j by omega] at hp
    rw [hp.1, hm]; rfl
  · rw [show j / 2 * 2 + 1 = j by omega] at hp
    rw [hp.2, hm]; rfl
theorem holdsK_own {w : World} {base : Nat} {e : TypeId} {g n c : Nat} {ps : List (Nat × Nat)} (h : w.ownsRow base e 2 (.slice (some ⟨g, 0, none⟩) n c) n (pc ps)) (hl : ps.length = n) : Sort.HoldsK enc 2 w g 0 ps.toArray := fun j hj => by
  have hj2 : j < ps.length * 2 := by simpa using hj
  rw [Nat.zero_add, h.cellAt j (by omega), flat_at ps j hj2]
  exact ⟨rfl, h.frozenAt j⟩
theorem heap_sortedK {w : World} {g m : Nat} {os : Array Obj} {cur : Array Value} {e : TypeId} {fr : Nat × Nat} (d : Array (Nat × Nat)) (hb : w.heap[g]? = some (.cells cur e fr)) :
    (Sort.grow (Sort.putRowK enc 2 (Sort.ahead w m) g 0 d) os).heap[g]? = some (.cells (Sort.putCells id 0 (Sort.flatK enc 2 d) cur) e fr) := by
  have hg : g < w.heap.size := (Array.getElem?_eq_some_iff.1 hb).1
  rw [Sort.heap_grow_old _ _ (by simpa [Sort.putRowK] using hg)]
  simp [Sort.putRowK, Sort.putRow, Sort.mapBlock, Sort.ahead, Array.getElem?_modify, hb, Sort.onCells]
theorem grownBy_sortedK {w : World} {g m : Nat} {os : Array Obj} (d : Array (Nat × Nat)) : w.grownBy (Sort.grow (Sort.putRowK enc 2 (Sort.ahead w m) g 0 d) os) (some g) := by
  refine ⟨rfl, rfl, rfl, by simp [Sort.putRowK], fun k hk hne => ?_⟩
  rw [Sort.heap_grow_old _ _ (by simpa [Sort.putRowK] using hk)]
  have : g ≠ k := fun e => hne (by rw [e])
  simp [Sort.putRowK, Sort.putRow, Sort.mapBlock, Sort.ahead, Array.getElem?_modify, this]
theorem own_sortedK {w : World} {base g c n m : Nat} {e : TypeId} {os : Array Obj} {ps qs : List (Nat × Nat)} (h : w.ownsRow base e 2 (.slice (some ⟨g, 0, none⟩) n c) n (pc ps)) (hl : qs.length = n) :
    (Sort.grow (Sort.putRowK enc 2 (Sort.ahead w m) g 0 qs.toArray) os).ownsRow base e 2 (.slice (some ⟨g, 0, none⟩) n c) n (pc qs) := by
  obtain ⟨h0, ⟨hv, _⟩ | ⟨g', cap, cur, hv, hbase, hb, h1, h2, h3, h4⟩⟩ := h
  · cases hv
  · injection hv with hg _ hc
    injection hg with hg
    injection hg with hg
    subst hg hc
    refine ⟨by rw [pc_len, hl], .inr ⟨g, c, _, rfl, hbase, heap_sortedK _ hb, h1, h2, by simp [Sort.putCells, h3], ?_⟩⟩
    apply List.ext_getElem?
    intro j
    by_cases hj : j < n * 2
    · rw [List.getElem?_take_of_lt hj, Array.getElem?_toList, flat_at qs j (by omega)]
      simp [Sort.putCells, show j < qs.length * 2 by omega, show j < cur.size by omega]
    · rw [List.getElem?_take_eq_none (by omega), List.getElem?_eq_none (by rw [pc_len]; omega)]
def cf (x y : Nat × Nat) : Int := cmpI x.1 y.1
theorem lt_cf (x y : Nat × Nat) : ltOf cf x y = decide (x.1 < y.1) := by
  unfold ltOf cf cmpI
  by_cases h1 : x.1 < y.1
  · simp [h1]
  · by_cases h2 : y.1 < x.1 <;> simp [h1, h2]
theorem swo_cf : Sort.SWO (ltOf cf) where
  irrefl x := by rw [lt_cf]; simp
  trans x y z h1 h2 := by rw [lt_cf] at *; simp at *; omega
  ntrans x y z h1 h2 := by rw [lt_cf] at *; simp at *; omega
theorem sort_any (W : World) {w : World} [e2 : Ext W w] (A : Option Addr) (n c : Nat) (ps : List (Nat × Nat)) (h : w.ownsRow W.heap.size 51 2 (.slice A n c) n (pc ps)) (hl : ps.length = n) (hn : n ≤ 100000) :
    Calls Tryd.prog 22 #[.slice A n c, .func (.func 23) #[] #[]] w fun e w' => e = .returned (.tuple #[]) ∧ (∃ qs : List (Nat × Nat), qs.Perm ps ∧ (∀ i j, i < j → j < n → ¬ (qs.getD j (0, 0)).1 < (qs.getD i (0, 0)).1) ∧ w'.ownsRow W.heap.size 51 2 (.slice A n c) n (pc qs)) ∧ Step W w' := by
  by_cases h0 : n = 0
  · subst h0
    have hps : ps = [] := List.length_eq_zero_iff.mp hl
    subst hps
    have hcon := AnyF.slices_SortFunc_none sortShare A c (.func (.func 23) #[] #[]) w
    exact hcon.mono fun e w' ⟨he, hw⟩ => by subst hw; exact ⟨he, ⟨[], List.Perm.refl _, fun i j _ h => absurd h (Nat.not_lt_zero _), h⟩, Step.of e2⟩
  · obtain ⟨g, cap, hv, hb, hlt⟩ := h.form (by omega)
    have hA : A = some ⟨g, 0, none⟩ := by injection hv
    subst hA
    have eg : ∀ args w, (callFunc 23 args).run Tryd.prog w = .ok (.enter 23 args) w := enters_of Tryd.func23 (by kernel_rfl) rfl
    have hs : ps.toArray.size = n := by simpa using hl
    have hcon := AnyQ.slices_SortFunc sortShare 2 Tryd.isAgg51 Tryd.sizeOf51 enc (fun _ => rfl) (fun x v hv => by simp [enc] at hv; rcases hv with rfl | rfl <;> rfl) cf swo_cf 23 #[] g 0 c ps.toArray w eg
      (fun m os dk _ x y => closure_any x y _) (holdsK_own h hl) hlt (by omega)
    rw [hs] at hcon
    refine Calls.mono hcon fun e w' ⟨he, d', m, os, hp, hso, hw⟩ => ?_
    subst hw
    have hd : d'.size = n := hp.1.trans hs
    have hdl : d'.toList.length = n := by simpa using hd
    have hperm : d'.toList.Perm ps := by
      have := hp.2.2
      rw [Array.extract_eq_self_of_le (by omega), Array.extract_eq_self_of_le (by omega)] at this
      simpa using this
    refine ⟨he, ⟨d'.toList, hperm, fun i j hij hj hlt => ?_, ?_⟩, ?_⟩
    · have h1 := hso i j (Nat.zero_le _) hij hj
      have e1 := arr_at d'.toList i
      have e2 := arr_at d'.toList j
      rw [Array.toArray_toList] at e1 e2
      rw [lt_cf, e1, e2] at h1
      simp at h1
      simp at hlt
      omega
    · have := own_sortedK (m := m) (os := os) h hdl
      rwa [Array.toArray_toList] at this
    · exact ⟨below_own e2.h (grownBy_sortedK d') h (Nat.le_refl _) e2.size⟩
theorem outside_pred (w : World) : PredBelow Tryd.prog 21 #[] (fun x : Nat × Nat => .agg (enc x).toArray) outB w := fun W x hb =>
  (outside_any x.1 x.2 W).mono fun _ _ ⟨h1, h2⟩ => ⟨h1, hb.trans (h2.mono hb.size)⟩
theorem index_none (A : Option Addr) (c : Nat) (v : Value) (w : World) : Calls Tryd.prog 33 #[.slice A 0 c, v] w fun e w' => e = .returned (.int .i64 (-1)) ∧ w' = w := by
  go_enter Tryd.func33, Tryd.ntmps33
  go_wp2
  refine wp_loop_rounds 1 ?_
  rw [rounds_succ]
  go_wp2
  go_ret
  exact ⟨rfl, rfl⟩
theorem contains_any (A : Option Addr) (n c : Nat) (ps : List (Nat × Nat)) (w : World) (hr : RowP w A ps) (hl : ps.length = n) (hn : n ≤ 100000) :
    Calls Tryd.prog 20 #[.slice A n c, .func (.func 21) #[] #[]] w fun e w' => e = .returned (.bool (ps.any outB)) ∧ Step w w' := by
  by_cases h0 : n = 0
  · subst h0
    have hps : ps = [] := List.length_eq_zero_iff.mp hl
    subst hps
    go_enter Tryd.func20, Tryd.ntmps20
    go_wp2_with (go_at_call 33; refine (index_none _ _ _ _).mono ?_; rintro e w' ⟨rfl, rfl⟩)
    go_ret
    exact ⟨rfl, Step.of inferInstance⟩
  · obtain ⟨b, o, rfl, hb, _⟩ := hr.at (k := 0) (by omega)
    have eg : ∀ args w, (callFunc 21 args).run Tryd.prog w = .ok (.enter 21 args) w := enters_of Tryd.func21 (by kernel_rfl) rfl
    have hcon := AnyQ.slices_ContainsFunc hasShare 2 Tryd.isAgg51 Tryd.sizeOf51 enc (fun _ => rfl) outB 21 #[] eg b o n c ps w (outside_pred w) (by omega) (by omega) hb (fun j hj i v hi => by
      obtain ⟨b', o', e', _, h1, h2⟩ := hr.at (k := j) hj
      cases e'
      have e1 : ps[j]! = ps.getD j (0, 0) := by rw [getElem!_pos ps j hj, getD_ofP hj]
      rw [e1] at hi
      match i, hi with
      | 0, hi => simp [enc] at hi; rw [← hi]; exact h1
      | 1, hi => simp [enc] at hi; rw [← hi]; exact h2
      | i + 2, hi => simp [enc] at hi)
    rw [List.take_of_length_le (by omega)] at hcon
    exact Calls.mono hcon fun _ _ ⟨h1, h2⟩ => ⟨h1, ⟨h2⟩⟩
theorem fit_any {ps : List (Nat × Nat)} : ps.any outB = false ↔ Fit ps := by
  rw [List.any_eq_false]
  constructor
  · intro h k hk
    rw [getD_ofP hk]
    simpa using h _ (List.getElem_mem hk)
  · intro h p hp
    obtain ⟨k, hk, rfl⟩ := List.mem_iff_getElem.mp hp
    have := h k hk
    rw [getD_ofP hk] at this
    simpa using this
theorem sorted_big (A : Option Addr) (c n : Nat) (w : World) (hn : 64 < n) :
    Calls Tryd.prog 9 #[.slice A n c] w fun e w' => e = .returned (.tuple #[.slice none 0 0, .iface 55 (.int .i64 1)]) ∧ Step w w' := by
  have h : (64 : Int) < n := by omega
  go_enter Tryd.func9, Tryd.ntmps9
  go_wp2
  exact bodyPost_ret (v := .tuple #[.slice none 0 0, .iface 55 (.int .i64 1)]) (by simp [results, Tryd.results9, go_sem]) rfl ⟨rfl, Step.of inferInstance⟩
theorem sorted_bad (A : Option Addr) (c n : Nat) (ps : List (Nat × Nat)) (w : World) (hn : ps.length = n) (hn2 : n ≤ 64) (hr : RowP w A ps) (hf : Hid (¬ Fit ps)) :
    Calls Tryd.prog 9 #[.slice A n c] w fun e w' => e = .returned (.tuple #[.slice none 0 0, .iface 55 (.int .i64 1)]) ∧ Step w w' := by
  have h64 : ¬ (64 : Int) < n := by omega
  have cC := fun w h => contains_any A n c ps w h hn (by omega)
  have hb : ps.any outB = true := by
    cases h : ps.any outB with
    | true => rfl
    | false => exact absurd (fit_any.mp h) hf.out
  rw [hb] at cC
  go_enter Tryd.func9, Tryd.ntmps9
  go_wp2_with (go_at_call 20; refine (cC _ hr.to).mono ?_; rintro e w1 ⟨rfl, S1⟩)
  exact bodyPost_ret (v := .tuple #[.slice none 0 0, .iface 55 (.int .i64 1)]) (by simp [results, Tryd.results9, go_sem]) rfl ⟨rfl, Step.of inferInstance⟩
theorem up_of {qs : List (Nat × Nat)} {n : Nat} (hl : qs.length = n) (h1 : ∀ i j, i < j → j < n → ¬ (qs.getD j (0, 0)).1 < (qs.getD i (0, 0)).1) (h2 : ∀ i, 0 < i → i < n → (qs.getD i (0, 0)).1 ≠ (qs.getD (i - 1) (0, 0)).1) : Up qs := by
  refine List.pairwise_iff_getElem.mpr fun i j hi hj hij => ?_
  have a := h1 i j hij (by omega)
  have b := h2 j (by omega) (by omega)
  rw [← getD_ofP hi, ← getD_ofP hj]
  rcases Nat.lt_or_ge i (j - 1) with h | h
  · have c := h1 i (j - 1) h (by omega)
    have d := h1 (j - 1) j (by omega) (by omega)
    omega
  · rw [show j - 1 = i by omega] at b
    omega
set_option maxHeartbeats 1600000 in
set_option maxRecDepth 100000 in
theorem sorted_any (A : Option Addr) (c n : Nat) (ps : List (Nat × Nat)) (w : World) (hn : ps.length = n) (hn2 : n ≤ 64) (hr : RowP w A ps) (hf : Hid (Fit ps)) :
    Calls Tryd.prog 9 #[.slice A n c] w fun e w' => (Hid (fs ps).Nodup ∧ (∃ A' c', e = .returned (.tuple #[.slice A' n c', .nilIface]) ∧ w'.ownsRow w.heap.size 51 2 (.slice A' n c') n (pc (srt ps)) ∧ n ≤ c') ∨ Hid (¬ (fs ps).Nodup) ∧ e = .returned (.tuple #[.slice none 0 0, .iface 55 (.int .i64 8)])) ∧ Step w w' := by
  obtain ⟨i0, hi, hz0, hz1, hz2⟩ := info_parts infoS
  have h64 : ¬ (64 : Int) < n := by omega
  have cC := fun w h => contains_any A n c ps w h hn (by omega)
  rw [fit_any.mpr hf.out] at cC
  have cS := fun A' c' w1 (x : Ext w w1) h => sort_any w (e2 := x) A' n c' ps h hn (by omega)
  go_enter Tryd.func9, Tryd.ntmps9
  go_wp2_with (first
    | (go_at_call 20; refine (cC _ hr.to).mono ?_; rintro e w1 ⟨rfl, S1⟩)
    | (at_builtin; refine App2.wpN w rfl _ _ 28 rfl 51 i0 _ Tryd.underlying28 hi hz0 hz1 hz2 rfl rfl A n c ps rfl hn hr.to (by omega) ?_; intro A2 c2 w2 O2 S2 hc2)
    | (go_at_call 22; refine (cS _ _ _ inferInstance O2).mono ?_; rintro e w3 ⟨rfl, ⟨qs, hperm, hso, O3⟩, S3⟩))
  have hql : qs.length = n := hperm.length_eq.trans hn
  have HP := Lib.hid hperm
  have HS := Lib.hid hso
  have HO := Lib.hid O3
  clear hperm hso O2 cC cS S2 S1 hr
  go_loopw [5] (fun i wr => ∃ (k : Nat), 1 ≤ k ∧ (k ≤ n ∨ k = 1) ∧ i = .int .i64 k ∧ Hid (∀ i, 0 < i → i < k → i < n → (qs.getD i (0, 0)).1 ≠ (qs.getD (i - 1) (0, 0)).1) ∧ ∃ t, wr = w3.drewN t) (fun i _ => n - (intOf i).toNat)
  case atStart => exact ⟨1, Nat.le_refl _, .inr rfl, rfl, Lib.hid fun i h1 h2 => by omega, 0, rfl⟩
  case round =>
    obtain ⟨k, hk1, hk, rfl, hne, t, rfl⟩ := hrel
    by_cases hlt : k < n
    · obtain ⟨g, rfl, hro⟩ := own_some HO.out (by omega) hql
      obtain ⟨b, o, e, hb, hc1, hc2⟩ := hro.at (k := k) (by omega)
      cases e
      obtain ⟨b, o, e, _, hd1, hd2⟩ := hro.at (k := k - 1) (by omega)
      cases e
      rw [Nat.zero_add] at hc1 hd1
      obtain ⟨x, hx⟩ : ∃ x, Hid (x = (qs.getD k (0, 0)).1) := ⟨_, Lib.hid rfl⟩
      obtain ⟨y, hy⟩ : ∃ y, Hid (y = (qs.getD (k - 1) (0, 0)).1) := ⟨_, Lib.hid rfl⟩
      rw [← hx.out] at hc1
      rw [← hy.out] at hd1
      obtain ⟨j, rfl⟩ : ∃ j, k = j + 1 := ⟨k - 1, by omega⟩
      rw [Nat.add_sub_cancel] at hd1
      have hw1 : IntKind.i64.wrap (j : Int) = (j : Int) := by simp [IntKind.wrap, IntKind.bits, IntKind.signed]; omega
      have hj1 : (j : Int) < (n : Int) := by omega
      have hj2 : j < n := by omega
      clear hc2 hd2 hro
      by_cases hxy : x = y
      · subst hxy
        have hdup : Hid (¬ (fs ps).Nodup) := Lib.hid fun hn => by
          have h2 := ((HP.out.map Prod.fst).nodup_iff).mpr hn
          unfold List.Nodup at h2
          have h3 := (List.pairwise_iff_getElem.mp h2) j (j + 1) (by rw [List.length_map]; omega) (by rw [List.length_map]; omega) (by omega)
          have e1 := getD_ofP (ps := qs) (i := j) (by omega)
          have e2 := getD_ofP (ps := qs) (i := j + 1) (by omega)
          rw [List.getElem_map, List.getElem_map, ← e1, ← e2] at h3
          exact h3 (by rw [← hx.out, hy.out, Nat.add_sub_cancel])
        go_wp2
        go_quiet (fail)
        go_wp2
        exact bodyPost_ret (v := .tuple #[.slice none 0 0, .iface 55 (.int .i64 8)]) (by simp [results, Tryd.results9, go_sem]) rfl ⟨.inr ⟨hdup, rfl⟩, Step.of inferInstance⟩
      · have T : ((x : Int) == (y : Int)) = false := by simp; omega
        go_wp2
        go_quiet (fail)
        go_wp2
        go_roundw
        case rel => exact ⟨j + 2, by omega, .inl (by omega), by go_num, Lib.hid fun i h1 h2 h3 => by
          rcases Nat.lt_or_ge i (j + 1) with h | h
          · exact hne.out i h1 h h3
          · have e : i = j + 1 := by omega
            subst e
            rw [← hx.out, ← hy.out]; exact hxy, _, rfl⟩
        case measure => simp [intOf]; omega
    · have hup : Up qs := up_of hql HS.out (fun i h1 h2 => hne.out i h1 (by omega) h2)
      have hso := up_unique HP.out hup
      have hnd : Hid (fs ps).Nodup := Lib.hid ((HP.out.map Prod.fst).nodup_iff.mp (up_nodup hup))
      go_wp2
      exact bodyPost_ret (v := .tuple #[.slice A2 n c2, .nilIface]) (by simp [results, Tryd.results9, go_sem]) rfl ⟨.inl ⟨hnd, A2, c2, rfl, by rw [← hso]; exact HO.out, hc2⟩, Step.of inferInstance⟩
theorem sorted_ok (A : Option Addr) (c n : Nat) (ps : List (Nat × Nat)) (w : World) (hn : ps.length = n) (hn2 : n ≤ 64) (hr : RowP w A ps) (hf : Hid (Fit ps)) (hd : Hid (fs ps).Nodup) :
    Calls Tryd.prog 9 #[.slice A n c] w fun e w' => ∃ A' c', e = .returned (.tuple #[.slice A' n c', .nilIface]) ∧ w'.ownsRow w.heap.size 51 2 (.slice A' n c') n (pc (srt ps)) ∧ n ≤ c' ∧ Step w w' :=
  (sorted_any A c n ps w hn hn2 hr hf).mono fun _ _ ⟨h, s⟩ => by
    rcases h with ⟨_, A', c', h1, h2, h3⟩ | ⟨h, _⟩
    · exact ⟨A', c', h1, h2, h3, s⟩
    · exact absurd hd.out h.out
theorem sorted_dup (A : Option Addr) (c n : Nat) (ps : List (Nat × Nat)) (w : World) (hn : ps.length = n) (hn2 : n ≤ 64) (hr : RowP w A ps) (hf : Hid (Fit ps)) (hd : Hid (¬ (fs ps).Nodup)) :
    Calls Tryd.prog 9 #[.slice A n c] w fun e w' => e = .returned (.tuple #[.slice none 0 0, .iface 55 (.int .i64 8)]) ∧ Step w w' :=
  (sorted_any A c n ps w hn hn2 hr hf).mono fun _ _ ⟨h, s⟩ => by
    rcases h with ⟨h, _⟩ | ⟨_, h⟩
    · exact absurd h.out hd.out
    · exact ⟨h, s⟩
end ShM
end Go.Proofs.YtphelljbaodhpaaDoor
