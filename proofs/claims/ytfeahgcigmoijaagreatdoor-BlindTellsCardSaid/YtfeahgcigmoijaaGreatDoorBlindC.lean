/- blind.Open and blind.Row: what each answers. Conditions: what is handed in reads as rows of peers and of numbers, and as maps; lengths as stated; sha.k reads as laid. -/
import Derived.Test.YtfeahgcigmoijaaGreatDoorBlindB
namespace Go.Proofs.YtfeahgcigmoijaaGreatDoor
open Go.RowKit Go.Lib
namespace Bl
open SlR Sh Sp Mc Pg VecC VecE Pe Mp
theorem all_snoc {l : List (Int × Nat)} {k : Nat} (f : Int × Nat → Bool) (h : k < l.length) : (l.take (k + 1)).all f = ((l.take k).all f && f (l.getD k (0, 0))) := by
  rw [take_snocQ l k h, List.all_append]; simp
theorem all_no {l : List (Int × Nat)} {k : Nat} (f : Int × Nat → Bool) (h : k < l.length) (e : f (l.getD k (0, 0)) = false) : l.all f = false := by
  rw [List.all_eq_false]
  refine ⟨l.getD k (0, 0), ?_, by rw [e]; simp⟩
  rw [List.getD_eq_getElem?_getD, List.getElem?_eq_getElem h]
  exact List.getElem_mem h
theorem mem_at {l : List (Int × Nat)} {k : Nat} (h : k < l.length) : l.getD k (0, 0) ∈ l := by
  rw [List.getD_eq_getElem?_getD, List.getElem?_eq_getElem h]
  exact List.getElem_mem h
set_option maxHeartbeats 6400000 in
set_option maxRecDepth 1000000 in
theorem open_go (A D : Option Addr) (c d q m n : Nat) (came : List Int) (ps : List (Int × Nat)) (sv kv : Value) (F G : Int → Option Nat) (w : World) (hq : came.length = q) (hq2 : q ≤ 100000) (hm : ps.length = m) (hm2 : m ≤ 100000) (hc : Row .i64 w A came) (hr : RowQ w D ps)
    (hmay : Hid (mayF 0 ps = true)) (hcame : Hid (ids (hereF came ps) = came)) (hF : MapF w sv F) (hG : MapF w kv G) (hn : n ≤ 32) (hL : LaidK w) :
    Calls Tryz.prog 10 #[.slice A q c, .slice D m d, sv, kv, .int .i64 n] w fun e w' => (Hid (ps.all (hasF F G came) = true) ∧ Yes w n (openF (oN n) (wN n) F G came ps n ps) e w') ∨ (Hid (ps.all (hasF F G came) = false) ∧ None6 w e w') := by
  have hasc := Lib.hid (mayF_asc hmay.out)
  have hbd := Lib.hid (mayF_all hmay.out)
  have cP : ∀ w : World, Row .i64 w A came → RowQ w D ps → Calls Tryz.prog 25 #[.slice A q c, .slice D m d] w fun e w' => ∃ A' q' c', e = .returned (.tuple #[.slice A' q' c', .nilIface]) ∧ (hereF came ps).length = q' ∧ RowQ w' A' (hereF came ps) ∧ Step w w' := fun w h1 h2 => (present_may A D c d q m came ps w hq hq2 hm hm2 h1 h2 hmay).mono fun e w' h => by
    rcases h with h | h
    · exact h.2
    · have := h.1.out; rw [decide_eq_true hcame.out] at this; cases this
  have cZ := fun (w : World) => VecE.zero n hn w
  have hR := Lib.hid fun k => openF_R (n := n) F G came ps (oN_R n) (wN_R n) (ps.take k)
  have hM := Lib.hid hmay.out
  clear hcame hmay
  go_enter Tryz.func10, Tryz.ntmps10
  go_wp2_with (first
    | (go_at_call 25; ((with_reducible refine (cP _ hc.to hr.to).mono ?_); rintro e w1 ⟨Ah, p, ch, rfl, lh, Rh, S1⟩; clear cP; have HLh := Lib.hid lh; clear lh))
    | (go_at_call 26; ((with_reducible refine (cZ _).mono ?_); rintro e w3 ⟨A3, c3, rfl, R3, S3⟩; clear cZ)))
  have hp2 : p ≤ 100000 := by
    rw [← HLh.out]
    exact Nat.le_trans (List.length_filter_le _ _) (by omega)
  go_loopw [14, 36] (fun row i wr => ∃ (k : Nat) (A' : Option Addr) (c' : Nat), k ≤ m ∧ row = .slice A' n c' ∧ i = .int .i64 k ∧ Row .u32 wr A' (openF (oN n) (wN n) F G came ps n (ps.take k)) ∧ Hid ((ps.take k).all (hasF F G came) = true) ∧ Step w3 wr) (fun _ i _ => m - (intOf i).toNat)
  case atStart => exact ⟨0, A3, c3, Nat.zero_le _, rfl, rfl, R3, Lib.hid rfl, Step.of inferInstance⟩
  case round =>
    clear R3
    obtain ⟨k, A', c', hkm, rfl, rfl, RR, HA, hS⟩ := hrel
    by_cases hlt : k < m
    · obtain ⟨B, O, rfl, hab, hc1, hc2⟩ := (hr.to : RowQ wr D ps) k (by omega)
      obtain ⟨x, hx⟩ : ∃ x : Int, Hid (x = (ps.getD k (0, 0)).1) := ⟨_, Lib.hid rfl⟩
      obtain ⟨y, hy⟩ : ∃ y : Nat, Hid (y = (ps.getD k (0, 0)).2) := ⟨_, Lib.hid rfl⟩
      have hxy : Hid (ps.getD k (0, 0) = (x, y)) := Lib.hid (by rw [hx.out, hy.out])
      rw [← hx.out] at hc1
      rw [← hy.out] at hc2
      have hmem : Hid ((x, y) ∈ ps) := Lib.hid (by rw [← hxy.out]; exact mem_at (by omega))
      have hI : I64 x := by have := hbd.out _ hmem.out; unfold I64; simp only at this; omega
      have HT : Hid (openF (oN n) (wN n) F G came ps n (ps.take (k + 1)) = turn (oN n) (wN n) F G came ps n (openF (oN n) (wN n) F G came ps n (ps.take k)) (x, y)) := Lib.hid (by rw [openF_snoc _ _ _ _ _ _ (by omega), hxy.out])
      have HS : Hid ((ps.take (k + 1)).all (hasF F G came) = hasF F G came (x, y)) := Lib.hid (by rw [all_snoc _ (by omega), HA.out, hxy.out]; rfl)
      have HN : Hid (hasF F G came (x, y) = false → ps.all (hasF F G came) = false) := Lib.hid (fun e => all_no (k := k) _ (by omega) (by rw [hxy.out]; exact e))
      have cI : ∀ w : World, RowQ w Ah (hereF came ps) → Calls Tryz.prog 27 #[.slice Ah p ch, .agg #[.int .i64 x, .int .u64 y]] w fun e w' => e = .returned (.bool (inn came x)) ∧ Step w w' := fun w h => (conP_any Ah ch p (hereF came ps) x y w HLh.out hp2 h).mono fun e w' ⟨h1, h2⟩ => ⟨by rw [h1, inP_here hmem.out], h2⟩
      have hV0 : (wr.alloc (.cells #[.int .i64 x, .int .u64 y] 50 (0, 0))).cell? ⟨wr.heap.size, 0, none⟩ = some (.int .i64 x) := by simp
      have hV1 : (wr.alloc (.cells #[.int .i64 x, .int .u64 y] 50 (0, 0))).cell? ⟨wr.heap.size, 1, none⟩ = some (.int .u64 y) := by simp
      have hRk := hR.out k
      have hn0 : Hid (0 < m) := Lib.hid (by omega)
      have HK : Hid ((ps.filter fun p' => !del (hereF came ps) (x, y) p') = keepF came x ps) := Lib.hid (keep_eq hasc.out hmem.out)
      generalize openF (oN n) (wN n) F G came ps n (ps.take k) = row at RR HT hRk
      cases hb : inn came x
      · rw [hb] at cI
        have cW : ∀ w : World, RowQ w (some ⟨B, O, none⟩) ps → RowQ w Ah (hereF came ps) → Calls Tryz.prog 30 #[.agg #[.int .i64 x, .int .u64 y], .slice Ah p ch, .slice (some ⟨B, O, none⟩) m d] w fun e w' =>
            ∃ D q d, e = .returned (.slice D q d) ∧ Hid ((keepF came x ps).length = q) ∧ RowQ w' D (keepF came x ps) ∧ Step w w' := fun w h1 h2 => (with_left x y Ah p ch (hereF came ps) B O d m ps w hm hm2 HLh.out hp2 h1 h2 hn0).mono fun e w' h => by
          rw [HK.out] at h
          obtain ⟨D, q, d, h1, h2, h3, h4⟩ := h
          exact ⟨D, q, d, h1, Lib.hid h2, h3, h4⟩
        cases hg : (G x).isSome
        · have HZ : Hid (ps.all (hasF F G came) = false) := Lib.hid (HN.out (by unfold hasF; rw [hb]; exact hg))
          have cO := fun (A D : Option Addr) (c n d q : Nat) (w : World) (h : MapF w kv G) => without_no A D c n d q x y kv G w h hI (Lib.hid hg)
          clear hb hg HT HS HN hRk
          go_wp2_with (go_at_call 27; ((with_reducible refine (cI _ Rh.to).mono ?_); rintro e w4 ⟨rfl, S4⟩; have hX0 := cellT hV0 (w' := w4); have hX1 := cellT hV1 (w' := w4)))
          go_region_held3 (fun w' => w'.cell? ⟨wr.heap.size, 0, none⟩ = some (.int .i64 x) ∧ w'.cell? ⟨wr.heap.size, 1, none⟩ = some (.int .u64 y) ∧ Step w4 w')
            (exact ⟨cellT hX0, cellT hX1, Step.of inferInstance⟩)
            (first
              | (go_at_call 30; ((with_reducible refine (cW _ hr.to Rh.to).mono ?_); rintro e w5 ⟨D5, q5, d5, rfl, L5, R5, S5⟩))
              | (go_at_call 29; ((with_reducible refine (cO _ _ _ _ _ _ _ hG.to).mono ?_); rintro e w6 ⟨rfl, S6⟩)))
          all_goals (rename_i hH; clear hH)
          all_goals go_wp2
          exact bodyPost_ret (v := .tuple #[.slice none 0 0, .iface 77 (.int .i64 6)]) (by simp [results, Tryz.results10, go_sem]) rfl (.inr ⟨HZ, rfl, Step.of inferInstance⟩)
        · have HS2 : Hid ((ps.take (k + 1)).all (hasF F G came) = true) := Lib.hid (by rw [HS.out]; unfold hasF; rw [hb]; exact hg)
          have HT2 : Hid (openF (oN n) (wN n) F G came ps n (ps.take (k + 1)) = vSub row (rowP (wN n) x ((G x).getD 0) (keepF came x ps) n)) := Lib.hid (by rw [HT.out]; unfold turn; rw [hb]; rfl)
          have hmay2 : Hid (mayF 0 (keepF came x ps) = true) := Lib.hid (mayF_filter _ hM.out)
          have h642 : Hid (Q64 (keepF came x ps)) := Lib.hid (q64_may hmay2.out)
          have hin2 : Hid (isIn x (keepF came x ps) = true) := Lib.hid (keep_in hmem.out)
          have hkl : (keepF came x ps).length ≤ 100000 := Nat.le_trans (List.length_filter_le _ _) (by omega)
          have hkl := Lib.hid hkl
          have cO := fun (A D : Option Addr) (c d q : Nat) (w : World) (h0 : Hid ((keepF came x ps).length = q)) (h1 : Row .u32 w A row) (h2 : RowQ w D (keepF came x ps)) (h3 : MapF w kv G) (h4 : LaidK w) => without_yes A D c n d q row x y (keepF came x ps) kv G w hRk.1 hn h1 h0.out (by rw [← h0.out]; exact hkl.out) h2 h642 hmay2 hin2 h3 hI h4 (Lib.hid hg)
          clear hb hg HT HS HN hRk
          go_wp2_with (go_at_call 27; ((with_reducible refine (cI _ Rh.to).mono ?_); rintro e w4 ⟨rfl, S4⟩; have hX0 := cellT hV0 (w' := w4); have hX1 := cellT hV1 (w' := w4)))
          go_region_held3 (fun w' => w'.cell? ⟨wr.heap.size, 0, none⟩ = some (.int .i64 x) ∧ w'.cell? ⟨wr.heap.size, 1, none⟩ = some (.int .u64 y) ∧ Step w4 w')
            (exact ⟨cellT hX0, cellT hX1, Step.of inferInstance⟩)
            (first
              | (go_at_call 30; ((with_reducible refine (cW _ hr.to Rh.to).mono ?_); rintro e w5 ⟨D5, q5, d5, rfl, L5, R5, S5⟩))
              | (go_at_call 29; ((with_reducible refine (cO _ _ _ _ _ _ L5 RR.to R5.to hG.to hL.to).mono ?_); rintro e w6 ⟨A6, c6, rfl, R6, S6⟩)))
          all_goals (rename_i hH; clear hH)
          all_goals go_wp2
          go_roundw
          case rel => exact ⟨k + 1, A6, c6, by omega, rfl, by go_num, by rw [HT2.out]; exact R6.to, HS2, Step.of inferInstance⟩
          case measure => simp [intOf]; omega
      · rw [hb] at cI
        cases hg : (F x).isSome
        · have HZ : Hid (ps.all (hasF F G came) = false) := Lib.hid (HN.out (by unfold hasF; rw [hb]; exact hg))
          have cO := fun (A : Option Addr) (c n : Nat) (w : World) (h : MapF w sv F) => withOwn_no A c n x y sv F w h hI (Lib.hid hg)
          clear hb hg HT HS HN hRk
          go_wp2_with (first
            | (go_at_call 27; ((with_reducible refine (cI _ Rh.to).mono ?_); rintro e w4 ⟨rfl, S4⟩; have hX0 := cellT hV0 (w' := w4); have hX1 := cellT hV1 (w' := w4)))
            | (go_at_call 28; ((with_reducible refine (cO _ _ _ _ hF.to).mono ?_); rintro e w6 ⟨rfl, S6⟩)))
          exact bodyPost_ret (v := .tuple #[.slice none 0 0, .iface 77 (.int .i64 6)]) (by simp [results, Tryz.results10, go_sem]) rfl (.inr ⟨HZ, rfl, Step.of inferInstance⟩)
        · have HS2 : Hid ((ps.take (k + 1)).all (hasF F G came) = true) := Lib.hid (by rw [HS.out]; unfold hasF; rw [hb]; exact hg)
          have HT2 : Hid (openF (oN n) (wN n) F G came ps n (ps.take (k + 1)) = vAdd row (oN n ((F x).getD 0))) := Lib.hid (by rw [HT.out]; unfold turn; rw [hb]; rfl)
          have cO := fun (A : Option Addr) (c : Nat) (w : World) (h1 : Row .u32 w A row) (h3 : MapF w sv F) (h4 : LaidK w) => withOwn_yes A c n row x y sv F w hRk.1 hRk.2 hn h1 h3 hI h4 (Lib.hid hg)
          clear hb hg HT HS HN hRk
          go_wp2_with (first
            | (go_at_call 27; ((with_reducible refine (cI _ Rh.to).mono ?_); rintro e w4 ⟨rfl, S4⟩; have hX0 := cellT hV0 (w' := w4); have hX1 := cellT hV1 (w' := w4)))
            | (go_at_call 28; ((with_reducible refine (cO _ _ _ RR.to hF.to hL.to).mono ?_); rintro e w6 ⟨A6, c6, rfl, R6, S6⟩)))
          go_roundw
          case rel => exact ⟨k + 1, A6, c6, by omega, rfl, by go_num, by rw [HT2.out]; exact R6.to, HS2, Step.of inferInstance⟩
          case measure => simp [intOf]; omega
    · have hkm2 : m = k := by omega
      subst hkm2
      have HE : Hid (ps.take m = ps) := Lib.hid (List.take_of_length_le (by omega))
      rw [HE.out] at RR HA
      clear hr hR
      go_wp2
      exact bodyPost_ret (v := .tuple #[.slice A' n c', .nilIface]) (by simp [results, Tryz.results10, go_sem]) rfl (.inl ⟨HA, A', c', rfl, RR, Step.of inferInstance⟩)
end Bl
end Go.Proofs.YtfeahgcigmoijaaGreatDoor
