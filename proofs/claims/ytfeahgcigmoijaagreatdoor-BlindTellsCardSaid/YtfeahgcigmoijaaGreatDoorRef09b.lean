/- The document's Row of layer 9. Conditions: what is handed in reads as a row of peers; lengths as stated. -/
import Derived.Test.YtfeahgcigmoijaaGreatDoorRef09
namespace Go.Proofs.YtfeahgcigmoijaaGreatDoor
open Go.RowKit Go.Lib
namespace Pe
open SlR Sh Sp Mc Pg VecC VecE
theorem may_yes (A : Option Addr) (c n : Nat) (ps : List (Int × Nat)) (w : World) (hn : ps.length = n) (hn2 : n ≤ 100000) (hr : RowQ w A ps) (hm : Hid (mayF 0 ps = true)) :
    Calls Tryz.prog 31 #[.slice A n c] w fun e w' => e = .returned (.bool true) ∧ Step w w' := (may_any A c n ps w hn hn2 hr).mono fun _ _ ⟨h, s⟩ => by
  rcases h with h | h
  · exact ⟨h.2, s⟩
  · have := h.1.out; rw [hm.out] at this; cases this
theorem may_no (A : Option Addr) (c n : Nat) (ps : List (Int × Nat)) (w : World) (hn : ps.length = n) (hn2 : n ≤ 100000) (hr : RowQ w A ps) (hm : Hid (mayF 0 ps = false)) :
    Calls Tryz.prog 31 #[.slice A n c] w fun e w' => e = .returned (.bool false) ∧ Step w w' := (may_any A c n ps w hn hn2 hr).mono fun _ _ ⟨h, s⟩ => by
  rcases h with h | h
  · have := h.1.out; rw [hm.out] at this; cases this
  · exact ⟨h.2, s⟩
set_option maxHeartbeats 3200000 in
set_option maxRecDepth 100000 in
theorem rrow_any (me : Int) (key : Nat) (A : Option Addr) (c m n : Nat) (ps : List (Int × Nat)) (w : World) (hk : Hid (key < 18446744073709551616)) (hm : ps.length = m) (hm2 : m ≤ 100000) (hr : RowQ w A ps) (h64 : Hid (Q64 ps))
    (hmay : Hid (mayF 0 ps = true)) (hn : n ≤ 32) :
    Calls Tryz.prog 20 #[.int .i64 me, .int .u64 key, .slice A m c, .int .i64 n] w fun e w' => (Hid (isIn me ps = true) ∧ ∃ A' c', e = .returned (.tuple #[.slice A' n c', .bool true]) ∧ Row .u32 w' A' (rowP (wN n) me key ps n) ∧ Step w w') ∨
      (Hid (isIn me ps = false) ∧ e = .returned (.tuple #[.slice none 0 0, .bool false]) ∧ Step w w') := by
  obtain ⟨i0, hi, hz0, hz1, hz2⟩ := info_parts info
  have cC := fun (w : World) (h : RowQ w A ps) => may_yes A c m ps w hm hm2 h hmay
  have hR := Lib.hid fun k => rowP_R (n := n) (fun s => (wN_R n s).1) me key (ps.take k)
  have hn0 : ¬ ((n : Int) < 0) := by omega
  have hn32 : ¬ (32 < (n : Int)) := by omega
  clear hmay
  go_enter Tryz.func20, Tryz.ntmps20
  go_wp2_with (first
    | (go_at_call 31; ((with_reducible refine (cC _ hr.to).mono ?_); rintro e w1 ⟨rfl, S1⟩; clear cC))
    | (at_make; refine App.make .u32 (by simp [Region.wanted]) _ _ 22 rfl 51 i0 4 Tryz.underlying22 hi hz0 hz1 hz2 _ _ _ _ n rfl rfl rfl rfl (by omega) (by unfold maxLen; omega) ?_; intro w3 R3 S3))
  go_loopw [10, 11, 12] (fun is row i wr => ∃ (k : Nat) (A' : Option Addr) (c' : Nat) (b : Bool), k ≤ m ∧ is = .bool b ∧ Hid (isIn me (ps.take k) = b) ∧ row = .slice A' n c' ∧ i = .int .i64 k ∧ Row .u32 wr A' (rowP (wN n) me key (ps.take k) n) ∧ Step w3 wr) (fun _ _ i _ => m - (intOf i).toNat)
  case atStart => exact ⟨0, _, _, false, Nat.zero_le _, rfl, Lib.hid rfl, rfl, rfl, R3, Step.of inferInstance⟩
  case round =>
    clear R3 hi
    obtain ⟨k, A', c', b, hkm, rfl, hb, rfl, rfl, RR, hS⟩ := hrel
    by_cases hlt : k < m
    · obtain ⟨B, O, rfl, hab, hc1, hc2⟩ := (hr.to : RowQ wr A ps) k (by omega)
      obtain ⟨x, hx⟩ : ∃ x : Int, Hid (x = (ps.getD k (0, 0)).1) := ⟨_, Lib.hid rfl⟩
      obtain ⟨y, hy⟩ : ∃ y : Nat, Hid (y = (ps.getD k (0, 0)).2) := ⟨_, Lib.hid rfl⟩
      have hy64 : Hid (y < 18446744073709551616) := Lib.hid (by rw [hy.out]; exact h64.out k)
      have HT : Hid (rowP (wN n) me key (ps.take (k + 1)) n = addP (wN n) me key (rowP (wN n) me key (ps.take k) n) (x, y)) := Lib.hid (by rw [rowP_snoc _ _ _ _ _ _ (by omega), hx.out, hy.out])
      have HI : Hid (isIn me (ps.take (k + 1)) = (b || (x == me))) := Lib.hid (by rw [isIn_snoc (by omega), hb.out, ← hx.out])
      rw [← hx.out] at hc1
      rw [← hy.out] at hc2
      have hRk := hR.out k
      generalize rowP (wN n) me key (ps.take k) n = row at RR HT hRk
      clear hR hr h64 hb
      by_cases hxm : x = me
      · have HE : Hid (rowP (wN n) me key (ps.take (k + 1)) n = row) := Lib.hid (by rw [HT.out]; unfold addP; rw [if_pos hxm])
        subst hxm
        have HJ : Hid (isIn x (ps.take (k + 1)) = true) := Lib.hid (by rw [HI.out]; simp)
        clear HT HI hRk
        go_wp2
        go_roundw
        case rel => exact ⟨k + 1, A', c', true, by omega, rfl, HJ, rfl, by go_num, by rw [HE.out]; exact RR.to, Step.of inferInstance⟩
        case measure => simp [intOf]; omega
      · have hxb : (x == me) = false := by simpa using hxm
        have HJ : Hid (isIn me (ps.take (k + 1)) = b) := Lib.hid (by rw [HI.out, hxb]; simp)
        have cP : ∀ w : World, Calls Tryz.prog 44 #[.int .u64 y, .int .u64 key] w fun e w' => e = .returned (.int .u64 (FpM.fPow y key : Nat)) ∧ Step w w' := fun w => (Ref01.pow_any y key hk w).mono fun e w' ⟨h, h2⟩ => ⟨h, by rw [← h2]; exact Step.of inferInstance⟩
        have hs : Hid (FpM.fPow y key < 18446744073709551616) := Lib.hid (fpow_lt64 _ _)
        have HX : Hid (addP (wN n) me key row (x, y) = if me < x then vAdd row (wN n (FpM.fPow y key)) else vSub row (wN n (FpM.fPow y key))) := Lib.hid (by unfold addP; rw [if_neg hxm])
        generalize FpM.fPow y key = s at cP hs HX
        have cW := fun (w : World) => rwords_yes s lbl n w hs lab_lbl hn
        have hwR := wN_R n s
        have hwn : Hid (wN n s = NL (wsP s lbl n)) := Lib.hid rfl
        generalize wN n s = W at hwR hwn HX
        unfold lbl at cW
        clear HI
        by_cases hlm : x < me
        · have HV : Hid (rowP (wN n) me key (ps.take (k + 1)) n = Ref02.vLin 4294967295 row W) := Lib.hid (by rw [HT.out, HX.out, if_neg (by omega), Ref02.vLin_neg])
          have cA := fun (A D : Option Addr) (c d : Nat) (w : World) h1 h2 => Ref02.add A D c d n 4294967295 row W w hRk.1 hwR.1 h1 h2 hRk.2 hwR.2 hn (by omega)
          clear HT HX hRk hwR hxm
          go_wp2_with (first
            | (go_at_call 44; ((with_reducible refine (cP _).mono ?_); rintro e w4 ⟨rfl, S4⟩; clear cP))
            | (go_at_call 9; ((with_reducible refine (cW _).mono ?_); rintro e w5 ⟨A5, c5, rfl, R5, S5⟩; have R5 : Row .u32 w5 A5 W := hwn.out ▸ R5; have hd1 := cell_to hc1 (w' := w5); have hd2 := cell_to hc2 (w' := w5); clear cW))
            | (go_at_call 21; ((with_reducible refine (cA _ _ _ _ _ RR.to R5.to).mono ?_); rintro e w6 ⟨A6, c6, rfl, R6, S6⟩; clear cA)))
          go_roundw
          case rel => exact ⟨k + 1, A6, c6, b, by omega, rfl, HJ, rfl, by go_num, by rw [HV.out]; exact R6, Step.of inferInstance⟩
          case measure => simp [intOf]; omega
        · have HV : Hid (rowP (wN n) me key (ps.take (k + 1)) n = Ref02.vLin 1 row W) := Lib.hid (by rw [HT.out, HX.out, if_pos (by omega), Ref02.vLin_one])
          have cA := fun (A D : Option Addr) (c d : Nat) (w : World) h1 h2 => Ref02.add A D c d n 1 row W w hRk.1 hwR.1 h1 h2 hRk.2 hwR.2 hn (by omega)
          clear HT HX hRk hwR hxm
          go_wp2_with (first
            | (go_at_call 44; ((with_reducible refine (cP _).mono ?_); rintro e w4 ⟨rfl, S4⟩; clear cP))
            | (go_at_call 9; ((with_reducible refine (cW _).mono ?_); rintro e w5 ⟨A5, c5, rfl, R5, S5⟩; have R5 : Row .u32 w5 A5 W := hwn.out ▸ R5; have hd1 := cell_to hc1 (w' := w5); have hd2 := cell_to hc2 (w' := w5); clear cW))
            | (go_at_call 21; ((with_reducible refine (cA _ _ _ _ _ RR.to R5.to).mono ?_); rintro e w6 ⟨A6, c6, rfl, R6, S6⟩; clear cA)))
          go_roundw
          case rel => exact ⟨k + 1, A6, c6, b, by omega, rfl, HJ, rfl, by go_num, by rw [HV.out]; exact R6, Step.of inferInstance⟩
          case measure => simp [intOf]; omega
    · have hkm2 : k = m := by omega
      subst hkm2
      have HE : Hid (ps.take k = ps) := Lib.hid (List.take_of_length_le (by omega))
      rw [HE.out] at RR hb
      clear hr hR h64
      cases b
      · go_wp2
        exact bodyPost_ret (v := .tuple #[.slice none 0 0, .bool false]) (by simp [results, Tryz.results20, go_sem]) rfl (.inr (by first | exact ⟨hb, rfl, Step.of inferInstance⟩ | exact ⟨rfl, Step.of inferInstance⟩))
      · go_wp2
        exact bodyPost_ret (v := .tuple #[.slice A' n c', .bool true]) (by simp [results, Tryz.results20, go_sem]) rfl (.inl (by first | exact ⟨hb, A', c', rfl, RR, Step.of inferInstance⟩ | exact ⟨A', c', rfl, RR, Step.of inferInstance⟩))
theorem rrow_yes (me : Int) (key : Nat) (A : Option Addr) (c m n : Nat) (ps : List (Int × Nat)) (w : World) (hk : Hid (key < 18446744073709551616)) (hm : ps.length = m) (hm2 : m ≤ 100000) (hr : RowQ w A ps) (h64 : Hid (Q64 ps))
    (hmay : Hid (mayF 0 ps = true)) (hin : Hid (isIn me ps = true)) (hn : n ≤ 32) :
    Calls Tryz.prog 20 #[.int .i64 me, .int .u64 key, .slice A m c, .int .i64 n] w (Ref02.YesB w n (rowP (wN n) me key ps n)) :=
  (rrow_any me key A c m n ps w hk hm hm2 hr h64 hmay hn).mono fun _ _ h => by
    rcases h with h | h
    · exact h.2
    · have := h.1.out; rw [hin.out] at this; cases this
theorem rrow_no (me : Int) (key : Nat) (A : Option Addr) (c m : Nat) (n : Int) (ps : List (Int × Nat)) (w : World) (hk : Hid (key < 18446744073709551616)) (hm : ps.length = m) (hm2 : m ≤ 100000) (hr : RowQ w A ps) (h64 : Hid (Q64 ps))
    (h : mayF 0 ps = false ∨ isIn me ps = false ∨ n < 0 ∨ 32 < n) :
    Calls Tryz.prog 20 #[.int .i64 me, .int .u64 key, .slice A m c, .int .i64 n] w (Ref02.ErrB w) := by
  cases hmay : mayF 0 ps
  · have cC := fun (w : World) (h : RowQ w A ps) => may_no A c m ps w hm hm2 h (Lib.hid hmay)
    clear hmay h h64
    go_enter Tryz.func20, Tryz.ntmps20
    go_wp2_with (go_at_call 31; ((with_reducible refine (cC _ hr.to).mono ?_); rintro e w1 ⟨rfl, S1⟩; clear cC))
    exact bodyPost_ret (v := .tuple #[.slice none 0 0, .bool false]) (by simp [results, Tryz.results20, go_sem]) rfl ⟨rfl, Step.of inferInstance⟩
  · by_cases hd : n < 0 ∨ 32 < n
    · have cC := fun (w : World) (h : RowQ w A ps) => may_yes A c m ps w hm hm2 h (Lib.hid hmay)
      clear hmay h h64
      by_cases h1 : n < 0
      · clear hd
        go_enter Tryz.func20, Tryz.ntmps20
        go_wp2_with (go_at_call 31; ((with_reducible refine (cC _ hr.to).mono ?_); rintro e w1 ⟨rfl, S1⟩; clear cC))
        exact bodyPost_ret (v := .tuple #[.slice none 0 0, .bool false]) (by simp [results, Tryz.results20, go_sem]) rfl ⟨rfl, Step.of inferInstance⟩
      · have h2 : 32 < n := by omega
        clear hd
        go_enter Tryz.func20, Tryz.ntmps20
        go_wp2_with (go_at_call 31; ((with_reducible refine (cC _ hr.to).mono ?_); rintro e w1 ⟨rfl, S1⟩; clear cC))
        exact bodyPost_ret (v := .tuple #[.slice none 0 0, .bool false]) (by simp [results, Tryz.results20, go_sem]) rfl ⟨rfl, Step.of inferInstance⟩
    · obtain ⟨n', rfl⟩ : ∃ n' : Nat, n = n' := ⟨n.toNat, by omega⟩
      have hin : isIn me ps = false := by
        rcases h with h | h | h
        · rw [hmay] at h; cases h
        · exact h
        · exact absurd h hd
      exact (rrow_any me key A c m n' ps w hk hm hm2 hr h64 (Lib.hid hmay) (by omega)).mono fun _ _ h => by
        rcases h with h | h
        · have := h.1.out; rw [hin] at this; cases this
        · exact h.2
end Pe
end Go.Proofs.YtfeahgcigmoijaaGreatDoor
