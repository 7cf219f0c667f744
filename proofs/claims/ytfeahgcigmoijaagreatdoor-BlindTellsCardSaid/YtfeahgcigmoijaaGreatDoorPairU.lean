/- pair.Row's answer as a row whose cells lie in blocks of their own type. Conditions: as pair.Row's. -/
import Derived.Test.YtfeahgcigmoijaaGreatDoorPairB
namespace Go.Proofs.YtfeahgcigmoijaaGreatDoor
open Go.RowKit Go.Lib
namespace Pe
open SlR Sh Sp Mc Pg VecC VecE
abbrev RU (w : World) (A : Option Addr) (zs : List Int) : Prop := Hdr.RowU .u32 51 w A zs
def YesU (w : World) (n : Nat) (zs : List Int) (e : Ending) (w' : World) : Prop := ∃ A c, e = .returned (.tuple #[.slice A n c, .nilIface]) ∧ RU w' A zs ∧ Step w w'
theorem YesU.of {w : World} {n : Nat} {zs : List Int} {e : Ending} {w' : World} (h : Ans w n zs e w') : YesU w n zs e w' := by
  obtain ⟨A, c, h1, h2, h3⟩ := h
  exact ⟨A, c, h1, Hdr.RowU.of_own h2, ⟨h3⟩⟩
theorem zeroU (n : Nat) (hn : n ≤ 32) (w : World) : Calls Tryz.prog 26 #[.int .i64 n] w (YesU w n (List.replicate n 0)) :=
  (zero_ok n hn w).mono fun _ _ ⟨a, b, c⟩ => ⟨_, _, a, by unfold Ow at b; rw [List.length_replicate] at b; exact Hdr.RowU.of_own b, ⟨c⟩⟩
theorem addU (A D : Option Addr) (c d n : Nat) (xs ys : List Int) (w : World) (hxn : xs.length = n) (hyn : ys.length = n) (hx : Row .u32 w A xs) (hy : Row .u32 w D ys) (hbx : Bits xs) (hl : n ≤ 32) :
    Calls Tryz.prog 53 #[.slice A n c, .slice D n d] w (YesU w n (vAdd xs ys)) := (add_ok A D c d n xs ys w hxn hyn hx hy hbx hl).mono fun _ _ => YesU.of
theorem subU (A D : Option Addr) (c d n : Nat) (xs ys : List Int) (w : World) (hxn : xs.length = n) (hyn : ys.length = n) (hx : Row .u32 w A xs) (hy : Row .u32 w D ys) (hl : n ≤ 32) :
    Calls Tryz.prog 16 #[.slice A n c, .slice D n d] w (YesU w n (vSub xs ys)) := (sub_ok A D c d n xs ys w hxn hyn hx hy hl).mono fun _ _ => YesU.of
theorem with_u (x : Int) (y : Nat) (me : Int) (key n c : Nat) (A : Option Addr) (row : List Int) (w : World) (hk : Hid (key < 18446744073709551616)) (hy : Hid (y < 18446744073709551616)) (hn : row.length = n) (hb : Bits row) (hr : Row .u32 w A row) (hl : n ≤ 32) (hL : LaidK w) (hne : x ≠ me) :
    Calls Tryz.prog 42 #[.agg #[.int .i64 x, .int .u64 y], .int .i64 me, .int .u64 key, .slice A n c] w (YesU w n (addP (wN n) me key row (x, y))) := by
  have hG : (w.alloc (.cells #[.int .i64 x, .int .u64 y] 50 (0, 0))).cell? ⟨w.heap.size, 0, none⟩ = some (.int .i64 x) := by simp
  have cS := fun w : World => shared_any key y hk hy w
  have hs : Hid (FpM.fPow y key < 18446744073709551616) := Lib.hid (fpow_lt64 _ _)
  have hX : addP (wN n) me key row (x, y) = if me < x then vAdd row (wN n (FpM.fPow y key)) else vSub row (wN n (FpM.fPow y key)) := by unfold addP; rw [if_neg hne]
  rw [hX]
  clear hX
  generalize FpM.fPow y key = s at cS hs ⊢
  have cW := fun (w : World) (h : LaidK w) => words_yes s lbl n w hs lab_lbl hl h
  have hwl : (wN n s).length = n := (wN_R n s).1
  have hwn : Hid (wN n s = NL (wsP s lbl n)) := Lib.hid rfl
  generalize wN n s = W at hwl hwn ⊢
  by_cases hlt : me < x
  · rw [if_pos hlt]
    have cA := fun (A D : Option Addr) (c d : Nat) (w : World) h1 h2 => addU A D c d n row W w hn hwl h1 h2 hb hl
    clear hb
    unfold lbl at cW
    go_enter Tryz.func42, Tryz.ntmps42
    go_wp2_with (first
      | (go_at_call 63; ((with_reducible refine (cS _).mono ?_); rintro e w1 ⟨rfl, S1⟩))
      | (go_at_call 22; ((with_reducible refine (cW _ hL.to).mono ?_); rintro e w2 ⟨g2, rfl, R2, S2⟩; have hG2 := cell_to hG (w' := w2); have R2 : Row .u32 w2 (some ⟨g2, 0, none⟩) W := hwn.out ▸ R2))
      | (go_at_call 53; ((with_reducible refine (cA _ _ _ _ _ hr.to R2.to).mono ?_); rintro e w3 ⟨A3, c3, rfl, R3, S3⟩)))
    exact bodyPost_ret (v := .tuple #[.slice A3 n c3, .nilIface]) (by simp [results, Tryz.results42, go_sem]) rfl ⟨A3, c3, rfl, R3, Step.of inferInstance⟩
  · rw [if_neg hlt]
    have cA := fun (A D : Option Addr) (c d : Nat) (w : World) h1 h2 => subU A D c d n row W w hn hwl h1 h2 hl
    clear hb
    unfold lbl at cW
    go_enter Tryz.func42, Tryz.ntmps42
    go_wp2_with (first
      | (go_at_call 63; ((with_reducible refine (cS _).mono ?_); rintro e w1 ⟨rfl, S1⟩))
      | (go_at_call 22; ((with_reducible refine (cW _ hL.to).mono ?_); rintro e w2 ⟨g2, rfl, R2, S2⟩; have hG2 := cell_to hG (w' := w2); have R2 : Row .u32 w2 (some ⟨g2, 0, none⟩) W := hwn.out ▸ R2))
      | (go_at_call 16; ((with_reducible refine (cA _ _ _ _ _ hr.to R2.to).mono ?_); rintro e w3 ⟨A3, c3, rfl, R3, S3⟩)))
    exact bodyPost_ret (v := .tuple #[.slice A3 n c3, .nilIface]) (by simp [results, Tryz.results42, go_sem]) rfl ⟨A3, c3, rfl, R3, Step.of inferInstance⟩
set_option maxHeartbeats 3200000 in
set_option maxRecDepth 100000 in
theorem row_u (me : Int) (key : Nat) (A : Option Addr) (c m n : Nat) (ps : List (Int × Nat)) (w : World) (hk : Hid (key < 18446744073709551616)) (hm : ps.length = m) (hm2 : m ≤ 100000) (hr : RowQ w A ps) (h64 : Hid (Q64 ps))
    (hmay : Hid (mayF 0 ps = true)) (hin : Hid (isIn me ps = true)) (hn : n ≤ 32) (hL : LaidK w) :
    Calls Tryz.prog 18 #[.int .i64 me, .int .u64 key, .slice A m c, .int .i64 n] w (YesU w n (rowP (wN n) me key ps n)) := by
  have hG : (w.alloc (.cells #[.int .i64 me] 3 (0, 0))).cell? ⟨w.heap.size, 0, none⟩ = some (.int .i64 me) := by simp
  have cC := fun (w : World) (h : RowQ w A ps) => check_yes A c m ps w hm hm2 h hmay
  have cI : ∀ (g : Nat) (w : World), RowQ w A ps → w.cell? ⟨g, 0, none⟩ = some (.int .i64 me) → Calls Tryz.prog 40 #[.slice A m c, .func (.func 41) #[] #[.pointer (some ⟨g, 0, none⟩)]] w fun e w' => e = .returned (.bool true) ∧ Step w w' := fun g w h1 h2 => by
    have := contains_any A c m ps me g w hm hm2 h1 h2
    rwa [hin.out] at this
  have cZ := fun (w : World) => zeroU n hn w
  have hR := Lib.hid fun k => rowP_R (n := n) (fun s => (wN_R n s).1) me key (ps.take k)
  clear hmay hin
  go_enter Tryz.func18, Tryz.ntmps18
  go_wp2_with (first
    | (go_at_call 39; ((with_reducible refine (cC _ hr.to).mono ?_); rintro e w1 ⟨rfl, S1⟩; clear cC))
    | (go_at_call 40; ((with_reducible refine (cI _ _ hr.to (cell_to hG)).mono ?_); rintro e w2 ⟨rfl, S2⟩; clear cI))
    | (go_at_call 26; ((with_reducible refine (cZ _).mono ?_); rintro e w3 ⟨A3, c3, rfl, R3, S3⟩; clear cZ)))
  go_loopw [11, 35] (fun row i wr => ∃ (k : Nat) (A' : Option Addr) (c' : Nat), k ≤ m ∧ row = .slice A' n c' ∧ i = .int .i64 k ∧ RU wr A' (rowP (wN n) me key (ps.take k) n) ∧ Step w3 wr) (fun _ i _ => m - (intOf i).toNat)
  case atStart => exact ⟨0, A3, c3, Nat.zero_le _, rfl, rfl, R3, Step.of inferInstance⟩
  case round =>
    clear R3
    obtain ⟨k, A', c', hkm, rfl, rfl, RR, hS⟩ := hrel
    by_cases hlt : k < m
    · obtain ⟨B, O, rfl, hab, hc1, hc2⟩ := (hr.to : RowQ wr A ps) k (by omega)
      have hgr : wr.cell? ⟨w.heap.size, 0, none⟩ = some (.int .i64 me) := cell_to hG
      have hgA : ∀ o, (wr.alloc o).cell? ⟨w.heap.size, 0, none⟩ = some (.int .i64 me) := fun o => cell_to hgr
      obtain ⟨x, hx⟩ : ∃ x : Int, Hid (x = (ps.getD k (0, 0)).1) := ⟨_, Lib.hid rfl⟩
      obtain ⟨y, hy⟩ : ∃ y : Nat, Hid (y = (ps.getD k (0, 0)).2) := ⟨_, Lib.hid rfl⟩
      have hy64 : Hid (y < 18446744073709551616) := Lib.hid (by rw [hy.out]; exact h64.out k)
      have HT : Hid (rowP (wN n) me key (ps.take (k + 1)) n = addP (wN n) me key (rowP (wN n) me key (ps.take k) n) (x, y)) := Lib.hid (by rw [rowP_snoc _ _ _ _ _ _ (by omega), hx.out, hy.out])
      rw [← hx.out] at hc1
      rw [← hy.out] at hc2
      have hRk := hR.out k
      generalize rowP (wN n) me key (ps.take k) n = row at RR HT hRk
      clear hR hr h64
      by_cases hxm : x = me
      · have HE : Hid (rowP (wN n) me key (ps.take (k + 1)) n = row) := Lib.hid (by rw [HT.out]; unfold addP; rw [if_pos hxm])
        subst hxm
        clear HT hRk
        go_wp2
        go_roundw
        case rel => exact ⟨k + 1, A', c', by omega, rfl, by go_num, by rw [HE.out]; exact RR.keep (Hdr.Keeps.of_ext inferInstance), Step.of inferInstance⟩
        case measure => simp [intOf]; omega
      · have hb : (x == me) = false := by simpa using hxm
        have cW := fun (w : World) (h1 : Row .u32 w A' row) (h2 : LaidK w) => with_u x y me key n c' A' row w hk hy64 hRk.1 hRk.2 h1 hn h2 hxm
        clear hxm hRk
        go_wp2_with (go_at_call 42; ((with_reducible refine (cW _ (Hdr.RowU.row RR).to hL.to).mono ?_); rintro e w4 ⟨A4, c4, rfl, R4, S4⟩))
        go_roundw
        case rel => exact ⟨k + 1, A4, c4, by omega, rfl, by go_num, by rw [HT.out]; exact R4, Step.of inferInstance⟩
        case measure => simp [intOf]; omega
    · have hkm2 : k = m := by omega
      subst hkm2
      have HE : Hid (ps.take k = ps) := Lib.hid (List.take_of_length_le (by omega))
      rw [HE.out] at RR
      clear hr hR h64
      go_wp2
      exact bodyPost_ret (v := .tuple #[.slice A' n c', .nilIface]) (by simp [results, Tryz.results18, go_sem]) rfl ⟨A', c', rfl, RR, Step.of inferInstance⟩
end Pe
end Go.Proofs.YtfeahgcigmoijaaGreatDoor
