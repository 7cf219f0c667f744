/- sure and givePeers of law 09. Conditions: errors.errorType and sha.k read as laid. -/
import Derived.Test.YtmdknpejadepbaaDoorPairB
import Derived.Test.YtmdknpejadepbaaDoorNumE09
namespace Go.Proofs.YtmdknpejadepbaaDoor
open Go.RowKit Go.Lib
namespace Pe
open SlR Sh Sp Mc Pg VecC VecE
theorem btx_l : btx lbl 0 = [112, 97, 105, 114, 0, 0, 0, 0, 0] := by decide
theorem splS : spl 50031545098999707 8 = [0, 177, 191, 108, 217, 48, 151, 155] := by decide
set_option maxRecDepth 100000 in
theorem inS : Sh.sum (msk 54 (fill [0, 177, 191, 108, 217, 48, 151, 155]) ++ [112, 97, 105, 114, 0, 0, 0, 0, 0]) = [245, 19, 160, 199, 227, 93, 252, 224, 7, 60, 159, 4, 95, 145, 244, 145, 2, 50, 167, 212, 53, 226, 47, 77, 220, 241, 42, 175, 230, 119, 86, 81] := by
  rw [← Ev.sumF_eq]
  decide +kernel
set_option maxRecDepth 100000 in
theorem blkS : blkP 50031545098999707 lbl 0 = [127, 132, 87, 123, 228, 220, 232, 72, 57, 142, 177, 144, 216, 76, 93, 100, 167, 218, 70, 211, 195, 200, 160, 80, 146, 203, 249, 230, 50, 250, 70, 52] := by
  unfold blkP
  rw [btx_l, splS]
  have e : blk [0, 177, 191, 108, 217, 48, 151, 155] = fill [0, 177, 191, 108, 217, 48, 151, 155] := rfl
  unfold hm
  rw [e, inS, ← Ev.sumF_eq]
  decide +kernel
theorem wS0 : (wN 3 50031545098999707)[0]? = some 2139379579 := by
  have h : wP 50031545098999707 lbl 0 = 2139379579 := by show wd (blkP 50031545098999707 lbl 0) 0 = _; rw [blkS]; rfl
  show some ((wP 50031545098999707 lbl 0 : Nat) : Int) = _
  rw [h]; rfl
/-- The two of the example. -/
abbrev two : List (Int × Nat) := [(1, 243), (4, 2187)]
theorem p5 : FpM.fPow 3 5 = 243 := by rw [FpM.fPow_eq]; decide +kernel
theorem p7 : FpM.fPow 3 7 = 2187 := by rw [FpM.fPow_eq]; decide +kernel
theorem s5 : FpM.fPow 2187 5 = 50031545098999707 := by rw [FpM.fPow_eq]; decide +kernel
theorem s7 : FpM.fPow 243 7 = 50031545098999707 := by rw [FpM.fPow_eq]; decide +kernel
theorem two_may : mayF 0 two = true := by decide
theorem two_q : Q64 two := fun k => by
  match k with
  | 0 => decide
  | 1 => decide
  | k + 2 => exact (by decide : 0 < 18446744073709551616)
theorem rowX : rowP (wN 3) 1 5 two 3 = vAdd [0, 0, 0] (wN 3 50031545098999707) := by
  show addP (wN 3) 1 5 (addP (wN 3) 1 5 [0, 0, 0] (1, 243)) (4, 2187) = _
  unfold addP
  rw [if_pos rfl, if_neg (by decide), if_pos (by decide), s5]
theorem rowY : rowP (wN 3) 4 7 two 3 = vSub [0, 0, 0] (wN 3 50031545098999707) := by
  show addP (wN 3) 4 7 (addP (wN 3) 4 7 [0, 0, 0] (1, 243)) (4, 2187) = _
  unfold addP
  rw [if_pos rfl, if_neg (by decide), if_neg (by decide), s7]
theorem sumXY : vAdd (rowP (wN 3) 1 5 two 3) (rowP (wN 3) 4 7 two 3) = [0, 0, 0] := by
  rw [rowX, rowY]
  have hw := Is.self (wN_R 3 50031545098999707)
  exact (((Is.zero 3).add hw).add ((Is.zero 3).sub hw)).eq (Is.zero 3) fun j _ => by
    show (0 + (wN 3 50031545098999707).getD j 0 + (0 - (wN 3 50031545098999707).getD j 0)) % 4294967296 = 0 % 4294967296
    omega
theorem neX : rowP (wN 3) 1 5 two 3 ≠ [0, 0, 0] := fun h => by
  rw [rowX, show ([0, 0, 0] : List Int) = List.replicate 3 0 from rfl, zeros_add (wN_R 3 _).1 (wN_R 3 _).2] at h
  have h0 := wS0
  rw [h] at h0
  simp at h0
theorem lit64 (w : World) (H : Nat) (t : TypeId) (h : w.heap.size = H) : RowQ (w.alloc (.cells #[.int .i64 64, .int .u64 1] t (0, 0))) (some ⟨H, 0, none⟩) [(64, 1)] := RowQ.lit1 w H t (64, 1) h
theorem lit3z (w : World) (H : Nat) (t : TypeId) (h : w.heap.size = H) : Row .u32 (w.alloc (.cells #[.int .u32 0, .int .u32 0, .int .u32 0] t (0, 0))) (some ⟨H, 0, none⟩) [0, 0, 0] := Row.litN w H t [0, 0, 0] h
set_option maxHeartbeats 6400000 in
set_option maxRecDepth 1000000 in
theorem sure_any (w : World) (hA : ErrAs.Laid w) (hL : LaidK w) : Calls Tryd.prog 56 #[] w fun e w' => e = .returned (.bool true) ∧ Step w w' := by
  have d5 : ∀ w : World, Calls Tryd.prog 61 #[.int .u64 5] w fun e w' => e = .returned (.int .u64 243) ∧ Step w w' := fun w => by
    have h := public_any 5 (Lib.hid (by omega)) w
    rw [p5] at h
    exact h
  have d7 : ∀ w : World, Calls Tryd.prog 61 #[.int .u64 7] w fun e w' => e = .returned (.int .u64 2187) ∧ Step w w' := fun w => by
    have h := public_any 7 (Lib.hid (by omega)) w
    rw [p7] at h
    exact h
  have dS : ∀ w : World, Calls Tryd.prog 62 #[.int .u64 5, .int .u64 2187] w fun e w' => e = .returned (.int .u64 50031545098999707) ∧ Step w w' := fun w => by
    have h := shared_any 5 2187 (Lib.hid (by omega)) (Lib.hid (by omega)) w
    rw [s5] at h
    exact h
  have dT : ∀ w : World, Calls Tryd.prog 62 #[.int .u64 7, .int .u64 243] w fun e w' => e = .returned (.int .u64 50031545098999707) ∧ Step w w' := fun w => by
    have h := shared_any 7 243 (Lib.hid (by omega)) (Lib.hid (by omega)) w
    rw [s7] at h
    exact h
  have dX : ∀ (g : Nat) (w : World), RowQ w (some ⟨g, 0, none⟩) two → LaidK w → Calls Tryd.prog 57 #[.int .i64 1, .int .u64 5, .slice (some ⟨g, 0, none⟩) 2 2, .int .i64 3] w (Yes w 3 (rowP (wN 3) 1 5 two 3)) := fun g w h1 h2 =>
    row_yes 1 5 (some ⟨g, 0, none⟩) 2 2 3 two w (Lib.hid (by omega)) rfl (by omega) h1 (Lib.hid two_q) (Lib.hid two_may) (Lib.hid (by decide)) (by omega) h2
  have dY : ∀ (g : Nat) (w : World), RowQ w (some ⟨g, 0, none⟩) two → LaidK w → Calls Tryd.prog 57 #[.int .i64 4, .int .u64 7, .slice (some ⟨g, 0, none⟩) 2 2, .int .i64 3] w (Yes w 3 (rowP (wN 3) 4 7 two 3)) := fun g w h1 h2 =>
    row_yes 4 7 (some ⟨g, 0, none⟩) 2 2 3 two w (Lib.hid (by omega)) rfl (by omega) h1 (Lib.hid two_q) (Lib.hid two_may) (Lib.hid (by decide)) (by omega) h2
  have dN : ∀ (g : Nat) (w : World), RowQ w (some ⟨g, 0, none⟩) two → Calls Tryd.prog 57 #[.int .i64 2, .int .u64 5, .slice (some ⟨g, 0, none⟩) 2 2, .int .i64 3] w (Err w) := fun g w h1 =>
    row_no 2 5 (some ⟨g, 0, none⟩) 2 2 3 two w rfl (by omega) h1 (.inr (.inl (by decide)))
  have dC : ∀ (g : Nat) (w : World), RowQ w (some ⟨g, 0, none⟩) [(64, 1)] → Calls Tryd.prog 60 #[.slice (some ⟨g, 0, none⟩) 1 1] w fun e w' => e = .returned eArg ∧ Step w w' := fun g w h1 =>
    check_no (some ⟨g, 0, none⟩) 1 1 [(64, 1)] w rfl (by omega) h1 (Lib.hid (by decide))
  have nE := fun (w : World) h => Num09.some_ 1 w h
  have rX := rowP_R (n := 3) (fun s => (wN_R 3 s).1) 1 5 two
  have rY := rowP_R (n := 3) (fun s => (wN_R 3 s).1) 4 7 two
  have hs := Lib.hid sumXY
  have hne := Lib.hid neX
  generalize rowP (wN 3) 1 5 two 3 = X at dX rX hs hne
  generalize rowP (wN 3) 4 7 two 3 = Y at dY rY hs
  have dA : ∀ (A D : Option Addr) (c d : Nat) (w : World), Row .u32 w A X → Row .u32 w D Y → Calls Tryd.prog 27 #[.slice A 3 c, .slice D 3 d] w (Yes w 3 [0, 0, 0]) := fun A D c d w h1 h2 => by
    have h := VecE.add A D c d 3 X Y w rX.1 rY.1 h1 h2 rX.2 (by omega)
    rwa [hs.out] at h
  have e1 := fun (A D : Option Addr) (c d : Nat) (w : World) (h1 : Row .u32 w A [0, 0, 0]) (h2 : Row .u32 w D [0, 0, 0]) => VecE.same A D c d 3 3 [0, 0, 0] [0, 0, 0] w rfl rfl h1 h2 (by omega) (by omega) true (by simp)
  have e2 := fun (A D : Option Addr) (c d : Nat) (w : World) (h1 : Row .u32 w A X) (h2 : Row .u32 w D [0, 0, 0]) => VecE.same A D c d 3 3 X [0, 0, 0] w rX.1 rfl h1 h2 (by omega) (by omega) false (by simpa using hne.out)
  clear hs hne rX rY
  go_enter Tryd.func56, Tryd.ntmps56
  go_wp2_with (first
    | (go_at_call 61; ((with_reducible refine (d5 _).mono ?_); rintro e w1 ⟨rfl, S1⟩))
    | (go_at_call 61; ((with_reducible refine (d7 _).mono ?_); rintro e w2 ⟨rfl, S2⟩; have RL : RowQ (w2.alloc (.cells #[.int .i64 1, .int .u64 243, .int .i64 4, .int .u64 2187] 80 (0, 0))) (some ⟨w2.heap.size, 0, none⟩) two := RowQ.lit2 w2 _ _ (1, 243) (4, 2187) rfl))
    | (go_at_call 57; ((with_reducible refine (dX _ _ RL.to hL.to).mono ?_); rintro e w3 ⟨A3, c3, rfl, R3, S3⟩))
    | (go_at_call 57; ((with_reducible refine (dY _ _ RL.to hL.to).mono ?_); rintro e w4 ⟨A4, c4, rfl, R4, S4⟩))
    | (go_at_call 27; ((with_reducible refine (dA _ _ _ _ _ R3.to R4.to).mono ?_); rintro e w5 ⟨A5, c5, rfl, R5, S5⟩))
    | (go_at_call 57; ((with_reducible refine (dN _ _ RL.to).mono ?_); rintro e w6 ⟨rfl, S6⟩))
    | (go_at_call 62; ((with_reducible refine (dS _).mono ?_); rintro e w7 ⟨rfl, S7⟩))
    | (go_at_call 62; ((with_reducible refine (dT _).mono ?_); rintro e w8 ⟨rfl, S8⟩))
    | (go_at_call 34; ((with_reducible refine (e2 _ _ _ _ _ R3.to R5.to).mono ?_); rintro e w' ⟨rfl, t2, rfl⟩))
    | (go_at_call 34; ((with_reducible refine (e1 _ _ _ _ _ R5.to (lit3z _ _ _ (by simp))).mono ?_); rintro e w' ⟨rfl, t1, rfl⟩))
    | (go_at_call 60; ((with_reducible refine (dC _ _ (lit64 _ _ _ (by simp))).mono ?_); rintro e w10 ⟨rfl, S10⟩))
    | (go_at_call 64; ((with_reducible refine (nE _ hA.to).mono ?_); rintro e w9 ⟨rfl, S9⟩)))
  go_ret
  exact ⟨rfl, Step.of inferInstance⟩
theorem infoQ : (Tryd.prog.info? 80).map (fun i => (i.zero, i.size, i.bytes)) = some (some (.agg #[.int .i64 0, .int .u64 0]), 2, 16) := by kernel_rfl
set_option maxHeartbeats 800000 in
set_option maxRecDepth 100000 in
theorem give_any (A : Option Addr) (c n : Nat) (ps : List (Int × Nat)) (w : World) (hn : ps.length = n) (hn2 : n ≤ 100000) (hr : RowQ w A ps) :
    Calls Tryd.prog 58 #[.slice A n c] w fun e w' => ∃ A' c', e = .returned (.slice A' n c') ∧ RowQ w' A' ps ∧ Step w w' := by
  obtain ⟨i0, hi, hz0, hz1, hz2⟩ := info_parts infoQ
  go_enter Tryd.func58, Tryd.ntmps58
  go_wp2
  go_loopw [3, 4] (fun v i wr => ∃ (k : Nat), k ≤ n ∧ i = .int .i64 k ∧ wr.ownsRow w.heap.size 80 2 v k (qc (ps.take k)) ∧ Step w wr) (fun _ i _ => n - (intOf i).toNat)
  case atStart => exact ⟨0, Nat.zero_le _, rfl, World.ownsRow_nil _ _ _ _, Step.of inferInstance⟩
  case round =>
    obtain ⟨k, hk, rfl, hown, hS⟩ := hrel
    obtain ⟨A', c', rfl, hcc⟩ := own_form2 hown
    by_cases hlt : k < n
    · obtain ⟨B, O, rfl, hab, hc1, hc2⟩ := (hr.to : RowQ wr A ps) k (by omega)
      obtain ⟨x, hx⟩ : ∃ x : Int, Hid (x = (ps.getD k (0, 0)).1) := ⟨_, Lib.hid rfl⟩
      obtain ⟨y, hy⟩ : ∃ y : Nat, Hid (y = (ps.getD k (0, 0)).2) := ⟨_, Lib.hid rfl⟩
      rw [← hx.out] at hc1
      rw [← hy.out] at hc2
      have HT : Hid (ps.take (k + 1) = ps.take k ++ [(x, y)]) := Lib.hid (by rw [take_snocQ ps k (by omega), hx.out, hy.out])
      have HO := Lib.hid hown
      clear hr hown
      go_wp2_with (at_builtin; refine one w wr rfl _ _ 72 rfl 80 i0 _ Tryd.underlying72 hi hz0 hz1 hz2 rfl _ k (ps.take k) rfl HO.out wr.heap.size (x, y) rfl (RowQ.lit1 wr _ _ (x, y) rfl) (by omega) ?_; intro A2 c2 w2 O2 S2 hc2' hg2)
      go_roundw
      case rel => exact ⟨k + 1, by omega, by go_num, by rw [HT.out]; exact O2, S2⟩
      case measure => simp [intOf]; omega
    · have hkn : k = n := by omega
      subst hkn
      have HE : Hid (ps.take k = ps) := Lib.hid (List.take_of_length_le (by omega))
      rw [HE.out] at hown
      clear hr
      go_wp2
      go_ret
      exact ⟨_, _, rfl, RowQ.of_own hown hn, Step.of inferInstance⟩
end Pe
end Go.Proofs.YtmdknpejadepbaaDoor
