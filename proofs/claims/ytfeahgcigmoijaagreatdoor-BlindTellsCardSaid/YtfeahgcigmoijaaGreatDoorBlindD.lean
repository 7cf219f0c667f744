/- blind.Open and blind.Row, case by case. Conditions: what is handed in reads as rows of peers, of 32 bits and of numbers, and as maps; lengths as stated; sha.k reads as laid. -/
import Derived.Test.YtfeahgcigmoijaaGreatDoorBlindC
import Derived.Test.YtfeahgcigmoijaaGreatDoorPairU
namespace Go.Proofs.YtfeahgcigmoijaaGreatDoor
open Go.RowKit Go.Lib
namespace Bl
open SlR Sh Sp Mc Pg VecC VecE Pe Mp
theorem open_yes (A D : Option Addr) (c d q m n : Nat) (came : List Int) (ps : List (Int × Nat)) (sv kv : Value) (F G : Int → Option Nat) (w : World) (hq : came.length = q) (hq2 : q ≤ 100000) (hm : ps.length = m) (hm2 : m ≤ 100000) (hc : Row .i64 w A came) (hr : RowQ w D ps)
    (hmay : Hid (mayF 0 ps = true)) (hcame : Hid (ids (hereF came ps) = came)) (hF : MapF w sv F) (hG : MapF w kv G) (hn : n ≤ 32) (hL : LaidK w) (hall : Hid (ps.all (hasF F G came) = true)) :
    Calls Tryz.prog 10 #[.slice A q c, .slice D m d, sv, kv, .int .i64 n] w (Yes w n (openF (oN n) (wN n) F G came ps n ps)) :=
  (open_go A D c d q m n came ps sv kv F G w hq hq2 hm hm2 hc hr hmay hcame hF hG hn hL).mono fun e w' h => by
    rcases h with h | h
    · exact h.2
    · have := h.1.out; rw [hall.out] at this; cases this
theorem open_none (A D : Option Addr) (c d q m n : Nat) (came : List Int) (ps : List (Int × Nat)) (sv kv : Value) (F G : Int → Option Nat) (w : World) (hq : came.length = q) (hq2 : q ≤ 100000) (hm : ps.length = m) (hm2 : m ≤ 100000) (hc : Row .i64 w A came) (hr : RowQ w D ps)
    (hmay : Hid (mayF 0 ps = true)) (hcame : Hid (ids (hereF came ps) = came)) (hF : MapF w sv F) (hG : MapF w kv G) (hn : n ≤ 32) (hL : LaidK w) (hall : Hid (ps.all (hasF F G came) = false)) :
    Calls Tryz.prog 10 #[.slice A q c, .slice D m d, sv, kv, .int .i64 n] w (None6 w) :=
  (open_go A D c d q m n came ps sv kv F G w hq hq2 hm hm2 hc hr hmay hcame hF hG hn hL).mono fun e w' h => by
    rcases h with h | h
    · have := h.1.out; rw [hall.out] at this; cases this
    · exact h.2
set_option maxHeartbeats 1600000 in
set_option maxRecDepth 100000 in
theorem open_arg (A D : Option Addr) (c d q m : Nat) (n : Int) (came : List Int) (ps : List (Int × Nat)) (sv kv : Value) (w : World) (hq : came.length = q) (hq2 : q ≤ 100000) (hm : ps.length = m) (hm2 : m ≤ 100000) (hc : Row .i64 w A came) (hr : RowQ w D ps)
    (h : mayF 0 ps = false ∨ ids (hereF came ps) ≠ came ∨ n < 0 ∨ 32 < n) :
    Calls Tryz.prog 10 #[.slice A q c, .slice D m d, sv, kv, .int .i64 n] w (Err w) := by
  have hno : (mayF 0 ps = false ∨ ids (hereF came ps) ≠ came) → ∀ w : World, Row .i64 w A came → RowQ w D ps → Calls Tryz.prog 25 #[.slice A q c, .slice D m d] w (Err w) := fun h w h1 h2 => by
    cases hmay : mayF 0 ps
    · exact present_no A D c d q m ps w hm hm2 h2 (Lib.hid hmay)
    · refine (present_may A D c d q m came ps w hq hq2 hm hm2 h1 h2 (Lib.hid hmay)).mono fun e w' h3 => ?_
      rcases h3 with h3 | h3
      · have := of_decide_eq_true h3.1.out
        rcases h with h | h
        · rw [hmay] at h; cases h
        · exact absurd this h
      · exact h3.2
  by_cases h1 : mayF 0 ps = false ∨ ids (hereF came ps) ≠ came
  · have cP := hno h1
    clear hno h h1
    unfold Err at cP
    go_enter Tryz.func10, Tryz.ntmps10
    go_wp2_with (go_at_call 25; ((with_reducible refine (cP _ hc.to hr.to).mono ?_); rintro e w1 ⟨rfl, S1⟩))
    exact bodyPost_ret (v := .tuple #[.slice none 0 0, eArg]) (by simp [results, Tryz.results10, go_sem]) rfl ⟨rfl, Step.of inferInstance⟩
  · have h2 : n < 0 ∨ 32 < n := by
      rcases h with h | h | h
      · exact absurd (.inl h) h1
      · exact absurd (.inr h) h1
      · exact h
    have hmay : mayF 0 ps = true := by
      cases hb : mayF 0 ps
      · exact absurd (.inl hb) h1
      · rfl
    have hcame : ids (hereF came ps) = came := Classical.byContradiction fun h => h1 (.inr h)
    have hmay := Lib.hid hmay
    have cP : ∀ w : World, Row .i64 w A came → RowQ w D ps → Calls Tryz.prog 25 #[.slice A q c, .slice D m d] w fun e w' => ∃ A' q' c', e = .returned (.tuple #[.slice A' q' c', .nilIface]) ∧ Step w w' := fun w h1 h2 => (present_may A D c d q m came ps w hq hq2 hm hm2 h1 h2 hmay).mono fun e w' h => by
      rcases h with h | h
      · obtain ⟨A', q', c', h1, _, _, h4⟩ := h.2
        exact ⟨A', q', c', h1, h4⟩
      · have := h.1.out; rw [decide_eq_true hcame] at this; cases this
    have cZ := fun w : World => VecE.zeroNo n h2 w
    clear hno h h1 h2 hcame hmay
    go_enter Tryz.func10, Tryz.ntmps10
    go_wp2_with (first
      | (go_at_call 25; ((with_reducible refine (cP _ hc.to hr.to).mono ?_); rintro e w1 ⟨A1, q1, c1, rfl, S1⟩))
      | (go_at_call 26; ((with_reducible refine (cZ _).mono ?_); rintro e w3 ⟨rfl, S3⟩)))
    exact bodyPost_ret (v := .tuple #[.slice none 0 0, eArg]) (by simp [results, Tryz.results10, go_sem]) rfl ⟨rfl, Step.of inferInstance⟩
/-- Three rows. -/
theorem rows_three (A D E : Option Addr) (c d f n H : Nat) (xs ys zs : List Int) (w : World) (hxn : xs.length = n) (hyn : ys.length = n) (hzn : zs.length = n) (hx : Row .u32 w A xs) (hy : Row .u32 w D ys) (hz : Row .u32 w E zs) (hH : w.heap.size = H) :
    Rows2 (w.alloc (.cells #[.slice A n c, .slice D n d, .slice E n f] 22 (0, 0))) (some ⟨H, 0, none⟩) [xs, ys, zs] := by
  subst hH
  intro j row hj
  have hs : (w.alloc (.cells #[.slice A n c, .slice D n d, .slice E n f] 22 (0, 0))).heap.size = w.heap.size + 1 := by simp
  have h1 : Row .u32 (w.alloc (.cells #[.slice A n c, .slice D n d, .slice E n f] 22 (0, 0))) A xs := hx.to
  have h2 : Row .u32 (w.alloc (.cells #[.slice A n c, .slice D n d, .slice E n f] 22 (0, 0))) D ys := hy.to
  have h3 : Row .u32 (w.alloc (.cells #[.slice A n c, .slice D n d, .slice E n f] 22 (0, 0))) E zs := hz.to
  match j, hj with
  | 0, hj =>
    simp at hj; subst hj
    exact ⟨_, A, c, rfl, by show w.heap.size < _; omega, by rw [hxn]; simp [Addr.add], h1⟩
  | 1, hj =>
    simp at hj; subst hj
    exact ⟨_, D, d, rfl, by show w.heap.size < _; omega, by rw [hyn]; simp [Addr.add], h2⟩
  | 2, hj =>
    simp at hj; subst hj
    exact ⟨_, E, f, rfl, by show w.heap.size < _; omega, by rw [hzn]; simp [Addr.add], h3⟩
theorem sumU (A : Option Addr) (c n m : Nat) (ls : List (List Int)) (w : World) (hm : ls.length = m) (hm2 : m ≤ 100000) (hr : Rows2 w A ls) (hl : n ≤ 32) (hg : ∀ row ∈ ls, row.length = n) :
    Calls Tryz.prog 19 #[.slice A m c, .int .i64 n] w (YesU w n (vSum n ls)) := (sum_any A c n m ls w hm hm2 hr hl).mono fun _ _ h => by
  rcases h with h | ⟨⟨row, h1, h2⟩, _⟩
  · exact YesU.of h.2
  · exact absurd (hg row h1) h2
/-- A row that is hidden. -/
def rowB (n : Nat) (x : List Int) (me : Int) (seed key : Nat) (ps : List (Int × Nat)) : List Int := vSum n [x, oN n seed, rowP (wN n) me key ps n]
set_option maxHeartbeats 1600000 in
set_option maxRecDepth 100000 in
theorem brow_yes (A D : Option Addr) (c d n m : Nat) (x : List Int) (me : Int) (seed key : Nat) (ps : List (Int × Nat)) (w : World) (hn : x.length = n) (hn2 : n ≤ 32) (hs : Hid (seed < 18446744073709551616)) (hk : Hid (key < 18446744073709551616)) (hm : ps.length = m) (hm2 : m ≤ 100000)
    (hx : Row .u32 w A x) (hr : RowQ w D ps) (h64 : Hid (Q64 ps)) (hmay : Hid (mayF 0 ps = true)) (hin : Hid (isIn me ps = true)) (hL : LaidK w) :
    Calls Tryz.prog 5 #[.slice A n c, .int .i64 me, .int .u64 seed, .int .u64 key, .slice D m d] w (YesU w n (rowB n x me seed key ps)) := by
  have cO := fun (w : World) (h : LaidK w) => own_yes seed n w hs hn2 h
  have hO := (oN_R n seed).1
  have cR := fun (w : World) (h1 : RowQ w D ps) (h2 : LaidK w) => row_yes me key D d m n ps w hk hm hm2 h1 h64 hmay hin hn2 h2
  have hX := (rowP_R (n := n) (fun s => (wN_R n s).1) me key ps).1
  unfold rowB
  generalize oN n seed = O at cO hO ⊢
  generalize rowP (wN n) me key ps n = X at cR hX ⊢
  have cS := fun (A : Option Addr) (c : Nat) (w : World) (h : Rows2 w A [x, O, X]) => sumU A c n 3 [x, O, X] w rfl (by omega) h hn2 (by simp [hn, hO, hX])
  have HN := Lib.hid hn
  have HO := Lib.hid hO
  have HX := Lib.hid hX
  clear hn hO hX hmay hin
  go_enter Tryz.func5, Tryz.ntmps5
  go_wp2_with (first
    | (go_at_call 8; ((with_reducible refine (cO _ hL.to).mono ?_); rintro e w2 ⟨A2, c2, rfl, R2, S2⟩))
    | (go_at_call 18; ((with_reducible refine (cR _ hr.to hL.to).mono ?_); rintro e w3 ⟨A3, c3, rfl, R3, S3⟩; have Rw := rows_three A A2 A3 c c2 c3 n w3.heap.size x O X w3 HN.out HO.out HX.out hx.to R2.to R3.to rfl))
    | (go_at_call 19; ((with_reducible refine (cS _ _ _ Rw.to).mono ?_); rintro e w4 ⟨A4, c4, rfl, R4, S4⟩)))
  exact bodyPost_ret (v := .tuple #[.slice A4 n c4, .nilIface]) (by simp [results, Tryz.results5, go_sem]) rfl ⟨A4, c4, rfl, R4, Step.of inferInstance⟩
set_option maxHeartbeats 1600000 in
set_option maxRecDepth 100000 in
theorem brow_no (A D : Option Addr) (c d n m : Nat) (me : Int) (seed key : Nat) (ps : List (Int × Nat)) (w : World) (hs : Hid (seed < 18446744073709551616)) (hm : ps.length = m) (hm2 : m ≤ 100000)
    (hr : RowQ w D ps) (hL : LaidK w) (h : 32 < n ∨ mayF 0 ps = false ∨ isIn me ps = false) :
    Calls Tryz.prog 5 #[.slice A n c, .int .i64 me, .int .u64 seed, .int .u64 key, .slice D m d] w (Err w) := by
  by_cases hn : 32 < n
  · have cO := fun (w : World) => own_no seed n w (.inr (by omega))
    clear h hn
    go_enter Tryz.func5, Tryz.ntmps5
    go_wp2_with (go_at_call 8; ((with_reducible refine (cO _).mono ?_); rintro e w2 ⟨rfl, S2⟩))
    exact bodyPost_ret (v := .tuple #[.slice none 0 0, eArg]) (by simp [results, Tryz.results5, go_sem]) rfl ⟨rfl, Step.of inferInstance⟩
  · have cO := fun (w : World) (h : LaidK w) => own_yes seed n w hs (by omega) h
    have h2 : mayF 0 ps = false ∨ isIn me ps = false ∨ (n : Int) < 0 ∨ 32 < (n : Int) := by
      rcases h with h | h | h
      · exact absurd h hn
      · exact .inl h
      · exact .inr (.inl h)
    have cR := fun (w : World) (h1 : RowQ w D ps) => row_no me key D d m n ps w hm hm2 h1 h2
    clear h hn h2
    generalize oN n seed = O at cO
    go_enter Tryz.func5, Tryz.ntmps5
    go_wp2_with (first
      | (go_at_call 8; ((with_reducible refine (cO _ hL.to).mono ?_); rintro e w2 ⟨A2, c2, rfl, R2, S2⟩))
      | (go_at_call 18; ((with_reducible refine (cR _ hr.to).mono ?_); rintro e w3 ⟨rfl, S3⟩)))
    exact bodyPost_ret (v := .tuple #[.slice none 0 0, eArg]) (by simp [results, Tryz.results5, go_sem]) rfl ⟨rfl, Step.of inferInstance⟩
end Bl
end Go.Proofs.YtfeahgcigmoijaaGreatDoor
