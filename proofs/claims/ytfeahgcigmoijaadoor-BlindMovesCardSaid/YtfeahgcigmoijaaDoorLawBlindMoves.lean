/- The walk of the law BlindMoves: true whatever comes. Conditions: errors.errorType and sha.k read as laid. -/
import Derived.Test.YtfeahgcigmoijaaDoorSure10
import Derived.Test.YtfeahgcigmoijaaDoorLaidS
import Derived.Test.YtfeahgcigmoijaaDoorMayPub
import Derived.Deep.RegionHeld3
namespace Go.Proofs.YtfeahgcigmoijaaDoor
open Go.RowKit Go.Lib
namespace LawBlindMoves
open SlR Sh Sp Mc Pg VecC VecE Pe Bl MayP
theorem three_is {n : Nat} {x o p : List Int} (hx : R n x) (ho : R n o) (hp : R n p) : Is n (vSum n [x, o, p]) (fun j => x.getD j 0 + o.getD j 0 + p.getD j 0) :=
  ((((Is.zero n).add (Is.self hx)).add (Is.self ho)).add (Is.self hp)).of fun j => by omega
theorem moves_sub {n : Nat} {x y o p : List Int} (hx : R n x) (hy : R n y) (ho : R n o) (hp : R n p) : vSub (vSum n [x, o, p]) (vSum n [y, o, p]) = vSub x y :=
  ((three_is hx ho hp).sub (three_is hy ho hp)).eq ((Is.self hx).sub (Is.self hy)) fun j _ => by
    show (_ : Int) % 4294967296 = _
    congr 1
    omega
theorem moves_add {n : Nat} {x o p : List Int} (hx : R n x) (ho : R n o) (hp : R n p) : vAdd (vSum n [List.replicate n 0, o, p]) x = vSum n [x, o, p] :=
  ((((((Is.zero n).add (Is.zero n)).add (Is.self ho)).add (Is.self hp)).add (Is.self hx))).eq (three_is hx ho hp) fun j _ => by
    show (_ : Int) % 4294967296 = _
    congr 1
    omega
theorem new_at (w : World) (cs : Array Value) (t : TypeId) (H j : Nat) (v : Value) (hH : w.heap.size = H) (h : cs[j]? = some v) : (w.alloc (.cells cs t (0, 0))).cell? ⟨H, j, none⟩ = some v := by
  subst hH
  rw [cell_of_row _ _ j _ _ (0, 0) (heap_alloc_new w _)]; exact h
set_option maxHeartbeats 12800000 in
set_option maxRecDepth 1000000 in
theorem core (x0 x1 x2 y0 y1 y2 : Int) (me dim : Int) (s k : Nat) (A1 A2 A3 A4 : Option Addr) (n1 c1 n2 c2 n3 c3 n4 c4 : Nat) (W : World) (hx : R 3 [x0, x1, x2]) (hy : R 3 [y0, y1, y2]) (hs : Hid (s < 18446744073709551616)) (hk : Hid (k < 18446744073709551616)) (hA : ErrAs.Laid W) (hL : LaidK W) :
    Calls Tryd.prog 11 #[.agg #[.int .u32 x0, .int .u32 x1, .int .u32 x2], .agg #[.int .u32 y0, .int .u32 y1, .int .u32 y2], .agg #[.int .i64 me, .slice A1 n1 c1, .int .u64 s, .int .u64 k, .slice A2 n2 c2, .slice A3 n3 c3, .slice A4 n4 c4, .int .i64 dim]] W fun e w' => e = .returned (.bool true) ∧ Step W w' := by
  have cK := fun w : World => public_any k hk w
  have cS := fun w : World => public_any s hs w
  have hlp := Lib.hid (pub_lt k)
  have hlq := Lib.hid (pub_lt s)
  have hnp := Lib.hid (pub_ne k)
  have hnq := Lib.hid (pub_ne s)
  generalize FpM.fPow 3 k = p at cK hlp hnp
  generalize FpM.fPow 3 s = q at cS hlq hnq
  have hmay : Hid (mayF 0 [(1, p), (4, q)] = true) := Lib.hid (by
    have := hlp.out; have := hlq.out; have := hnp.out; have := hnq.out
    simp only [mayF_cons, mayF_nil, Bool.and_true, Bool.and_eq_true, decide_eq_true_eq]
    omega)
  have h64 : Hid (Q64 [(1, p), (4, q)]) := Lib.hid (q64_may hmay.out)
  have hO := oN_R 3 s
  have hP := rowP_R (n := 3) (fun s => (wN_R 3 s).1) 1 k [(1, p), (4, q)]
  have dB : ∀ (xs : List Int), R 3 xs → ∀ (A : Option Addr) (c g : Nat) (w : World), Row .u32 w A xs → RowQ w (some ⟨g, 0, none⟩) [(1, p), (4, q)] → LaidK w → Calls Tryd.prog 66 #[.slice A 3 c, .int .i64 1, .int .u64 s, .int .u64 k, .slice (some ⟨g, 0, none⟩) 2 2] w (Yes w 3 (vSum 3 [xs, oN 3 s, rowP (wN 3) 1 k [(1, p), (4, q)] 3])) := fun xs hxs A c g w h1 h2 h3 => by
    have h := brow_yes A (some ⟨g, 0, none⟩) c 2 3 2 xs 1 s k [(1, p), (4, q)] w hxs.1 (by omega) hs hk rfl (by omega) h1 h2 h64 hmay (Lib.hid rfl) h3
    exact h.mono fun e w' ⟨A, c, h1, h2, h3⟩ => ⟨A, c, h1, Hdr.RowU.row h2, h3⟩
  generalize oN 3 s = O at hO dB
  generalize rowP (wN 3) 1 k [(1, p), (4, q)] 3 = P at hP dB
  have dX := dB [x0, x1, x2] hx
  have dY := dB [y0, y1, y2] hy
  have dZ := dB [0, 0, 0] (R.zero 3)
  have eS := Lib.hid (moves_sub hx hy hO hP)
  have eA := Lib.hid (show vAdd (vSum 3 [[0, 0, 0], O, P]) [x0, x1, x2] = _ from moves_add hx hO hP)
  have rX := (three_is hx hO hP).1
  have rY := (three_is hy hO hP).1
  have rZ : R 3 (vSum 3 [[0, 0, 0], O, P]) := ⟨(three_is (R.zero 3) hO hP).1, (R.add (a := vAdd (vAdd (List.replicate 3 0) (List.replicate 3 0)) O) (b := P) (n := 3) (by exact (R.add (R.add (R.zero 3).1 (R.zero 3).1).1 hO.1).1) hP.1).2⟩
  generalize vSum 3 [[x0, x1, x2], O, P] = X at dX eS eA rX
  generalize vSum 3 [[y0, y1, y2], O, P] = Y at dY eS rY
  generalize vSum 3 [[0, 0, 0], O, P] = Z at dZ eA rZ
  clear dB hO hP hmay h64 hlp hlq hnp hnq
  have hD := (R.sub (n := 3) hx.1 hy.1).1
  have cD : ∀ (A D : Option Addr) (c d : Nat) (w : World), Row .u32 w A X → Row .u32 w D Y → Calls Tryd.prog 29 #[.slice A 3 c, .slice D 3 d] w (Yes w 3 (vSub [x0, x1, x2] [y0, y1, y2])) := fun A D c d w h1 h2 => by
    have h := VecE.sub A D c d 3 X Y w rX rY h1 h2 (by omega)
    rwa [eS.out] at h
  have cE := fun (A D : Option Addr) (c d : Nat) (w : World) h1 h2 => VecE.sub A D c d 3 [x0, x1, x2] [y0, y1, y2] w hx.1 hy.1 h1 h2 (by omega)
  have cA : ∀ (A D : Option Addr) (c d : Nat) (w : World), Row .u32 w A Z → Row .u32 w D [x0, x1, x2] → Calls Tryd.prog 27 #[.slice A 3 c, .slice D 3 d] w (Yes w 3 X) := fun A D c d w h1 h2 => by
    have h := VecE.add A D c d 3 Z [x0, x1, x2] w rZ.1 hx.1 h1 h2 rZ.2 (by omega)
    rwa [eA.out] at h
  generalize vSub [x0, x1, x2] [y0, y1, y2] = D at cD cE hD
  have m1 := fun (A B : Option Addr) (c d : Nat) (w : World) h1 h2 => VecE.same A B c d 3 3 D D w hD hD h1 h2 (by omega) (by omega) true (by simp)
  have m2 := fun (A B : Option Addr) (c d : Nat) (w : World) h1 h2 => VecE.same A B c d 3 3 X X w rX rX h1 h2 (by omega) (by omega) true (by simp)
  have dU := fun (w : World) h1 h2 => sure_any w h1 h2
  clear eS eA rX rY rZ hD hx hy
  obtain ⟨w0, hw0⟩ : ∃ w0, w0 = ((W.alloc (.cells #[.int .u32 x0, .int .u32 x1, .int .u32 x2] 89 (0, 0))).alloc (.cells #[.int .u32 y0, .int .u32 y1, .int .u32 y2] 89 (0, 0))).alloc (.cells #[.int .i64 me, .slice A1 n1 c1, .int .u64 s, .int .u64 k, .slice A2 n2 c2, .slice A3 n3 c3, .slice A4 n4 c4, .int .i64 dim] 92 (0, 0)) := ⟨_, rfl⟩
  have S0 : Step W w0 := by rw [hw0]; exact Step.of inferInstance
  have RX : Row .u32 w0 (some ⟨W.heap.size, 0, none⟩) [x0, x1, x2] := by
    rw [hw0]
    have h : Row .u32 (W.alloc (.cells #[.int .u32 x0, .int .u32 x1, .int .u32 x2] 89 (0, 0))) (some ⟨W.heap.size, 0, none⟩) [x0, x1, x2] := Row.litN W _ _ [x0, x1, x2] rfl
    exact h.to
  have RY : Row .u32 w0 (some ⟨W.heap.size + 1, 0, none⟩) [y0, y1, y2] := by
    rw [hw0]
    have h : Row .u32 ((W.alloc (.cells #[.int .u32 x0, .int .u32 x1, .int .u32 x2] 89 (0, 0))).alloc (.cells #[.int .u32 y0, .int .u32 y1, .int .u32 y2] 89 (0, 0))) (some ⟨W.heap.size + 1, 0, none⟩) [y0, y1, y2] := Row.litN _ _ _ [y0, y1, y2] (by simp)
    exact h.to
  have j2 : w0.cell? ⟨W.heap.size + 2, 2, none⟩ = some (.int .u64 s) := by
    rw [hw0]
    exact new_at _ _ _ _ 2 _ (by simp) rfl
  have j3 : w0.cell? ⟨W.heap.size + 2, 3, none⟩ = some (.int .u64 k) := by
    rw [hw0]
    exact new_at _ _ _ _ 3 _ (by simp) rfl
  have H0 := Lib.hid hw0
  clear hw0
  go_enter Tryd.func11, Tryd.ntmps11
  go_wp2
  rw [← H0.out]
  refine wp_region_held_drew (S := fun w' => w'.cell? ⟨W.heap.size + 2, 2, none⟩ = some (.int .u64 s) ∧ w'.cell? ⟨W.heap.size + 2, 3, none⟩ = some (.int .u64 k) ∧ Step w0 w') (by kernel_rfl) ⟨cellT j2, cellT j3, Step.of inferInstance⟩ (fun hHeld => ?_)
  refine wpAnyH_take (i := 0) (v := ?_) rfl (by kernel_rfl) (by kernel_rfl) (by kernel_rfl) (fun _ _ _ h => h) (Or.inl ⟨by rfl, ?_⟩) hHeld ?_
  rotate_left
  · intro w hSw
    simp only [List.getElem_toArray, List.getElem_cons_zero]
    go_simp
    try with_reducible rfl
  simp only [List.getElem_toArray, List.getElem_cons_zero, Act.put, List.setIfInBounds_toArray, List.set_cons_zero, List.set_cons_succ]
  refine wpAnyH_take (i := 1) (v := ?_) rfl (by kernel_rfl) (by kernel_rfl) (by kernel_rfl) (fun _ _ _ h => h) (Or.inl ⟨by rfl, ?_⟩) hHeld ?_
  rotate_left
  · intro w hSw
    simp only [List.getElem_toArray, List.getElem_cons_zero, List.getElem_cons_succ]
    go_simp
    try with_reducible rfl
  simp only [List.getElem_toArray, List.getElem_cons_zero, List.getElem_cons_succ, Act.put, List.setIfInBounds_toArray, List.set_cons_zero, List.set_cons_succ]
  refine wpAnyH_take (i := 4) (v := ?_) rfl (by kernel_rfl) (by kernel_rfl) (by kernel_rfl) (fun _ _ _ h => h) (Or.inl ⟨by rfl, ?_⟩) hHeld ?_
  rotate_left
  · intro w hSw
    simp only [List.getElem_toArray, List.getElem_cons_zero, List.getElem_cons_succ]
    go_simp
    try with_reducible rfl
  simp only [List.getElem_toArray, List.getElem_cons_zero, List.getElem_cons_succ, Act.put, List.setIfInBounds_toArray, List.set_cons_zero, List.set_cons_succ]
  refine wpAnyH_take (i := 5) (v := ?_) rfl (by kernel_rfl) (by kernel_rfl) (by kernel_rfl) (fun _ _ _ h => h) (Or.inl ⟨by rfl, ?_⟩) hHeld ?_
  rotate_left
  · intro w hSw
    simp only [List.getElem_toArray, List.getElem_cons_zero, List.getElem_cons_succ]
    go_simp
    try with_reducible rfl
  simp only [List.getElem_toArray, List.getElem_cons_zero, List.getElem_cons_succ, Act.put, List.setIfInBounds_toArray, List.set_cons_zero, List.set_cons_succ]
  refine wpAnyH_ready (rs := [2]) (by kernel_rfl) (by simp) ?_
  refine AllReadyH.cons rfl (fun K hK => ?_) AllReadyH.nil
  refine pos_in (by rfl) ?_
  simp only [List.getElem_toArray, List.getElem_cons_zero, List.getElem_cons_succ]
  go_simp
  refine (cK _).mono ?_
  rintro e w1 ⟨rfl, S1⟩
  refine hK.out _ _ ⟨cellT j2, cellT j3, Step.of inferInstance⟩ (fun hHeld => ?_)
  clear hK K
  refine wpAnyH_take (i := 3) (v := ?_) rfl (by kernel_rfl) (by kernel_rfl) (by kernel_rfl) (fun _ _ _ h => h) (Or.inl ⟨by rfl, ?_⟩) hHeld ?_
  rotate_left
  · intro w hSw
    simp only [List.getElem_toArray, List.getElem_cons_zero, List.getElem_cons_succ]
    go_simp
    try with_reducible rfl
  simp only [List.getElem_toArray, List.getElem_cons_zero, List.getElem_cons_succ, Act.put, List.setIfInBounds_toArray, List.set_cons_zero, List.set_cons_succ]
  refine wpAnyH_ready (rs := [6]) (by kernel_rfl) (by simp) ?_
  refine AllReadyH.cons rfl (fun K hK => ?_) AllReadyH.nil
  refine pos_in (by rfl) ?_
  simp only [List.getElem_toArray, List.getElem_cons_zero, List.getElem_cons_succ]
  go_simp
  refine (cS _).mono ?_
  rintro e w2 ⟨rfl, S2⟩
  refine hK.out _ _ ⟨cellT j2, cellT j3, Step.of inferInstance⟩ (fun hHeld => ?_)
  clear hK K
  refine wpAnyH_take (i := 7) (v := ?_) rfl (by kernel_rfl) (by kernel_rfl) (by kernel_rfl) (fun _ _ _ h => h) (Or.inl ⟨by rfl, ?_⟩) hHeld ?_
  rotate_left
  · intro w hSw
    simp only [List.getElem_toArray, List.getElem_cons_zero, List.getElem_cons_succ]
    go_simp
    try with_reducible rfl
  simp only [List.getElem_toArray, List.getElem_cons_zero, List.getElem_cons_succ, Act.put, List.setIfInBounds_toArray, List.set_cons_zero, List.set_cons_succ]
  refine wpAnyH_ready (rs := [8]) (by kernel_rfl) (by simp) ?_
  refine AllReadyH.cons rfl (fun K hK => ?_) AllReadyH.nil
  refine pos_in (by rfl) ?_
  simp only [List.getElem_toArray, List.getElem_cons_zero, List.getElem_cons_succ]
  go_simp
  refine hK.out _ _ ⟨cellT j2, cellT j3, Step.of inferInstance⟩ (fun hHeld => ?_)
  clear hK K
  refine wpAnyH_take (i := 9) (v := ?_) rfl (by kernel_rfl) (by kernel_rfl) (by kernel_rfl) (fun _ _ _ h => h) (Or.inl ⟨by rfl, ?_⟩) hHeld ?_
  rotate_left
  · intro w hSw
    simp only [List.getElem_toArray, List.getElem_cons_zero, List.getElem_cons_succ]
    go_simp
    try with_reducible rfl
  simp only [List.getElem_toArray, List.getElem_cons_zero, List.getElem_cons_succ, Act.put, List.setIfInBounds_toArray, List.set_cons_zero, List.set_cons_succ]
  refine wpAnyH_done (by kernel_rfl) ?_ _
  obtain ⟨f2, f3, f4⟩ := hHeld
  have RL : RowQ (w2.alloc (.cells #[.int .i64 1, .int .u64 p, .int .i64 4, .int .u64 q] 85 (0, 0))) (some ⟨w2.heap.size, 0, none⟩) [(1, p), (4, q)] := RowQ.lit2 w2 _ _ (1, p) (4, q) rfl
  obtain ⟨w3, hw3⟩ : ∃ w3, w3 = w2.alloc (.cells #[.int .i64 1, .int .u64 p, .int .i64 4, .int .u64 q] 85 (0, 0)) := ⟨_, rfl⟩
  rw [← hw3] at f2 f3 f4 RL ⊢
  clear hw3 cK cS
  have f2 : w3.cell? ⟨W.heap.size + 1 + 1, 2, none⟩ = some (.int .u64 s) := f2
  have f3 : w3.cell? ⟨W.heap.size + 1 + 1, 3, none⟩ = some (.int .u64 k) := f3
  go_wp2
  go_region_held3 (fun w' => w'.cell? ⟨W.heap.size + 1 + 1, 2, none⟩ = some (.int .u64 s) ∧ w'.cell? ⟨W.heap.size + 1 + 1, 3, none⟩ = some (.int .u64 k) ∧ Step w3 w')
    (exact ⟨cellT f2, cellT f3, Step.of inferInstance⟩)
    ((go_at_call 66; ((with_reducible refine (dX _ _ _ _ RX.to RL.to hL.to).mono ?_); rintro e w4 ⟨A4', c4', rfl, R4, S4⟩)))
  rename_i hH
  clear hH
  have g2 := cellT f2 (w' := w4)
  have g3 := cellT f3 (w' := w4)
  go_wp2
  go_region_held3 (fun w' => w'.cell? ⟨W.heap.size + 1 + 1, 2, none⟩ = some (.int .u64 s) ∧ w'.cell? ⟨W.heap.size + 1 + 1, 3, none⟩ = some (.int .u64 k) ∧ Step w4 w')
    (exact ⟨cellT g2, cellT g3, Step.of inferInstance⟩)
    ((go_at_call 66; ((with_reducible refine (dY _ _ _ _ RY.to RL.to hL.to).mono ?_); rintro e w5 ⟨A5', c5', rfl, R5, S5⟩)))
  rename_i hH
  clear hH
  go_wp2_with (go_at_call 29; ((with_reducible refine (cD _ _ _ _ _ R4.to R5.to).mono ?_); rintro e w6 ⟨A6', c6', rfl, R6, S6⟩))
  go_region_held3 (fun w' => Step w6 w')
    (exact Step.of inferInstance)
    ((go_at_call 29; ((with_reducible refine (cE _ _ _ _ _ RX.to RY.to).mono ?_); rintro e w7 ⟨A7', c7', rfl, R7, S7⟩)))
  rename_i hH
  clear hH
  have h2 := cellT f2 (w' := w7)
  have h3 := cellT f3 (w' := w7)
  have h2a : (w7.alloc (.cells #[.int .u32 0, .int .u32 0, .int .u32 0] 34 (0, 0))).cell? ⟨W.heap.size + 1 + 1, 2, none⟩ = some (.int .u64 s) := cellT h2
  have h3a : (w7.alloc (.cells #[.int .u32 0, .int .u32 0, .int .u32 0] 34 (0, 0))).cell? ⟨W.heap.size + 1 + 1, 3, none⟩ = some (.int .u64 k) := cellT h3
  go_wp2_with (first
    | (go_at_call 66; ((with_reducible refine (dZ _ _ _ _ (lit3z w7 _ _ rfl) RL.to hL.to).mono ?_); rintro e w8 ⟨A8', c8', rfl, R8, S8⟩))
    | (go_at_call 27; ((with_reducible refine (cA _ _ _ _ _ R8.to RX.to).mono ?_); rintro e w9 ⟨A9', c9', rfl, R9, S9⟩))
    | (go_at_call 34; ((with_reducible refine (m1 _ _ _ _ _ R6.to R7.to).mono ?_); rintro e w' ⟨rfl, t1, rfl⟩))
    | (go_at_call 34; ((with_reducible refine (m2 _ _ _ _ _ R9.to R4.to).mono ?_); rintro e w' ⟨rfl, t2, rfl⟩))
    | (go_at_call 65; ((with_reducible refine (dU _ hA.to hL.to).mono ?_); rintro e w13 ⟨rfl, S13⟩)))
  go_ret
  exact ⟨rfl, Step.of inferInstance⟩
theorem row3 {xs : List Int} (h : xs.length = 3) (hb : ∀ z ∈ xs, 0 ≤ z ∧ z < 4294967296) : ∃ a b c, xs = [a, b, c] ∧ R 3 [a, b, c] := by
  match xs, h with
  | [a, b, c], _ => exact ⟨a, b, c, rfl, rfl, hb⟩
theorem walk (xs ys : List Int) (me : Int) (A1 : Option Addr) (n1 c1 : Nat) (_x : List Int) (s k : Int) (A2 : Option Addr) (n2 c2 : Nat) (_cm : List Int) (A3 : Option Addr) (n3 c3 : Nat) (_si _sv : List Int) (A4 : Option Addr) (n4 c4 : Nat) (_ki _kv : List Int) (dim : Int) (W : World)
    (hx : xs.length = 3) (bx : ∀ z ∈ xs, 0 ≤ z ∧ z < 4294967296) (hy : ys.length = 3) (hby : ∀ z ∈ ys, 0 ≤ z ∧ z < 4294967296) {p0 p1 q1 q2 q3 q4 : Prop} (_bm : p0) (bs : 0 ≤ s ∧ s ≤ 18446744073709551615) (bk : 0 ≤ k ∧ k ≤ 18446744073709551615) (_bd : p1) (_q1 : q1) (_q2 : q2) (_q3 : q3) (_q4 : q4) (hL : LaidX.LaidS W) :
    Calls Tryd.prog 11 #[.agg (xs.map (Value.int .u32)).toArray, .agg (ys.map (Value.int .u32)).toArray, .agg #[.int .i64 me, .slice A1 n1 c1, .int .u64 s, .int .u64 k, .slice A2 n2 c2, .slice A3 n3 c3, .slice A4 n4 c4, .int .i64 dim]] W fun e w' => e = .returned (.bool true) ∧ Step W w' := by
  obtain ⟨s, rfl⟩ : ∃ s' : Nat, s = s' := ⟨s.toNat, by omega⟩
  obtain ⟨k, rfl⟩ : ∃ k' : Nat, k = k' := ⟨k.toNat, by omega⟩
  obtain ⟨x0, x1, x2, rfl, hx'⟩ := row3 hx bx
  obtain ⟨y0, y1, y2, rfl, hy'⟩ := row3 hy hby
  exact core x0 x1 x2 y0 y1 y2 me dim s k A1 A2 A3 A4 n1 c1 n2 c2 n3 c3 n4 c4 W hx' hy' (Lib.hid (by omega)) (Lib.hid (by omega)) hL.1 hL.2
end LawBlindMoves
end Go.Proofs.YtfeahgcigmoijaaDoor
