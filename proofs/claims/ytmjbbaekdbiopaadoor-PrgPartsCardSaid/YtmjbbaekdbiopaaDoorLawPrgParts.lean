/- The walk of the law PrgParts: true whatever comes. Conditions: errors.errorType and sha.k read as laid. -/
import Derived.Test.YtmjbbaekdbiopaaDoorSure07
import Derived.Test.YtmjbbaekdbiopaaDoorLaidS
namespace Go.Proofs.YtmjbbaekdbiopaaDoor
open Go.RowKit Go.Lib
namespace LawPrgParts
open SlR Sh Sp Mc Pg
theorem nb8 (b : List Nat) (h : b.length = 32) : nb (b.take 8) = wd b 0 * 4294967296 + wd b 1 := by
  have e : b.take 8 = [b.getD 0 0, b.getD 1 0, b.getD 2 0, b.getD 3 0, b.getD 4 0, b.getD 5 0, b.getD 6 0, b.getD 7 0] := by
    have g : ∀ j, j < 8 → b.getD j 0 = (b.take 8).getD j 0 := fun j hj => by
      rw [List.getD_eq_getElem?_getD, List.getD_eq_getElem?_getD, List.getElem?_take_of_lt hj]
    have l : (b.take 8).length = 8 := by rw [List.length_take]; omega
    rw [g 0 (by omega), g 1 (by omega), g 2 (by omega), g 3 (by omega), g 4 (by omega), g 5 (by omega), g 6 (by omega), g 7 (by omega)]
    generalize b.take 8 = q at l
    match q, l with
    | [a, b, c, d, e, f, g, h], _ => rfl
  have w0 : wd b 0 = 16777216 * b.getD 0 0 + 65536 * b.getD 1 0 + 256 * b.getD 2 0 + b.getD 3 0 := rfl
  have w1 : wd b 1 = 16777216 * b.getD 4 0 + 65536 * b.getD 5 0 + 256 * b.getD 6 0 + b.getD 7 0 := rfl
  rw [e, w0, w1]
  unfold nb
  simp only [List.foldl_cons, List.foldl_nil]
  omega
/-- Two numbers of 32 bits as one, divided. -/
theorem num_parts (x : Nat) (s : ByteArray) (i : Nat) : (wP x s (8 * i) * 4294967296 + wP x s (8 * i + 1)) % 2305843009213693951 = numP x s i := by
  unfold numP wP
  rw [nb8 _ (blkP_len _ _ _), show 8 * i / 8 = i by omega, show 8 * i % 8 = 0 by omega, show (8 * i + 1) / 8 = i by omega, show (8 * i + 1) % 8 = 1 by omega]
  rfl
/-- What the law's last look asks. -/
def Div (v0 v1 r : Nat) : Prop := (v0 * 4294967296 + v1) % 2305843009213693951 = r
theorem w64 (v : Nat) (h : v < 4294967296) : IntKind.u64.wrap (v : Int) = (v : Int) := by rw [IntKind.wrap_u64]; omega
theorem up (v : Nat) (h : v < 4294967296) : IntKind.u64.wrap ((v : Int) * 4294967296) = (v : Int) * 4294967296 := by rw [IntKind.wrap_u64]; omega
theorem add (v u : Nat) (h : v < 4294967296) (hu : u < 4294967296) : IntKind.u64.wrap ((v : Int) * 4294967296 + (u : Int)) = ((v * 4294967296 + u : Nat) : Int) := by rw [IntKind.wrap_u64]; omega
set_option maxHeartbeats 6400000 in
set_option maxRecDepth 1000000 in
theorem far (x : Int) (s : ByteArray) (t : Int) (W : World) (h : ¬ s.size ≤ 64) (hA : ErrAs.Laid W) (hL : LaidK W) :
    Calls Tryd.prog 9 #[.int .u64 x, .string s, .int .u8 t] W fun e w' => e = .returned (.bool true) ∧ Step W w' := by
  have h1 : ¬ (s.size : Int) ≤ 64 := by omega
  clear h
  go_enter Tryd.func9, Tryd.ntmps9
  go_wp2_with (go_at_call 45; ((with_reducible refine (sure_any _ hA.to hL.to).mono ?_); rintro e w7 ⟨rfl, S7⟩))
  go_ret
  exact ⟨rfl, Step.of inferInstance⟩
set_option maxHeartbeats 12800000 in
set_option maxRecDepth 1000000 in
theorem walkN (x : Nat) (s : ByteArray) (t : Nat) (W : World) (hx : Hid (x < 18446744073709551616)) (hs : s.size ≤ 64) (ht : t < 256) (hA : ErrAs.Laid W) (hL : LaidK W) :
    Calls Tryd.prog 9 #[.int .u64 x, .string s, .int .u8 t] W fun e w' => e = .returned (.bool true) ∧ Step W w' := by
  have hsI : (s.size : Int) ≤ 64 := by omega
  have dU := fun (w : World) h1 h2 => sure_any w h1 h2
  cases hl : lab s
  · have nW : ∀ (n : Int) (w : World), Calls Tryd.prog 46 #[.int .u64 x, .string s, .int .i64 n] w fun e w' => e = .returned (.tuple #[.slice none 0 0, .iface 68 (.int .i64 1)]) ∧ Step w w' := fun n w => words_no x s n w (.inl hl)
    have nN : ∀ (n : Int) (w : World), Calls Tryd.prog 48 #[.int .u64 x, .string s, .int .i64 n] w fun e w' => e = .returned (.tuple #[.int .u64 0, .iface 68 (.int .i64 1)]) ∧ Step w w' := fun n w => num_no x s n w (.inl hl)
    have nC : ∀ (w : World), Calls Tryd.prog 50 #[.int .u64 x, .string s] w fun e w' => e = .returned (.tuple #[.int .u64 0, .iface 68 (.int .i64 1)]) ∧ Step w w' := fun w => child_no x s w hl
    clear hl hs hx
    go_enter Tryd.func9, Tryd.ntmps9
    go_wp2_with (first
      | (go_at_call 46; ((with_reducible refine (nW _ _).mono ?_); rintro e w1 ⟨rfl, S1⟩))
      | (go_at_call 48; ((with_reducible refine (nN _ _).mono ?_); rintro e w3 ⟨rfl, S3⟩))
      | (go_at_call 50; ((with_reducible refine (nC _).mono ?_); rintro e w4 ⟨rfl, S4⟩))
      | (go_at_call 45; ((with_reducible refine (dU _ hA.to hL.to).mono ?_); rintro e w9 ⟨rfl, S9⟩)))
    go_ret
    exact ⟨rfl, Step.of inferInstance⟩
  · have dW : ∀ w : World, LaidK w → Calls Tryd.prog 46 #[.int .u64 x, .string s, .int .i64 32] w fun e w' => ∃ g, e = .returned (.tuple #[.slice (some ⟨g, 0, none⟩) 32 32, .nilIface]) ∧ R32 w' (some ⟨g, 0, none⟩) (wsP x s 32) ∧ Step w w' := fun w h => words_yes x s 32 w hx hl (by omega) h
    have dC := fun (w : World) h => child_yes x s w hx hl h
    have cell : ∀ (w : World) (g j v : Nat), j < 32 → wP x s j = v → R32 w (some ⟨g, 0, none⟩) (wsP x s 32) → w.cell? ⟨g, j, none⟩ = some (.int .u32 (v : Nat)) := fun w g j v hj hv h => by
      obtain ⟨_, e0, _, c0⟩ := Row.atN h (j := j) (by rw [wsP_len]; exact hj)
      cases e0
      rw [Addr.add_mid, wsP_at _ _ _ _ hj, hv, Nat.zero_add] at c0
      exact c0
    have vlt : ∀ j, wP x s j < 4294967296 := fun j => wd_lt (blkP_b8 x s _ (by omega)) _
    have p0 : Div (wP x s 0) (wP x s 1) (numP x s 0) := num_parts x s 0
    rcases (by omega : t % 4 = 0 ∨ t % 4 = 1 ∨ t % 4 = 2 ∨ t % 4 = 3) with h4 | h4 | h4 | h4
    · have m4 : (t : Int) % 4 = 0 := by omega
      have t4 : (t : Int).tmod 4 = 0 := by rw [Int.tmod_eq_emod_of_nonneg (by omega)]; exact m4
      have dN : ∀ w : World, LaidK w → Calls Tryd.prog 48 #[.int .u64 x, .string s, .int .i64 0] w fun e w' => e = .returned (.tuple #[.int .u64 (numP x s 0 : Nat), .nilIface]) ∧ Step w w' := fun w h => num_yes x s 0 w hx hl (by omega) h
      have pi : Div (wP x s 0) (wP x s 1) (numP x s 0) := num_parts x s 0
      have q0 := vlt 0
      have q1 := vlt 1
      have q2 := vlt 0
      have q3 := vlt 1
      obtain ⟨c, hc⟩ : ∃ c, numP x s 0 = c := ⟨_, rfl⟩
      obtain ⟨r, hr⟩ : ∃ r, numP x s 0 = r := ⟨_, rfl⟩
      obtain ⟨u0, hu0⟩ : ∃ v, wP x s 0 = v := ⟨_, rfl⟩
      obtain ⟨u1, hu1⟩ : ∃ v, wP x s 1 = v := ⟨_, rfl⟩
      obtain ⟨v0, hv0⟩ : ∃ v, wP x s 0 = v := ⟨_, rfl⟩
      obtain ⟨v1, hv1⟩ : ∃ v, wP x s 1 = v := ⟨_, rfl⟩
      have er : r = c := by rw [← hr, ← hc]
      have e0 : v0 = u0 := by rw [← hv0, ← hu0]
      have e1 : v1 = u1 := by rw [← hv1, ← hu1]
      rw [er] at hr
      rw [e0] at hv0
      rw [e1] at hv1
      clear er e0 e1
      have CE := Lib.hid (fun (w : World) (g : Nat) (h : R32 w (some ⟨g, 0, none⟩) (wsP x s 32)) => And.intro (cell w g 0 u0 (by omega) hu0 h) (And.intro (cell w g 1 u1 (by omega) hu1 h) (And.intro (cell w g 0 u0 (by omega) hv0 h) (cell w g 1 u1 (by omega) hv1 h))))
      rw [hc] at dC p0
      rw [hr] at dN pi
      rw [hu0] at q0 p0
      rw [hu1] at q1 p0
      rw [hv0] at q2 pi
      rw [hv1] at q3 pi
      have z0 := w64 u0 q0
      have z1 := w64 u1 q1
      have z2 := w64 u0 q2
      have z3 := w64 u1 q3
      have s0 := up u0 q0
      have s1 := add u0 u1 q0 q1
      have s2 := up u0 q2
      have s3 := add u0 u1 q2 q3
      generalize hV : u0 * 4294967296 + u1 = V at s3
      generalize hU : u0 * 4294967296 + u1 = U at s1
      have PI : Hid (V % 2305843009213693951 = c) := Lib.hid (by rw [← hV]; exact pi)
      have P0 : Hid (U % 2305843009213693951 = c) := Lib.hid (by rw [← hU]; exact p0)
      generalize wsP x s 32 = X at dW CE
      clear hV hU p0 pi vlt cell hc hr hu0 hu1 hv0 hv1 q0 q1 q2 q3 h4 hl hs hx
      go_enter Tryd.func9, Tryd.ntmps9
      go_wp2_with (first
        | (go_at_call 46; ((with_reducible refine (dW _ hL.to).mono ?_); rintro e w1 ⟨g1, rfl, R1, S1⟩))
        | (go_at_call 48; ((with_reducible refine (dN _ hL.to).mono ?_); rintro e w3 ⟨rfl, S3⟩))
        | (go_at_call 50; ((with_reducible refine (dC _ hL.to).mono ?_); rintro e w4 ⟨rfl, S4⟩; obtain ⟨k0, k1, k2, k3⟩ := CE.out w4 g1 R1.to)))
      go_quiet (fail)
      go_wp2
      go_quiet (fail)
      have f1 : (V : Int).tmod 2305843009213693951 = (c : Int) := by rw [Int.tmod_eq_emod_of_nonneg (by omega), ← PI.out]; rfl
      have f2 : (U : Int).tmod 2305843009213693951 = (c : Int) := by rw [Int.tmod_eq_emod_of_nonneg (by omega), ← P0.out]; rfl
      have f3 : (V : Int) % 2305843009213693951 = (c : Int) := by rw [← PI.out]; rfl
      have f4 : (U : Int) % 2305843009213693951 = (c : Int) := by rw [← P0.out]; rfl
      go_wp2_with (first
        | (go_at_call 45; ((with_reducible refine (dU _ hA.to hL.to).mono ?_); rintro e w9 ⟨rfl, S9⟩)))
      go_ret
      exact ⟨rfl, Step.of inferInstance⟩
    · have m4 : (t : Int) % 4 = 1 := by omega
      have t4 : (t : Int).tmod 4 = 1 := by rw [Int.tmod_eq_emod_of_nonneg (by omega)]; exact m4
      have dN : ∀ w : World, LaidK w → Calls Tryd.prog 48 #[.int .u64 x, .string s, .int .i64 1] w fun e w' => e = .returned (.tuple #[.int .u64 (numP x s 1 : Nat), .nilIface]) ∧ Step w w' := fun w h => num_yes x s 1 w hx hl (by omega) h
      have pi : Div (wP x s 8) (wP x s 9) (numP x s 1) := num_parts x s 1
      have q0 := vlt 0
      have q1 := vlt 1
      have q2 := vlt 8
      have q3 := vlt 9
      obtain ⟨c, hc⟩ : ∃ c, numP x s 0 = c := ⟨_, rfl⟩
      obtain ⟨r, hr⟩ : ∃ r, numP x s 1 = r := ⟨_, rfl⟩
      obtain ⟨u0, hu0⟩ : ∃ v, wP x s 0 = v := ⟨_, rfl⟩
      obtain ⟨u1, hu1⟩ : ∃ v, wP x s 1 = v := ⟨_, rfl⟩
      obtain ⟨v0, hv0⟩ : ∃ v, wP x s 8 = v := ⟨_, rfl⟩
      obtain ⟨v1, hv1⟩ : ∃ v, wP x s 9 = v := ⟨_, rfl⟩
      have CE := Lib.hid (fun (w : World) (g : Nat) (h : R32 w (some ⟨g, 0, none⟩) (wsP x s 32)) => And.intro (cell w g 0 u0 (by omega) hu0 h) (And.intro (cell w g 1 u1 (by omega) hu1 h) (And.intro (cell w g 8 v0 (by omega) hv0 h) (cell w g 9 v1 (by omega) hv1 h))))
      rw [hc] at dC p0
      rw [hr] at dN pi
      rw [hu0] at q0 p0
      rw [hu1] at q1 p0
      rw [hv0] at q2 pi
      rw [hv1] at q3 pi
      have z0 := w64 u0 q0
      have z1 := w64 u1 q1
      have z2 := w64 v0 q2
      have z3 := w64 v1 q3
      have s0 := up u0 q0
      have s1 := add u0 u1 q0 q1
      have s2 := up v0 q2
      have s3 := add v0 v1 q2 q3
      generalize hV : v0 * 4294967296 + v1 = V at s3
      generalize hU : u0 * 4294967296 + u1 = U at s1
      have PI : Hid (V % 2305843009213693951 = r) := Lib.hid (by rw [← hV]; exact pi)
      have P0 : Hid (U % 2305843009213693951 = c) := Lib.hid (by rw [← hU]; exact p0)
      generalize wsP x s 32 = X at dW CE
      clear hV hU p0 pi vlt cell hc hr hu0 hu1 hv0 hv1 q0 q1 q2 q3 h4 hl hs hx
      go_enter Tryd.func9, Tryd.ntmps9
      go_wp2_with (first
        | (go_at_call 46; ((with_reducible refine (dW _ hL.to).mono ?_); rintro e w1 ⟨g1, rfl, R1, S1⟩))
        | (go_at_call 48; ((with_reducible refine (dN _ hL.to).mono ?_); rintro e w3 ⟨rfl, S3⟩))
        | (go_at_call 50; ((with_reducible refine (dC _ hL.to).mono ?_); rintro e w4 ⟨rfl, S4⟩; obtain ⟨k0, k1, k2, k3⟩ := CE.out w4 g1 R1.to)))
      go_quiet (fail)
      go_wp2
      go_quiet (fail)
      have f1 : (V : Int).tmod 2305843009213693951 = (r : Int) := by rw [Int.tmod_eq_emod_of_nonneg (by omega), ← PI.out]; rfl
      have f2 : (U : Int).tmod 2305843009213693951 = (c : Int) := by rw [Int.tmod_eq_emod_of_nonneg (by omega), ← P0.out]; rfl
      have f3 : (V : Int) % 2305843009213693951 = (r : Int) := by rw [← PI.out]; rfl
      have f4 : (U : Int) % 2305843009213693951 = (c : Int) := by rw [← P0.out]; rfl
      go_wp2_with (first
        | (go_at_call 45; ((with_reducible refine (dU _ hA.to hL.to).mono ?_); rintro e w9 ⟨rfl, S9⟩)))
      go_ret
      exact ⟨rfl, Step.of inferInstance⟩
    · have m4 : (t : Int) % 4 = 2 := by omega
      have t4 : (t : Int).tmod 4 = 2 := by rw [Int.tmod_eq_emod_of_nonneg (by omega)]; exact m4
      have dN : ∀ w : World, LaidK w → Calls Tryd.prog 48 #[.int .u64 x, .string s, .int .i64 2] w fun e w' => e = .returned (.tuple #[.int .u64 (numP x s 2 : Nat), .nilIface]) ∧ Step w w' := fun w h => num_yes x s 2 w hx hl (by omega) h
      have pi : Div (wP x s 16) (wP x s 17) (numP x s 2) := num_parts x s 2
      have q0 := vlt 0
      have q1 := vlt 1
      have q2 := vlt 16
      have q3 := vlt 17
      obtain ⟨c, hc⟩ : ∃ c, numP x s 0 = c := ⟨_, rfl⟩
      obtain ⟨r, hr⟩ : ∃ r, numP x s 2 = r := ⟨_, rfl⟩
      obtain ⟨u0, hu0⟩ : ∃ v, wP x s 0 = v := ⟨_, rfl⟩
      obtain ⟨u1, hu1⟩ : ∃ v, wP x s 1 = v := ⟨_, rfl⟩
      obtain ⟨v0, hv0⟩ : ∃ v, wP x s 16 = v := ⟨_, rfl⟩
      obtain ⟨v1, hv1⟩ : ∃ v, wP x s 17 = v := ⟨_, rfl⟩
      have CE := Lib.hid (fun (w : World) (g : Nat) (h : R32 w (some ⟨g, 0, none⟩) (wsP x s 32)) => And.intro (cell w g 0 u0 (by omega) hu0 h) (And.intro (cell w g 1 u1 (by omega) hu1 h) (And.intro (cell w g 16 v0 (by omega) hv0 h) (cell w g 17 v1 (by omega) hv1 h))))
      rw [hc] at dC p0
      rw [hr] at dN pi
      rw [hu0] at q0 p0
      rw [hu1] at q1 p0
      rw [hv0] at q2 pi
      rw [hv1] at q3 pi
      have z0 := w64 u0 q0
      have z1 := w64 u1 q1
      have z2 := w64 v0 q2
      have z3 := w64 v1 q3
      have s0 := up u0 q0
      have s1 := add u0 u1 q0 q1
      have s2 := up v0 q2
      have s3 := add v0 v1 q2 q3
      generalize hV : v0 * 4294967296 + v1 = V at s3
      generalize hU : u0 * 4294967296 + u1 = U at s1
      have PI : Hid (V % 2305843009213693951 = r) := Lib.hid (by rw [← hV]; exact pi)
      have P0 : Hid (U % 2305843009213693951 = c) := Lib.hid (by rw [← hU]; exact p0)
      generalize wsP x s 32 = X at dW CE
      clear hV hU p0 pi vlt cell hc hr hu0 hu1 hv0 hv1 q0 q1 q2 q3 h4 hl hs hx
      go_enter Tryd.func9, Tryd.ntmps9
      go_wp2_with (first
        | (go_at_call 46; ((with_reducible refine (dW _ hL.to).mono ?_); rintro e w1 ⟨g1, rfl, R1, S1⟩))
        | (go_at_call 48; ((with_reducible refine (dN _ hL.to).mono ?_); rintro e w3 ⟨rfl, S3⟩))
        | (go_at_call 50; ((with_reducible refine (dC _ hL.to).mono ?_); rintro e w4 ⟨rfl, S4⟩; obtain ⟨k0, k1, k2, k3⟩ := CE.out w4 g1 R1.to)))
      go_quiet (fail)
      go_wp2
      go_quiet (fail)
      have f1 : (V : Int).tmod 2305843009213693951 = (r : Int) := by rw [Int.tmod_eq_emod_of_nonneg (by omega), ← PI.out]; rfl
      have f2 : (U : Int).tmod 2305843009213693951 = (c : Int) := by rw [Int.tmod_eq_emod_of_nonneg (by omega), ← P0.out]; rfl
      have f3 : (V : Int) % 2305843009213693951 = (r : Int) := by rw [← PI.out]; rfl
      have f4 : (U : Int) % 2305843009213693951 = (c : Int) := by rw [← P0.out]; rfl
      go_wp2_with (first
        | (go_at_call 45; ((with_reducible refine (dU _ hA.to hL.to).mono ?_); rintro e w9 ⟨rfl, S9⟩)))
      go_ret
      exact ⟨rfl, Step.of inferInstance⟩
    · have m4 : (t : Int) % 4 = 3 := by omega
      have t4 : (t : Int).tmod 4 = 3 := by rw [Int.tmod_eq_emod_of_nonneg (by omega)]; exact m4
      have dN : ∀ w : World, LaidK w → Calls Tryd.prog 48 #[.int .u64 x, .string s, .int .i64 3] w fun e w' => e = .returned (.tuple #[.int .u64 (numP x s 3 : Nat), .nilIface]) ∧ Step w w' := fun w h => num_yes x s 3 w hx hl (by omega) h
      have pi : Div (wP x s 24) (wP x s 25) (numP x s 3) := num_parts x s 3
      have q0 := vlt 0
      have q1 := vlt 1
      have q2 := vlt 24
      have q3 := vlt 25
      obtain ⟨c, hc⟩ : ∃ c, numP x s 0 = c := ⟨_, rfl⟩
      obtain ⟨r, hr⟩ : ∃ r, numP x s 3 = r := ⟨_, rfl⟩
      obtain ⟨u0, hu0⟩ : ∃ v, wP x s 0 = v := ⟨_, rfl⟩
      obtain ⟨u1, hu1⟩ : ∃ v, wP x s 1 = v := ⟨_, rfl⟩
      obtain ⟨v0, hv0⟩ : ∃ v, wP x s 24 = v := ⟨_, rfl⟩
      obtain ⟨v1, hv1⟩ : ∃ v, wP x s 25 = v := ⟨_, rfl⟩
      have CE := Lib.hid (fun (w : World) (g : Nat) (h : R32 w (some ⟨g, 0, none⟩) (wsP x s 32)) => And.intro (cell w g 0 u0 (by omega) hu0 h) (And.intro (cell w g 1 u1 (by omega) hu1 h) (And.intro (cell w g 24 v0 (by omega) hv0 h) (cell w g 25 v1 (by omega) hv1 h))))
      rw [hc] at dC p0
      rw [hr] at dN pi
      rw [hu0] at q0 p0
      rw [hu1] at q1 p0
      rw [hv0] at q2 pi
      rw [hv1] at q3 pi
      have z0 := w64 u0 q0
      have z1 := w64 u1 q1
      have z2 := w64 v0 q2
      have z3 := w64 v1 q3
      have s0 := up u0 q0
      have s1 := add u0 u1 q0 q1
      have s2 := up v0 q2
      have s3 := add v0 v1 q2 q3
      generalize hV : v0 * 4294967296 + v1 = V at s3
      generalize hU : u0 * 4294967296 + u1 = U at s1
      have PI : Hid (V % 2305843009213693951 = r) := Lib.hid (by rw [← hV]; exact pi)
      have P0 : Hid (U % 2305843009213693951 = c) := Lib.hid (by rw [← hU]; exact p0)
      generalize wsP x s 32 = X at dW CE
      clear hV hU p0 pi vlt cell hc hr hu0 hu1 hv0 hv1 q0 q1 q2 q3 h4 hl hs hx
      go_enter Tryd.func9, Tryd.ntmps9
      go_wp2_with (first
        | (go_at_call 46; ((with_reducible refine (dW _ hL.to).mono ?_); rintro e w1 ⟨g1, rfl, R1, S1⟩))
        | (go_at_call 48; ((with_reducible refine (dN _ hL.to).mono ?_); rintro e w3 ⟨rfl, S3⟩))
        | (go_at_call 50; ((with_reducible refine (dC _ hL.to).mono ?_); rintro e w4 ⟨rfl, S4⟩; obtain ⟨k0, k1, k2, k3⟩ := CE.out w4 g1 R1.to)))
      go_quiet (fail)
      go_wp2
      go_quiet (fail)
      have f1 : (V : Int).tmod 2305843009213693951 = (r : Int) := by rw [Int.tmod_eq_emod_of_nonneg (by omega), ← PI.out]; rfl
      have f2 : (U : Int).tmod 2305843009213693951 = (c : Int) := by rw [Int.tmod_eq_emod_of_nonneg (by omega), ← P0.out]; rfl
      have f3 : (V : Int) % 2305843009213693951 = (r : Int) := by rw [← PI.out]; rfl
      have f4 : (U : Int) % 2305843009213693951 = (c : Int) := by rw [← P0.out]; rfl
      go_wp2_with (first
        | (go_at_call 45; ((with_reducible refine (dU _ hA.to hL.to).mono ?_); rintro e w9 ⟨rfl, S9⟩)))
      go_ret
      exact ⟨rfl, Step.of inferInstance⟩
theorem walk (x : Int) (s : ByteArray) (t : Int) (W : World) (hx : 0 ≤ x ∧ x ≤ 18446744073709551615) (ht : 0 ≤ t ∧ t ≤ 255) (hL : LaidX.LaidS W) :
    Calls Tryd.prog 9 #[.int .u64 x, .string s, .int .u8 t] W fun e w' => e = .returned (.bool true) ∧ Step W w' := by
  obtain ⟨y, rfl⟩ : ∃ y : Nat, x = y := ⟨x.toNat, by omega⟩
  obtain ⟨T, rfl⟩ : ∃ y : Nat, t = y := ⟨t.toNat, by omega⟩
  by_cases hs : s.size ≤ 64
  · exact walkN y s T W (Lib.hid (by omega)) hs (by omega) hL.1 hL.2
  · exact far y s T W hs hL.1 hL.2
end LawPrgParts
end Go.Proofs.YtmjbbaekdbiopaaDoor
