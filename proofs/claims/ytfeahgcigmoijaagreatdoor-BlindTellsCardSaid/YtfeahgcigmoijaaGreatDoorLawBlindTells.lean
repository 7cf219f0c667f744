/- The walk of the law BlindTells: true whatever comes. Conditions: errors.errorType and sha.k read as laid. -/
import Derived.Test.YtfeahgcigmoijaaGreatDoorRef10D
import Derived.Test.YtfeahgcigmoijaaGreatDoorSure10
import Derived.Test.YtfeahgcigmoijaaGreatDoorGiveP10
import Derived.Test.YtfeahgcigmoijaaGreatDoorLaidS
import Derived.Deep.RegionHeld3
import Derived.OpenShut
namespace Go.Proofs.YtfeahgcigmoijaaGreatDoor
open Go.RowKit Go.Lib
namespace LawBlindTells
open SlR Sh Sp Mc Pg VecC VecE Pe Bl Mp
theorem new_at (w : World) (cs : Array Value) (t : TypeId) (H j : Nat) (v : Value) (hH : w.heap.size = H) (h : cs[j]? = some v) : (w.alloc (.cells cs t (0, 0))).cell? ⟨H, j, none⟩ = some v := by
  subst hH
  rw [cell_of_row _ _ j _ _ (0, 0) (heap_alloc_new w _)]; exact h
section
variable (me s k dim : Int) (A1 A2 A3 A4 : Option Addr) (n1 c1 n2 c2 n3 c3 n4 c4 : Nat)
/-- What is asked for. -/
abbrev askC : Array Value := #[.int .i64 me, .slice A1 n1 c1, .int .u64 s, .int .u64 k, .slice A2 n2 c2, .slice A3 n3 c3, .slice A4 n4 c4, .int .i64 dim]
set_option maxHeartbeats 6400000 in
set_option maxRecDepth 1000000 in
theorem far (A : Option Addr) (n c : Nat) (W : World) (h : 20 < n ∨ 100 < n1 ∨ 40 < n2 ∨ 40 < n3 ∨ 40 < n4) (hA : ErrAs.Laid W) (hL : LaidK W) :
    Calls Tryz.prog 3 #[.agg (askC me s k dim A1 A2 A3 A4 n1 c1 n2 c2 n3 c3 n4 c4), .slice A n c] W fun e w' => e = .returned (.bool true) ∧ Step W w' := by
  have g1 := new_at W (askC me s k dim A1 A2 A3 A4 n1 c1 n2 c2 n3 c3 n4 c4) 27 _ 1 _ rfl rfl
  have g4 := new_at W (askC me s k dim A1 A2 A3 A4 n1 c1 n2 c2 n3 c3 n4 c4) 27 _ 4 _ rfl rfl
  have g5 := new_at W (askC me s k dim A1 A2 A3 A4 n1 c1 n2 c2 n3 c3 n4 c4) 27 _ 5 _ rfl rfl
  have g6 := new_at W (askC me s k dim A1 A2 A3 A4 n1 c1 n2 c2 n3 c3 n4 c4) 27 _ 6 _ rfl rfl
  rcases (by omega : (20 : Int) < n ∨ (¬ (20 : Int) < n ∧ (100 : Int) < n1) ∨ (¬ (20 : Int) < n ∧ ¬ (100 : Int) < n1 ∧ (40 : Int) < n2) ∨ (¬ (20 : Int) < n ∧ ¬ (100 : Int) < n1 ∧ ¬ (40 : Int) < n2 ∧ (40 : Int) < n3) ∨ (¬ (20 : Int) < n ∧ ¬ (100 : Int) < n1 ∧ ¬ (40 : Int) < n2 ∧ ¬ (40 : Int) < n3 ∧ (40 : Int) < n4)) with h1 | ⟨h0, h1⟩ | ⟨h00, h0, h1⟩ | ⟨h000, h00, h0, h1⟩ | ⟨h0000, h000, h00, h0, h1⟩
  all_goals
    clear h
    go_enter Tryz.func3, Tryz.ntmps3
    go_wp2_with (go_at_call 4; ((with_reducible refine (sure_any _ hA.to hL.to).mono ?_); rintro e w7 ⟨rfl, S7⟩))
    go_ret
    exact ⟨rfl, Step.of inferInstance⟩
end
set_option maxHeartbeats 25600000 in
set_option maxRecDepth 1000000 in
theorem core (me dim : Int) (s k : Nat) (A1 A2 A3 A4 : Option Addr) (n1 c1 n2 c2 n3 c3 n4 c4 : Nat) (x cm : List Int) (sl kl : List (Int × Nat)) (A : Option Addr) (n c : Nat) (ps : List (Int × Nat)) (W : World) (hn : ps.length = n) (hnb : n ≤ 20) (hb1 : n1 ≤ 100) (hb2 : n2 ≤ 40) (hb3 : n3 ≤ 40) (hb4 : n4 ≤ 40)
    (hr : RowQ W A ps) (h64 : Hid (Q64 ps)) (hx : R n1 x) (hX : Row .u32 W A1 x) (hcm : cm.length = n2) (hC : Row .i64 W A2 cm) (hsl : sl.length = n3) (hS : RowQ W A3 sl) (hkl : kl.length = n4) (hK : RowQ W A4 kl)
    (hsI : Hid (∀ j, I64 (sl.getD j (0, 0)).1)) (hs6 : Hid (Q64 sl)) (hkI : Hid (∀ j, I64 (kl.getD j (0, 0)).1)) (hk6 : Hid (Q64 kl)) (hsF : Hid (∀ i, (lastF sl i).getD 0 < 18446744073709551616)) (hkF : Hid (∀ i, (lastF kl i).getD 0 < 18446744073709551616))
    (hs : Hid (s < 18446744073709551616)) (hk : Hid (k < 18446744073709551616)) (hA : ErrAs.Laid W) (hL : LaidK W) :
    Calls Tryz.prog 3 #[.agg (askC me s k dim A1 A2 A3 A4 n1 c1 n2 c2 n3 c3 n4 c4), .slice A n c] W fun e w' => e = .returned (.bool true) ∧ Step W w' := by
  have g0 := new_at W (askC me s k dim A1 A2 A3 A4 n1 c1 n2 c2 n3 c3 n4 c4) 27 _ 0 _ rfl rfl
  have g1 := new_at W (askC me s k dim A1 A2 A3 A4 n1 c1 n2 c2 n3 c3 n4 c4) 27 _ 1 _ rfl rfl
  have g2 := new_at W (askC me s k dim A1 A2 A3 A4 n1 c1 n2 c2 n3 c3 n4 c4) 27 _ 2 _ rfl rfl
  have g3 := new_at W (askC me s k dim A1 A2 A3 A4 n1 c1 n2 c2 n3 c3 n4 c4) 27 _ 3 _ rfl rfl
  have g4 := new_at W (askC me s k dim A1 A2 A3 A4 n1 c1 n2 c2 n3 c3 n4 c4) 27 _ 4 _ rfl rfl
  have g5 := new_at W (askC me s k dim A1 A2 A3 A4 n1 c1 n2 c2 n3 c3 n4 c4) 27 _ 5 _ rfl rfl
  have g6 := new_at W (askC me s k dim A1 A2 A3 A4 n1 c1 n2 c2 n3 c3 n4 c4) 27 _ 6 _ rfl rfl
  have g7 := new_at W (askC me s k dim A1 A2 A3 A4 n1 c1 n2 c2 n3 c3 n4 c4) 27 _ 7 _ rfl rfl
  have cG := fun (w : World) (h : RowQ w A ps) => GiveP10.give_any A c n ps w hn (by omega) h
  have cMS := fun (w : World) (h : RowQ w A3 sl) => nums_any A3 c3 n3 sl w hsl (by omega) h hsI hs6
  have cMK := fun (w : World) (h : RowQ w A4 kl) => nums_any A4 c4 n4 kl w hkl (by omega) h hkI hk6
  obtain ⟨r, U, g, h, hU, cU, rU, cN⟩ := open_both A2 A A3 A4 c2 c c3 c4 n2 n n3 n4 dim cm ps sl kl hcm (by omega) hn (by omega) hsl (by omega) hkl (by omega) hsF hkF
  have dS := fun (A D : Option Addr) (c d : Nat) (w : World) h1 h2 => Ref02.same A D c d r r U U w hU.1 hU.1 h1 h2 (by omega) (by omega) true (by simp)
  have nE := fun (w : World) h => Num10.some_ 1 w h
  have dU := fun (w : World) h1 h2 => sure_any w h1 h2
  have dE : ∀ w : World, Calls Tryz.prog 13 #[.slice none 0 0, .slice none 0 0] w fun e w' => e = .returned (.bool true) ∧ ∃ t, w' = w.drewN t := fun w => Ref02.same none none 0 0 0 0 [] [] w rfl rfl Row.nil Row.nil (by omega) (by omega) true (by simp)
  have HR : (∃ X : List Int, (∀ (P : Option Addr) (p : Nat) (w : World), Row .u32 w A1 x → RowQ w P ps → LaidK w → Calls Tryz.prog 5 #[.slice A1 n1 c1, .int .i64 me, .int .u64 s, .int .u64 k, .slice P n p] w fun e w' => ∃ A' c', e = .returned (.tuple #[.slice A' n1 c', .nilIface]) ∧ Row .u32 w' A' X ∧ Step w w') ∧
        (∀ w : World, Row .u32 w A1 x → RowQ w A ps → Calls Tryz.prog 7 #[.slice A1 n1 c1, .int .i64 me, .int .u64 s, .int .u64 k, .slice A n c] w fun e w' => ∃ A' c', e = .returned (.tuple #[.slice A' n1 c', .bool true]) ∧ Row .u32 w' A' X ∧ Step w w') ∧
        (∀ A c D d (w : World), Row .u32 w A X → Row .u32 w D X → Calls Tryz.prog 13 #[.slice A n1 c, .slice D n1 d] w fun e w' => e = .returned (.bool true) ∧ ∃ t, w' = w.drewN t)) ∨
      ((∀ (P : Option Addr) (p : Nat) (w : World), RowQ w P ps → LaidK w → Calls Tryz.prog 5 #[.slice A1 n1 c1, .int .i64 me, .int .u64 s, .int .u64 k, .slice P n p] w fun e w' => e = .returned (.tuple #[.slice none 0 0, .iface 77 (.int .i64 1)]) ∧ Step w w') ∧
        (∀ w : World, RowQ w A ps → Calls Tryz.prog 7 #[.slice A1 n1 c1, .int .i64 me, .int .u64 s, .int .u64 k, .slice A n c] w fun e w' => e = .returned (.tuple #[.slice none 0 0, .bool false]) ∧ Step w w')) := by
    by_cases h : n1 ≤ 32 ∧ mayF 0 ps = true ∧ isIn me ps = true
    · obtain ⟨h1, h2, h3⟩ := h
      have hBl : (rowB n1 x me s k ps).length = n1 := by
        rw [rowB_eq hx]
        exact (R.add (n := n1) (R.add (n := n1) hx.1 (oN_R n1 s).1).1 (rowP_R (fun s => (wN_R n1 s).1) me k ps).1).1
      exact .inl ⟨rowB n1 x me s k ps, fun P p w q1 q2 q3 => (brow_yes A1 P c1 p n1 n x me s k ps w hx.1 h1 hs hk hn (by omega) q1 q2 h64 (Lib.hid h2) (Lib.hid h3) q3).mono fun e w' ⟨A', c', e1, e2, e3⟩ => ⟨A', c', e1, Hdr.RowU.row e2, e3⟩,
        fun w q1 q2 => drow_yes A1 A c1 c n1 n x me s k ps w hx h1 hs hk hn (by omega) q1 q2 h64 (Lib.hid h2) (Lib.hid h3),
        fun A c D d w q1 q2 => Ref02.same A D c d n1 n1 _ _ w hBl hBl q1 q2 (by omega) (by omega) true (by simp)⟩
    · have h' : 32 < n1 ∨ mayF 0 ps = false ∨ isIn me ps = false := by
        by_cases h1 : n1 ≤ 32
        · cases h2 : mayF 0 ps
          · exact .inr (.inl rfl)
          · cases h3 : isIn me ps
            · exact .inr (.inr rfl)
            · exact absurd ⟨h1, h2, h3⟩ h
        · exact .inl (by omega)
      exact .inr ⟨fun P p w q1 q2 => brow_no A1 P c1 p n1 n me s k ps w hs hn (by omega) q1 q2 h', fun w q1 => drow_no A1 A c1 c n1 n me s k ps w hs hk hn (by omega) q1 h64 h'⟩
  have HO : (∃ (q : Nat) (O : List Int), (∀ w : World, LaidK w → Calls Tryz.prog 8 #[.int .u64 s, .int .i64 dim] w fun e w' => ∃ A' c', e = .returned (.tuple #[.slice A' q c', .nilIface]) ∧ Row .u32 w' A' O ∧ Step w w') ∧
        (∀ w : World, Calls Tryz.prog 9 #[.int .u64 s, .string ⟨#[111, 119, 110]⟩, .int .i64 dim] w fun e w' => ∃ A' c', e = .returned (.tuple #[.slice A' q c', .bool true]) ∧ Row .u32 w' A' O ∧ Step w w') ∧
        (∀ A c D d (w : World), Row .u32 w A O → Row .u32 w D O → Calls Tryz.prog 13 #[.slice A q c, .slice D q d] w fun e w' => e = .returned (.bool true) ∧ ∃ t, w' = w.drewN t)) ∨
      ((∀ w : World, Calls Tryz.prog 8 #[.int .u64 s, .int .i64 dim] w fun e w' => e = .returned (.tuple #[.slice none 0 0, .iface 77 (.int .i64 1)]) ∧ Step w w') ∧
        (∀ w : World, Calls Tryz.prog 9 #[.int .u64 s, .string ⟨#[111, 119, 110]⟩, .int .i64 dim] w fun e w' => e = .returned (.tuple #[.slice none 0 0, .bool false]) ∧ Step w w')) := by
    by_cases h : 0 ≤ dim ∧ dim ≤ 32
    · obtain ⟨q, rfl⟩ : ∃ q : Nat, dim = q := ⟨dim.toNat, by omega⟩
      exact .inl ⟨q, oN q s, fun w q1 => own_yes s q w hs (by omega) q1, fun w => (rwords_yes s own q w hs lab_own (by omega)).mono fun e w' ⟨A', c', e1, e2, e3⟩ => ⟨A', c', e1, e2, e3⟩,
        fun A c D d w q1 q2 => Ref02.same A D c d q q _ _ w (oN_R q s).1 (oN_R q s).1 q1 q2 (by omega) (by omega) true (by simp)⟩
    · exact .inr ⟨fun w => own_no s dim w (by omega), fun w => rwords_no s own dim w (by decide) (.inr (by omega))⟩
  have f1 : ¬ (20 : Int) < n := by omega
  have f2 : ¬ (100 : Int) < n1 := by omega
  have f3 : ¬ (40 : Int) < n2 := by omega
  have f4 : ¬ (40 : Int) < n3 := by omega
  have f5 : ¬ (40 : Int) < n4 := by omega
  obtain ⟨w0, hw0⟩ : ∃ y, y = W.alloc (.cells #[.int .i64 me, .slice A1 n1 c1, .int .u64 s, .int .u64 k, .slice A2 n2 c2, .slice A3 n3 c3, .slice A4 n4 c4, .int .i64 dim] 27 (0, 0)) := ⟨_, rfl⟩
  have S0 : Step W w0 := by rw [hw0]; exact Step.of inferInstance
  have k0 : w0.cell? ⟨W.heap.size, 0, none⟩ = some (.int .i64 me) := hw0 ▸ g0
  have k1 : w0.cell? ⟨W.heap.size, 1, none⟩ = some (.slice A1 n1 c1) := hw0 ▸ g1
  have k2 : w0.cell? ⟨W.heap.size, 2, none⟩ = some (.int .u64 s) := hw0 ▸ g2
  have k3 : w0.cell? ⟨W.heap.size, 3, none⟩ = some (.int .u64 k) := hw0 ▸ g3
  have k4 : w0.cell? ⟨W.heap.size, 4, none⟩ = some (.slice A2 n2 c2) := hw0 ▸ g4
  have k5 : w0.cell? ⟨W.heap.size, 5, none⟩ = some (.slice A3 n3 c3) := hw0 ▸ g5
  have k6 : w0.cell? ⟨W.heap.size, 6, none⟩ = some (.slice A4 n4 c4) := hw0 ▸ g6
  have k7 : w0.cell? ⟨W.heap.size, 7, none⟩ = some (.int .i64 dim) := hw0 ▸ g7
  have H0 := Lib.hid hw0
  clear hw0 hn hnb hb1 hb2 hb3 hb4 hx hcm hsl hkl hsI hs6 hkI hk6 hsF hkF hs hk h64 hU
  rcases HR with ⟨X, dR, rR, sR⟩ | ⟨nR, mR⟩ <;> rcases HO with ⟨q, O, dO, rO, sO⟩ | ⟨nO, mO⟩
  all_goals
    go_enter Tryz.func3, Tryz.ntmps3
    go_wp2_with (fail)
    rw [← H0.out]
    go_region_held3 (fun w' => w'.cell? ⟨W.heap.size, 0, none⟩ = some (.int .i64 me) ∧ w'.cell? ⟨W.heap.size, 1, none⟩ = some (.slice A1 n1 c1) ∧ w'.cell? ⟨W.heap.size, 2, none⟩ = some (.int .u64 s) ∧ w'.cell? ⟨W.heap.size, 3, none⟩ = some (.int .u64 k) ∧ Step w0 w')
      (exact ⟨cellT k0, cellT k1, cellT k2, cellT k3, Step.of inferInstance⟩)
      (first
        | (go_at_call 6; ((with_reducible refine (cG _ hr.to).mono ?_); rintro e w1 ⟨P1, p1, rfl, R1, S1⟩))
        | (go_at_call 5; ((with_reducible refine (dR _ _ _ hX.to R1.to hL.to).mono ?_); rintro e w2 ⟨B2, b2, rfl, R2, S2⟩))
        | (go_at_call 5; ((with_reducible refine (nR _ _ _ R1.to hL.to).mono ?_); rintro e w2 ⟨rfl, S2⟩)))
    rename_i hH
    clear hH
    have l0 := cellT k0 (w' := w2)
    have l1 := cellT k1 (w' := w2)
    have l2 := cellT k2 (w' := w2)
    have l3 := cellT k3 (w' := w2)
    clear g0 g1 g2 g3 g4 g5 g6 g7
    go_wp2_with (first
      | (go_at_call 7; ((with_reducible refine (rR _ hX.to hr.to).mono ?_); rintro e w3 ⟨B3, b3, rfl, R3, S3⟩; have m2 := cellT k2 (w' := w3); have m7 := cellT k7 (w' := w3)))
      | (go_at_call 7; ((with_reducible refine (mR _ hr.to).mono ?_); rintro e w3 ⟨rfl, S3⟩; have m2 := cellT k2 (w' := w3); have m7 := cellT k7 (w' := w3)))
      | (go_at_call 8; ((with_reducible refine (dO _ hL.to).mono ?_); rintro e w4 ⟨B4, b4, rfl, R4, S4⟩; have o2 := cellT k2 (w' := w4); have o7 := cellT k7 (w' := w4)))
      | (go_at_call 8; ((with_reducible refine (nO _).mono ?_); rintro e w4 ⟨rfl, S4⟩; have o2 := cellT k2 (w' := w4); have o7 := cellT k7 (w' := w4)))
      | (go_at_call 9; ((with_reducible refine (rO _).mono ?_); rintro e w5 ⟨B5, b5, rfl, R5, S5⟩))
      | (go_at_call 9; ((with_reducible refine (mO _).mono ?_); rintro e w5 ⟨rfl, S5⟩)))
    clear l0 l1 l2 l3 m2 m7 o2 o7
    go_region_held3 (fun w' => w'.cell? ⟨W.heap.size, 4, none⟩ = some (.slice A2 n2 c2) ∧ w'.cell? ⟨W.heap.size, 5, none⟩ = some (.slice A3 n3 c3) ∧ w'.cell? ⟨W.heap.size, 6, none⟩ = some (.slice A4 n4 c4) ∧ w'.cell? ⟨W.heap.size, 7, none⟩ = some (.int .i64 dim) ∧ Step w0 w')
      (exact ⟨cellT k4, cellT k5, cellT k6, cellT k7, Step.of inferInstance⟩)
      (first
        | (go_at_call 6; ((with_reducible refine (cG _ hr.to).mono ?_); rintro e w6 ⟨P6, p6, rfl, R6, S6⟩))
        | (go_at_call 11; ((with_reducible refine (cMS _ hS.to).mono ?_); rintro e w7 ⟨mv, rfl, M7, S7⟩))
        | (go_at_call 11; ((with_reducible refine (cMK _ hK.to).mono ?_); rintro e w8 ⟨mk, rfl, M8, S8⟩))
        | (go_at_call 10; ((with_reducible refine (cU _ _ _ _ _ hC.to R6.to M7.to M8.to hL.to).mono ?_); rintro e w9 ⟨B9, b9, rfl, R9, S9⟩)))
    rename_i hH
    clear hH
    have l4 := cellT k4 (w' := w9)
    have l5 := cellT k5 (w' := w9)
    have l6 := cellT k6 (w' := w9)
    have l7 := cellT k7 (w' := w9)
    go_wp2_with (first
      | (go_at_call 12; ((with_reducible refine (rU _ hC.to hr.to hS.to hK.to).mono ?_); rintro e w10 ⟨B10, b10, rfl, R10, S10⟩))
      | (go_at_call 13; ((with_reducible refine (sR _ _ _ _ _ R2.to R3.to).mono ?_); rintro e w' ⟨rfl, t1, rfl⟩))
      | (go_at_call 13; ((with_reducible refine (sO _ _ _ _ _ R4.to R5.to).mono ?_); rintro e w' ⟨rfl, t2, rfl⟩))
      | (go_at_call 13; ((with_reducible refine (dE _).mono ?_); rintro e w' ⟨rfl, t3, rfl⟩))
      | (go_at_call 13; ((with_reducible refine (dS _ _ _ _ _ R9.to R10.to).mono ?_); rintro e w' ⟨rfl, t4, rfl⟩))
      | (go_at_call 14; ((with_reducible refine (nE _ hA.to).mono ?_); rintro e w' ⟨rfl, S11⟩))
      | (go_at_call 14; ((with_reducible refine (cN _ hA.to).mono ?_); rintro e w' ⟨rfl, S12⟩))
      | (go_at_call 4; ((with_reducible refine (dU _ hA.to hL.to).mono ?_); rintro e w13 ⟨rfl, S13⟩)))
    go_ret
    exact ⟨rfl, Step.of inferInstance⟩
end LawBlindTells
end Go.Proofs.YtfeahgcigmoijaaGreatDoor
