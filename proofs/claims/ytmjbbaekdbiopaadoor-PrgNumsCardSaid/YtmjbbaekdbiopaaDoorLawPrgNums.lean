/- The walk of the law PrgNums: true whatever comes. Conditions: errors.errorType and sha.k read as laid. -/
import Derived.Test.YtmjbbaekdbiopaaDoorPkQ
import Derived.Test.YtmjbbaekdbiopaaDoorSure07
import Derived.Test.YtmjbbaekdbiopaaDoorLaidS
namespace Go.Proofs.YtmjbbaekdbiopaaDoor
open Go.RowKit Go.Lib
namespace LawPrgNums
open SlR Sh Sp Mc Pg
theorem box {k : IntKind} {w : World} {g : Nat} {p q : Int} (h : Row k w (some ⟨g, 0, none⟩) [p, q]) : w.cell? ⟨g, 0, none⟩ = some (.int k p) ∧ w.cell? ⟨g, 1, none⟩ = some (.int k q) := by
  obtain ⟨a, e1, _, h1⟩ := h 0 p rfl
  obtain ⟨b, e2, _, h2⟩ := h 1 q rfl
  injection e1 with e1; injection e2 with e2
  subst e1; subst e2
  exact ⟨by simpa [Addr.add] using h1, by simpa [Addr.add] using h2⟩
set_option maxHeartbeats 6400000 in
set_option maxRecDepth 1000000 in
theorem far (x : Int) (s : ByteArray) (p q : Int) (W : World) (h : ¬ s.size ≤ 300) (hA : ErrAs.Laid W) (hL : LaidK W) :
    Calls Tryd.prog 7 #[.int .u64 x, .string s, .agg #[.int .i64 p, .int .i64 q]] W fun e w' => e = .returned (.bool true) ∧ Step W w' := by
  have h1 : ¬ (s.size : Int) ≤ 300 := by omega
  clear h
  go_enter Tryd.func7, Tryd.ntmps7
  go_wp2_with (go_at_call 45; ((with_reducible refine (sure_any _ hA.to hL.to).mono ?_); rintro e w7 ⟨rfl, S7⟩))
  go_ret
  exact ⟨rfl, Step.of inferInstance⟩
set_option maxHeartbeats 12800000 in
set_option maxRecDepth 1000000 in
theorem walkN (x : Nat) (s : ByteArray) (p q : Int) (W : World) (hx : Hid (x < 18446744073709551616)) (hs : s.size ≤ 300) (hA : ErrAs.Laid W) (hL : LaidK W) :
    Calls Tryd.prog 7 #[.int .u64 x, .string s, .agg #[.int .i64 p, .int .i64 q]] W fun e w' => e = .returned (.bool true) ∧ Step W w' := by
  have hsI : (s.size : Int) ≤ 300 := by omega
  have RB : Row .i64 (W.alloc (.cells #[.int .i64 p, .int .i64 q] 56 (0, 0))) (some ⟨W.heap.size, 0, none⟩) [p, q] := Row.lit2 W _ _ p q rfl
  have hk := box RB
  obtain ⟨hk0, hk1⟩ := hk
  have nE := fun (w : World) h => Num07.some_ 1 w h
  have dU := fun (w : World) h1 h2 => sure_any w h1 h2
  have dE : ∀ w : World, Calls Tryd.prog 29 #[.slice none 0 0, .slice none 0 0] w fun e w' => e = .returned (.bool true) ∧ Step w w' := fun w => rsame none none 0 0 0 0 [] [] w rfl rfl Row.nil Row.nil (by omega) (by omega) true (by simp)
  have HW : lab s = true → (∃ n : Nat, ∃ X : List Nat, p = n ∧ (∀ w : World, LaidK w → Calls Tryd.prog 46 #[.int .u64 x, .string s, .int .i64 n] w fun e w' => ∃ g, e = .returned (.tuple #[.slice (some ⟨g, 0, none⟩) n n, .nilIface]) ∧ R32 w' (some ⟨g, 0, none⟩) X ∧ Step w w') ∧ (∀ w : World, Calls Tryd.prog 47 #[.int .u64 x, .string s, .int .i64 n] w fun e w' => ∃ A c, e = .returned (.tuple #[.slice A n c, .bool true]) ∧ R32 w' A X ∧ Step w w') ∧ (∀ A c D d (w : World), R32 w A X → R32 w D X → Calls Tryd.prog 29 #[.slice A n c, .slice D n d] w fun e w' => e = .returned (.bool true) ∧ Step w w')) ∨ ((∀ w : World, Calls Tryd.prog 46 #[.int .u64 x, .string s, .int .i64 p] w fun e w' => e = .returned (.tuple #[.slice none 0 0, .iface 68 (.int .i64 1)]) ∧ Step w w') ∧ (∀ w : World, Calls Tryd.prog 47 #[.int .u64 x, .string s, .int .i64 p] w fun e w' => e = .returned (.tuple #[.slice none 0 0, .bool false]) ∧ Step w w')) := fun hl => by
    by_cases h : 0 ≤ p ∧ p ≤ 32
    · obtain ⟨n, rfl⟩ : ∃ n : Nat, p = n := ⟨p.toNat, by omega⟩
      exact .inl ⟨n, wsP x s n, rfl, fun w h' => words_yes x s n w hx hl (by omega) h', fun w => rwords_yes x s n w hx hl (by omega), fun A c D d w h1 h2 => rsame A D c d n n _ _ w (wsP_len _ _ _) (wsP_len _ _ _) h1 h2 (by omega) (by omega) true (by simp)⟩
    · exact .inr ⟨fun w => words_no x s p w (by omega), fun w => rwords_no x s p w (by omega) (by omega)⟩
  have HN : lab s = true → (∃ n r : Nat, q = n ∧ (∀ w : World, LaidK w → Calls Tryd.prog 48 #[.int .u64 x, .string s, .int .i64 n] w fun e w' => e = .returned (.tuple #[.int .u64 r, .nilIface]) ∧ Step w w') ∧ (∀ w : World, Calls Tryd.prog 49 #[.int .u64 x, .string s, .int .i64 n] w fun e w' => e = .returned (.tuple #[.int .u64 r, .bool true]) ∧ Step w w')) ∨ ((∀ w : World, Calls Tryd.prog 48 #[.int .u64 x, .string s, .int .i64 q] w fun e w' => e = .returned (.tuple #[.int .u64 0, .iface 68 (.int .i64 1)]) ∧ Step w w') ∧ (∀ w : World, Calls Tryd.prog 49 #[.int .u64 x, .string s, .int .i64 q] w fun e w' => e = .returned (.tuple #[.int .u64 0, .bool false]) ∧ Step w w')) := fun hl => by
    by_cases h : 0 ≤ q ∧ q ≤ 1048576
    · obtain ⟨n, rfl⟩ : ∃ n : Nat, q = n := ⟨q.toNat, by omega⟩
      exact .inl ⟨n, numP x s n, rfl, fun w h' => num_yes x s n w hx hl (by omega) h', fun w => rnum_yes x s n w hx hl (by omega)⟩
    · exact .inr ⟨fun w => num_no x s q w (by omega), fun w => rnum_no x s q w (by omega) (by omega)⟩
  cases hl : lab s
  · have nW : ∀ w : World, Calls Tryd.prog 46 #[.int .u64 x, .string s, .int .i64 p] w fun e w' => e = .returned (.tuple #[.slice none 0 0, .iface 68 (.int .i64 1)]) ∧ Step w w' := fun w => words_no x s p w (.inl hl)
    have mW := fun w : World => rwords_no x s p w (by omega) (.inl hl)
    have nN : ∀ w : World, Calls Tryd.prog 48 #[.int .u64 x, .string s, .int .i64 q] w fun e w' => e = .returned (.tuple #[.int .u64 0, .iface 68 (.int .i64 1)]) ∧ Step w w' := fun w => num_no x s q w (.inl hl)
    have mN := fun w : World => rnum_no x s q w (by omega) (.inl hl)
    have nC : ∀ w : World, Calls Tryd.prog 50 #[.int .u64 x, .string s] w fun e w' => e = .returned (.tuple #[.int .u64 0, .iface 68 (.int .i64 1)]) ∧ Step w w' := fun w => child_no x s w hl
    have mC := fun w : World => rnum_no x s 0 w (by omega) (.inl hl)
    clear HW HN hl hs hx
    go_enter Tryd.func7, Tryd.ntmps7
    go_wp2_with (first
      | (go_at_call 46; ((with_reducible refine (nW _).mono ?_); rintro e w1 ⟨rfl, S1⟩; have hk := box (RB.to (w' := w1)); obtain ⟨hk0, hk1⟩ := hk))
      | (go_at_call 47; ((with_reducible refine (mW _).mono ?_); rintro e w2 ⟨rfl, S2⟩; have hk := box (RB.to (w' := w2)); obtain ⟨hk0, hk1⟩ := hk))
      | (go_at_call 48; ((with_reducible refine (nN _).mono ?_); rintro e w3 ⟨rfl, S3⟩; have hk := box (RB.to (w' := w3)); obtain ⟨hk0, hk1⟩ := hk))
      | (go_at_call 49; ((with_reducible refine (mN _).mono ?_); rintro e w4 ⟨rfl, S4⟩; clear mN))
      | (go_at_call 50; ((with_reducible refine (nC _).mono ?_); rintro e w5 ⟨rfl, S5⟩))
      | (go_at_call 49; ((with_reducible refine (mC _).mono ?_); rintro e w6 ⟨rfl, S6⟩))
      | (go_at_call 29; ((with_reducible refine (dE _).mono ?_); rintro e w7 ⟨rfl, S7⟩))
      | (go_at_call 51; ((with_reducible refine (nE _ hA.to).mono ?_); rintro e w8 ⟨rfl, S8⟩))
      | (go_at_call 45; ((with_reducible refine (dU _ hA.to hL.to).mono ?_); rintro e w9 ⟨rfl, S9⟩)))
    go_ret
    exact ⟨rfl, Step.of inferInstance⟩
  · obtain ⟨r0, dC, rC⟩ : ∃ r : Nat, (∀ w : World, LaidK w → Calls Tryd.prog 50 #[.int .u64 x, .string s] w fun e w' => e = .returned (.tuple #[.int .u64 r, .nilIface]) ∧ Step w w') ∧ (∀ w : World, Calls Tryd.prog 49 #[.int .u64 x, .string s, .int .i64 0] w fun e w' => e = .returned (.tuple #[.int .u64 r, .bool true]) ∧ Step w w') := ⟨numP x s 0, fun w h => child_yes x s w hx hl h, fun w => rnum_yes x s 0 w hx hl (by omega)⟩
    have HW := HW hl
    have HN := HN hl
    clear hl hs hx
    rcases HW with ⟨n, X, rfl, dW, rW, dS⟩ | ⟨nW, mW⟩ <;> rcases HN with ⟨m, r, rfl, dN, rN⟩ | ⟨nN, mN⟩
    all_goals
      go_enter Tryd.func7, Tryd.ntmps7
      go_wp2_with (first
        | (go_at_call 46; ((with_reducible refine (nW _).mono ?_); rintro e w1 ⟨rfl, S1⟩; have hk := box (RB.to (w' := w1)); obtain ⟨hk0, hk1⟩ := hk))
        | (go_at_call 46; ((with_reducible refine (dW _ hL.to).mono ?_); rintro e w1 ⟨g1, rfl, R1, S1⟩; have hk := box (RB.to (w' := w1)); obtain ⟨hk0, hk1⟩ := hk))
        | (go_at_call 47; ((with_reducible refine (mW _).mono ?_); rintro e w2 ⟨rfl, S2⟩; have hk := box (RB.to (w' := w2)); obtain ⟨hk0, hk1⟩ := hk))
        | (go_at_call 47; ((with_reducible refine (rW _).mono ?_); rintro e w2 ⟨A2, c2, rfl, R2, S2⟩; have hk := box (RB.to (w' := w2)); obtain ⟨hk0, hk1⟩ := hk))
        | (go_at_call 48; ((with_reducible refine (nN _).mono ?_); rintro e w3 ⟨rfl, S3⟩; have hk := box (RB.to (w' := w3)); obtain ⟨hk0, hk1⟩ := hk))
        | (go_at_call 48; ((with_reducible refine (dN _ hL.to).mono ?_); rintro e w3 ⟨rfl, S3⟩; have hk := box (RB.to (w' := w3)); obtain ⟨hk0, hk1⟩ := hk))
        | (go_at_call 49; ((with_reducible refine (mN _).mono ?_); rintro e w4 ⟨rfl, S4⟩; clear mN))
        | (go_at_call 49; ((with_reducible refine (rN _).mono ?_); rintro e w4 ⟨rfl, S4⟩; clear rN))
        | (go_at_call 50; ((with_reducible refine (dC _ hL.to).mono ?_); rintro e w5 ⟨rfl, S5⟩))
        | (go_at_call 49; ((with_reducible refine (rC _).mono ?_); rintro e w6 ⟨rfl, S6⟩))
        | (go_at_call 29; ((with_reducible refine (dE _).mono ?_); rintro e w7 ⟨rfl, S7⟩))
        | (go_at_call 29; ((with_reducible refine (dS _ _ _ _ _ R1.to R2.to).mono ?_); rintro e w7 ⟨rfl, S7⟩))
        | (go_at_call 51; ((with_reducible refine (nE _ hA.to).mono ?_); rintro e w8 ⟨rfl, S8⟩))
        | (go_at_call 45; ((with_reducible refine (dU _ hA.to hL.to).mono ?_); rintro e w9 ⟨rfl, S9⟩)))
      go_ret
      exact ⟨rfl, Step.of inferInstance⟩
theorem walk (x : Int) (s : ByteArray) (of : List Int) (W : World) (hx : 0 ≤ x ∧ x ≤ 18446744073709551615) (hof : of.length = 2) (_hbo : ∀ z ∈ of, -9223372036854775808 ≤ z ∧ z < 9223372036854775808) (hL : LaidX.LaidS W) :
    Calls Tryd.prog 7 #[.int .u64 x, .string s, .agg (of.map (Value.int .i64)).toArray] W fun e w' => e = .returned (.bool true) ∧ Step W w' := by
  obtain ⟨p, q, rfl⟩ : ∃ p q, of = [p, q] := by
    match of, hof with
    | [p, q], _ => exact ⟨p, q, rfl⟩
  obtain ⟨y, rfl⟩ : ∃ y : Nat, x = y := ⟨x.toNat, by omega⟩
  by_cases hs : s.size ≤ 300
  · exact walkN y s p q W (Lib.hid (by omega)) hs hL.1 hL.2
  · exact far y s p q W hs hL.1 hL.2
end LawPrgNums
end Go.Proofs.YtmjbbaekdbiopaaDoor
