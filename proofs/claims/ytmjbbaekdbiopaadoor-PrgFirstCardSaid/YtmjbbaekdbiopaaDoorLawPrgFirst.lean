/- The walk of the law PrgFirst: true whatever comes. Conditions: errors.errorType and sha.k read as laid. -/
import Derived.Test.YtmjbbaekdbiopaaDoorSure07
import Derived.Test.YtmjbbaekdbiopaaDoorLaidS
namespace Go.Proofs.YtmjbbaekdbiopaaDoor
open Go.RowKit Go.Lib
namespace LawPrgFirst
open SlR Sh Sp Mc Pg
theorem box {k : IntKind} {w : World} {g : Nat} {p q : Int} (h : Row k w (some ⟨g, 0, none⟩) [p, q]) : w.cell? ⟨g, 0, none⟩ = some (.int k p) ∧ w.cell? ⟨g, 1, none⟩ = some (.int k q) := by
  obtain ⟨a, e1, _, h1⟩ := h 0 p rfl
  obtain ⟨b, e2, _, h2⟩ := h 1 q rfl
  injection e1 with e1; injection e2 with e2
  subst e1; subst e2
  exact ⟨by simpa [Addr.add] using h1, by simpa [Addr.add] using h2⟩
theorem wsP_take (x : Nat) (s : ByteArray) (n m : Nat) (h : m ≤ n) : (wsP x s n).take m = wsP x s m := by
  unfold wsP
  rw [← List.map_take, List.take_range, Nat.min_eq_left h]
theorem front {k : IntKind} {w : World} {A : Option Addr} {X : List Nat} (h : Row k w A (NL X)) (m : Nat) : Row k w A (NL (X.take m)) := by
  have := Rd.front h m
  unfold Row NL at *
  rwa [List.map_take]
/-- Is it of the field? -/
def LtP (r : Nat) : Prop := r < 2305843009213693951
set_option maxHeartbeats 6400000 in
set_option maxRecDepth 1000000 in
theorem far (x : Int) (s : ByteArray) (p q : Int) (W : World) (h : ¬ s.size ≤ 64) (hA : ErrAs.Laid W) (hL : LaidK W) :
    Calls Tryd.prog 8 #[.int .u64 x, .string s, .agg #[.int .u8 p, .int .u8 q]] W fun e w' => e = .returned (.bool true) ∧ Step W w' := by
  have h1 : ¬ (s.size : Int) ≤ 64 := by omega
  clear h
  go_enter Tryd.func8, Tryd.ntmps8
  go_wp2_with (go_at_call 45; ((with_reducible refine (sure_any _ hA.to hL.to).mono ?_); rintro e w7 ⟨rfl, S7⟩))
  go_ret
  exact ⟨rfl, Step.of inferInstance⟩
set_option maxHeartbeats 12800000 in
set_option maxRecDepth 1000000 in
theorem walkN (x : Nat) (s : ByteArray) (p q : Nat) (W : World) (hx : Hid (x < 18446744073709551616)) (hs : s.size ≤ 64) (hp : p < 256) (hq : q < 256) (hA : ErrAs.Laid W) (hL : LaidK W) :
    Calls Tryd.prog 8 #[.int .u64 x, .string s, .agg #[.int .u8 p, .int .u8 q]] W fun e w' => e = .returned (.bool true) ∧ Step W w' := by
  have hsI : (s.size : Int) ≤ 64 := by omega
  have RB : Row .u8 (W.alloc (.cells #[.int .u8 p, .int .u8 q] 64 (0, 0))) (some ⟨W.heap.size, 0, none⟩) [(p : Int), (q : Int)] := Row.lit2 W _ _ p q rfl
  have hk := box RB
  obtain ⟨hk0, hk1⟩ := hk
  have nE := fun (w : World) h => Num07.some_ 1 w h
  have dU := fun (w : World) h1 h2 => sure_any w h1 h2
  obtain ⟨a, ha⟩ : ∃ a, a = p % 33 := ⟨_, rfl⟩
  obtain ⟨b, hb⟩ : ∃ b, b = q % 33 := ⟨_, rfl⟩
  have ma : (p : Int) % 33 = (a : Int) := by omega
  have mb : (q : Int) % 33 = (b : Int) := by omega
  have ta : (p : Int).tmod 33 = (a : Int) := by rw [Int.tmod_eq_emod_of_nonneg (by omega)]; exact ma
  have tb : (q : Int).tmod 33 = (b : Int) := by rw [Int.tmod_eq_emod_of_nonneg (by omega)]; exact mb
  have a32 : (a : Int) ≤ 32 := by omega
  have b32 : (b : Int) ≤ 32 := by omega
  obtain ⟨M, hM⟩ : ∃ M, M = max a b := ⟨_, rfl⟩
  obtain ⟨m, hm⟩ : ∃ m, m = min a b := ⟨_, rfl⟩
  have hmM : m ≤ M := by omega
  have M32 : M ≤ 32 := by omega
  have m32 : m ≤ 32 := by omega
  have HC : Hid (((a : Int) < b ∧ ¬ (b : Int) < a ∧ M = b ∧ m = a) ∨ (¬ (a : Int) < b ∧ (b : Int) < a ∧ M = a ∧ m = b) ∨ (¬ (a : Int) < b ∧ ¬ (b : Int) < a ∧ M = a ∧ m = a)) := Lib.hid (by omega)
  have wa : IntKind.u8.wrap (a : Int) = (a : Int) := by rw [IntKind.wrap_u8']; omega
  have wb : IntKind.u8.wrap (b : Int) = (b : Int) := by rw [IntKind.wrap_u8']; omega
  cases hl : lab s
  · have nW : ∀ (n : Int) (w : World), Calls Tryd.prog 46 #[.int .u64 x, .string s, .int .i64 n] w fun e w' => e = .returned (.tuple #[.slice none 0 0, .iface 68 (.int .i64 1)]) ∧ Step w w' := fun n w => words_no x s n w (.inl hl)
    have nN : ∀ (n : Int) (w : World), Calls Tryd.prog 48 #[.int .u64 x, .string s, .int .i64 n] w fun e w' => e = .returned (.tuple #[.int .u64 0, .iface 68 (.int .i64 1)]) ∧ Step w w' := fun n w => num_no x s n w (.inl hl)
    have HC2 := HC.out
    clear hl hs hx hM hm ha hb hmM M32 m32 HC
    rcases HC2 with ⟨h1, h2, rfl, rfl⟩ | ⟨h1, h2, rfl, rfl⟩ | ⟨h1, h2, rfl, rfl⟩
    all_goals
     go_enter Tryd.func8, Tryd.ntmps8
     go_wp2
     go_quiet (fail)
     go_wp2_with (first
      | (go_at_call 46; ((with_reducible refine (nW _ _).mono ?_); rintro e w1 ⟨rfl, S1⟩))
      | (go_at_call 48; ((with_reducible refine (nN _ _).mono ?_); rintro e w3 ⟨rfl, S3⟩))
      | (go_at_call 45; ((with_reducible refine (dU _ hA.to hL.to).mono ?_); rintro e w9 ⟨rfl, S9⟩)))
     go_ret
     exact ⟨rfl, Step.of inferInstance⟩
  · have dM := fun (w : World) h => words_yes x s M w hx hl M32 h
    have dm := fun (w : World) h => words_yes x s m w hx hl m32 h
    have dN := fun (w : World) h => num_yes x s a w hx hl (by omega) h
    have hr : LtP (numP x s a) := numP_lt x s a
    have dS : ∀ A c D d (w : World), R32 w A (wsP x s M) → R32 w D (wsP x s m) → Calls Tryd.prog 32 #[.slice A m c, .slice D m d] w fun e w' => e = .returned (.bool true) ∧ Step w w' := fun A c D d w h1 h2 => same A D c d m m _ _ w (wsP_len _ _ _) (wsP_len _ _ _) (by have := front h1 m; rwa [wsP_take x s M m hmM] at this) h2 (by omega) (by omega) true (by simp)
    generalize numP x s a = r at dN hr
    generalize wsP x s M = X at dM dS
    generalize wsP x s m = Y at dm dS
    have HC2 := HC.out
    clear hl hs hx hM hm ha hb hmM M32 m32 HC
    rcases HC2 with ⟨h1, h2, rfl, rfl⟩ | ⟨h1, h2, rfl, rfl⟩ | ⟨h1, h2, rfl, rfl⟩
    all_goals
     go_enter Tryd.func8, Tryd.ntmps8
     go_wp2
     go_quiet (fail)
     go_wp2_with (first
      | (go_at_call 46; ((with_reducible refine (dM _ hL.to).mono ?_); rintro e w1 ⟨g1, rfl, R1, S1⟩; clear dM))
      | (go_at_call 46; ((with_reducible refine (dm _ hL.to).mono ?_); rintro e w2 ⟨g2, rfl, R2, S2⟩))
      | (go_at_call 48; ((with_reducible refine (dN _ hL.to).mono ?_); rintro e w3 ⟨rfl, S3⟩))
      | (go_at_call 32; ((with_reducible refine (dS _ _ _ _ _ R1.to R2.to).mono ?_); rintro e w7 ⟨rfl, S7⟩; have hr2 : ((r : Nat) : Int) < 2305843009213693951 := by unfold LtP at hr; omega))
      | (go_at_call 45; ((with_reducible refine (dU _ hA.to hL.to).mono ?_); rintro e w9 ⟨rfl, S9⟩)))
     go_ret
     exact ⟨rfl, Step.of inferInstance⟩
theorem walk (x : Int) (s : ByteArray) (of : List Int) (W : World) (hx : 0 ≤ x ∧ x ≤ 18446744073709551615) (hof : of.length = 2) (hbo : ∀ z ∈ of, 0 ≤ z ∧ z < 256) (hL : LaidX.LaidS W) :
    Calls Tryd.prog 8 #[.int .u64 x, .string s, .agg (of.map (Value.int .u8)).toArray] W fun e w' => e = .returned (.bool true) ∧ Step W w' := by
  obtain ⟨p, q, rfl⟩ : ∃ p q, of = [p, q] := by
    match of, hof with
    | [p, q], _ => exact ⟨p, q, rfl⟩
  have hp := hbo p (by simp)
  have hq := hbo q (by simp)
  obtain ⟨y, rfl⟩ : ∃ y : Nat, x = y := ⟨x.toNat, by omega⟩
  obtain ⟨P, rfl⟩ : ∃ y : Nat, p = y := ⟨p.toNat, by omega⟩
  obtain ⟨Q, rfl⟩ : ∃ y : Nat, q = y := ⟨q.toNat, by omega⟩
  by_cases hs : s.size ≤ 64
  · exact walkN y s P Q W (Lib.hid (by omega)) hs (by omega) (by omega) hL.1 hL.2
  · exact far y s P Q W hs hL.1 hL.2
end LawPrgFirst
end Go.Proofs.YtmjbbaekdbiopaaDoor
