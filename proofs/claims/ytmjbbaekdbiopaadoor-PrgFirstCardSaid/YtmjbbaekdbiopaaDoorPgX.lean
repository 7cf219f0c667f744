/- Layer 7: what the program's Words answers where it must not; whether two rows of 32 bits are the same, in growing worlds. No condition. -/
import Derived.Test.YtmjbbaekdbiopaaDoorPgW
import Derived.Test.YtmjbbaekdbiopaaDoorSlEq
namespace Go.Proofs.YtmjbbaekdbiopaaDoor
open Go.RowKit Go.Lib
namespace Pg
open SlR Sh Sp Mc
set_option maxHeartbeats 3200000 in
set_option maxRecDepth 100000 in
theorem words_no (x : Nat) (s : ByteArray) (n : Int) (w : World) (h : lab s = false ∨ n < 0 ∨ 32 < n) :
    Calls Tryd.prog 46 #[.int .u64 x, .string s, .int .i64 n] w fun e w' => e = .returned (.tuple #[.slice none 0 0, errArg]) ∧ Step w w' := by
  have dL := fun (w : World) => label_any s w
  rcases (by
    rcases h with h | h | h
    · exact .inl h
    · cases hs : lab s
      · exact .inl rfl
      · exact .inr (.inl ⟨rfl, h⟩)
    · cases hs : lab s
      · exact .inl rfl
      · exact .inr (.inr ⟨rfl, by omega, h⟩) : lab s = false ∨ (lab s = true ∧ n < 0) ∨ (lab s = true ∧ ¬ n < 0 ∧ 32 < n)) with h1 | ⟨h1, h2⟩ | ⟨h1, h2, h3⟩
  all_goals
    rw [h1] at dL
    clear h1 h
    go_enter Tryd.func46, Tryd.ntmps46
    go_wp2_with (go_at_call 64; ((with_reducible refine (dL _).mono ?_); rintro e w2 ⟨rfl, S2⟩))
    go_ret2
    exact ⟨rfl, Step.of inferInstance⟩
theorem NL_eq {xs ys : List Nat} : NL xs = NL ys ↔ xs = ys := by
  constructor
  · intro h
    unfold NL at h
    exact List.map_inj_right (fun a b e => by omega) |>.1 h
  · rintro rfl; rfl
theorem same (A D : Option Addr) (c d n m : Nat) (xs ys : List Nat) (w : World) (hxn : xs.length = n) (hym : ys.length = m) (hx : R32 w A xs) (hy : R32 w D ys) (hl : n ≤ 2000000000) (hl2 : m ≤ 2000000000) (b : Bool) (hb : decide (xs = ys) = b) :
    Calls Tryd.prog 32 #[.slice A n c, .slice D m d] w fun e w' => e = .returned (.bool b) ∧ Step w w' := by
  subst hb
  refine (SlEq.same_any A D c d n m w.heap.size (NL xs) (NL ys) w (by rw [NL_len, hxn]) (by rw [NL_len, hym]) hx hy hl hl2).mono fun e w' ⟨h1, t, h2⟩ => ⟨by rw [h1, decide_eq_decide.2 NL_eq], ?_⟩
  subst h2
  exact Step.of inferInstance
theorem rsame (A D : Option Addr) (c d n m : Nat) (xs ys : List Nat) (w : World) (hxn : xs.length = n) (hym : ys.length = m) (hx : R32 w A xs) (hy : R32 w D ys) (hl : n ≤ 2000000000) (hl2 : m ≤ 2000000000) (b : Bool) (hb : decide (xs = ys) = b) :
    Calls Tryd.prog 29 #[.slice A n c, .slice D m d] w fun e w' => e = .returned (.bool b) ∧ Step w w' := by
  subst hb
  have := SlEq.ref_any A D c d n m w.heap.size (NL xs) (NL ys) w (by rw [NL_len, hxn]) (by rw [NL_len, hym]) hx hy hl hl2
  refine this.mono fun e w' h => ?_
  obtain ⟨h1, h2⟩ := h
  refine ⟨by rw [h1, decide_eq_decide.2 NL_eq], ?_⟩
  first
    | (obtain ⟨t, h2⟩ := h2; subst h2; exact Step.of inferInstance)
    | (subst h2; exact Step.of inferInstance)
end Pg
end Go.Proofs.YtmjbbaekdbiopaaDoor
