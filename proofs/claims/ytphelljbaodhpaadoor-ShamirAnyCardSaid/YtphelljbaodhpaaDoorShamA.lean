/- shamir: what is outside, the order of places, and words on lists of points. No condition. -/
import Derived.Test.YtphelljbaodhpaaDoorPolyL
import Derived.Test.YtphelljbaodhpaaDoorRef03
import Derived.Sort.Grow
namespace Go.Proofs.YtphelljbaodhpaaDoor
open Go.RowKit Go.Lib Go.Maps
namespace ShM
open SlR FpM FpC PoM PoC
/-- A point that Split never makes. -/
def outB (p : Nat × Nat) : Bool := decide (p.1 = 0) || decide (2305843009213693951 ≤ p.1) || decide (2305843009213693951 ≤ p.2)
/-- The order of two numbers. -/
def cmpI (x y : Int) : Int := if x < y then -1 else if y < x then 1 else 0
theorem outside_any (x y : Nat) (w : World) : Calls Tryd.prog 21 #[.agg #[.int .u64 x, .int .u64 y]] w fun e w' => e = .returned (.bool (outB (x, y))) ∧ Below w.heap.size w w' := by
  have ho : outB (x, y) = (((x : Int) == 0) || decide ((2305843009213693951 : Int) ≤ x) || decide ((2305843009213693951 : Int) ≤ y)) := by
    unfold outB
    congr 1
    · congr 1
      · by_cases h : x = 0
        · simp [h]
        · rw [decide_eq_false h]; symm; simpa using h
      · exact decide_eq_decide.mpr (by omega)
    · exact decide_eq_decide.mpr (by omega)
  rw [ho]
  clear ho
  generalize h1 : ((x : Int) == 0) = b1
  generalize h2 : decide ((2305843009213693951 : Int) ≤ x) = b2
  generalize h3 : decide ((2305843009213693951 : Int) ≤ y) = b3
  cases b1 <;> cases b2 <;> cases b3 <;> (go_enter Tryd.func21, Tryd.ntmps21; go_wp2; go_ret; exact ⟨rfl, (Below.refl _ _).alloc (Nat.le_refl _) _⟩)
theorem compare_any (x y : Nat) (w : World) : Calls Tryd.prog 24 #[.int .u64 x, .int .u64 y] w fun e w' => e = .returned (.int .i64 (cmpI x y)) ∧ w' = w := by
  unfold cmpI
  have hx : ((x : Int) != (x : Int)) = false := by simp
  have hy : ((y : Int) != (y : Int)) = false := by simp
  by_cases h1 : (x : Int) < y
  · simp only [h1, if_true]
    go_enter Tryd.func24, Tryd.ntmps24
    go_wp2_with (go_in)
    go_ret
    exact ⟨rfl, rfl⟩
  · by_cases h2 : (y : Int) < x
    · simp only [h1, h2, if_true, if_false]
      go_enter Tryd.func24, Tryd.ntmps24
      go_wp2_with (go_in)
      go_ret
      exact ⟨rfl, rfl⟩
    · simp only [h1, h2, if_false]
      go_enter Tryd.func24, Tryd.ntmps24
      go_wp2_with (go_in)
      go_ret
      exact ⟨rfl, rfl⟩
theorem closure_any (x y : Nat × Nat) (W : World) : Calls Tryd.prog 23 #[.agg #[.int .u64 x.1, .int .u64 x.2], .agg #[.int .u64 y.1, .int .u64 y.2]] W fun e w' => e = .returned (.int .i64 (cmpI x.1 y.1)) ∧ ∃ q os', w' = Sort.grow (W.drewN q) os' := by
  have hcon := fun W' => compare_any x.1 y.1 W'
  generalize cmpI x.1 y.1 = r at hcon ⊢
  go_enter Tryd.func23, Tryd.ntmps23
  go_wp2_with (go_at_call 24; refine (hcon _).mono ?_; rintro e w' ⟨rfl, rfl⟩)
  go_ret
  exact ⟨rfl, 0, _, by rw [Sort.alloc_eq_grow, Sort.alloc_eq_grow, Sort.grow_grow]; rfl⟩
end ShM
end Go.Proofs.YtphelljbaodhpaaDoor
