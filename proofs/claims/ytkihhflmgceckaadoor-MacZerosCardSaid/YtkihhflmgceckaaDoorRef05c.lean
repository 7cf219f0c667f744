/- The document's own answers of layer 5 (package caucusref05): digits. Conditions: what is handed in reads as bytes. -/
import Derived.Test.YtkihhflmgceckaaDoorRef05
namespace Go.Proofs.YtkihhflmgceckaaDoor
open Go.RowKit Go.Lib
namespace Sh
open SlR
/-- A digit's number, or -1. -/
def dg (c : Nat) : Int := if 48 ≤ c ∧ c ≤ 57 then (c : Int) - 48 else if 97 ≤ c ∧ c ≤ 102 then (c : Int) - 87 else -1
theorem digit_any (c : Nat) (w : World) (hc : c < 256) : Calls Tryd.prog 30 #[.int .u8 c] w fun e w' => e = .returned (.int .i64 (dg c)) ∧ w' = w := by
  have hcI : (c : Int) < 256 := by omega
  by_cases h1 : (48 : Int) ≤ (c : Int)
  · by_cases h2 : (c : Int) ≤ 57
    · have e : dg c = (c : Int) - 48 := by unfold dg; rw [if_pos (by omega)]
      rw [e]
      go_enter Tryd.func30, Tryd.ntmps30
      go_wp2
      go_ret
      exact ⟨rfl, rfl⟩
    · by_cases h3 : (97 : Int) ≤ (c : Int)
      · by_cases h4 : (c : Int) ≤ 102
        · have e : dg c = (c : Int) - 97 + 10 := by unfold dg; rw [if_neg (by omega), if_pos (by omega)]; omega
          rw [e]
          go_enter Tryd.func30, Tryd.ntmps30
          go_wp2
          go_ret
          exact ⟨rfl, rfl⟩
        · have e : dg c = -1 := by unfold dg; rw [if_neg (by omega), if_neg (by omega)]
          rw [e]
          go_enter Tryd.func30, Tryd.ntmps30
          go_wp2
          go_ret
          exact ⟨rfl, rfl⟩
      · have e : dg c = -1 := by unfold dg; rw [if_neg (by omega), if_neg (by omega)]
        rw [e]
        go_enter Tryd.func30, Tryd.ntmps30
        go_wp2
        go_ret
        exact ⟨rfl, rfl⟩
  · have e : dg c = -1 := by unfold dg; rw [if_neg (by omega), if_neg (by omega)]
    rw [e]
    have h3 : ¬ (97 : Int) ≤ (c : Int) := by omega
    go_enter Tryd.func30, Tryd.ntmps30
    go_wp2
    go_ret
    exact ⟨rfl, rfl⟩
/-- The number of two digits; none: one is none. -/
def ok2 (s : List Nat) (i : Nat) : Prop := 0 ≤ dg (s.getD (2 * i) 0) ∧ 0 ≤ dg (s.getD (2 * i + 1) 0)
def val2 (s : List Nat) (i : Nat) : Nat := (16 * dg (s.getD (2 * i) 0) + dg (s.getD (2 * i + 1) 0)).toNat
def vals (s : List Nat) (k : Nat) : List Nat := (List.range k).map (val2 s)
theorem dg_le (c : Nat) : dg c ≤ 15 ∧ -1 ≤ dg c := by
  unfold dg
  split
  · omega
  · split <;> omega
end Sh
end Go.Proofs.YtkihhflmgceckaaDoor
