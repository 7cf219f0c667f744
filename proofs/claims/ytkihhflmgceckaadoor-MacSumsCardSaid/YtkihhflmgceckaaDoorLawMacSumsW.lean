/- The walk of the law MacSums, of arguments as they are handed in. Conditions: they read as bytes; sha.k reads as laid. -/
import Derived.Test.YtkihhflmgceckaaDoorLawMacSums
import Derived.Test.YtkihhflmgceckaaDoorOfC
namespace Go.Proofs.YtkihhflmgceckaaDoor
open Go.RowKit Go.Lib
namespace LawMacSums
open SlR Sh Sp Mc
theorem walk (A : Option Addr) (n c : Nat) (xs : List Int) (A2 : Option Addr) (m c2 : Nat) (ys : List Int) (zs : List Int) (w : World) (hl : xs.length = n) (hnc : n ≤ c) (hr : Row .u8 w A xs) (bd : ∀ z ∈ xs, 0 ≤ z ∧ z < 256)
    (hm : ys.length = m) (_hmc : m ≤ c2) (hr2 : Row .u8 w A2 ys) (bd2 : ∀ z ∈ ys, 0 ≤ z ∧ z < 256) (hz : zs.length = 32) (bz : ∀ z ∈ zs, 0 ≤ z ∧ z < 256) (hL : Sp.LaidK w) :
    Calls Tryd.prog 5 #[.slice A n c, .slice A2 m c2, .agg (zs.map (Value.int .u8)).toArray] w fun e w' => e = .returned (.bool true) ∧ Step w w' := by
  obtain ⟨k, h1, h2, h3⟩ := row_nl xs hl hr bd
  obtain ⟨t, g1, g2, g3⟩ := row_nl ys hm hr2 bd2
  obtain ⟨s, s1, _, s3⟩ := arr_nl zs hz bz
  rw [s3]
  exact walkN ofC A n c k A2 m c2 t s w h1 hnc h2 h3 g1 g2 g3 s1 hL
end LawMacSums
end Go.Proofs.YtkihhflmgceckaaDoor
