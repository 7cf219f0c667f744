/- The document's sum as a contract, from its walk. No condition of its own. -/
import Derived.Test.YtkihhflmgceckaaDoorRef06
import Derived.Test.YtkihhflmgceckaaDoorRef05i
namespace Go.Proofs.YtkihhflmgceckaaDoor
open Go.RowKit Go.Lib
namespace Mc
open SlR Sh Sp
theorem ofC : OfC := fun A c n b w hn hn2 hr hb => of_any A c n b w hn hn2 hr (Lib.hid hb)
/-- Integers that are bytes, as naturals. -/
theorem row_nl {w : World} {A : Option Addr} {n : Nat} (xs : List Int) (hl : xs.length = n) (hr : Row .u8 w A xs) (bd : ∀ z ∈ xs, 0 ≤ z ∧ z < 256) : ∃ bs : List Nat, bs.length = n ∧ R8 w A bs ∧ B8 bs := by
  have e : xs = NL (xs.map Int.toNat) := by
    unfold NL
    rw [List.map_map]
    refine (List.map_id' xs).symm.trans (List.map_congr_left fun z hz => ?_)
    have := bd z hz
    exact (Int.toNat_of_nonneg this.1).symm
  have b8 : B8 (xs.map Int.toNat) := Sp.b8_mem fun x hx => by
    obtain ⟨z, hz, rfl⟩ := List.mem_map.1 hx
    have := bd z hz
    omega
  rw [e] at hr
  exact ⟨_, by simp [hl], hr, b8⟩
theorem arr_nl {n : Nat} (xs : List Int) (hl : xs.length = n) (h : ∀ z ∈ xs, 0 ≤ z ∧ z < 256) : ∃ bs : List Nat, bs.length = n ∧ B8 bs ∧ xs.map (Value.int .u8) = vl .u8 bs := by
  refine ⟨xs.map Int.toNat, by simp [hl], b8_mem fun x hx => ?_, ?_⟩
  · obtain ⟨z, hz, rfl⟩ := List.mem_map.1 hx
    have := h z hz
    omega
  · unfold vl
    rw [List.map_map]
    refine List.map_congr_left fun z hz => ?_
    have := h z hz
    show Value.int .u8 z = Value.int .u8 ((z.toNat : Nat) : Int)
    rw [Int.toNat_of_nonneg this.1]
end Mc
end Go.Proofs.YtkihhflmgceckaaDoor
