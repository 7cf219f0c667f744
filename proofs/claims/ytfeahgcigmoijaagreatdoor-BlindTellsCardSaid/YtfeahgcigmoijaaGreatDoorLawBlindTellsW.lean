/- The walk of the law BlindTells, from what its arguments hold. Conditions: errors.errorType and sha.k read as laid. -/
import Derived.Test.YtfeahgcigmoijaaGreatDoorLawBlindTells
namespace Go.Proofs.YtfeahgcigmoijaaGreatDoor
open Go.RowKit Go.Lib
namespace LawBlindTells
open SlR Sh Sp Mc Pg VecC VecE Pe Bl Mp
theorem lastF_lt {l : List (Int × Nat)} (h : ∀ p ∈ l, p.2 < 18446744073709551616) (i : Int) : (lastF l i).getD 0 < 18446744073709551616 := by
  unfold lastF
  have : ∀ (l : List (Int × Nat)) (f : Int → Option Nat), (∀ p ∈ l, p.2 < 18446744073709551616) → (f i).getD 0 < 18446744073709551616 → ((l.foldl (fun f p => upd f p.1 p.2) f) i).getD 0 < 18446744073709551616 := by
    intro l
    induction l with
    | nil => exact fun _ _ hf => hf
    | cons p l ih =>
      intro f h hf
      refine ih _ (fun q hq => h q (List.mem_cons_of_mem _ hq)) ?_
      show (if i = p.1 then some p.2 else f i).getD 0 < _
      split
      · exact h p List.mem_cons_self
      · exact hf
  exact this l _ h (by decide : 0 < 18446744073709551616)
/-- A list of what clients have, as the argument has it. -/
theorem nums_of {W : World} {A : Option Addr} {n : Nat} {xs ys : List Int} (h : xs.length = n ∧ ys.length = n ∧ (∀ z ∈ xs, (Lit.int .i64 z).wf = true) ∧ (∀ z ∈ ys, (Lit.int .u64 z).wf = true) ∧
      ∀ j x y, xs[j]? = some x → ys[j]? = some y → ∃ b o, A = some ⟨b, o, none⟩ ∧ b < W.heap.size ∧ W.cell? ⟨b, o + j * 2, none⟩ = some (.int .i64 x) ∧ W.cell? ⟨b, o + j * 2 + 1, none⟩ = some (.int .u64 y)) :
    (List.zip xs (ys.map Int.toNat)).length = n ∧ RowQ W A (List.zip xs (ys.map Int.toNat)) ∧ (∀ j, I64 ((List.zip xs (ys.map Int.toNat)).getD j (0, 0)).1) ∧ Q64 (List.zip xs (ys.map Int.toNat)) ∧ ∀ i, (lastF (List.zip xs (ys.map Int.toNat)) i).getD 0 < 18446744073709551616 := by
  obtain ⟨h1, h2, h3, h4, h5⟩ := h
  obtain ⟨g1, g2, g3⟩ := opened h1 h2 h5 (fun z hz => by have := bounds_u64 (h4 z hz); omega)
  refine ⟨g1, g2, fun j => ?_, g3, lastF_lt fun p hp => ?_⟩
  · by_cases hj : j < n
    · rw [List.getD_eq_getElem?_getD, List.getElem?_eq_getElem (by omega)]
      simp only [List.getElem_zip, Option.getD_some]
      have := bounds_i64 (h3 _ (List.getElem_mem (by omega : j < xs.length)))
      unfold I64
      omega
    · rw [List.getD_eq_getElem?_getD, List.getElem?_eq_none (by omega)]
      unfold I64
      decide
  · obtain ⟨j, hj, rfl⟩ := List.mem_iff_getElem.mp hp
    have := g3 j
    rwa [List.getD_eq_getElem?_getD, List.getElem?_eq_getElem hj] at this
theorem walk (me : Int) (A1 : Option Addr) (n1 c1 : Nat) (x : List Int) (s k : Int) (A2 : Option Addr) (n2 c2 : Nat) (cm : List Int) (A3 : Option Addr) (n3 c3 : Nat) (si sv : List Int) (A4 : Option Addr) (n4 c4 : Nat) (ki kv : List Int) (dim : Int)
    (A : Option Addr) (n c : Nat) (xs ys : List Int) (W : World) {p0 p1 p2 p3 : Prop} (_bm : p0) (bs : 0 ≤ s ∧ s ≤ 18446744073709551615) (bk : 0 ≤ k ∧ k ≤ 18446744073709551615) (_bd : p1)
    (q1 : x.length = n1 ∧ Row .u32 W A1 x ∧ ∀ z ∈ x, (Lit.int .u32 z).wf = true) (q2 : cm.length = n2 ∧ Row .i64 W A2 cm)
    (q3 : si.length = n3 ∧ sv.length = n3 ∧ (∀ z ∈ si, (Lit.int .i64 z).wf = true) ∧ (∀ z ∈ sv, (Lit.int .u64 z).wf = true) ∧
      ∀ j x y, si[j]? = some x → sv[j]? = some y → ∃ b o, A3 = some ⟨b, o, none⟩ ∧ b < W.heap.size ∧ W.cell? ⟨b, o + j * 2, none⟩ = some (.int .i64 x) ∧ W.cell? ⟨b, o + j * 2 + 1, none⟩ = some (.int .u64 y))
    (q4 : ki.length = n4 ∧ kv.length = n4 ∧ (∀ z ∈ ki, (Lit.int .i64 z).wf = true) ∧ (∀ z ∈ kv, (Lit.int .u64 z).wf = true) ∧
      ∀ j x y, ki[j]? = some x → kv[j]? = some y → ∃ b o, A4 = some ⟨b, o, none⟩ ∧ b < W.heap.size ∧ W.cell? ⟨b, o + j * 2, none⟩ = some (.int .i64 x) ∧ W.cell? ⟨b, o + j * 2 + 1, none⟩ = some (.int .u64 y))
    (hl : xs.length = n) (hm : ys.length = n) (_hc : p2) (hr : ∀ j x y, xs[j]? = some x → ys[j]? = some y → ∃ b o, A = some ⟨b, o, none⟩ ∧ b < W.heap.size ∧ W.cell? ⟨b, o + j * 2, none⟩ = some (.int .i64 x) ∧ W.cell? ⟨b, o + j * 2 + 1, none⟩ = some (.int .u64 y))
    (_bx : p3) (hby : ∀ z ∈ ys, 0 ≤ z ∧ z < 18446744073709551616) (hL : LaidX.LaidS W) :
    Calls Tryz.prog 3 #[.agg #[.int .i64 me, .slice A1 n1 c1, .int .u64 s, .int .u64 k, .slice A2 n2 c2, .slice A3 n3 c3, .slice A4 n4 c4, .int .i64 dim], .slice A n c] W fun e w' => e = .returned (.bool true) ∧ Step W w' := by
  by_cases h : 20 < n ∨ 100 < n1 ∨ 40 < n2 ∨ 40 < n3 ∨ 40 < n4
  · exact far me s k dim A1 A2 A3 A4 n1 c1 n2 c2 n3 c3 n4 c4 A n c W h hL.1 hL.2
  · obtain ⟨s, rfl⟩ : ∃ s' : Nat, s = s' := ⟨s.toNat, by omega⟩
    obtain ⟨k, rfl⟩ : ∃ k' : Nat, k = k' := ⟨k.toNat, by omega⟩
    obtain ⟨g1, g2, g3⟩ := opened hl hm hr hby
    obtain ⟨s1, s2, s3, s4, s5⟩ := nums_of q3
    obtain ⟨k1, k2, k3, k4, k5⟩ := nums_of q4
    exact core me dim s k A1 A2 A3 A4 n1 c1 n2 c2 n3 c3 n4 c4 x cm _ _ A n c _ W g1 (by omega) (by omega) (by omega) (by omega) (by omega) g2 (Lib.hid g3) ⟨q1.1, fun z hz => by have := bounds_u32 (q1.2.2 z hz); omega⟩ q1.2.1 q2.1 q2.2 s1 s2 k1 k2
      (Lib.hid s3) (Lib.hid s4) (Lib.hid k3) (Lib.hid k4) (Lib.hid s5) (Lib.hid k5) (Lib.hid (by omega)) (Lib.hid (by omega)) hL.1 hL.2
end LawBlindTells
end Go.Proofs.YtfeahgcigmoijaaGreatDoor
