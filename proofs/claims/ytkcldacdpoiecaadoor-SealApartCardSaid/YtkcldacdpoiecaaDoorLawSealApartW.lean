/- The walk of the law SealApart over raw input: true whatever comes. Condition: sha.k reads as laid. -/
import Derived.Test.YtkcldacdpoiecaaDoorLawSealApart
import Derived.Test.YtkcldacdpoiecaaDoorSealInj
namespace Go.Proofs.YtkcldacdpoiecaaDoor
open Go.RowKit Go.Lib
namespace LawSealApart
open SlR Sh Sp Pg Se Cv
theorem getB {ls : List (List Nat)} (h : ∀ row ∈ ls, B8 row) (j : Nat) : B8 (ls.getD j []) := by
  by_cases hj : j < ls.length
  · rw [List.getD_eq_getElem?_getD, List.getElem?_eq_getElem hj]
    exact h _ (List.getElem_mem hj)
  · rw [List.getD_eq_getElem?_getD, List.getElem?_eq_none (by omega)]
    exact b8_mem (by simp)
theorem walkN (p q r s : Nat) (A : Option Addr) (n c : Nat) (ls : List (List Nat)) (B : Option Addr) (m d : Nat) (ks : List (List Nat)) (w : World)
    (hp : p < 18446744073709551616) (hq : q < 18446744073709551616) (hr : r < 18446744073709551616) (hs : s < 18446744073709551616)
    (hn : ls.length = n) (ha : RowsB w A ls) (bl : ∀ row ∈ ls, B8 row) (hm : ks.length = m) (hb : RowsB w B ks) (bk : ∀ row ∈ ks, B8 row) (hL : LaidK w) :
    Calls Tryd.prog 5 #[.agg #[.int .u64 p, .int .u64 q], .agg #[.int .u64 r, .int .u64 s], .agg #[.slice A n c, .slice B m d]] w fun e w' => e = .returned (.bool true) ∧ Step w w' := by
  have hp2 := Lib.hid hp
  have hq2 := Lib.hid hq
  have hr2 := Lib.hid hr
  have hs2 := Lib.hid hs
  have ofC := LawSealTells.ofC
  have b0 : B8 (ltx ls) := lt_b8 ls bl _
  have b1 : B8 (ltx ks) := lt_b8 ks bk _
  have bt : ∀ i, B8 ([ltx ls, ltx ks, sdt p q, sdt r s].getD i []) := getB (fun row h => by
    simp at h
    rcases h with rfl | rfl | rfl | rfl
    · exact b0
    · exact b1
    · exact sdt_b8 p q
    · exact sdt_b8 r s)
  have gl : ∀ {l : List (List Nat)} {A : Option Addr} {n c : Nat} (_ : l.length = n) (_ : n ≤ 31) (_ : ∀ i, (l.getD i []).length ≤ 300) (w : World), RowsB w A l → Calls Tryd.prog 14 #[.slice A n c] w fun e w' => ∃ A' c', e = .returned (.tuple #[.slice A' (ltx l).length c', .bool true]) ∧ R8 w' A' (ltx l) ∧ Step w w' := fun {l A n c} h1 h2 h3 w h4 =>
    (rlist_any A n c l w h1 h2 (Lib.hid h3) h4).mono fun e w' ⟨A', L, c', h5, _, h6, h7⟩ => ⟨A', c', by rw [Ow.len h6]; exact h5, Row.of_own h6, h7⟩
  refine core p q r s A n c ls B m d ks (vl .u8 (ltS ls)) (vl .u8 (ltS ks)) (vl .u8 (sdS p q)) (vl .u8 (sdS r s)) (decide (ltS ls = ltS ks)) (decide (sdS p q = sdS r s)) (decide ([p, q] = [r, s])) w hn ha hm hb hL (Lib.hid (getB bl)) (Lib.hid (getB bk))
    (by rw [vl_len, ltS_len]) (Lib.hid (vl_one .u8 _)) (by rw [vl_len, ltS_len]) (Lib.hid (vl_one .u8 _)) (by rw [vl_len, sdS_len]) (Lib.hid (vl_one .u8 _)) (by rw [vl_len, sdS_len]) (Lib.hid (vl_one .u8 _))
    (fun g w h hL => list_any A n c ls w hn g.1 (Lib.hid g.2) (Lib.hid bl) h hL) (fun g w h hL => list_any B m d ks w hm g.2.2.1 (Lib.hid g.2.2.2) (Lib.hid bk) h hL)
    (fun w h => of_any p q w hp2 hq2 h) (fun w h => of_any r s w hr2 hs2 h)
    (ltx ls) (ltx ks) (sdt p q) (sdt r s) _ _ rfl rfl (sdt_len p q) (sdt_len r s)
    (fun g w h => gl hn g.1 g.2 w h) (fun g w h => gl hm g.2.2.1 g.2.2.2 w h)
    (fun w => (rtext_any p q w hp2 hq2).mono fun e w' ⟨A', c', h1, h2, h3⟩ => ⟨A', c', h1, Row.of_own h2, h3⟩)
    (fun w => (rtext_any r s w hr2 hs2).mono fun e w' ⟨A', c', h1, h2, h3⟩ => ⟨A', c', h1, Row.of_own h2, h3⟩)
    (fun i => vl .u8 (Sh.sum ([ltx ls, ltx ks, sdt p q, sdt r s].getD i []))) (fun i k => decide (Sh.sum ([ltx ls, ltx ks, sdt p q, sdt r s].getD i []) = Sh.sum ([ltx ls, ltx ks, sdt p q, sdt r s].getD k [])))
    (fun g i hi w A' c' h => ?_) (fun i k w => eq32 _ _ (sum_fine _) (sum_fine _) w) (Lib.hid bt) (fun g h => ?_) (fun h => ?_) (fun w => eq2 p q r s w)
    (fun w => eq32 _ _ (ltS_len ls) (ltS_len ks) w) (fun w => eq32 _ _ (sdS_len p q) (sdS_len r s) w)
  · refine ofC A' c' _ _ w rfl ?_ h (bt i)
    have e0 : (ltx ls).length ≤ 3 + 302 * ls.length := lt_len ls g.2.1 _ (Nat.le_refl _)
    have e1 : (ltx ks).length ≤ 3 + 302 * ks.length := lt_len ks g.2.2.2 _ (Nat.le_refl _)
    have g1 := g.1
    have g2 := g.2.2.1
    rcases (by omega : i = 0 ∨ i = 1 ∨ i = 2 ∨ i = 3) with rfl | rfl | rfl | rfl
    · show (ltx ls).length ≤ 90000; omega
    · show (ltx ks).length ≤ 90000; omega
    · show (sdt p q).length ≤ 90000; rw [sdt_len]; omega
    · show (sdt r s).length ≤ 90000; rw [sdt_len]; omega
  · have h10 : ltx ks = ltx ls ∨ decide (Sh.sum (ltx ks) = Sh.sum (ltx ls)) = false := h 1 0 (by omega) (by omega)
    have h32 : sdt r s = sdt p q ∨ decide (Sh.sum (sdt r s) = Sh.sum (sdt p q)) = false := h 3 2 (by omega) (by omega)
    constructor
    · rw [decide_eq_true_iff]
      constructor
      · intro e
        rcases h10 with h10 | h10
        · exact (ltx_inj (by rw [hm]; exact g.2.2.1) (by rw [hn]; exact g.1) g.2.2.2 g.2.1 h10).symm
        · have e2 : Sh.sum (ltx ks) = Sh.sum (ltx ls) := e.symm
          rw [decide_eq_true e2] at h10
          cases h10
      · rintro rfl
        rfl
    · rw [Bool.eq_iff_iff, decide_eq_true_iff, decide_eq_true_iff]
      constructor
      · intro e
        rcases h32 with h32 | h32
        · obtain ⟨rfl, rfl⟩ := sdt_inj hr hs hp hq h32
          rfl
        · have e2 : Sh.sum (sdt r s) = Sh.sum (sdt p q) := e.symm
          rw [decide_eq_true e2] at h32
          cases h32
      · intro e
        injection e with e1 e2
        injection e2 with e2
        rw [e1, e2]
  · rw [decide_eq_true_iff] at h ⊢
    injection h with e1 e2
    injection e2 with e2
    rw [e1, e2]
theorem walk (xs ys : List Int) (A : Option Addr) (n c : Nat) (ls : List (List Int)) (B : Option Addr) (m d : Nat) (ks : List (List Int)) (W : World) (hx : xs.length = 2) (bx : ∀ z ∈ xs, 0 ≤ z ∧ z < 18446744073709551616) (hy : ys.length = 2) (bY : ∀ z ∈ ys, 0 ≤ z ∧ z < 18446744073709551616)
    (hl : ls.length = n) (hr : Opn.RowsOf .u8 W A ls) (bd : ∀ row ∈ ls, ∀ z ∈ row, 0 ≤ z ∧ z < 256) (gl : ks.length = m) (gr : Opn.RowsOf .u8 W B ks) (be : ∀ row ∈ ks, ∀ z ∈ row, 0 ≤ z ∧ z < 256) (hL : LaidK W) :
    Calls Tryd.prog 5 #[.agg (xs.map (Value.int .u64)).toArray, .agg (ys.map (Value.int .u64)).toArray, .agg #[.slice A n c, .slice B m d]] W fun e w' => e = .returned (.bool true) ∧ Step W w' := by
  obtain ⟨p, q, rfl⟩ : ∃ p q, xs = [p, q] := by
    match xs, hx with
    | [p, q], _ => exact ⟨p, q, rfl⟩
  obtain ⟨r, s, rfl⟩ : ∃ r s, ys = [r, s] := by
    match ys, hy with
    | [r, s], _ => exact ⟨r, s, rfl⟩
  have b1 := bx p (by simp)
  have b2 := bx q (by simp)
  have b3 := bY r (by simp)
  have b4 := bY s (by simp)
  obtain ⟨p, rfl⟩ : ∃ v : Nat, p = v := ⟨p.toNat, by omega⟩
  obtain ⟨q, rfl⟩ : ∃ v : Nat, q = v := ⟨q.toNat, by omega⟩
  obtain ⟨r, rfl⟩ : ∃ v : Nat, r = v := ⟨r.toNat, by omega⟩
  obtain ⟨s, rfl⟩ : ∃ v : Nat, s = v := ⟨s.toNat, by omega⟩
  exact walkN p q r s A n c (ls.map fun r => r.map Int.toNat) B m d (ks.map fun r => r.map Int.toNat) W (by omega) (by omega) (by omega) (by omega) (by rw [List.length_map, hl]) (LawSealTells.rows_of hr bd) (LawSealTells.rows_b8 bd)
    (by rw [List.length_map, gl]) (LawSealTells.rows_of gr be) (LawSealTells.rows_b8 be) hL
end LawSealApart
end Go.Proofs.YtkcldacdpoiecaaDoor
