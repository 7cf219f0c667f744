/- What pairs add: rows said place by place as numbers modulo 2^32; the rows of all together are noughts; whether peers may be. No condition. -/
import Derived.Test.YtfeahgcigmoijaaGreatDoorVecC
import Derived.Test.YtfeahgcigmoijaaGreatDoorPkF
import Derived.Test.YtfeahgcigmoijaaGreatDoorRef02
import Derived.Test.YtfeahgcigmoijaaGreatDoorVecMath
namespace Go.Proofs.YtfeahgcigmoijaaGreatDoor
open Go.RowKit Go.Lib
namespace Pe
open SlR VecC
/-- May peers be, from a least ID on? -/
def mayF : Int → List (Int × Nat) → Bool
  | _, [] => true
  | lo, p :: ps => decide (lo ≤ p.1) && decide (p.1 ≤ 63) && decide (p.2 ≠ 0) && decide (p.2 < 2305843009213693951) && mayF (p.1 + 1) ps
theorem mayF_nil (lo : Int) : mayF lo [] = true := rfl
theorem mayF_cons (lo : Int) (p : Int × Nat) (ps : List (Int × Nat)) : mayF lo (p :: ps) = (decide (lo ≤ p.1) && decide (p.1 ≤ 63) && decide (p.2 ≠ 0) && decide (p.2 < 2305843009213693951) && mayF (p.1 + 1) ps) := rfl
theorem drop_cons {α : Type} (l : List α) (k : Nat) (d : α) (h : k < l.length) : l.drop k = l.getD k d :: l.drop (k + 1) := by
  rw [List.drop_eq_getElem_cons h, List.getD_eq_getElem?_getD, List.getElem?_eq_getElem h]; rfl
theorem mayF_step {lo : Int} {l : List (Int × Nat)} {k : Nat} (h : k < l.length) :
    mayF lo (l.drop k) = (decide (lo ≤ (l.getD k (0, 0)).1) && decide ((l.getD k (0, 0)).1 ≤ 63) && decide ((l.getD k (0, 0)).2 ≠ 0) && decide ((l.getD k (0, 0)).2 < 2305843009213693951) && mayF ((l.getD k (0, 0)).1 + 1) (l.drop (k + 1))) := by
  rw [drop_cons l k (0, 0) h, mayF_cons]
/-- What the pair of me and p adds, of numbers w of a seed. -/
def addP (w : Nat → List Int) (me : Int) (key : Nat) (row : List Int) (p : Int × Nat) : List Int :=
  if p.1 = me then row else if me < p.1 then vAdd row (w (FpM.fPow p.2 key)) else vSub row (w (FpM.fPow p.2 key))
def rowP (w : Nat → List Int) (me : Int) (key : Nat) (l : List (Int × Nat)) (n : Nat) : List Int := l.foldl (addP w me key) (List.replicate n 0)
theorem rowP_snoc (w : Nat → List Int) (me : Int) (key : Nat) (l : List (Int × Nat)) (n k : Nat) (h : k < l.length) :
    rowP w me key (l.take (k + 1)) n = addP w me key (rowP w me key (l.take k) n) (l.getD k (0, 0)) := by
  unfold rowP
  rw [List.take_add_one, List.getD_eq_getElem?_getD, List.getElem?_eq_getElem h, List.foldl_append]
  rfl
/-- Rows of n numbers of 32 bits. -/
def R (n : Nat) (row : List Int) : Prop := row.length = n ∧ Bits row
theorem R.add {n : Nat} {a b : List Int} (ha : a.length = n) (hb : b.length = n) : R n (vAdd a b) := ⟨vAdd_length ha hb, Ref02.vAdd_bits a b⟩
theorem R.sub {n : Nat} {a b : List Int} (ha : a.length = n) (hb : b.length = n) : R n (vSub a b) := ⟨vSub_length ha hb, Ref02.vSub_bits a b⟩
theorem R.zero (n : Nat) : R n (List.replicate n 0) := ⟨by simp, Ref02.zeros_bits n⟩
theorem addP_R {w : Nat → List Int} {n : Nat} (hw : ∀ s, (w s).length = n) {me : Int} {key : Nat} {row : List Int} {p : Int × Nat} (h : R n row) : R n (addP w me key row p) := by
  unfold addP
  split
  · exact h
  · split
    · exact R.add h.1 (hw _)
    · exact R.sub h.1 (hw _)
theorem foldl_R {w : Nat → List Int} {n : Nat} (hw : ∀ s, (w s).length = n) {me : Int} {key : Nat} : ∀ (l : List (Int × Nat)) (row : List Int), R n row → R n (l.foldl (addP w me key) row)
  | [], _, h => h
  | _ :: l, _, h => foldl_R hw l _ (addP_R hw h)
theorem rowP_R {w : Nat → List Int} {n : Nat} (hw : ∀ s, (w s).length = n) (me : Int) (key : Nat) (l : List (Int × Nat)) : R n (rowP w me key l n) := foldl_R hw l _ (R.zero n)
/-- A row place by place. -/
def Is (n : Nat) (row : List Int) (f : Nat → Int) : Prop := row.length = n ∧ ∀ j, j < n → row[j]? = some (f j % 4294967296)
theorem Is.zero (n : Nat) : Is n (List.replicate n 0) (fun _ => 0) := ⟨by simp, fun j h => by rw [List.getElem?_replicate]; simp [h]⟩
theorem Is.add {n : Nat} {a b : List Int} {f g : Nat → Int} (ha : Is n a f) (hb : Is n b g) : Is n (vAdd a b) (fun j => f j + g j) :=
  ⟨vAdd_length ha.1 hb.1, fun j h => by unfold vAdd; rw [List.getElem?_zipWith, ha.2 j h, hb.2 j h]; simp only [Option.some.injEq]; omega⟩
theorem Is.sub {n : Nat} {a b : List Int} {f g : Nat → Int} (ha : Is n a f) (hb : Is n b g) : Is n (vSub a b) (fun j => f j - g j) :=
  ⟨vSub_length ha.1 hb.1, fun j h => by unfold vSub; rw [List.getElem?_zipWith, ha.2 j h, hb.2 j h]; simp only [Option.some.injEq]; omega⟩
theorem Is.self {n : Nat} {row : List Int} (h : R n row) : Is n row (fun j => row.getD j 0) := ⟨h.1, fun j hj => by
  have hl : j < row.length := by have := h.1; omega
  have hb := h.2 _ (List.getElem_mem hl)
  have e : row.getD j 0 = row[j] := by rw [List.getD_eq_getElem?_getD, List.getElem?_eq_getElem hl]; rfl
  show row[j]? = some (row.getD j 0 % 4294967296)
  rw [e, List.getElem?_eq_getElem hl]
  simp only [Option.some.injEq]
  omega⟩
theorem Is.eq {n : Nat} {a b : List Int} {f g : Nat → Int} (ha : Is n a f) (hb : Is n b g) (h : ∀ j, j < n → f j % 4294967296 = g j % 4294967296) : a = b := by
  apply List.ext_getElem?
  intro j
  by_cases hj : j < n
  · rw [ha.2 j hj, hb.2 j hj, h j hj]
  · rw [List.getElem?_eq_none (by have := ha.1; omega), List.getElem?_eq_none (by have := hb.1; omega)]
theorem Is.of {n : Nat} {a : List Int} {f g : Nat → Int} (ha : Is n a f) (h : ∀ j, f j = g j) : Is n a g := ⟨ha.1, fun j hj => by rw [ha.2 j hj, h j]⟩
/-- Sums. -/
def sm (f : Nat → Int) : Nat → Int
  | 0 => 0
  | k + 1 => sm f k + f k
theorem sm_add (f g : Nat → Int) : ∀ m, sm (fun k => f k + g k) m = sm f m + sm g m
  | 0 => rfl
  | m + 1 => by simp only [sm, sm_add f g m]; omega
theorem sm_cong {f g : Nat → Int} : ∀ m, (∀ k, k < m → f k = g k) → sm f m = sm g m
  | 0, _ => rfl
  | m + 1, h => by simp only [sm, sm_cong m (fun k hk => h k (by omega)), h m (by omega)]
theorem sm_neg (f : Nat → Int) : ∀ m, sm (fun k => - f k) m = - sm f m
  | 0 => rfl
  | m + 1 => by simp only [sm, sm_neg f m]; omega
/-- What is nought by pairs is nought together. -/
theorem sm_pairs (a : Nat → Nat → Int) (h : ∀ i k, a i k = - a k i) : ∀ m, sm (fun i => sm (a i) m) m = 0
  | 0 => rfl
  | m + 1 => by
    have h1 : sm (fun i => sm (a i) (m + 1)) m = sm (fun i => sm (a i) m) m + sm (fun i => a i m) m := by
      rw [← sm_add]; rfl
    have h2 : sm (fun i => a i m) m = - sm (a m) m := by
      rw [← sm_neg]
      exact sm_cong m fun k _ => h k m
    have h3 := sm_pairs a h m
    have h4 := h m m
    show sm (fun i => sm (a i) (m + 1)) m + (sm (a m) m + a m m) = 0
    rw [h1, h2, h3]
    omega
/-- Seeds of two are the same for both. -/
theorem shared_comm (g a b : Nat) : FpM.fPow (FpM.fPow g a) b = FpM.fPow (FpM.fPow g b) a := by rw [FpM.fPow_mul, FpM.fPow_mul, Nat.mul_comm]
section
variable {w : Nat → List Int} {n : Nat}
/-- What one of a list adds for its pair with another one, at a place. -/
def cf (w : Nat → List Int) (ids : Nat → Int) (keys : Nat → Nat) (j i k : Nat) : Int :=
  if ids k = ids i then 0 else if ids i < ids k then (w (FpM.fPow (FpM.fPow 3 (keys k)) (keys i))).getD j 0 else - (w (FpM.fPow (FpM.fPow 3 (keys k)) (keys i))).getD j 0
theorem cf_anti (w : Nat → List Int) (ids : Nat → Int) (keys : Nat → Nat) (j i k : Nat) : cf w ids keys j i k = - cf w ids keys j k i := by
  unfold cf
  rw [shared_comm 3 (keys k) (keys i)]
  rcases Int.lt_trichotomy (ids i) (ids k) with h | h | h
  · rw [if_neg (by omega), if_pos h, if_neg (by omega), if_neg (by omega)]; omega
  · rw [if_pos h.symm, if_pos h]; rfl
  · rw [if_neg (by omega), if_neg (by omega), if_neg (by omega), if_pos h]
theorem row_is (hw : ∀ s, R n (w s)) (ids : Nat → Int) (keys : Nat → Nat) (l : List (Int × Nat)) (hl : ∀ k, k < l.length → l.getD k (0, 0) = (ids k, FpM.fPow 3 (keys k))) (i : Nat) :
    ∀ m, m ≤ l.length → Is n (rowP w (ids i) (keys i) (l.take m) n) (fun j => sm (cf w ids keys j i) m)
  | 0, _ => Is.zero n
  | m + 1, h => by
    have ih := row_is hw ids keys l hl i m (by omega)
    rw [rowP_snoc w (ids i) (keys i) l n m (by omega), hl m (by omega)]
    unfold addP
    by_cases h1 : ids m = ids i
    · rw [if_pos h1]
      exact ih.of fun j => by simp only [sm, cf, if_pos h1]; omega
    · rw [if_neg h1]
      by_cases h2 : ids i < ids m
      · rw [if_pos h2]
        exact (ih.add (Is.self (hw _))).of fun j => by simp only [sm]; rw [show cf w ids keys j i m = _ from by unfold cf; rw [if_neg h1, if_pos h2]]
      · rw [if_neg h2]
        exact (ih.sub (Is.self (hw _))).of fun j => by simp only [sm]; rw [show cf w ids keys j i m = _ from by unfold cf; rw [if_neg h1, if_neg h2]]; omega
theorem vSum_is (f : Nat → Nat → Int) (rows : List (List Int)) (h : ∀ i row, rows[i]? = some row → Is n row (f i)) : ∀ m, m ≤ rows.length → Is n (vSum n (rows.take m)) (fun j => sm (fun i => f i j) m)
  | 0, _ => Is.zero n
  | m + 1, hm => by
    have ih := vSum_is f rows h m (by omega)
    have hr := List.getElem?_eq_getElem (by omega : m < rows.length)
    rw [vSum_snoc hr]
    exact (ih.add (h m _ hr)).of fun j => rfl
/-- The rows of all peers together are noughts. -/
theorem all_zero (hw : ∀ s, R n (w s)) (ids : Nat → Int) (keys : Nat → Nat) (l : List (Int × Nat)) (hl : ∀ k, k < l.length → l.getD k (0, 0) = (ids k, FpM.fPow 3 (keys k))) (rows : List (List Int)) (hn : rows.length = l.length)
    (hr : ∀ i row, rows[i]? = some row → row = rowP w (ids i) (keys i) l n) : vSum n rows = List.replicate n 0 := by
  have h1 := vSum_is (n := n) (fun i j => sm (cf w ids keys j i) l.length) rows (fun i row h => by
    rw [hr i row h]
    have := row_is hw ids keys l hl i l.length (Nat.le_refl _)
    rwa [List.take_length] at this) rows.length (Nat.le_refl _)
  rw [List.take_length] at h1
  refine h1.eq (Is.zero n) fun j _ => ?_
  rw [hn, sm_pairs (cf w ids keys j) (cf_anti w ids keys j)]
end
end Pe
end Go.Proofs.YtfeahgcigmoijaaGreatDoor
