/- The theorem of layer 10: the sum of the hidden rows of those that came, less what opens, is the sum of what they had. No condition but lengths. -/
import Derived.Test.YtfeahgcigmoijaaDoorBlindD
import Derived.Test.YtfeahgcigmoijaaDoorMapB
import Derived.Test.YtfeahgcigmoijaaDoorMayPub
namespace Go.Proofs.YtfeahgcigmoijaaDoor
open Go.RowKit Go.Lib
namespace Bl
open SlR VecC Pe Mp MayP
theorem ts_range (f : Nat → Int) : ∀ m, ts f (List.range m) = sm f m
  | 0 => rfl
  | m + 1 => by rw [List.range_succ, ts_app, ts_range f m]; simp [ts, sm]
section
variable {n : Nat} {w o : Nat → List Int}
/-- What pairs add, along any list of places. -/
theorem rowP_list (hw : ∀ s, R n (w s)) (id : Nat → Int) (key : Nat → Nat) (i : Nat) (L : List Nat) :
    Is n (rowP w (id i) (key i) (L.map fun k => (id k, FpM.fPow 3 (key k))) n) (fun j => ts (cf w id key j i) L) := by
  unfold rowP
  rw [List.foldl_map]
  have h := fold_is (n := n) (fun row (k : Nat) => addP w (id i) (key i) row (id k, FpM.fPow 3 (key k))) (fun k j => cf w id key j i k) (fun k row f hr => by
    unfold addP cf
    by_cases h1 : id k = id i
    · simp only [if_pos h1]; exact hr.of fun j => by omega
    · simp only [if_neg h1]
      by_cases h2 : id i < id k
      · simp only [if_pos h2]; exact hr.add (Is.self (hw _))
      · simp only [if_neg h2]; exact (hr.sub (Is.self (hw _))).of fun j => by omega) L _ _ (Is.zero n)
  exact h.of fun j => by show (0 : Int) + ts (cf w id key j i) L = _; omega
theorem vSum_list {α : Type} (f : α → List Int) (h : α → Nat → Int) (L : List α) (hf : ∀ a ∈ L, Is n (f a) (h a)) : Is n (vSum n (L.map f)) (fun j => ts (fun a => h a j) L) := by
  unfold vSum
  rw [List.foldl_map]
  have : ∀ (L : List α) (row : List Int) (g : Nat → Int), (∀ a ∈ L, Is n (f a) (h a)) → Is n row g → Is n (L.foldl (fun row a => vAdd row (f a)) row) (fun j => g j + ts (fun a => h a j) L) := by
    intro L
    induction L with
    | nil => exact fun row g _ hr => hr.of fun j => by simp [ts]
    | cons a L ih => exact fun row g hf hr => (ih _ _ (fun b hb => hf b (List.mem_cons_of_mem _ hb)) (hr.add (hf a List.mem_cons_self))).of fun j => by simp only [ts]; omega
  exact (this L _ _ hf (Is.zero n)).of fun j => by show (0 : Int) + _ = _; omega
end
/-- The example's peers: IDs three apart. -/
def pid (i : Nat) : Int := ((3 * i : Nat) : Int)
theorem pid_inj {i k : Nat} : pid i = pid k ↔ i = k := by unfold pid; omega
theorem pid_lt {i k : Nat} : pid i < pid k ↔ i < k := by unfold pid; omega
section
variable (k s : Nat → Nat) (b : Nat → Bool) (x : Nat → List Int) (n : Nat)
def pls (m : Nat) : List (Int × Nat) := (List.range m).map fun i => (pid i, FpM.fPow 3 (k i))
def cms (m : Nat) : List Int := ((List.range m).filter b).map pid
theorem pls_len (m : Nat) : (pls k m).length = m := by simp [pls]
theorem pls_succ (m : Nat) : pls k (m + 1) = pls k m ++ [(pid m, FpM.fPow 3 (k m))] := by unfold pls; rw [List.range_succ, List.map_append]; rfl
theorem cms_succ (m : Nat) : cms b (m + 1) = cms b m ++ (if b m = true then [pid m] else []) := by
  unfold cms
  rw [List.range_succ, List.filter_append, List.map_append, List.filter_cons]
  split <;> rfl
theorem pls_may (m : Nat) (hm : m ≤ 21) : mayF 0 (pls k m) = true := by
  have : ∀ d a, a + d ≤ 21 → ∀ lo : Int, lo ≤ pid a → mayF lo ((List.range' a d).map fun i => (pid i, FpM.fPow 3 (k i))) = true := by
    intro d
    induction d with
    | zero => exact fun _ _ _ _ => rfl
    | succ d ih =>
      intro a ha lo hlo
      rw [List.range'_succ, List.map_cons]
      exact may_pub hlo (by unfold pid; omega) (ih (a + 1) (by omega) _ (by unfold pid; omega))
  have h := this m 0 (by omega) 0 (by unfold pid; omega)
  rwa [← List.range_eq_range'] at h
theorem range_asc (m : Nat) : (List.range m).Pairwise (· < ·) := by
  rw [List.pairwise_iff_getElem]
  intro i j hi hj hij
  simpa using hij
theorem inn_cms {m i : Nat} (h : i < m) : inn (cms b m) (pid i) = b i := by
  rw [Bool.eq_iff_iff, inn_iff]
  unfold cms
  rw [List.mem_map]
  constructor
  · rintro ⟨a, ha, e⟩
    obtain rfl := pid_inj.mp e
    exact (List.mem_filter.mp ha).2
  · intro hb
    exact ⟨i, List.mem_filter.mpr ⟨List.mem_range.mpr h, hb⟩, rfl⟩
theorem cms_came (m : Nat) : ids (hereF (cms b m) (pls k m)) = cms b m := by
  have h : hereF (cms b m) (pls k m) = ((List.range m).filter b).map fun i => (pid i, FpM.fPow 3 (k i)) := by
    unfold hereF pls
    rw [List.filter_map]
    congr 1
    apply List.filter_congr
    intro i hi
    exact inn_cms b (List.mem_range.mp hi)
  rw [h]
  unfold ids cms
  rw [List.map_map]; rfl
theorem keep_pls {m i : Nat} : keepF (cms b m) (pid i) (pls k m) = ((List.range m).filter fun q => decide (q = i) || b q).map fun q => (pid q, FpM.fPow 3 (k q)) := by
  unfold keepF pls
  rw [List.filter_map]
  congr 1
  apply List.filter_congr
  intro q hq
  show (pid q == pid i || inn (cms b m) (pid q)) = _
  rw [inn_cms b (List.mem_range.mp hq)]
  congr 1
  rw [Bool.eq_iff_iff]
  simp [pid_inj]
/-- The seeds of those that came, and the keys of the others. -/
def sFn : Nat → Int → Option Nat
  | 0 => fun _ => none
  | m + 1 => if b m = true then upd (sFn m) (pid m) (s m) else sFn m
def kFn : Nat → Int → Option Nat
  | 0 => fun _ => none
  | m + 1 => if b m = true then kFn m else upd (kFn m) (pid m) (k m)
theorem sFn_at : ∀ {m i : Nat}, i < m → b i = true → sFn s b m (pid i) = some (s i)
  | m + 1, i, h, hb => by
    unfold sFn
    by_cases e : i = m
    · subst e; rw [if_pos hb]; unfold upd; rw [if_pos rfl]
    · have ih := sFn_at (m := m) (by omega) hb
      split
      · unfold upd; rw [if_neg (fun h => e (pid_inj.mp h))]; exact ih
      · exact ih
theorem kFn_at : ∀ {m i : Nat}, i < m → b i = false → kFn k b m (pid i) = some (k i)
  | m + 1, i, h, hb => by
    unfold kFn
    by_cases e : i = m
    · subst e; rw [if_neg (by rw [hb]; simp)]; unfold upd; rw [if_pos rfl]
    · have ih := kFn_at (m := m) (by omega) hb
      split
      · exact ih
      · unfold upd; rw [if_neg (fun h => e (pid_inj.mp h))]; exact ih
theorem all_pls (m : Nat) : (pls k m).all (hasF (sFn s b m) (kFn k b m) (cms b m)) = true := by
  rw [List.all_eq_true]
  intro p hp
  unfold pls at hp
  obtain ⟨i, hi, rfl⟩ := List.mem_map.mp hp
  have hi := List.mem_range.mp hi
  unfold hasF
  show (if inn (cms b m) (pid i) = true then _ else _) = true
  rw [inn_cms b hi]
  cases hb : b i
  · rw [if_neg (by simp)]
    show (kFn k b m (pid i)).isSome = true
    rw [kFn_at k b hi hb]; rfl
  · rw [if_pos rfl]
    show (sFn s b m (pid i)).isSome = true
    rw [sFn_at s b hi hb]; rfl
variable {o w : Nat → List Int}
/-- What opens, place by place. -/
theorem openF_list (ho : ∀ s, R n (o s)) (hw : ∀ s, R n (w s)) (m : Nat) : Is n (openF o w (sFn s b m) (kFn k b m) (cms b m) (pls k m) n (pls k m))
    (fun j => ts (fun i => if b i = true then (o (s i)).getD j 0 else - ts (fun q => if (decide (q = i) || b q) = true then cf w pid k j i q else 0) (List.range m)) (List.range m)) := by
  have e : pls k m = (List.range m).map fun i => (pid i, FpM.fPow 3 (k i)) := rfl
  unfold openF
  have : ∀ (L : List Nat) (row : List Int) (g : Nat → Int), (∀ i ∈ L, i < m) → Is n row g →
      Is n ((L.map fun i => (pid i, FpM.fPow 3 (k i))).foldl (turn o w (sFn s b m) (kFn k b m) (cms b m) (pls k m) n) row) (fun j => g j + ts (fun i => if b i = true then (o (s i)).getD j 0 else - ts (fun q => if (decide (q = i) || b q) = true then cf w pid k j i q else 0) (List.range m)) L) := by
    intro L
    induction L with
    | nil => exact fun row g _ hr => hr.of fun j => by simp [ts]
    | cons i L ih =>
      intro row g hL hr
      have hi := hL i List.mem_cons_self
      refine (ih _ (fun j => g j + (if b i = true then (o (s i)).getD j 0 else - ts (fun q => if (decide (q = i) || b q) = true then cf w pid k j i q else 0) (List.range m))) (fun a ha => hL a (List.mem_cons_of_mem _ ha)) ?_).of fun j => by simp only [ts]; omega
      unfold turn
      show Is n (if inn (cms b m) (pid i) = true then _ else _) _
      rw [inn_cms b hi]
      cases hb : b i
      · rw [if_neg (by simp)]
        show Is n (vSub row (rowP w (pid i) ((kFn k b m (pid i)).getD 0) (keepF (cms b m) (pid i) (pls k m)) n)) _
        rw [kFn_at k b hi hb, keep_pls]
        refine (hr.sub (rowP_list hw pid k i _)).of fun j => ?_
        rw [ts_filter]
        simp only [Bool.false_eq_true, if_false]
        omega
      · rw [if_pos rfl]
        show Is n (vAdd row (o ((sFn s b m (pid i)).getD 0))) _
        rw [sFn_at s b hi hb]
        exact (hr.add (Is.self (ho _))).of fun j => by simp
  exact ((this (List.range m) _ _ (fun i hi => List.mem_range.mp hi) (Is.zero n)).of fun j => by omega)
/-- The theorem. -/
theorem sums (ho : ∀ s, R n (o s)) (hw : ∀ s, R n (w s)) (hx : ∀ i, R n (x i)) (m : Nat) :
    vSub (vSum n (((List.range m).filter b).map fun i => vSum n [x i, o (s i), rowP w (pid i) (k i) (pls k m) n])) (openF o w (sFn s b m) (kFn k b m) (cms b m) (pls k m) n (pls k m)) = vSum n (((List.range m).filter b).map x) := by
  have h1 := vSum_list (n := n) (fun i => vSum n [x i, o (s i), rowP w (pid i) (k i) (pls k m) n]) (fun i j => (x i).getD j 0 + (o (s i)).getD j 0 + ts (cf w pid k j i) (List.range m)) ((List.range m).filter b) (fun i _ =>
    ((((Is.zero n).add (Is.self (hx i))).add (Is.self (ho _))).add (rowP_list hw pid k i (List.range m))).of fun j => by omega)
  have h2 := vSum_list (n := n) x (fun i j => (x i).getD j 0) ((List.range m).filter b) (fun i _ => Is.self (hx i))
  refine (h1.sub (openF_list k s b n ho hw m)).eq h2 fun j _ => ?_
  congr 1
  rw [ts_filter, ts_filter]
  have hz : ts (fun i => ts (fun q => if (b i || b q) = true then cf w pid k j i q else 0) (List.range m)) (List.range m) = 0 := by
    rw [ts_range]
    have := sm_pairs (fun i q => if (b i || b q) = true then cf w pid k j i q else 0) (fun i q => by
      rw [Bool.or_comm (b i) (b q)]
      split
      · exact cf_anti w pid k j i q
      · rfl) m
    exact (sm_cong m fun i _ => ts_range _ m).trans this
  have hself : ∀ i, cf w pid k j i i = 0 := fun i => by unfold cf; rw [if_pos rfl]
  have e : ∀ i, (if b i = true then (x i).getD j 0 + (o (s i)).getD j 0 + ts (cf w pid k j i) (List.range m) else 0) - (if b i = true then (o (s i)).getD j 0 else - ts (fun q => if (decide (q = i) || b q) = true then cf w pid k j i q else 0) (List.range m)) =
      (if b i = true then (x i).getD j 0 else 0) + ts (fun q => if (b i || b q) = true then cf w pid k j i q else 0) (List.range m) := fun i => by
    cases hb : b i
    · simp only [Bool.false_eq_true, if_false, Bool.false_or]
      rw [ts_cong (f := fun q => if (decide (q = i) || b q) = true then cf w pid k j i q else 0) (g := fun q => if b q = true then cf w pid k j i q else 0) fun q _ => by
        by_cases e : q = i
        · subst e
          rw [hself]; simp
        · simp [e]]
      omega
    · simp only [if_true, Bool.true_or, eq_self]
      have h : ts (fun q => cf w pid k j i q) (List.range m) = ts (cf w pid k j i) (List.range m) := rfl
      omega
  have h3 := ts_add (fun i => if b i = true then (x i).getD j 0 else 0) (fun i => ts (fun q => if (b i || b q) = true then cf w pid k j i q else 0) (List.range m)) (List.range m)
  rw [hz, ← ts_cong fun i _ => e i] at h3
  have h4 := ts_add (fun i => if b i = true then (x i).getD j 0 + (o (s i)).getD j 0 + ts (cf w pid k j i) (List.range m) else 0) (fun i => - (if b i = true then (o (s i)).getD j 0 else - ts (fun q => if (decide (q = i) || b q) = true then cf w pid k j i q else 0) (List.range m))) (List.range m)
  rw [ts_neg] at h4
  have h5 := ts_cong (l := List.range m) (f := fun i => (if b i = true then (x i).getD j 0 + (o (s i)).getD j 0 + ts (cf w pid k j i) (List.range m) else 0) + - (if b i = true then (o (s i)).getD j 0 else - ts (fun q => if (decide (q = i) || b q) = true then cf w pid k j i q else 0) (List.range m))) (g := fun i => (if b i = true then (x i).getD j 0 + (o (s i)).getD j 0 + ts (cf w pid k j i) (List.range m) else 0) - (if b i = true then (o (s i)).getD j 0 else - ts (fun q => if (decide (q = i) || b q) = true then cf w pid k j i q else 0) (List.range m))) fun i _ => by omega
  rw [h5] at h4
  rw [h4] at h3
  omega
end
end Bl
end Go.Proofs.YtfeahgcigmoijaaDoor
