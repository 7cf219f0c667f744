/- Rows that are hidden: who is here, who is kept, and that what opens is the same in whatever order it is added up; what hides a sum is what opens it. No condition. -/
import Derived.Test.YtfeahgcigmoijaaGreatDoorPairMath
namespace Go.Proofs.YtfeahgcigmoijaaGreatDoor
open Go.RowKit Go.Lib
namespace Bl
open SlR VecC Pe
/-- Is a number one of a list? -/
def inn (l : List Int) (x : Int) : Bool := l.any fun y => y == x
theorem inn_iff {l : List Int} {x : Int} : inn l x = true ↔ x ∈ l := by
  unfold inn
  rw [List.any_eq_true]
  exact ⟨fun ⟨y, h, e⟩ => by have : y = x := by simpa using e
                             exact this ▸ h, fun h => ⟨x, h, by simp⟩⟩
abbrev ids (ps : List (Int × Nat)) : List Int := ps.map (·.1)
/-- Those of peers that came. -/
def hereF (came : List Int) (ps : List (Int × Nat)) : List (Int × Nat) := ps.filter fun p => inn came p.1
/-- Those that came, and one other. -/
def keepF (came : List Int) (i : Int) (ps : List (Int × Nat)) : List (Int × Nat) := ps.filter fun q => q.1 == i || inn came q.1
/-- Is a peer one of a list? -/
def inP (l : List (Int × Nat)) (p : Int × Nat) : Bool := l.any fun q => decide (q = p)
theorem inP_iff {l : List (Int × Nat)} {p : Int × Nat} : inP l p = true ↔ p ∈ l := by
  unfold inP
  rw [List.any_eq_true]
  exact ⟨fun ⟨y, h, e⟩ => by have : y = p := by simpa using e
                             exact this ▸ h, fun h => ⟨p, h, by simp⟩⟩
theorem mayF_mono : ∀ {lo lo' : Int} {ps : List (Int × Nat)}, mayF lo ps = true → lo' ≤ lo → mayF lo' ps = true
  | _, _, [], _, _ => rfl
  | lo, lo', p :: ps, h, hl => by
    rw [mayF_cons] at h ⊢
    simp only [Bool.and_eq_true, decide_eq_true_eq] at h ⊢
    exact ⟨⟨⟨⟨by omega, h.1.1.1.2⟩, h.1.1.2⟩, h.1.2⟩, h.2⟩
theorem mayF_filter (f : Int × Nat → Bool) : ∀ {lo : Int} {ps : List (Int × Nat)}, mayF lo ps = true → mayF lo (ps.filter f) = true
  | _, [], _ => rfl
  | lo, p :: ps, h => by
    rw [mayF_cons] at h
    simp only [Bool.and_eq_true, decide_eq_true_eq] at h
    have ih := mayF_filter f h.2
    rw [List.filter_cons]
    split
    · rw [mayF_cons]
      simp only [Bool.and_eq_true, decide_eq_true_eq]
      exact ⟨h.1, ih⟩
    · exact mayF_mono ih (by omega)
theorem mayF_all : ∀ {lo : Int} {ps : List (Int × Nat)}, mayF lo ps = true → ∀ p ∈ ps, lo ≤ p.1 ∧ p.1 ≤ 63 ∧ p.2 < 2305843009213693951
  | _, [], _, p, hp => by cases hp
  | lo, q :: ps, h, p, hp => by
    rw [mayF_cons] at h
    simp only [Bool.and_eq_true, decide_eq_true_eq] at h
    rcases List.mem_cons.mp hp with rfl | hp
    · exact ⟨h.1.1.1.1, h.1.1.1.2, h.1.2⟩
    · have := mayF_all h.2 p hp
      exact ⟨by omega, this.2⟩
theorem mayF_asc : ∀ {lo : Int} {ps : List (Int × Nat)}, mayF lo ps = true → (ids ps).Pairwise (· < ·)
  | _, [], _ => List.Pairwise.nil
  | lo, q :: ps, h => by
    rw [mayF_cons] at h
    simp only [Bool.and_eq_true, decide_eq_true_eq] at h
    refine List.Pairwise.cons (fun x hx => ?_) (mayF_asc h.2)
    obtain ⟨p, hp, rfl⟩ := List.mem_map.mp hx
    have := (mayF_all h.2 p hp).1
    show q.1 < p.1
    omega
theorem same_id {ps : List (Int × Nat)} (ha : (ids ps).Pairwise (· < ·)) {p q : Int × Nat} (hp : p ∈ ps) (hq : q ∈ ps) (h : p.1 = q.1) : p = q := by
  induction ps with
  | nil => cases hp
  | cons r ps ih =>
    rw [ids, List.map_cons, List.pairwise_cons] at ha
    rcases List.mem_cons.mp hp with rfl | hp'
    · rcases List.mem_cons.mp hq with rfl | hq'
      · rfl
      · have := ha.1 q.1 (List.mem_map_of_mem hq'); omega
    · rcases List.mem_cons.mp hq with rfl | hq'
      · have := ha.1 p.1 (List.mem_map_of_mem hp'); omega
      · exact ih ha.2 hp' hq'
theorem asc_ext : ∀ {l m : List Int}, l.Pairwise (· < ·) → m.Pairwise (· < ·) → (∀ x, x ∈ l ↔ x ∈ m) → l = m
  | [], [], _, _, _ => rfl
  | [], y :: m, _, _, h => by have := (h y).mpr List.mem_cons_self; cases this
  | x :: l, [], _, _, h => by have := (h x).mp List.mem_cons_self; cases this
  | x :: l, y :: m, hl, hm, h => by
    rw [List.pairwise_cons] at hl hm
    have hxy : x = y := by
      rcases List.mem_cons.mp ((h x).mp List.mem_cons_self) with e | e
      · exact e
      · rcases List.mem_cons.mp ((h y).mpr List.mem_cons_self) with e' | e'
        · exact e'.symm
        · have := hm.1 x e; have := hl.1 y e'; omega
    subst hxy
    rw [asc_ext hl.2 hm.2 fun z => ?_]
    constructor
    · intro hz
      rcases List.mem_cons.mp ((h z).mp (List.mem_cons_of_mem _ hz)) with e | e
      · have := hl.1 z hz; omega
      · exact e
    · intro hz
      rcases List.mem_cons.mp ((h z).mpr (List.mem_cons_of_mem _ hz)) with e | e
      · have := hm.1 z hz; omega
      · exact e
theorem ids_here (came : List Int) (ps : List (Int × Nat)) : ids (hereF came ps) = (ids ps).filter (inn came) := by
  unfold ids hereF
  rw [List.filter_map]; rfl
/-- Those that came are all peers and ascend, just where they are the IDs of those here. -/
theorem came_iff {ps : List (Int × Nat)} (ha : (ids ps).Pairwise (· < ·)) (came : List Int) : ids (hereF came ps) = came ↔ (∀ c ∈ came, c ∈ ids ps) ∧ came.Pairwise (· < ·) := by
  rw [ids_here]
  constructor
  · intro h
    refine ⟨fun c hc => ?_, ?_⟩
    · rw [← h] at hc
      exact (List.mem_filter.mp hc).1
    · rw [← h]
      exact ha.filter _
  · rintro ⟨h1, h2⟩
    refine asc_ext (ha.filter _) h2 fun x => ?_
    rw [List.mem_filter, inn_iff]
    exact ⟨fun h => h.2, fun h => ⟨h1 x h, h⟩⟩
theorem inP_here {came : List Int} {ps : List (Int × Nat)} {p : Int × Nat} (hp : p ∈ ps) : inP (hereF came ps) p = inn came p.1 := by
  rw [Bool.eq_iff_iff, inP_iff]
  unfold hereF
  rw [List.mem_filter]
  exact ⟨fun h => h.2, fun h => ⟨hp, h⟩⟩
/-- Those that the program keeps, and those that are meant. -/
theorem keep_eq {came : List Int} {ps : List (Int × Nat)} (ha : (ids ps).Pairwise (· < ·)) {p : Int × Nat} (hp : p ∈ ps) :
    (ps.filter fun q => !(decide (q ≠ p) && !inP (hereF came ps) q)) = keepF came p.1 ps := by
  unfold keepF
  apply List.filter_congr
  intro q hq
  rw [inP_here hq]
  by_cases h : q = p
  · subst h; simp
  · have h1 : q.1 ≠ p.1 := fun e => h (same_id ha hq hp e)
    simp [h, h1]
theorem keep_in {came : List Int} {ps : List (Int × Nat)} {p : Int × Nat} (hp : p ∈ ps) : ((keepF came p.1 ps).any fun q => q.1 == p.1) = true := by
  rw [List.any_eq_true]
  exact ⟨p, by unfold keepF; rw [List.mem_filter]; exact ⟨hp, by simp⟩, by simp⟩
/-- A sum over a list. -/
def ts {α : Type} (h : α → Int) : List α → Int
  | [] => 0
  | a :: l => h a + ts h l
theorem ts_app {α : Type} (h : α → Int) : ∀ l m : List α, ts h (l ++ m) = ts h l + ts h m
  | [], m => by simp [ts]
  | a :: l, m => by simp only [List.cons_append, ts, ts_app h l m]; omega
theorem ts_add {α : Type} (f g : α → Int) : ∀ l : List α, ts (fun a => f a + g a) l = ts f l + ts g l
  | [] => rfl
  | a :: l => by simp only [ts, ts_add f g l]; omega
theorem ts_neg {α : Type} (f : α → Int) : ∀ l : List α, ts (fun a => - f a) l = - ts f l
  | [] => rfl
  | a :: l => by simp only [ts, ts_neg f l]; omega
theorem ts_cong {α : Type} {f g : α → Int} : ∀ {l : List α}, (∀ a ∈ l, f a = g a) → ts f l = ts g l
  | [], _ => rfl
  | a :: l, h => by simp only [ts, ts_cong (fun b hb => h b (List.mem_cons_of_mem _ hb)), h a List.mem_cons_self]
theorem ts_map {α β : Type} (f : β → Int) (u : α → β) : ∀ l : List α, ts f (l.map u) = ts (fun a => f (u a)) l
  | [] => rfl
  | a :: l => by simp only [List.map_cons, ts, ts_map f u l]
theorem ts_filter {α : Type} (f : α → Int) (c : α → Bool) : ∀ l : List α, ts f (l.filter c) = ts (fun a => if c a = true then f a else 0) l
  | [] => rfl
  | a :: l => by
    rw [List.filter_cons]
    split
    · rename_i h; simp only [ts, ts_filter f c l, if_pos h]
    · rename_i h; simp only [ts, ts_filter f c l, if_neg h]; omega
/-- A row that is added up along a list. -/
theorem fold_is {α : Type} {n : Nat} (step : List Int → α → List Int) (h : α → Nat → Int) (hs : ∀ a row f, Is n row f → Is n (step row a) (fun j => f j + h a j)) :
    ∀ (l : List α) (row : List Int) (f : Nat → Int), Is n row f → Is n (l.foldl step row) (fun j => f j + ts (fun a => h a j) l)
  | [], row, f, hr => hr.of fun j => by simp [ts]
  | a :: l, row, f, hr => (fold_is step h hs l _ _ (hs a row f hr)).of fun j => by simp only [ts]; omega
section
variable {n : Nat} (o : Nat → List Int) (w : Nat → List Int) (F G : Int → Option Nat) (came : List Int) (ps : List (Int × Nat))
/-- Is what one needs known? -/
def hasF (p : Int × Nat) : Bool := if inn came p.1 then (F p.1).isSome else (G p.1).isSome
/-- What one turns in the row that hides. -/
def turn (n : Nat) (row : List Int) (p : Int × Nat) : List Int :=
  if inn came p.1 then vAdd row (o ((F p.1).getD 0)) else vSub row (rowP w p.1 ((G p.1).getD 0) (keepF came p.1 ps) n)
def openF (n : Nat) (l : List (Int × Nat)) : List Int := l.foldl (turn o w F G came ps n) (List.replicate n 0)
/-- The same, by those that came, and by the others. -/
def openA (n : Nat) (l : List Int) : List Int := l.foldl (fun row i => vAdd row (o ((F i).getD 0))) (List.replicate n 0)
def turnB (n : Nat) (row : List Int) (p : Int × Nat) : List Int :=
  if inn came p.1 then row else vSub row (rowP w p.1 ((G p.1).getD 0) (keepF came p.1 ps) n)
theorem openF_snoc {k : Nat} {l : List (Int × Nat)} (h : k < l.length) : openF o w F G came ps n (l.take (k + 1)) = turn o w F G came ps n (openF o w F G came ps n (l.take k)) (l.getD k (0, 0)) := by
  unfold openF
  rw [List.take_add_one, List.getD_eq_getElem?_getD, List.getElem?_eq_getElem h, List.foldl_append]
  rfl
theorem openA_snoc {k : Nat} {l : List Int} (h : k < l.length) : openA o F n (l.take (k + 1)) = vAdd (openA o F n (l.take k)) (o ((F (l.getD k 0)).getD 0)) := by
  unfold openA
  rw [List.take_add_one, List.getD_eq_getElem?_getD, List.getElem?_eq_getElem h, List.foldl_append]
  rfl
theorem turnB_snoc {k : Nat} {l : List (Int × Nat)} (row : List Int) (h : k < l.length) : (l.take (k + 1)).foldl (turnB w G came ps n) row = turnB w G came ps n ((l.take k).foldl (turnB w G came ps n) row) (l.getD k (0, 0)) := by
  rw [List.take_add_one, List.getD_eq_getElem?_getD, List.getElem?_eq_getElem h, List.foldl_append]
  rfl
variable {o w}
theorem turn_R (ho : ∀ s, R n (o s)) (hw : ∀ s, R n (w s)) {row : List Int} (h : R n row) (p : Int × Nat) : R n (turn o w F G came ps n row p) := by
  unfold turn
  split
  · exact R.add h.1 (ho _).1
  · exact R.sub h.1 (rowP_R (fun s => (hw s).1) _ _ _).1
theorem openF_R (ho : ∀ s, R n (o s)) (hw : ∀ s, R n (w s)) (l : List (Int × Nat)) : R n (openF o w F G came ps n l) := by
  unfold openF
  have : ∀ (l : List (Int × Nat)) (row : List Int), R n row → R n (l.foldl (turn o w F G came ps n) row) := by
    intro l
    induction l with
    | nil => exact fun _ h => h
    | cons p l ih => exact fun row h => ih _ (turn_R F G came ps ho hw h p)
  exact this l _ (R.zero n)
theorem openA_R (ho : ∀ s, R n (o s)) (l : List Int) : R n (openA o F n l) := by
  unfold openA
  have : ∀ (l : List Int) (row : List Int), R n row → R n (l.foldl (fun row i => vAdd row (o ((F i).getD 0))) row) := by
    intro l
    induction l with
    | nil => exact fun _ h => h
    | cons p l ih => exact fun row h => ih _ (R.add h.1 (ho _).1)
  exact this l _ (R.zero n)
theorem turnB_R (hw : ∀ s, R n (w s)) (l : List (Int × Nat)) {row : List Int} (h : R n row) : R n (l.foldl (turnB w G came ps n) row) := by
  induction l generalizing row with
  | nil => exact h
  | cons p l ih =>
    refine ih ?_
    unfold turnB
    split
    · exact h
    · exact R.sub h.1 (rowP_R (fun s => (hw s).1) _ _ _).1
/-- What one adds to the row that hides, at a place. -/
def tv (o : Nat → List Int) (w : Nat → List Int) (F G : Int → Option Nat) (came : List Int) (ps : List (Int × Nat)) (n : Nat) (p : Int × Nat) (j : Nat) : Int :=
  if inn came p.1 then (o ((F p.1).getD 0)).getD j 0 else - (rowP w p.1 ((G p.1).getD 0) (keepF came p.1 ps) n).getD j 0
theorem openF_is (ho : ∀ s, R n (o s)) (hw : ∀ s, R n (w s)) (l : List (Int × Nat)) : Is n (openF o w F G came ps n l) (fun j => ts (fun p => tv o w F G came ps n p j) l) := by
  have h := fold_is (n := n) (turn o w F G came ps n) (tv o w F G came ps n) (fun p row f hr => by
    unfold turn tv
    split
    · exact (hr.add (Is.self (ho _)))
    · exact (hr.sub (Is.self (rowP_R (fun s => (hw s).1) _ _ _))).of fun j => by omega) l _ _ (Is.zero n)
  exact h.of fun j => by omega
theorem open_eq (ho : ∀ s, R n (o s)) (hw : ∀ s, R n (w s)) (hc : ids (hereF came ps) = came) :
    ps.foldl (turnB w G came ps n) (openA o F n came) = openF o w F G came ps n ps := by
  have h1 := fold_is (n := n) (fun row i => vAdd row (o ((F i).getD 0))) (fun i j => (o ((F i).getD 0)).getD j 0) (fun i row f hr => hr.add (Is.self (ho _))) came _ _ (Is.zero n)
  have h2 := fold_is (n := n) (turnB w G came ps n) (fun p j => if inn came p.1 then 0 else - (rowP w p.1 ((G p.1).getD 0) (keepF came p.1 ps) n).getD j 0) (fun p row f hr => by
    unfold turnB
    split
    · exact hr.of fun j => by omega
    · exact (hr.sub (Is.self (rowP_R (fun s => (hw s).1) _ _ _))).of fun j => by omega) ps _ _ h1
  refine h2.eq (openF_is F G came ps ho hw ps) fun j hj => ?_
  have e1 : ts (fun i => (o ((F i).getD 0)).getD j 0) came = ts (fun p : Int × Nat => if inn came p.1 = true then (o ((F p.1).getD 0)).getD j 0 else 0) ps := by
    have : ts (fun i => (o ((F i).getD 0)).getD j 0) came = ts (fun i => (o ((F i).getD 0)).getD j 0) (ids (hereF came ps)) := by rw [hc]
    rw [this, ts_map]
    exact ts_filter (fun p : Int × Nat => (o ((F p.1).getD 0)).getD j 0) (fun p => inn came p.1) ps
  show (0 + ts (fun i => (o ((F i).getD 0)).getD j 0) came + ts (fun p : Int × Nat => if inn came p.1 = true then 0 else - (rowP w p.1 ((G p.1).getD 0) (keepF came p.1 ps) n).getD j 0) ps) % 4294967296 = _
  rw [e1, Int.zero_add, ← ts_add]
  rw [ts_cong (g := fun p => tv o w F G came ps n p j) fun p _ => by
    unfold tv
    split <;> omega]
/-- Is all known? -/
theorem has_eq (hc : ids (hereF came ps) = came) : ps.all (hasF F G came) = (came.all (fun i => (F i).isSome) && ps.all (fun p => inn came p.1 || (G p.1).isSome)) := by
  rw [Bool.eq_iff_iff, Bool.and_eq_true, List.all_eq_true, List.all_eq_true, List.all_eq_true]
  constructor
  · intro h
    refine ⟨fun i hi => ?_, fun p hp => ?_⟩
    · rw [← hc] at hi
      obtain ⟨p, hp, rfl⟩ := List.mem_map.mp hi
      unfold hereF at hp
      rw [List.mem_filter] at hp
      have := h p hp.1
      unfold hasF at this
      rwa [if_pos hp.2] at this
    · have := h p hp
      unfold hasF at this
      cases hi : inn came p.1
      · rw [hi] at this; simpa using this
      · rfl
  · rintro ⟨h1, h2⟩ p hp
    unfold hasF
    cases hi : inn came p.1
    · have := h2 p hp
      rw [hi] at this; simpa using this
    · exact h1 _ (inn_iff.mp hi)
end
end Bl
end Go.Proofs.YtfeahgcigmoijaaGreatDoor
