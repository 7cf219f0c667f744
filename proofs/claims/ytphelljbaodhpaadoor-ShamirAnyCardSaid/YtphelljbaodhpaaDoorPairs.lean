/- Lists of points as pairs: sorted by place, cells, appends of points onto rows of the call's own. Conditions: lengths as stated. -/
import Derived.Test.YtphelljbaodhpaaDoorShamA
import Derived.Test.YtphelljbaodhpaaDoorApp
import Derived.Test.YtphelljbaodhpaaDoorHdr
namespace Go.Proofs.YtphelljbaodhpaaDoor
open Go.RowKit Go.Lib Go.Maps
namespace ShM
open SlR FpM FpC PoM PoC
abbrev fs (ps : List (Nat × Nat)) : List Nat := ps.map Prod.fst
abbrev sn (ps : List (Nat × Nat)) : List Nat := ps.map Prod.snd
def Up (ps : List (Nat × Nat)) : Prop := ps.Pairwise fun a b => a.1 < b.1
/-- By places. -/
def srt (ps : List (Nat × Nat)) : List (Nat × Nat) := ps.mergeSort fun a b => decide (a.1 ≤ b.1)
theorem srt_perm (ps : List (Nat × Nat)) : (srt ps).Perm ps := List.mergeSort_perm _ _
theorem srt_len (ps : List (Nat × Nat)) : (srt ps).length = ps.length := (srt_perm ps).length_eq
theorem up_nodup {ps : List (Nat × Nat)} (h : Up ps) : (fs ps).Nodup := by
  unfold fs List.Nodup
  rw [List.pairwise_map]
  exact List.Pairwise.imp (fun h => Nat.ne_of_lt h) h
theorem srt_up {ps : List (Nat × Nat)} (h : (fs ps).Nodup) : Up (srt ps) := by
  have h1 := List.pairwise_mergeSort (le := fun a b : Nat × Nat => decide (a.1 ≤ b.1)) (fun a b c h1 h2 => by simp at *; omega) (fun a b => by simp; omega) ps
  have h2 : (fs (srt ps)).Nodup := ((srt_perm ps).map Prod.fst).nodup_iff.mpr h
  unfold fs List.Nodup at h2
  rw [List.pairwise_map] at h2
  refine List.Pairwise.imp (fun h => ?_) (h1.and h2)
  have := h.1
  have := h.2
  simp at *
  omega
theorem up_unique {ps qs : List (Nat × Nat)} (hp : qs.Perm ps) (hu : Up qs) : qs = srt ps := by
  have hn : (fs ps).Nodup := (hp.map Prod.fst).nodup_iff.mp (up_nodup hu)
  exact List.Perm.eq_of_pairwise (le := fun a b : Nat × Nat => a.1 < b.1) (fun a b _ _ h1 h2 => by omega) hu (srt_up hn) (hp.trans (srt_perm ps).symm)
/-- The cells. -/
def pc (ps : List (Nat × Nat)) : List Value := ps.flatMap fun p => [.int .u64 (p.1 : Nat), .int .u64 (p.2 : Nat)]
theorem pc_app (ps qs : List (Nat × Nat)) : pc (ps ++ qs) = pc ps ++ pc qs := by unfold pc; rw [List.flatMap_append]
theorem pc_len (ps : List (Nat × Nat)) : (pc ps).length = ps.length * 2 := by
  induction ps with
  | nil => rfl
  | cons p ps ih => rw [show pc (p :: ps) = pc [p] ++ pc ps from pc_app [p] ps, List.length_append, ih]; simp [pc]; omega
theorem pc_one (p : Nat × Nat) : pc [p] = [.int .u64 (p.1 : Nat), .int .u64 (p.2 : Nat)] := rfl
theorem fs_at (ps : List (Nat × Nat)) (k : Nat) : (fs ps).getD k 0 = (ps.getD k (0, 0)).1 := by
  rw [List.getD_eq_getElem?_getD, List.getD_eq_getElem?_getD, List.getElem?_map]; cases ps[k]? <;> rfl
theorem sn_at (ps : List (Nat × Nat)) (k : Nat) : (sn ps).getD k 0 = (ps.getD k (0, 0)).2 := by
  rw [List.getD_eq_getElem?_getD, List.getD_eq_getElem?_getD, List.getElem?_map]; cases ps[k]? <;> rfl
theorem take_snocP (ps : List (Nat × Nat)) (k : Nat) (h : k < ps.length) : ps.take (k + 1) = ps.take k ++ [ps.getD k (0, 0)] := by
  rw [List.take_add_one, List.getD_eq_getElem?_getD, List.getElem?_eq_getElem h]; rfl
theorem pc_pl (ps : List (Nat × Nat)) : ∀ k, k ≤ ps.length → pl (fs ps) (sn ps) k = pc (ps.take k)
  | 0, _ => rfl
  | k + 1, h => by rw [pl, pc_pl ps k (by omega), take_snocP ps k (by omega), pc_app, pc_one, fs_at, sn_at]
theorem pl_pc (ps : List (Nat × Nat)) (n : Nat) (h : ps.length = n) : pl (fs ps) (sn ps) n = pc ps := by
  rw [pc_pl ps n (by omega), List.take_of_length_le (by omega)]
theorem pc_at (ps : List (Nat × Nat)) (j : Nat) (h : j < ps.length) : (pc ps)[j * 2]? = some (.int .u64 ((ps.getD j (0, 0)).1 : Nat)) ∧ (pc ps)[j * 2 + 1]? = some (.int .u64 ((ps.getD j (0, 0)).2 : Nat)) := by
  have := pl_at (fs ps) (sn ps) j ps.length h
  rwa [pl_pc ps _ rfl, fs_at, sn_at] at this
theorem pc_cell (ps : List (Nat × Nat)) : ∀ u ∈ pc ps, u.oneCell' = true := fun u hu => by
  unfold pc at hu
  obtain ⟨p, _, hp⟩ := List.mem_flatMap.mp hu
  exact ints_oneCell .u64 [((p.1 : Nat) : Int), ((p.2 : Nat) : Int)] u hp
/-- A row of points. -/
abbrev RowP (w : World) (A : Option Addr) (ps : List (Nat × Nat)) : Prop := RowS w A (fs ps) (sn ps)
theorem RowP.of_own {w : World} {base : Nat} {e : TypeId} {n c : Nat} {A : Option Addr} {ps : List (Nat × Nat)} (h : w.ownsRow base e 2 (.slice A n c) n (pc ps)) (hn : ps.length = n) : RowP w A ps :=
  RowS.of_own (by rw [pl_pc ps n hn]; exact h) (by simp [hn])
theorem RowP.nil {w : World} {A : Option Addr} : RowP w A [] := fun j hj => by simp at hj
theorem RowP.at {w : World} {A : Option Addr} {ps : List (Nat × Nat)} (h : RowP w A ps) {k : Nat} (hk : k < ps.length) : ∃ b o, A = some ⟨b, o, none⟩ ∧ b < w.heap.size ∧ w.cell? ⟨b, o + k * 2, none⟩ = some (.int .u64 ((ps.getD k (0, 0)).1 : Nat)) ∧ w.cell? ⟨b, o + k * 2 + 1, none⟩ = some (.int .u64 ((ps.getD k (0, 0)).2 : Nat)) := by
  have := h k (by simpa using hk)
  rwa [fs_at, sn_at] at this
theorem RowP.take {w : World} {A : Option Addr} {ps : List (Nat × Nat)} (h : RowP w A ps) (k : Nat) : RowP w A (ps.take k) := by
  have := h.front k
  rwa [← List.map_take, ← List.map_take] at this
theorem RowP.drop {w : World} {b o : Nat} {ps : List (Nat × Nat)} (h : RowP w (some ⟨b, o, none⟩) ps) (k : Nat) : RowP w (some ⟨b, o + k * 2, none⟩) (ps.drop k) := fun j hj => by
  have hl : k + j < ps.length := by simp at hj; omega
  obtain ⟨b', o', e, h1, h2, h3⟩ := h.at (k := k + j) hl
  cases e
  have e1 : (ps.drop k).getD j (0, 0) = ps.getD (k + j) (0, 0) := by rw [List.getD_eq_getElem?_getD, List.getD_eq_getElem?_getD, List.getElem?_drop]
  rw [fs_at, sn_at, e1]
  refine ⟨b, o + k * 2, rfl, h1, ?_, ?_⟩
  · rw [← h2]; congr 2; omega
  · rw [← h3]; congr 2; omega
theorem RowP.cells {w : World} {A : Option Addr} {ad : Addr} {ps : List (Nat × Nat)} (h : RowP w A ps) (hA : A = some ad) : ∀ j u, (pc ps)[j]? = some u → w.cell? (ad.add j) = some u := fun j u hj => by
  have hl : j < ps.length * 2 := by rw [← pc_len ps]; exact (List.getElem?_eq_some_iff.mp hj).1
  obtain ⟨b', o', e, _, h1, h2⟩ := h.at (k := j / 2) (by omega)
  rw [hA] at e
  cases e
  rw [Addr.add_lit]
  have hp := pc_at ps (j / 2) (by omega)
  rcases Nat.mod_two_eq_zero_or_one j with hm | hm
  · rw [show j / 2 * 2 = j by omega] at h1 hp
    rw [h1, ← hj]; exact hp.1.symm
  · rw [show o' + j / 2 * 2 + 1 = o' + j by omega] at h2
    rw [show j / 2 * 2 + 1 = j by omega] at hp
    rw [h2, ← hj]; exact hp.2.symm
theorem RowP.empty {w : World} {ps : List (Nat × Nat)} (h : RowP w none ps) : ps = [] := by
  cases ps with
  | nil => rfl
  | cons p ps => obtain ⟨b, o, e, _⟩ := h.at (k := 0) (by simp); cases e
namespace App2
variable {P : Program}
theorem run (w : World) (base : Nat) (t ty e : TypeId) (i : TypeInfo) (z : Value) (ht : P.underlying t = some (.slice e)) (hi : P.info? e = some i) (hz : i.zero = some z)
    (hsize : i.size = 2) (hby : i.bytes = 16) (hzs : z.cells.size = 2) (v : Value) (n : Nat) (xs : List (Nat × Nat)) (hown : w.ownsRow base e 2 v n (pc xs))
    (A : Option Addr) (m c : Nat) (news : List (Nat × Nat)) (hm : news.length = m) (hr : RowP w A news) (h63 : n + m ≤ 1000000) (hbase : base ≤ w.heap.size) :
    ∃ A' c' w', (Builtin.append_ #[t, t] ty #[v, .slice A m c]).run P w = .ok (.slice A' (n + m) c') w' ∧ w'.ownsRow base e 2 (.slice A' (n + m) c') (n + m) (pc (xs ++ news)) ∧ w.grownBy w' v.ownBlock ∧ n + m ≤ c' := by
  cases A with
  | none =>
    obtain rfl := hr.empty
    obtain rfl : m = 0 := hm.symm
    obtain ⟨A', c', rfl, hc⟩ := own_form2 hown
    exact ⟨A', c', w, App.runNil w base t ty e i 2 ht hi _ n _ hown c, by simpa using hown, World.grownBy.refl w _, hc⟩
  | some ad =>
    obtain ⟨v', w', hrun, h2, h3, _, _⟩ := run_append_own_at (P := P) w base t ty e i z 2 16 ht hi hz hsize hby hzs (by omega) v n (pc xs) hown ad m c (pc news) (by rw [pc_len, hm]) (hr.cells rfl)
      (pc_cell news) (by unfold maxLen; omega) (by omega) hbase
    obtain ⟨A', c', rfl, hc⟩ := own_form2 h2
    exact ⟨A', c', w', hrun, by rw [pc_app]; exact h2, h3, hc⟩
/-- append of a slice of points onto a row of the call's own. -/
theorem wp {ops : Array Oper} {rest : List Oper} {o : Oper} {a : Act} {Q : Exit → Act → World → Prop} {w : World} (hgd : o.guard = none) (s x : Operand) (t : TypeId)
    (ho : o.op = .call { callee := .builtin .append, args := #[s, x], argTypes := #[t, t] })
    (base : Nat) (e : TypeId) (i : TypeInfo) (z : Value) (ht : P.underlying t = some (.slice e)) (hi : P.info? e = some i) (hz : i.zero = some z)
    (hsize : i.size = 2) (hby : i.bytes = 16) (hzs : z.cells.size = 2) (v : Value) (n : Nat) (xs : List (Nat × Nat)) (hs : a.eval s = v) (hown : w.ownsRow base e 2 v n (pc xs))
    (A : Option Addr) (m c : Nat) (news : List (Nat × Nat)) (hx : a.eval x = .slice A m c) (hm : news.length = m) (hr : RowP w A news) (h63 : n + m ≤ 1000000) (hbase : base ≤ w.heap.size)
    (h : ∀ A' c' w', w'.ownsRow base e 2 (.slice A' (n + m) c') (n + m) (pc (xs ++ news)) → w.grownBy w' v.ownBlock → n + m ≤ c' → wpList P ops Q rest (a.put o.dst (.slice A' (n + m) c')) w') : wpList P ops Q (o :: rest) a w := by
  refine wpList_plain hgd fun K hK => ?_
  obtain ⟨A', c', w', hrun, h2, h3, h4⟩ := run w base t o.type e i z ht hi hz hsize hby hzs v n xs hown A m c news hm hr h63 hbase
  unfold Oper.wp
  simp only [execOp, ho, resolve, invoke, builtin, Sem.run_bind, Sem.run_pure, Result.andThen_ok, List.map_toArray, List.map_cons, List.map_nil, hs, hx, hrun]
  exact hK _ _ (h A' c' w' h2 h3 h4)
end App2
theorem below_own {w w' : World} {base : Nat} {e : TypeId} {size n m : Nat} {v : Value} {xs : List Value} (hb : Below m w w') {w2 : World} (hg : w'.grownBy w2 v.ownBlock) (hown : w'.ownsRow base e size v n xs) (hm : m ≤ base) (hs : m ≤ w'.heap.size) : Below m w w2 :=
  hb.grown hg hs (fun g h => Nat.le_trans hm (hown.lt g h).1)
end ShM
end Go.Proofs.YtphelljbaodhpaaDoor
