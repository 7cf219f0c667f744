/- A copy of a row of peers, and those that are left of it when some are deleted. Conditions: what is handed in reads as rows of peers; lengths as stated. -/
import Derived.Test.YtfeahgcigmoijaaGreatDoorSl10
import Derived.Lib.SliceRun
import Derived.Laws.IdiomCopy
namespace Go.Proofs.YtfeahgcigmoijaaGreatDoor
open Go.RowKit Go.Lib
namespace Bl
open SlR VecC VecE Pe
theorem infoQ : (Tryz.prog.info? 50).map (fun i => (i.zero, i.size, i.bytes)) = some (some (.agg #[.int .i64 0, .int .u64 0]), 2, 16) := by kernel_rfl
theorem qc_at2 (ps : List (Int × Nat)) (j : Nat) (u : Value) (h : (qc ps)[j]? = some u) : j < ps.length * 2 := by
  have := (List.getElem?_eq_some_iff.mp h).1
  rwa [qc_len] at this
/-- append of a row of peers onto an own row, from an earlier world on. -/
theorem many {P : Program} {ops : Array Oper} {rest : List Oper} {o : Oper} {a : Act} {Q : Exit → Act → World → Prop} (W w1 : World) {w : World} [e1 : Ext w1 w] [e2 : Ext W w] (hgd : o.guard = none) (s x : Operand) (t : TypeId)
    (ho : o.op = .call { callee := .builtin .append, args := #[s, x], argTypes := #[t, t] }) (e : TypeId) (i : TypeInfo) (z : Value) (ht : P.underlying t = some (.slice e)) (hi : P.info? e = some i) (hz : i.zero = some z)
    (hsize : i.size = 2) (hby : i.bytes = 16) (hzs : z.cells.size = 2) (v : Value) (n : Nat) (xs : List (Int × Nat)) (hs : a.eval s = v) (hown : w1.ownsRow W.heap.size e 2 v n (qc xs))
    (b O m c : Nat) (ys : List (Int × Nat)) (hm : ys.length = m) (hx : a.eval x = .slice (some ⟨b, O, none⟩) m c) (hr : RowQ w (some ⟨b, O, none⟩) ys) (h63 : n + m ≤ 1000000)
    (h : ∀ A' c' w', w'.ownsRow W.heap.size e 2 (.slice A' (n + m) c') (n + m) (qc (xs ++ ys)) → Step W w' → n + m ≤ c' → w.grownBy w' v.ownBlock → wpList P ops Q rest (a.put o.dst (.slice A' (n + m) c')) w') : wpList P ops Q (o :: rest) a w := by
  refine wpList_plain hgd fun K hK => ?_
  have hown2 : w.ownsRow W.heap.size e 2 v n (qc xs) := own_ext hown e1
  obtain ⟨v', w', hrun, h2, h3, _, _⟩ := run_append_own_at (P := P) w W.heap.size t o.type e i z 2 16 ht hi hz hsize hby hzs (by omega) v n (qc xs) hown2 ⟨b, O, none⟩ m c (qc ys) (by rw [qc_len, hm])
    (fun j u hj => by
      have hl := qc_at2 ys j u hj
      obtain ⟨b', o', e, _, h1, h2⟩ := hr (j / 2) (by omega)
      cases e
      have hq := qc_at ys (j / 2) (by omega)
      rw [Addr.add_lit]
      rcases Nat.mod_two_eq_zero_or_one j with hj2 | hj2
      · have ej : j / 2 * 2 = j := by omega
        rw [ej] at hq h1
        rw [h1, ← hj, hq.1]
      · have ej : j / 2 * 2 + 1 = j := by omega
        rw [ej] at hq
        rw [show O + j = O + j / 2 * 2 + 1 by omega, h2, ← hj, hq.2]) (qc_cell ys) (by unfold maxLen; omega) (by omega) e2.size
  obtain ⟨A', c', rfl, hc⟩ := own_form2 h2
  rw [← qc_app] at h2
  unfold Oper.wp
  simp only [execOp, ho, resolve, invoke, builtin, Sem.run_bind, Sem.run_pure, Result.andThen_ok, List.map_toArray, List.map_cons, List.map_nil, hs, hx, hrun]
  exact hK _ _ (h A' c' w' h2 ⟨below_own e2.h h3 hown2 (Nat.le_refl _) e2.size⟩ hc h3)
/-- A copy of a row: onto an empty row that the call has just made. -/
theorem manyE {P : Program} {ops : Array Oper} {rest : List Oper} {o : Oper} {a : Act} {Q : Exit → Act → World → Prop} {w : World} (H : Nat) (hgd : o.guard = none) (s x : Operand) (t : TypeId)
    (ho : o.op = .call { callee := .builtin .append, args := #[s, x], argTypes := #[t, t] }) (e : TypeId) (i : TypeInfo) (z : Value) (ht : P.underlying t = some (.slice e)) (hi : P.info? e = some i) (hz : i.zero = some z)
    (hsize : i.size = 2) (hby : i.bytes = 16) (hzs : z.cells.size = 2) (hs : a.eval s = .slice (some ⟨H, 0, none⟩) 0 0) (hH : w.heap.size = H)
    (b O m c : Nat) (ys : List (Int × Nat)) (hm : ys.length = m) (hx : a.eval x = .slice (some ⟨b, O, none⟩) m c) (hr : RowQ w (some ⟨b, O, none⟩) ys) (h63 : m ≤ 1000000)
    (h : ∀ A' c' w', w'.ownsRow w.heap.size e 2 (.slice A' m c') m (qc ys) → Step w w' → wpList P ops Q rest (a.put o.dst (.slice A' m c')) w') : wpList P ops Q (o :: rest) a (w.alloc (.cells #[] e (0, 0))) := by
  subst hH
  have hown : (w.alloc (.cells #[] e (0, 0))).ownsRow w.heap.size e 2 (.slice (some ⟨w.heap.size, 0, none⟩) 0 0) 0 (qc []) := World.ownsRow_lit w #[] 0 (Nat.le_refl _) (by omega) rfl
  refine many w (w.alloc (.cells #[] e (0, 0))) hgd s x t ho e i z ht hi hz hsize hby hzs _ 0 [] hs hown b O m c ys hm hx hr.to (by omega) fun A' c' w' h1 h2 _ _ => ?_
  rw [Nat.zero_add, List.nil_append] at h1
  rw [Nat.zero_add]
  exact h A' c' w' h1 h2
set_option maxHeartbeats 1600000 in
set_option maxRecDepth 100000 in
/-- A copy. -/
theorem clone_any (b O c n : Nat) (ps : List (Int × Nat)) (w : World) (hn : ps.length = n) (hn2 : n ≤ 100000) (hr : RowQ w (some ⟨b, O, none⟩) ps) :
    Calls Tryz.prog 55 #[.slice (some ⟨b, O, none⟩) n c] w fun e w' => ∃ A' c', e = .returned (.slice A' n c') ∧ w'.ownsRow w.heap.size 50 2 (.slice A' n c') n (qc ps) ∧ Step w w' := by
  obtain ⟨i0, hi, hz0, hz1, hz2⟩ := info_parts infoQ
  have q22 : ∀ (w : World) (a : Option Addr) (n c n' c' : Nat), (binOp .eql 34 (.slice a n c) (.slice none n' c')).run Tryz.prog w = .ok (.bool a.isNone) w := fun w a n c n' c' => Lib.run_eql_slice_nil w _ _ a n c n' c' Tryz.underlying34
  go_enter Tryz.func55, Tryz.ntmps55
  go_wp2_with (at_builtin; refine manyE w.heap.size rfl _ _ 34 rfl 50 i0 _ Tryz.underlying34 hi hz0 hz1 hz2 rfl rfl rfl b O n c ps hn rfl hr (by omega) ?_; intro A2 c2 w2 O2 S2)
  go_ret
  exact ⟨A2, c2, rfl, O2, S2⟩
/-- What one deletes: all but one, and those that are here. -/
def del (hs : List (Int × Nat)) (o p : Int × Nat) : Bool := decide (p ≠ o) && !inP hs p
/-- What the closure reads. -/
def Cap (w : World) (bo bh : Nat) (ox : Int) (oy : Nat) (Ah : Option Addr) (m ch : Nat) (hs : List (Int × Nat)) : Prop :=
  w.cell? ⟨bo, 0, none⟩ = some (.int .i64 ox) ∧ w.cell? ⟨bo, 1, none⟩ = some (.int .u64 (oy : Int)) ∧ w.cell? ⟨bh, 0, none⟩ = some (.slice Ah m ch) ∧ RowQ w Ah hs
theorem Cap.to {w w' : World} {bo bh : Nat} {ox : Int} {oy : Nat} {Ah : Option Addr} {m ch : Nat} {hs : List (Int × Nat)} (h : Cap w bo bh ox oy Ah m ch hs) [e : Ext w w'] : Cap w' bo bh ox oy Ah m ch hs :=
  ⟨(e.h.cell (World.block_lt_of_cell? w _ h.1)).trans h.1, (e.h.cell (World.block_lt_of_cell? w _ h.2.1)).trans h.2.1, (e.h.cell (World.block_lt_of_cell? w _ h.2.2.1)).trans h.2.2.1, h.2.2.2.to⟩
set_option maxHeartbeats 1600000 in
set_option maxRecDepth 100000 in
theorem del_any (x : Int) (y : Nat) (bo bh : Nat) (ox : Int) (oy : Nat) (Ah : Option Addr) (m ch : Nat) (hs : List (Int × Nat)) (w : World) (hm : hs.length = m) (hm2 : m ≤ 100000) (hC : Cap w bo bh ox oy Ah m ch hs) :
    Calls Tryz.prog 56 #[.agg #[.int .i64 x, .int .u64 y], .pointer (some ⟨bo, 0, none⟩), .pointer (some ⟨bh, 0, none⟩)] w fun e w' => e = .returned (.bool (del hs (ox, oy) (x, y))) ∧ Step w w' := by
  have hG0 : (w.alloc (.cells #[.int .i64 x, .int .u64 y] 50 (0, 0))).cell? ⟨w.heap.size, 0, none⟩ = some (.int .i64 x) := by simp
  have hC2 : Cap (w.alloc (.cells #[.int .i64 x, .int .u64 y] 50 (0, 0))) bo bh ox oy Ah m ch hs := hC.to
  obtain ⟨c1, c2, c3, c4⟩ := hC2
  have hE := fun w => eqQ x ox y oy w
  have cP := fun (w : World) (h : RowQ w Ah hs) => conP_any Ah ch m hs x y w hm hm2 h
  have HD : Hid (del hs (ox, oy) (x, y) = (!decide ((x, y) = (ox, oy)) && !inP hs (x, y))) := Lib.hid (by unfold del; by_cases h : (x, y) = (ox, oy) <;> simp [h])
  cases hb : decide ((x, y) = (ox, oy))
  · rw [hb] at hE HD
    clear hb
    cases hi : inP hs (x, y)
    all_goals
      rw [hi] at cP HD
      clear hi
      go_enter Tryz.func56, Tryz.ntmps56
      go_wp2_with (go_at_call 27; ((with_reducible refine (cP _ c4.to).mono ?_); rintro e w1 ⟨rfl, S1⟩))
      go_ret
      exact ⟨by rw [HD.out]; rfl, Step.of inferInstance⟩
  · rw [hb] at hE HD
    clear hb
    go_enter Tryz.func56, Tryz.ntmps56
    go_wp2
    go_ret
    exact ⟨by rw [HD.out]; rfl, Step.of inferInstance⟩
set_option maxHeartbeats 1600000 in
theorem idxD_any (A : Option Addr) (c n : Nat) (ps : List (Int × Nat)) (bo bh : Nat) (ox : Int) (oy : Nat) (Ah : Option Addr) (m ch : Nat) (hs : List (Int × Nat)) (w : World) (hn : ps.length = n) (hn2 : n ≤ 100000) (hr : RowQ w A ps)
    (hm : hs.length = m) (hm2 : m ≤ 100000) (hC : Cap w bo bh ox oy Ah m ch hs) :
    Calls Tryz.prog 62 #[.slice A n c, .func (.func 56) #[] #[.pointer (some ⟨bo, 0, none⟩), .pointer (some ⟨bh, 0, none⟩)]] w fun e w' =>
      ((Hid (∀ j, j < n → del hs (ox, oy) (ps.getD j (0, 0)) = false) ∧ e = .returned (.int .i64 (-1))) ∨ ∃ k : Nat, Hid (k < n ∧ (∀ j, j < k → del hs (ox, oy) (ps.getD j (0, 0)) = false) ∧ del hs (ox, oy) (ps.getD k (0, 0)) = true) ∧ e = .returned (.int .i64 k)) ∧ Step w w' := by
  go_enter Tryz.func62, Tryz.ntmps62
  go_wp2
  go_loopw [8] (fun i wr => ∃ (k : Nat), k ≤ n ∧ i = .int .i64 k ∧ Hid (∀ j, j < k → del hs (ox, oy) (ps.getD j (0, 0)) = false) ∧ Step w wr) (fun i _ => n - (intOf i).toNat)
  case atStart => exact ⟨0, Nat.zero_le _, rfl, Lib.hid (fun j hj => absurd hj (Nat.not_lt_zero _)), Step.of inferInstance⟩
  case round =>
    obtain ⟨k, hk, rfl, HM, hS⟩ := hrel
    by_cases hlt : k < n
    · obtain ⟨B, O, rfl, hab, hc1, hc2⟩ := (hr.to : RowQ wr A ps) k (by omega)
      have hCr : Cap wr bo bh ox oy Ah m ch hs := hC.to
      obtain ⟨x, hx⟩ : ∃ x : Int, Hid (x = (ps.getD k (0, 0)).1) := ⟨_, Lib.hid rfl⟩
      obtain ⟨y, hy⟩ : ∃ y : Nat, Hid (y = (ps.getD k (0, 0)).2) := ⟨_, Lib.hid rfl⟩
      have hxy : Hid (ps.getD k (0, 0) = (x, y)) := Lib.hid (by rw [hx.out, hy.out])
      rw [← hx.out] at hc1
      rw [← hy.out] at hc2
      have cM := del_any x y bo bh ox oy Ah m ch hs wr hm hm2 hCr
      cases hb : del hs (ox, oy) (x, y)
      · rw [hb] at cM
        have HN : Hid (∀ j, j < k + 1 → del hs (ox, oy) (ps.getD j (0, 0)) = false) := Lib.hid (fun j hj => by
          rcases Nat.lt_or_ge j k with h | h
          · exact HM.out j h
          · have : j = k := by omega
            subst this
            rw [hxy.out, hb])
        clear hr HM hC hCr hb hx hy hxy
        go_wp2_with (go_at_call 56; ((with_reducible refine (cM).mono ?_); rintro e w1 ⟨rfl, S1⟩))
        go_roundw
        case rel => exact ⟨k + 1, by omega, by go_num, HN, Step.of inferInstance⟩
        case measure => simp [intOf]; omega
      · rw [hb] at cM
        have HY : Hid (k < n ∧ (∀ j, j < k → del hs (ox, oy) (ps.getD j (0, 0)) = false) ∧ del hs (ox, oy) (ps.getD k (0, 0)) = true) := Lib.hid ⟨hlt, HM.out, by rw [hxy.out, hb]⟩
        clear hr HM hC hCr hb hx hy hxy
        go_wp2_with (go_at_call 56; ((with_reducible refine (cM).mono ?_); rintro e w1 ⟨rfl, S1⟩))
        go_ret
        exact ⟨.inr ⟨k, HY, rfl⟩, Step.of inferInstance⟩
    · have hkn : k = n := by omega
      subst hkn
      clear hr hC
      go_wp2
      go_ret
      exact ⟨.inl ⟨HM, rfl⟩, Step.of inferInstance⟩
theorem first_of (D : Int × Nat → Bool) (ps : List (Int × Nat)) : ∀ n, (∀ j, j < n → D (ps.getD j (0, 0)) = false) ∨ ∃ k, k < n ∧ (∀ j, j < k → D (ps.getD j (0, 0)) = false) ∧ D (ps.getD k (0, 0)) = true
  | 0 => .inl fun j hj => absurd hj (Nat.not_lt_zero _)
  | n + 1 => by
    rcases first_of D ps n with h | ⟨k, h1, h2⟩
    · cases hb : D (ps.getD n (0, 0))
      · refine .inl fun j hj => ?_
        rcases Nat.lt_or_ge j n with h' | h'
        · exact h j h'
        · have : j = n := by omega
          subst this; exact hb
      · exact .inr ⟨n, by omega, h, hb⟩
    · exact .inr ⟨k, by omega, h2⟩
theorem idxD_no (A : Option Addr) (c n : Nat) (ps : List (Int × Nat)) (bo bh : Nat) (ox : Int) (oy : Nat) (Ah : Option Addr) (m ch : Nat) (hs : List (Int × Nat)) (w : World) (hn : ps.length = n) (hn2 : n ≤ 100000) (hr : RowQ w A ps)
    (hm : hs.length = m) (hm2 : m ≤ 100000) (hC : Cap w bo bh ox oy Ah m ch hs) (h : Hid (∀ j, j < n → del hs (ox, oy) (ps.getD j (0, 0)) = false)) :
    Calls Tryz.prog 62 #[.slice A n c, .func (.func 56) #[] #[.pointer (some ⟨bo, 0, none⟩), .pointer (some ⟨bh, 0, none⟩)]] w fun e w' => e = .returned (.int .i64 (-1)) ∧ Step w w' :=
  (idxD_any A c n ps bo bh ox oy Ah m ch hs w hn hn2 hr hm hm2 hC).mono fun e w' ⟨h1, s⟩ => by
    rcases h1 with h1 | ⟨k, h1, _⟩
    · exact ⟨h1.2, s⟩
    · have := h1.out.2.2
      rw [h.out k h1.out.1] at this; cases this
theorem idxD_at (A : Option Addr) (c n : Nat) (ps : List (Int × Nat)) (bo bh : Nat) (ox : Int) (oy : Nat) (Ah : Option Addr) (m ch : Nat) (hs : List (Int × Nat)) (w : World) (hn : ps.length = n) (hn2 : n ≤ 100000) (hr : RowQ w A ps)
    (hm : hs.length = m) (hm2 : m ≤ 100000) (hC : Cap w bo bh ox oy Ah m ch hs) (k : Nat) (h : Hid (k < n ∧ (∀ j, j < k → del hs (ox, oy) (ps.getD j (0, 0)) = false) ∧ del hs (ox, oy) (ps.getD k (0, 0)) = true)) :
    Calls Tryz.prog 62 #[.slice A n c, .func (.func 56) #[] #[.pointer (some ⟨bo, 0, none⟩), .pointer (some ⟨bh, 0, none⟩)]] w fun e w' => e = .returned (.int .i64 k) ∧ Step w w' :=
  (idxD_any A c n ps bo bh ox oy Ah m ch hs w hn hn2 hr hm hm2 hC).mono fun e w' ⟨h1, s⟩ => by
    obtain ⟨g1, g2, g3⟩ := h.out
    rcases h1 with h1 | ⟨k', h1, h2⟩
    · rw [h1.1.out k g1] at g3; cases g3
    · obtain ⟨f1, f2, f3⟩ := h1.out
      have : k' = k := by
        rcases Nat.lt_trichotomy k' k with q | q | q
        · rw [g2 k' q] at f3; cases f3
        · exact q
        · rw [f2 k q] at g3; cases g3
      subst this
      exact ⟨h2, s⟩
/-- A row whose cells at a place are set. -/
theorem qc_set (zs : List (Int × Nat)) (i : Nat) (p : Int × Nat) : ((qc zs).set (i * 2) (.int .i64 p.1)).set (i * 2 + 1) (.int .u64 (p.2 : Nat)) = qc (zs.set i p) := by
  induction zs generalizing i with
  | nil => simp [qc]
  | cons z zs ih =>
    cases i with
    | zero => rfl
    | succ i =>
      rw [show (i + 1) * 2 = i * 2 + 2 by omega, show i * 2 + 2 + 1 = (i * 2 + 1) + 2 by omega, show qc (z :: zs) = .int .i64 z.1 :: .int .u64 (z.2 : Nat) :: qc zs from rfl, List.set_cons_succ, List.set_cons_succ, List.set_cons_succ, List.set_cons_succ, ih]
      rfl
theorem own_store {w : World} {base g n c : Nat} {e : TypeId} {zs : List (Int × Nat)} (h : w.ownsRow base e 2 (.slice (some ⟨g, 0, none⟩) n c) n (qc zs)) (i : Nat) (p : Int × Nat) :
    ((w.setCell ⟨g, i * 2, none⟩ (.int .i64 p.1)).setCell ⟨g, i * 2 + 1, none⟩ (.int .u64 (p.2 : Nat))).ownsRow base e 2 (.slice (some ⟨g, 0, none⟩) n c) n (qc (zs.set i p)) ∧
      w.grownBy ((w.setCell ⟨g, i * 2, none⟩ (.int .i64 p.1)).setCell ⟨g, i * 2 + 1, none⟩ (.int .u64 (p.2 : Nat))) (some g) := by
  obtain ⟨h1, g1⟩ := h.stored (i * 2) (.int .i64 p.1)
  obtain ⟨h2, g2⟩ := h1.stored (i * 2 + 1) (.int .u64 (p.2 : Nat))
  rw [qc_set] at h2
  exact ⟨h2, g1.trans g2⟩
theorem filter_snoc {l : List (Int × Nat)} {k : Nat} (f : Int × Nat → Bool) (h : k < l.length) : (l.take (k + 1)).filter f = (l.take k).filter f ++ (if f (l.getD k (0, 0)) = true then [l.getD k (0, 0)] else []) := by
  rw [take_snocQ l k h, List.filter_append, List.filter_cons]
  simp
/-- Zero values. -/
def zc (n : Nat) : List Value := (Builtin.zeroCells #[.int .i64 0, .int .u64 0] n).toList
theorem zc_len (n : Nat) : (zc n).length = n * 2 := by unfold zc; simp [Builtin.zeroCells]
theorem zc_one (n : Nat) : ∀ v ∈ zc n, v.oneCell' = true := fun v hv => by
  unfold zc at hv
  rw [Array.mem_toList_iff, Builtin.zeroCells, Array.mem_map] at hv
  obtain ⟨i, _, rfl⟩ := hv
  show (#[Value.int .i64 0, Value.int .u64 0][i % 2]!).oneCell' = true
  rcases Nat.mod_two_eq_zero_or_one i with h | h
  · simp [h]; rfl
  · simp [h]; rfl
theorem run_clear2 (w : World) (ty : TypeId) (b o n c : Nat) (hn : 0 < n) (hc : ∀ j, j < n * 2 → (w.cell? ⟨b, o + j, none⟩).isSome = true) (hf : ∀ j, j < n * 2 → w.frozen? ⟨b, o + j, none⟩ = false) :
    (Builtin.clear_ #[34] ty #[.slice (some ⟨b, o, none⟩) n c]).run Tryz.prog w = .ok (.tuple #[]) (w.setCells b o (zc n)) := by
  have hv : ∀ w, (zeroValue 50).run Tryz.prog w = .ok (.agg #[.int .i64 0, .int .u64 0]) w := fun w => by kernel_rfl
  have hst := run_storeCells_cells (P := Tryz.prog) b o (zc n) 0 w (by rw [zc_len]; exact hc) (by rw [zc_len]; exact hf) (zc_one n)
  simp only [Nat.add_zero] at hst
  unfold zc at hst ⊢
  obtain ⟨m, rfl⟩ : ∃ m, n = m + 1 := ⟨n - 1, by omega⟩
  simp [Builtin.clear_, run_underlying Tryz.underlying34, hv, Value.cells, hst]
theorem size_setCells (b : Nat) : ∀ (vs : List Value) (o : Nat) (w : World), (w.setCells b o vs).heap.size = w.heap.size
  | [], _, _ => rfl
  | v :: vs, o, w => by
    show ((w.setCell _ v).setCells b (o + 1) vs).heap.size = _
    rw [size_setCells b vs (o + 1)]; simp
theorem cellT {w w' : World} {g o : Nat} {v : Value} (h : w.cell? ⟨g, o, none⟩ = some v) [e : Ext w w'] : w'.cell? ⟨g, o, none⟩ = some v := (e.h.cell (World.block_lt_of_cell? w _ h)).trans h
set_option maxHeartbeats 3200000 in
set_option maxRecDepth 100000 in
/-- Those that are left. -/
theorem delete_any (g c n : Nat) (ps : List (Int × Nat)) (bo bh : Nat) (ox : Int) (oy : Nat) (Ah : Option Addr) (m ch : Nat) (hs : List (Int × Nat)) (W w : World) (hn : ps.length = n) (hn2 : n ≤ 100000)
    (hW : Step W w) (hown : w.ownsRow W.heap.size 50 2 (.slice (some ⟨g, 0, none⟩) n c) n (qc ps)) (hm : hs.length = m) (hm2 : m ≤ 100000) (hC : Cap W bo bh ox oy Ah m ch hs) :
    Calls Tryz.prog 54 #[.slice (some ⟨g, 0, none⟩) n c, .func (.func 56) #[] #[.pointer (some ⟨bo, 0, none⟩), .pointer (some ⟨bh, 0, none⟩)]] w fun e w' =>
      ∃ q c', e = .returned (.slice (some ⟨g, 0, none⟩) q c') ∧ (ps.filter fun p => !del hs (ox, oy) p).length = q ∧ RowQ w' (some ⟨g, 0, none⟩) (ps.filter fun p => !del hs (ox, oy) p) ∧ Step W w' := by
  obtain ⟨i0, hi, hz0, hz1, hz2⟩ := info_parts infoQ
  have hr : RowQ w (some ⟨g, 0, none⟩) ps := RowQ.of_own hown hn
  have HO := Lib.hid hown
  clear hown
  rcases first_of (del hs (ox, oy)) ps n with h | ⟨k, h⟩
  · have H := Lib.hid h
    have HF : Hid ((ps.filter fun p => !del hs (ox, oy) p) = ps) := Lib.hid (List.filter_eq_self.mpr fun p hp => by
      obtain ⟨j, hj, rfl⟩ := List.mem_iff_getElem.mp hp
      have := h j (by omega)
      rw [List.getD_eq_getElem?_getD, List.getElem?_eq_getElem hj] at this
      simpa using this)
    clear h
    have cI := fun (w : World) (h1 : RowQ w (some ⟨g, 0, none⟩) ps) (h2 : Cap w bo bh ox oy Ah m ch hs) => idxD_no (some ⟨g, 0, none⟩) c n ps bo bh ox oy Ah m ch hs w hn hn2 h1 hm hm2 h2 H
    go_enter Tryz.func54, Tryz.ntmps54
    go_wp2_with (go_at_call 62; ((with_reducible refine (cI _ hr.to hC.to).mono ?_); rintro e w1 ⟨rfl, S1⟩))
    go_ret
    exact ⟨n, c, rfl, by rw [HF.out, hn], by rw [HF.out]; exact hr.to, Step.of inferInstance⟩
  · have H := Lib.hid h
    have hkn := h.1
    have hk1 : ((k : Int) == -1) = false := by simp
    have HF0 : Hid ((ps.take (k + 1)).filter (fun p => !del hs (ox, oy) p) = ps.take k) := Lib.hid (by
      rw [filter_snoc _ (by omega), h.2.2, List.filter_eq_self.mpr fun p hp => by
        obtain ⟨j, hj, rfl⟩ := List.mem_iff_getElem.mp hp
        rw [List.length_take] at hj
        have := h.2.1 j (by omega)
        rw [List.getD_eq_getElem?_getD, List.getElem?_eq_getElem (by omega)] at this
        simpa using this]
      simp)
    clear h
    have cI := fun (w : World) (h1 : RowQ w (some ⟨g, 0, none⟩) ps) (h2 : Cap w bo bh ox oy Ah m ch hs) => idxD_at (some ⟨g, 0, none⟩) c n ps bo bh ox oy Ah m ch hs w hn hn2 h1 hm hm2 h2 k H
    go_enter Tryz.func54, Tryz.ntmps54
    go_wp2_with (go_at_call 62; ((with_reducible refine (cI _ hr.to hC.to).mono ?_); rintro e w1 ⟨rfl, S1⟩; clear cI H))
    go_loopw [5, 6] (fun i j wr => ∃ (a b : Nat) (zs : List (Int × Nat)), a < b ∧ b ≤ n ∧ i = .int .i64 a ∧ j = .int .i64 b ∧ zs.length = n ∧ Hid (zs.take a = (ps.take b).filter (fun p => !del hs (ox, oy) p) ∧ zs.drop b = ps.drop b) ∧
      wr.ownsRow W.heap.size 50 2 (.slice (some ⟨g, 0, none⟩) n c) n (qc zs) ∧ Step W wr) (fun _ j _ => n - (intOf j).toNat)
    case atStart => exact ⟨k, k + 1, ps, by omega, by omega, rfl, by go_num, hn, Lib.hid ⟨HF0.out.symm, rfl⟩, own_ext HO.out inferInstance, Step.of inferInstance⟩
    case round =>
      obtain ⟨a, b, zs, hab, hbn, rfl, rfl, hz, HZ, hown, hS⟩ := hrel
      clear hr HO S1 hW
      by_cases hlt : b < n
      · obtain ⟨B, O, e0, hb1, hc1, hc2⟩ := (RowQ.of_own hown hz : RowQ wr (some ⟨g, 0, none⟩) zs) b (by omega)
        cases e0
        have hCr : Cap wr bo bh ox oy Ah m ch hs := hC.to
        obtain ⟨x, hx⟩ : ∃ x : Int, Hid (x = (zs.getD b (0, 0)).1) := ⟨_, Lib.hid rfl⟩
        obtain ⟨y, hy⟩ : ∃ y : Nat, Hid (y = (zs.getD b (0, 0)).2) := ⟨_, Lib.hid rfl⟩
        have hxy : Hid (ps.getD b (0, 0) = (x, y)) := Lib.hid (by
          rw [hx.out, hy.out]
          have h1 : zs[b]? = ps[b]? := by
            have := congrArg (fun l => l[0]?) HZ.out.2
            simpa using this
          rw [List.getD_eq_getElem?_getD, List.getD_eq_getElem?_getD, h1])
        rw [← hx.out] at hc1
        rw [← hy.out] at hc2
        have cM := fun (w : World) (h : Cap w bo bh ox oy Ah m ch hs) => del_any x y bo bh ox oy Ah m ch hs w hm hm2 h
        have HO := Lib.hid hown
        have HT : Hid ((ps.take (b + 1)).filter (fun p => !del hs (ox, oy) p) = zs.take a ++ (if (!del hs (ox, oy) (x, y)) = true then [(x, y)] else [])) := Lib.hid (by rw [filter_snoc _ (by omega), hxy.out, HZ.out.1])
        have HD : Hid (zs.drop (b + 1) = ps.drop (b + 1)) := Lib.hid (by
          have := congrArg (List.drop 1) HZ.out.2
          rwa [List.drop_drop, List.drop_drop] at this)
        have hV0 : (wr.alloc (.cells #[.int .i64 x, .int .u64 y] 50 (0, 0))).cell? ⟨wr.heap.size, 0, none⟩ = some (.int .i64 x) := by simp
        have hV1 : (wr.alloc (.cells #[.int .i64 x, .int .u64 y] 50 (0, 0))).cell? ⟨wr.heap.size, 1, none⟩ = some (.int .u64 y) := by simp
        cases hdel : del hs (ox, oy) (x, y)
        · rw [hdel] at cM HT
          clear hdel hx hy
          have han : a < n := by omega
          obtain ⟨_, _, e1, _, hd1, hd2⟩ := (RowQ.of_own hown hz : RowQ wr (some ⟨g, 0, none⟩) zs) a (by omega)
          cases e1
          clear hown
          rw [Nat.zero_add] at hc1 hc2 hd1 hd2
          go_wp2_with (go_at_call 56; ((with_reducible refine (cM _ hCr.to).mono ?_); rintro e w2 ⟨rfl, S2⟩; have hX0 := cellT hV0 (w' := w2); have hX1 := cellT hV1 (w' := w2); have hY0 := cellT hd1 (w' := w2); have hY1 := cellT hd2 (w' := w2); have O2 := Lib.hid (own_ext HO.out (show Ext wr w2 from inferInstance)); have hz0' := O2.out.frozenAt (a * 2); have hz1' := O2.out.frozenAt (a * 2 + 1)))
          go_roundw
          case rel =>
            obtain ⟨O3, G3⟩ := own_store O2.out a (x, y)
            have B3 : Step W ((w2.setCell ⟨g, a * 2, none⟩ (.int .i64 x)).setCell ⟨g, a * 2 + 1, none⟩ (.int .u64 (y : Nat))) := ⟨(show Step W w2 from Step.of inferInstance).h.grown G3 (show Step W w2 from Step.of inferInstance).h.size (fun q hq => by cases hq; exact (O2.out.lt g rfl).1)⟩
            refine ⟨a + 1, b + 1, zs.set a (x, y), by omega, by omega, by go_num, by go_num, by rw [List.length_set]; exact hz, Lib.hid ⟨?_, ?_⟩, O3, B3⟩
            · rw [HT.out]
              apply List.ext_getElem?
              intro q
              rcases Nat.lt_trichotomy q a with h | h | h
              · rw [List.getElem?_take_of_lt (by omega), List.getElem?_set_ne (by omega), List.getElem?_append_left (by rw [List.length_take]; omega), List.getElem?_take_of_lt h]
              · subst h
                rw [List.getElem?_take_of_lt (by omega), List.getElem?_set_self (by omega), List.getElem?_append_right (by rw [List.length_take]; omega), List.length_take, Nat.min_eq_left (by omega)]
                simp
              · rw [List.getElem?_eq_none (by rw [List.length_take]; omega), List.getElem?_eq_none (by simp; omega)]
            · rw [← HD.out, List.drop_set_of_lt (by omega)]
          case measure => simp [intOf]; omega
        · rw [hdel] at cM HT
          clear hown hdel hx hy
          rw [Nat.zero_add] at hc1 hc2
          go_wp2_with (go_at_call 56; ((with_reducible refine (cM _ hCr.to).mono ?_); rintro e w2 ⟨rfl, S2⟩))
          go_roundw
          case rel => exact ⟨a, b + 1, zs, by omega, by omega, rfl, by go_num, hz, Lib.hid ⟨by rw [HT.out]; simp, HD.out⟩, own_ext HO.out inferInstance, Step.of inferInstance⟩
          case measure => simp [intOf]; omega
      · have hbn2 : n = b := by omega
        subst hbn2
        have hcn : n ≤ c := by
          obtain ⟨_, _, e3, h3⟩ := own_form2 hown
          cases e3
          exact h3
        have hca : ¬ c = a := by omega
        have hgB := (hown.lt g rfl)
        have R0 : RowQ wr (some ⟨g, 0, none⟩) (zs.take a) := (RowQ.of_own hown hz : RowQ wr (some ⟨g, 0, none⟩) zs).take a
        have hZ : zs.take a = ps.filter (fun p => !del hs (ox, oy) p) := by rw [HZ.out.1, List.take_of_length_le (by omega)]
        rw [hZ] at R0
        have hq : Hid ((ps.filter (fun p => !del hs (ox, oy) p)).length = a) := Lib.hid (by rw [← hZ, List.length_take]; omega)
        have hcl : ∀ ty, (Builtin.clear_ #[34] ty #[.slice (some ⟨g, a * 2, none⟩) (n - a) (c - a)]).run Tryz.prog wr = .ok (.tuple #[]) (wr.setCells g (a * 2) (zc (n - a))) := fun ty =>
          run_clear2 wr ty g (a * 2) (n - a) (c - a) (by omega) (fun j hj => by rw [hown.cellAt (a * 2 + j) (by omega), List.getElem?_eq_getElem (by rw [qc_len]; omega)]; rfl) (fun j _ => hown.frozenAt _)
        have hB : Below W.heap.size W (wr.setCells g (a * 2) (zc (n - a))) := Lg.below_setCells hgB.1 _ _ _ (show Step W wr from Step.of inferInstance).h
        have hO := Lib.hid (fun x : Addr => World.cell?_setCells_out g (zc (n - a)) (a * 2) wr x)
        have hS2 : wr.heap.size = (wr.setCells g (a * 2) (zc (n - a))).heap.size := (size_setCells g (zc (n - a)) (a * 2) wr).symm
        have HS2 := Lib.hid hS2
        generalize wr.setCells g (a * 2) (zc (n - a)) = w9 at hcl hB hO HS2
        clear hS2 hown hZ
        go_wp2_with (fail)
        go_ret
        refine ⟨a, c, rfl, hq.out, fun j hj => ?_, ⟨hB⟩⟩
        obtain ⟨_, _, e4, h1, h2, h3⟩ := R0 j hj
        cases e4
        have hj' := hj
        rw [hq.out] at hj'
        refine ⟨g, 0, rfl, by rw [← HS2.out]; exact h1, ?_, ?_⟩
        · rw [hO.out _ (fun _ _ => .inl (by show 0 + j * 2 < a * 2; omega))]; exact h2
        · rw [hO.out _ (fun _ _ => .inl (by show 0 + j * 2 + 1 < a * 2; omega))]; exact h3
end Bl
end Go.Proofs.YtfeahgcigmoijaaGreatDoor
