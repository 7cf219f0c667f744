/- A row of peers, a row of numbers and two maps of the call's own, each grown while the others stay. Conditions: lengths as stated. -/
import Derived.Test.YtfeahgcigmoijaaDoorMapB
import Derived.Test.YtfeahgcigmoijaaDoorPeer
namespace Go.Proofs.YtfeahgcigmoijaaDoor
open Go.RowKit Go.Lib Go.Maps
namespace Kpn
open SlR Pe Mp
structure Kp (B : Nat) (w : World) (vp vc : Value) (b1 b2 np nc n1 n2 : Nat) (ps : List (Int × Nat)) (cs : List Int) (f g : Int → Option Nat) : Prop where
  p : w.ownsRow B 85 2 vp np (qc ps)
  c : w.ownsRow B 3 1 vc nc (cs.map (Value.int .i64))
  s : OwnM B w b1 n1 f
  k : OwnM B w b2 n2 g
  pc : Hdr.Apart vp vc
  p1 : vp.ownBlock ≠ some b1
  p2 : vp.ownBlock ≠ some b2
  c1 : vc.ownBlock ≠ some b1
  c2 : vc.ownBlock ≠ some b2
  b12 : b1 ≠ b2
theorem own_ext1 {w w' : World} {base : Nat} {e : TypeId} {size n : Nat} {v : Value} {xs : List Value} (h : w.ownsRow base e size v n xs) [x : Ext w w'] : w'.ownsRow base e size v n xs := Pe.own_ext h x
theorem OwnM.lt {B : Nat} {w : World} {b n : Nat} {f : Int → Option Nat} (h : OwnM B w b n f) : b < w.heap.size := by
  obtain ⟨D, h1, _⟩ := h
  exact h1.lt
theorem Kp.to {B : Nat} {w w' : World} {vp vc : Value} {b1 b2 np nc n1 n2 : Nat} {ps : List (Int × Nat)} {cs : List Int} {f g : Int → Option Nat} (h : Kp B w vp vc b1 b2 np nc n1 n2 ps cs f g) [e : Ext w w'] : Kp B w' vp vc b1 b2 np nc n1 n2 ps cs f g :=
  ⟨own_ext1 h.p, own_ext1 h.c, h.s.to, h.k.to, h.pc, h.p1, h.p2, h.c1, h.c2, h.b12⟩
theorem ne_or {u v : Value} (h : Hdr.Apart u v) : u.ownBlock = none ∨ u.ownBlock ≠ v.ownBlock := by
  cases hu : u.ownBlock with
  | none => exact .inl rfl
  | some g => exact .inr (fun e => h g hu e.symm)
theorem apart_new {w : World} {base : Nat} {e : TypeId} {size n : Nat} {u v v' : Value} {xs : List Value} (hu : w.ownsRow base e size u n xs) (ha : Hdr.Apart u v) (hl : v'.ownBlock = v.ownBlock ∨ v'.ownBlock = some w.heap.size) : Hdr.Apart u v' := fun g hg hv => by
  rcases hl with e | e
  · rw [e] at hv; exact ha g hg hv
  · rw [e] at hv
    injection hv with hv
    have := (hu.lt g hg).2
    omega
theorem ne_new {w : World} {v v' : Value} {b : Nat} (h : v.ownBlock ≠ some b) (hb : b < w.heap.size) (hl : v'.ownBlock = v.ownBlock ∨ v'.ownBlock = some w.heap.size) : v'.ownBlock ≠ some b := by
  rcases hl with e | e
  · rwa [e]
  · rw [e]; intro h; injection h with h; omega
section
variable {ops : Array Oper} {rest : List Oper} {o : Oper} {a : Act} {Q : Exit → Act → World → Prop} (W w1 : World) {w : World} [e1 : Ext w1 w] [e2 : Ext W w] {vp vc : Value} {b1 b2 np nc n1 n2 : Nat} {ps : List (Int × Nat)} {cs : List Int} {f g : Int → Option Nat}
/-- One more peer. -/
theorem addP (hK : Kp W.heap.size w1 vp vc b1 b2 np nc n1 n2 ps cs f g) (hgd : o.guard = none) (s x : Operand) (ho : o.op = .call { callee := .builtin .append, args := #[s, x], argTypes := #[72, 72] })
    (i : TypeInfo) (z : Value) (hi : Tryd.prog.info? 85 = some i) (hz : i.zero = some z) (hsize : i.size = 2) (hby : i.bytes = 16) (hzs : z.cells.size = 2) (hs : a.eval s = vp)
    (H : Nat) (p : Int × Nat) (hx : a.eval x = .slice (some ⟨H, 0, none⟩) 1 1) (hr : RowQ w (some ⟨H, 0, none⟩) [p]) (h63 : np ≤ 1000000)
    (h : ∀ A' c' w', Kp W.heap.size w' (.slice A' (np + 1) c') vc b1 b2 (np + 1) nc n1 n2 (ps ++ [p]) cs f g → Step W w' → wpList Tryd.prog ops Q rest (a.put o.dst (.slice A' (np + 1) c')) w') : wpList Tryd.prog ops Q (o :: rest) a w := by
  refine wpList_plain hgd fun K hK' => ?_
  have hK2 : Kp W.heap.size w vp vc b1 b2 np nc n1 n2 ps cs f g := hK.to
  obtain ⟨v', w', hrun, h2, h3, _, h5⟩ := run_append_own_at (P := Tryd.prog) w W.heap.size _ o.type 85 i z 2 16 Tryd.underlying72 hi hz hsize hby hzs (by omega) vp np (qc ps) hK2.p ⟨H, 0, none⟩ 1 1 (qc [p]) rfl
    (fun j u hj => by
      obtain ⟨b', o', e, _, h1, h2⟩ := hr 0 (by simp)
      cases e
      match j, hj with
      | 0, hj => simp [qc] at hj; subst hj; rw [Addr.add_lit]; simpa using h1
      | 1, hj => simp [qc] at hj; subst hj; rw [Addr.add_lit]; simpa using h2
      | j + 2, hj => simp [qc] at hj) (qc_cell [p]) (by unfold maxLen; omega) (by omega) e2.size
  obtain ⟨A', c', rfl, hc⟩ := own_form2 h2
  rw [← qc_app] at h2
  unfold Oper.wp
  simp only [execOp, ho, resolve, invoke, builtin, Sem.run_bind, Sem.run_pure, Result.andThen_ok, List.map_toArray, List.map_cons, List.map_nil, hs, hx, hrun]
  exact hK' _ _ (h A' c' w' ⟨h2, hK2.c.kept h3 (ne_or hK2.pc.symm), hK2.s.kept h3 (fun e => hK2.p1 e.symm), hK2.k.kept h3 (fun e => hK2.p2 e.symm), (apart_new hK2.c hK2.pc.symm h5).symm, ne_new hK2.p1 (OwnM.lt hK2.s) h5, ne_new hK2.p2 (OwnM.lt hK2.k) h5, hK2.c1, hK2.c2, hK2.b12⟩
    ⟨below_own e2.h h3 hK2.p (Nat.le_refl _) e2.size⟩)
/-- One more number. -/
theorem addC (hK : Kp W.heap.size w1 vp vc b1 b2 np nc n1 n2 ps cs f g) (hgd : o.guard = none) (s x : Operand) (ho : o.op = .call { callee := .builtin .append, args := #[s, x], argTypes := #[79, 79] })
    (i : TypeInfo) (z : Value) (hi : Tryd.prog.info? 3 = some i) (hz : i.zero = some z) (hsize : i.size = 1) (hby : i.bytes = 8) (hzs : z.cells.size = 1) (hs : a.eval s = vc)
    (H : Nat) (p : Int) (hx : a.eval x = .slice (some ⟨H, 0, none⟩) 1 1) (hr : Row .i64 w (some ⟨H, 0, none⟩) [p]) (h63 : nc ≤ 1000000)
    (h : ∀ A' c' w', Kp W.heap.size w' vp (.slice A' (nc + 1) c') b1 b2 np (nc + 1) n1 n2 ps (cs ++ [p]) f g → Step W w' → wpList Tryd.prog ops Q rest (a.put o.dst (.slice A' (nc + 1) c')) w') : wpList Tryd.prog ops Q (o :: rest) a w := by
  refine wpList_plain hgd fun K hK' => ?_
  have hK2 : Kp W.heap.size w vp vc b1 b2 np nc n1 n2 ps cs f g := hK.to
  obtain ⟨v', w', hrun, h2, h3, _, h5⟩ := run_append_own_at (P := Tryd.prog) w W.heap.size _ o.type 3 i z 1 8 Tryd.underlying79 hi hz hsize hby hzs (by omega) vc nc _ hK2.c ⟨H, 0, none⟩ 1 1 [.int .i64 p] rfl
    (fun j q hj => by
      obtain ⟨ad, x, hA, _, hx0, hc⟩ := Rd.at hr (j := 0) (by simp)
      cases hA
      have hx1 : x = p := by simpa using hx0.symm
      subst hx1
      match j, hj with
      | 0, hj => simp at hj; subst hj; exact hc) (ints_oneCell .i64 [p]) (by unfold maxLen; omega) (by omega) e2.size
  obtain ⟨A', c', rfl⟩ := own_form h2
  rw [show cs.map (Value.int .i64) ++ [Value.int .i64 p] = (cs ++ [p]).map (Value.int .i64) by simp] at h2
  unfold Oper.wp
  simp only [execOp, ho, resolve, invoke, builtin, Sem.run_bind, Sem.run_pure, Result.andThen_ok, List.map_toArray, List.map_cons, List.map_nil, hs, hx, hrun]
  exact hK' _ _ (h A' c' w' ⟨hK2.p.kept h3 (ne_or hK2.pc), h2, hK2.s.kept h3 (fun e => hK2.c1 e.symm), hK2.k.kept h3 (fun e => hK2.c2 e.symm), apart_new hK2.p hK2.pc h5, hK2.p1, hK2.p2, ne_new hK2.c1 (OwnM.lt hK2.s) h5, ne_new hK2.c2 (OwnM.lt hK2.k) h5, hK2.b12⟩
    ⟨below_own e2.h h3 hK2.c (Nat.le_refl _) e2.size⟩)
/-- One more seed. -/
theorem addS (hK : Kp W.heap.size w1 vp vc b1 b2 np nc n1 n2 ps cs f g) (hg : o.guard = none) (m x v : Operand) (hop : o.op = Op.mapUpdate 80 m x v) (hm : a.eval m = .map (some b1)) (hn : n1 ≤ 1000000)
    (i : Int) (hi : I64 i) (hx : a.eval x = .int .i64 i) (z : Nat) (hz : z < 18446744073709551616) (hv : a.eval v = .int .u64 (z : Int))
    (h : ∀ w', Kp W.heap.size w' vp vc b1 b2 np nc (n1 + 1) n2 ps cs (upd f i z) g → Step W w' → wpList Tryd.prog ops Q rest (a.put o.dst undef) w') : wpList Tryd.prog ops Q (o :: rest) a w := by
  have hK2 : Kp W.heap.size w vp vc b1 b2 np nc n1 n2 ps cs f g := hK.to
  exact put W w1 hg m x v hop b1 n1 f hm hK.s hn i hi hx z hz hv fun w' r1 r2 r3 => h w' ⟨hK2.p.kept r3 (.inr hK2.p1), hK2.c.kept r3 (.inr hK2.c1), r1, hK2.k.kept r3 (fun e => hK2.b12 (by injection e with e; exact e.symm)), hK2.pc, hK2.p1, hK2.p2, hK2.c1, hK2.c2, hK2.b12⟩ r2
/-- One more key. -/
theorem addK (hK : Kp W.heap.size w1 vp vc b1 b2 np nc n1 n2 ps cs f g) (hg : o.guard = none) (m x v : Operand) (hop : o.op = Op.mapUpdate 80 m x v) (hm : a.eval m = .map (some b2)) (hn : n2 ≤ 1000000)
    (i : Int) (hi : I64 i) (hx : a.eval x = .int .i64 i) (z : Nat) (hz : z < 18446744073709551616) (hv : a.eval v = .int .u64 (z : Int))
    (h : ∀ w', Kp W.heap.size w' vp vc b1 b2 np nc n1 (n2 + 1) ps cs f (upd g i z) → Step W w' → wpList Tryd.prog ops Q rest (a.put o.dst undef) w') : wpList Tryd.prog ops Q (o :: rest) a w := by
  have hK2 : Kp W.heap.size w vp vc b1 b2 np nc n1 n2 ps cs f g := hK.to
  exact put W w1 hg m x v hop b2 n2 g hm hK.k hn i hi hx z hz hv fun w' r1 r2 r3 => h w' ⟨hK2.p.kept r3 (.inr hK2.p2), hK2.c.kept r3 (.inr hK2.c2), hK2.s.kept r3 (fun e => hK2.b12 (by injection e)), r1, hK2.pc, hK2.p1, hK2.p2, hK2.c1, hK2.c2, hK2.b12⟩ r2
end
end Kpn
end Go.Proofs.YtfeahgcigmoijaaDoor
