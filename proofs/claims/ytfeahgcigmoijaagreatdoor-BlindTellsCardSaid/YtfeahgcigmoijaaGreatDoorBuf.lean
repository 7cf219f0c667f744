/- Rows of bytes of the call's own, on which appends may lie; a number's bytes. No condition but lengths. -/
import Derived.Test.YtfeahgcigmoijaaGreatDoorPkT
import Derived.ArgAppend
import Derived.Laws.IdiomStrings
import Derived.LoopTactic
import Derived.Laws.RangeAny
/- Rows of bytes of the call's own, of which a string's bytes may be the head (the run time's mark stands behind its last cell): appends onto one of two. No condition but lengths. -/
namespace Go.Proofs.YtfeahgcigmoijaaGreatDoor
open Go.RowKit Go.Lib
namespace Pg
open SlR Sh Sp
/-- Bytes behind a slice of the call's own, from block B on; the room behind them may be written. -/
def Buf (w : World) (B : Nat) (v : Value) (n : Nat) (xs : List Nat) : Prop :=
  xs.length = n ∧ ((v = .slice none 0 0 ∧ n = 0) ∨ ∃ g c, v = .slice (some ⟨g, 0, none⟩) n c ∧ B ≤ g ∧ g < w.heap.size ∧ n ≤ c ∧ w.rangeAt g 0 (vl .u8 xs) ∧ w.there g n (c - n))
theorem Buf.nil (w : World) (B : Nat) : Buf w B (.slice none 0 0) 0 [] := ⟨rfl, .inl ⟨rfl, rfl⟩⟩
theorem Buf.form {w : World} {B n : Nat} {v : Value} {xs : List Nat} (h : Buf w B v n xs) : ∃ A c, v = .slice A n c := by
  obtain ⟨_, ⟨rfl, rfl⟩ | ⟨g, c, rfl, _⟩⟩ := h
  · exact ⟨_, _, rfl⟩
  · exact ⟨_, _, rfl⟩
theorem Buf.cap {w : World} {B n c : Nat} {A : Option Addr} {xs : List Nat} (h : Buf w B (.slice A n c) n xs) : n ≤ c := by
  obtain ⟨_, ⟨h1, rfl⟩ | ⟨g, c', h1, _, _, h2, _⟩⟩ := h
  · exact Nat.zero_le _
  · injection h1 with _ _ h3
    omega
theorem Buf.row {w : World} {B n c : Nat} {A : Option Addr} {xs : List Nat} (h : Buf w B (.slice A n c) n xs) : R8 w A xs := by
  obtain ⟨hl, ⟨h1, rfl⟩ | ⟨g, c', h1, _, hg, _, hr, _⟩⟩ := h
  · obtain rfl : xs = [] := List.eq_nil_of_length_eq_zero hl
    exact Row.nil
  · injection h1 with h2 _ _
    subst h2
    intro j x hx
    refine ⟨_, rfl, hg, ?_⟩
    have := hr j (.int .u8 x) (by unfold vl; rw [List.getElem?_map]; unfold NL at hx; rw [List.getElem?_map] at hx; cases hq : xs[j]? with
      | none => rw [hq] at hx; cases hx
      | some v => rw [hq] at hx; cases hx; rfl)
    rw [Addr.add_mid]
    exact this
theorem Buf.blocks {w w' : World} {B n : Nat} {v : Value} {xs : List Nat} (h : Buf w B v n xs) (hk : ∀ g, v.ownBlock = some g → g < w.heap.size → w'.heap[g]? = w.heap[g]?) (hs : w.heap.size ≤ w'.heap.size) : Buf w' B v n xs := by
  obtain ⟨hl, h1 | ⟨g, c, rfl, hB, hg, hc, hr, ht⟩⟩ := h
  · exact ⟨hl, .inl h1⟩
  · have e := hk g rfl hg
    have ec : ∀ o, w'.cell? ⟨g, o, none⟩ = w.cell? ⟨g, o, none⟩ := fun o => by simp [World.cell?, e]
    have ef : ∀ o, w'.frozen? ⟨g, o, none⟩ = w.frozen? ⟨g, o, none⟩ := fun o => by simp [World.frozen?, e]
    refine ⟨hl, .inr ⟨g, c, rfl, hB, by omega, hc, fun j u hu => ?_, fun j hj => ?_⟩⟩
    · rw [ec]; exact hr j u hu
    · rw [ec, ef]; exact ht j hj
theorem Buf.to {w w' : World} {B n : Nat} {v : Value} {xs : List Nat} (h : Buf w B v n xs) [e : Ext w w'] : Buf w' B v n xs := h.blocks (fun g _ hg => e.h.block g hg) e.size
theorem Buf.base {w : World} {B B' n : Nat} {v : Value} {xs : List Nat} (h : Buf w B v n xs) (hB : B' ≤ B) : Buf w B' v n xs := by
  obtain ⟨hl, h1 | ⟨g, c, rfl, hb, h2⟩⟩ := h
  · exact ⟨hl, .inl h1⟩
  · exact ⟨hl, .inr ⟨g, c, rfl, by omega, h2⟩⟩
theorem Buf.of_own {w : World} {B n : Nat} {e : TypeId} {v : Value} {xs : List Nat} (hn : xs.length = n) (h : w.ownsRow B e 1 v n (vl .u8 xs)) : Buf w B v n xs := by
  obtain ⟨_, h1 | ⟨g, c, cur, rfl, hB, hg, hc, _, hs, ht⟩⟩ := h
  · exact ⟨hn, .inl h1⟩
  · refine ⟨hn, .inr ⟨g, c, rfl, hB, (Array.getElem?_eq_some_iff.1 hg).1, hc, fun j u hu => ?_, fun j hj => ⟨?_, ?_⟩⟩⟩
    · rw [Nat.zero_add, cell_of_row w g j cur e _ hg]
      rw [← ht, List.getElem?_take] at hu
      split at hu
      · simpa using hu
      · cases hu
    · rw [cell_of_row w g _ cur e _ hg]
      have : n + j < cur.size := by omega
      simp [this]
    · simp [World.frozen?, hg]
theorem Buf.block {w : World} {B n : Nat} {v : Value} {xs : List Nat} (h : Buf w B v n xs) : ∀ g, v.ownBlock = some g → B ≤ g ∧ g < w.heap.size := fun g hg => by
  obtain ⟨_, ⟨rfl, _⟩ | ⟨g', c, rfl, hB, hl, _⟩⟩ := h
  · cases hg
  · cases hg; exact ⟨hB, hl⟩
theorem setCells_size (b : Nat) : ∀ (vs : List Value) (o : Nat) (w : World), (w.setCells b o vs).heap.size = w.heap.size
  | [], _, _ => rfl
  | v :: r, o, w => by
    show ((w.setCell ⟨b, o, none⟩ v).setCells b (o + 1) r).heap.size = _
    rw [setCells_size b r, World.size_setCell]
theorem vl_app (xs ys : List Nat) : vl .u8 (xs ++ ys) = vl .u8 xs ++ vl .u8 ys := by simp [vl]
theorem NL_vl (xs : List Nat) : (NL xs).map (Value.int .u8) = vl .u8 xs := by simp [NL, vl]
theorem row_cells {w : World} {ad : Addr} {news : List Nat} (hr : R8 w (some ad) news) : ∀ j u, (vl .u8 news)[j]? = some u → w.cell? (ad.add j) = some u := fun j u hu => by
  have := ApE.news_of hr j u
  rw [NL_vl] at this
  exact this hu
theorem range_two {w : World} {g n : Nat} {xs ys : List Value} (hn : xs.length = n) (h1 : w.rangeAt g 0 xs) (h2 : w.rangeAt g n ys) : w.rangeAt g 0 (xs ++ ys) := fun j v hv => by
  by_cases hj : j < n
  · exact h1 j v (by rw [← hv, List.getElem?_append_left (by omega)])
  · have := h2 (j - n) v (by rw [← hv, List.getElem?_append_right (by omega), hn])
    rwa [show n + (j - n) = 0 + j by omega] at this
/-- One append, onto one of two rows. -/
theorem Buf.run (W w1 : World) {w : World} [e1 : Ext w1 w] [e2 : Ext W w] (ty : TypeId) (v u : Value) (n m : Nat) (xs ys : List Nat) (hv : Buf w1 W.heap.size v n xs) (hu : Buf w1 W.heap.size u m ys) (ha : Hdr.Apart u v)
    (A : Option Addr) (l c : Nat) (news : List Nat) (hl : news.length = l) (h0 : 0 < l) (hr : R8 w A news) (h63 : n + l ≤ 1000000000) :
    ∃ A' c' w', (Builtin.append_ #[61, 61] ty #[v, .slice A l c]).run Tryz.prog w = .ok (.slice A' (n + l) c') w' ∧ Buf w' W.heap.size (.slice A' (n + l) c') (n + l) (xs ++ news) ∧ Buf w' W.heap.size u m ys ∧ Hdr.Apart u (.slice A' (n + l) c') ∧ Step W w' := by
  obtain ⟨i0, hi, hz0, hz1, hz2⟩ := info_parts infoB
  have hv2 : Buf w W.heap.size v n xs := hv.to
  have hu2 : Buf w W.heap.size u m ys := hu.to
  obtain ⟨ad, rfl, _, _⟩ := Row.atN hr (j := 0) (by omega)
  have lv : (vl .u8 news).length = l := by rw [vl_len, hl]
  have lx : (vl .u8 xs).length = n := by rw [vl_len, hv.1]
  -- a new row: all ends alike
  have fin : (∃ v' w', (Builtin.append_ #[61, 61] ty #[v, .slice (some ad) l c]).run Tryz.prog w = .ok v' w' ∧ w'.ownsRow w.heap.size 5 1 v' (n + l) (vl .u8 (xs ++ news)) ∧ w.grownBy w' none) → ∃ A' c' w', (Builtin.append_ #[61, 61] ty #[v, .slice (some ad) l c]).run Tryz.prog w = .ok (.slice A' (n + l) c') w' ∧ Buf w' W.heap.size (.slice A' (n + l) c') (n + l) (xs ++ news) ∧ Buf w' W.heap.size u m ys ∧ Hdr.Apart u (.slice A' (n + l) c') ∧ Step W w' := by
    rintro ⟨v', w', hrun, ho, hg⟩
    have hb := Buf.of_own (xs := xs ++ news) (by rw [List.length_append, hv.1, hl]) ho
    obtain ⟨A', c', rfl⟩ := hb.form
    refine ⟨A', c', w', hrun, hb.base e2.size, hu2.blocks (fun g _ hg2 => hg.block g hg2 (by simp)) hg.size, fun g hgu hgv => ?_, ⟨e2.h.grown hg e2.size (fun q hq => by cases hq)⟩⟩
    have := (hu2.block g hgu).2
    have := (hb.block g hgv).1
    omega
  obtain ⟨_, ⟨rfl, rfl⟩ | ⟨g, cp, rfl, hB, hg, hc, hx, ht⟩⟩ := hv2
  · obtain rfl : xs = [] := List.eq_nil_of_length_eq_zero hv.1
    refine fin ?_
    obtain ⟨A', c', w', hrun, h2, _, h5⟩ := ApE.runE .u8 w w 61 ty 5 i0 _ 1 Tryz.underlying61 hi hz0 hz1 hz2 rfl (.slice none 0 0) 0 [] (World.ownsRow_nil _ _ _ _) (some ad) l c (NL news) (by rw [NL_len, hl]) hr (by omega) (by omega)
    rw [Nat.zero_add] at h2 hrun
    refine ⟨_, w', hrun, ?_, h5⟩
    rw [Nat.zero_add, ← NL_vl]
    exact h2
  · by_cases hroom : n + l ≤ cp
    · have hrun := run_append_room_cells (P := Tryz.prog) w 61 ty 5 i0 Tryz.underlying61 hi g 0 n cp ad l c (vl .u8 news) (by rw [hz1, Nat.mul_one, lv]) (row_cells hr) (fun x hx => (Array.all_eq_true_iff_forall_mem.1 (vl_one .u8 news)) x (by simpa using hx)) hroom
        (fun j hj => by rw [hz1, Nat.mul_one, Nat.zero_add]; exact (ht j (by omega)).1) (fun j hj => by rw [hz1, Nat.mul_one, Nat.zero_add]; exact (ht j (by omega)).2)
      rw [hz1, Nat.mul_one, Nat.zero_add] at hrun
      have hthere : w.there g n (vl .u8 news).length := fun j hj => ht j (by omega)
      refine ⟨_, _, _, hrun, ⟨by rw [List.length_append, hv.1, hl], .inr ⟨g, cp, rfl, hB, by rw [setCells_size]; exact hg, hroom, ?_, ?_⟩⟩, ?_, fun q hq hq2 => ha q hq hq2, ⟨Lg.below_setCells hB _ _ _ e2.h⟩⟩
      · rw [vl_app]
        exact range_two lx (World.rangeAt_setCells_apart hx _ _ _ (.inr (.inl (by omega)))) (World.rangeAt_setCells_same _ _ _ _ hthere)
      · refine World.there_setCells (fun j hj => ?_) _ _ _
        have := ht (l + j) (by omega)
        rwa [← Nat.add_assoc] at this
      · obtain ⟨hlu, h1 | ⟨g2, c2, rfl, hB2, hg2, hc2, hx2, ht2⟩⟩ := hu2
        · exact ⟨hlu, .inl h1⟩
        · have hne : g2 ≠ g := fun e => ha g2 rfl (by rw [e]; rfl)
          exact ⟨hlu, .inr ⟨g2, c2, rfl, hB2, by rw [setCells_size]; exact hg2, hc2, World.rangeAt_setCells_apart hx2 _ _ _ (.inl hne), World.there_setCells ht2 _ _ _⟩⟩
    · refine fin ?_
      obtain ⟨v', w', hrun, ho, hgr⟩ := run_append_arg_grows (P := Tryz.prog) w 61 ty 5 i0 _ 1 1 Tryz.underlying61 hi hz0 hz1 hz2 rfl (by omega) ⟨g, 0, none⟩ n cp (vl .u8 xs) (by rw [lx, Nat.mul_one]) (fun j u hu => by rw [Addr.add_mid]; exact hx j u hu) ad l c (vl .u8 news) (by rw [lv, Nat.mul_one]) (row_cells hr) (by omega) (by unfold maxLen; omega) (by omega)
      exact ⟨v', w', hrun, by rw [vl_app]; exact ho, hgr⟩
/-- The same for the walk. -/
theorem Buf.wp {ops : Array Oper} {rest : List Oper} {o : Oper} {a : Act} {Q : Exit → Act → World → Prop} (W w1 : World) {w : World} [e1 : Ext w1 w] [e2 : Ext W w] (hgd : o.guard = none) (s x : Operand)
    (ho : o.op = .call { callee := .builtin .append, args := #[s, x], argTypes := #[61, 61] }) (v u : Value) (n m : Nat) (xs ys : List Nat) (hs : a.eval s = v) (hv : Buf w1 W.heap.size v n xs) (hu : Buf w1 W.heap.size u m ys) (ha : Hdr.Apart u v)
    (A : Option Addr) (l c : Nat) (news : List Nat) (hx : a.eval x = .slice A l c) (hl : news.length = l) (h0 : 0 < l) (hr : R8 w A news) (h63 : n + l ≤ 1000000000)
    (h : ∀ A' c' w', Buf w' W.heap.size (.slice A' (n + l) c') (n + l) (xs ++ news) → Buf w' W.heap.size u m ys → Hdr.Apart u (.slice A' (n + l) c') → Step W w' → wpList Tryz.prog ops Q rest (a.put o.dst (.slice A' (n + l) c')) w') : wpList Tryz.prog ops Q (o :: rest) a w := by
  refine wpList_plain hgd fun K hK => ?_
  obtain ⟨A', c', w', hrun, h2, h3, h4, h5⟩ := Buf.run W w1 o.type v u n m xs ys hv hu ha A l c news hl h0 hr h63
  unfold Oper.wp
  simp only [execOp, ho, resolve, invoke, builtin, Sem.run_bind, Sem.run_pure, Result.andThen_ok, List.map_toArray, List.map_cons, List.map_nil, hs, hx, hrun]
  exact hK _ _ (h A' c' w' h2 h3 h4 h5)
/-- A string's bytes as a row of the call's own. -/
theorem conv (s : ByteArray) (w : World) : ∃ A c w', (convert 9 61 (.string s)).run Tryz.prog w = .ok (.slice A s.size c) w' ∧ Buf w' w.heap.size (.slice A s.size c) s.size (bl s) ∧ Step w w' := by
  refine ⟨_, _, _, run_bytes_of_string (P := Tryz.prog) w 9 61 5 s Tryz.underlying9 Tryz.underlying61 Tryz.underlying5, ?_, Step.of inferInstance⟩
  have hge := grownCap_ge w s.size 0 5
  generalize grownCap w s.size 0 5 = C at hge
  have hds : s.data.size = s.size := rfl
  have hsz : (bytesRow s C).size = C := by simp [bytesRow]; omega
  have hh : (w.drew.alloc (.cells (bytesRow s C) 5 ((bytesRow s C).size, (bytesRow s C).size + 1))).heap[w.heap.size]? = some (.cells (bytesRow s C) 5 ((bytesRow s C).size, (bytesRow s C).size + 1)) := heap_alloc_new w.drew _
  refine ⟨by simp [bl, hds], .inr ⟨w.heap.size, C, rfl, Nat.le_refl _, by simp, hge, fun j u hu => ?_, fun j hj => ⟨?_, ?_⟩⟩⟩
  · rw [Nat.zero_add, cell_of_row _ _ _ _ _ _ hh]
    have hj : j < s.size := by have := (List.getElem?_eq_some_iff.1 hu).1; simpa [vl, bl, hds] using this
    rw [← hu]
    simp [bytesRow, vl, bl, Array.getElem?_append, hj]
  · rw [cell_of_row _ _ _ _ _ _ hh]
    have : s.size + j < (bytesRow s C).size := by omega
    simp [this]
  · simp only [World.frozen?, hh, Bool.and_eq_false_iff, decide_eq_false_iff_not]
    left
    omega
theorem bl_len (s : ByteArray) : (bl s).length = s.size := by simp [bl]
theorem bl_get (s : ByteArray) (i : Nat) (p : i < s.size) : (s[i]'p).toNat = (bl s).getD i 0 := bl_at s i i rfl p
theorem bl_lt (s : ByteArray) (i : Nat) : (bl s).getD i 0 < 256 := by
  by_cases p : i < s.size
  · rw [← bl_get s i p]; exact UInt8.toNat_lt _
  · rw [List.getD_eq_getElem?_getD, List.getElem?_eq_none (by rw [bl_len]; omega)]; exact Nat.zero_lt_succ _
theorem bl_b8 (s : ByteArray) : B8 (bl s) := bl_lt s
/-- The last so many bytes of a number, the highest first. -/
def spl (x : Nat) : Nat → List Nat
  | 0 => []
  | j + 1 => (x / 256 ^ j % 256) :: spl x j
theorem spl_len (x : Nat) : ∀ j, (spl x j).length = j
  | 0 => rfl
  | j + 1 => by rw [spl, List.length_cons, spl_len x j]
theorem spl_b8 (x : Nat) : ∀ j, B8 (spl x j)
  | 0 => b8_mem (by simp [spl])
  | j + 1 => b8_mem fun y hy => by
    rw [spl, List.mem_cons] at hy
    rcases hy with rfl | hy
    · omega
    · obtain ⟨i, hi, rfl⟩ := List.getElem_of_mem hy
      have := spl_b8 x j i
      rwa [List.getD_eq_getElem?_getD, List.getElem?_eq_getElem hi] at this
theorem spl_move (zs xs : List Nat) (x p k : Nat) (h : zs ++ spl x (p + 1) = xs ++ spl x k) : (zs ++ [x / 256 ^ p % 256]) ++ spl x p = xs ++ spl x k := by
  rw [← h, spl, List.append_assoc]
  rfl
theorem buf_last {w : World} {B n : Nat} {v : Value} {xs : List Nat} {a b : Nat} (h : Buf w B v n (xs ++ [a])) (h2 : a = b) : Buf w B v n (xs ++ [b]) := h2 ▸ h
theorem lit1U (w : World) (H : Nat) (t : TypeId) (z : Int) (a : Nat) (hz : z = (a : Int)) (h : w.heap.size = H) : R8 (w.alloc (.cells #[.int .u8 z] t (0, 0))) (some ⟨H, 0, none⟩) [a] := by
  subst hz
  exact Row.lit1 w H t a h
end Pg
end Go.Proofs.YtfeahgcigmoijaaGreatDoor
