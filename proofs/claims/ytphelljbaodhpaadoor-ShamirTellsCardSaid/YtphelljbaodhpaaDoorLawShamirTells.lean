/- ShamirTells walked: true at any secret, chance, counts and points. Condition: errors.errorType reads as laid. -/
import Derived.Test.YtphelljbaodhpaaDoorSure04
import Derived.Test.YtphelljbaodhpaaDoorGive04
namespace Go.Proofs.YtphelljbaodhpaaDoor
open Go.RowKit Go.Lib Go.Maps
namespace LawShamirTells
open SlR FpM FpC PoM PoC ErrAs ShM
abbrev Er (k : Int) : Value := .iface 55 (.int .i64 k)
def NumC (E : Value) (k : Int) : Prop := ∀ w, Laid w → Calls Tryd.prog 16 #[E] w fun e w' => e = .returned (.int .i64 k) ∧ Step w w'
theorem numE (k : Int) : NumC (Er k) k := fun w h => Num04.some_ k w h
theorem numZ : NumC .nilIface 0 := fun w h => (Num04.num_nil w w (Lib.hid (St.start h).out)).mono fun _ _ ⟨a, b⟩ => ⟨a, ⟨b.out.1⟩⟩
theorem giveP (A : Option Addr) (c n : Nat) (ps : List (Nat × Nat)) (w : World) (hn : ps.length = n) (hn2 : n ≤ 100000) (hr : RowP w A ps) :
    Calls Tryd.prog 6 #[.slice A n c] w fun e w' => ∃ A' c', e = .returned (.slice A' n c') ∧ RowP w' A' ps ∧ n ≤ c' ∧ Step w w' :=
  (give A c n (fs ps) (sn ps) w (by simp [hn]) hn2 hr).mono fun _ _ ⟨A', c', h1, h2, h3, h4⟩ => ⟨A', c', h1, RowS.of_own h2 (by simp [hn]), h4, ⟨h3⟩⟩
def SoC (n : Nat) (ps : List (Nat × Nat)) (n2 : Nat) (z : List (Nat × Nat)) (E : Value) : Prop := ∀ w A c, RowP w A ps → Calls Tryd.prog 9 #[.slice A n c] w fun e w' => ∃ A' c', e = .returned (.tuple #[.slice A' n2 c', E]) ∧ RowP w' A' z ∧ Step w w'
def RoC (n : Nat) (ps : List (Nat × Nat)) (n2 : Nat) (z : List (Nat × Nat)) (k : Int) : Prop := ∀ w A c, RowP w A ps → Calls Tryd.prog 10 #[.slice A n c] w fun e w' => ∃ A' c', e = .returned (.tuple #[.slice A' n2 c', .int .i64 k]) ∧ RowP w' A' z ∧ Step w w'
def BadC (n : Nat) (ps : List (Nat × Nat)) (k : Int) : Prop := (∀ w A c, RowP w A ps → Calls Tryd.prog 9 #[.slice A n c] w fun e w' => e = .returned (.tuple #[.slice none 0 0, Er k]) ∧ Step w w') ∧ ∀ w A c, RowP w A ps → Calls Tryd.prog 10 #[.slice A n c] w fun e w' => e = .returned (.tuple #[.slice none 0 0, .int .i64 k]) ∧ Step w w'
theorem sort_cases (n : Nat) (ps : List (Nat × Nat)) (hn : ps.length = n) : (∃ k, k ≠ 0 ∧ BadC n ps k) ∨ n ≤ 64 ∧ Hid (Fit ps) ∧ Hid (fs ps).Nodup := by
  by_cases h1 : 64 < n
  · exact .inl ⟨1, by decide, fun w A c _ => sorted_big A c n w h1, fun w A c _ => refSorted_big A c n w h1⟩
  · by_cases h2 : Fit ps
    · by_cases h3 : (fs ps).Nodup
      · exact .inr ⟨by omega, Lib.hid h2, Lib.hid h3⟩
      · exact .inl ⟨8, by decide, fun w A c h => sorted_dup A c n ps w hn (by omega) h (Lib.hid h2) (Lib.hid h3), fun w A c h => refSorted_dup A c n ps w hn (by omega) h (Lib.hid h2) (Lib.hid h3)⟩
    · exact .inl ⟨1, by decide, fun w A c h => sorted_bad A c n ps w hn (by omega) h (Lib.hid h2), fun w A c h => refSorted_bad A c n ps w hn (by omega) h (Lib.hid h2)⟩
theorem pair_sorted (n : Nat) (ps : List (Nat × Nat)) (hn : ps.length = n) (hn2 : n ≤ 100000) : ∃ E k n2 z, z.length = n2 ∧ n2 ≤ 100000 ∧ NumC E k ∧ SoC n ps n2 z E ∧ RoC n ps n2 z k := by
  rcases sort_cases n ps hn with ⟨k, _, h1, h2⟩ | ⟨h0, hf, hd⟩
  · exact ⟨_, k, 0, [], rfl, by omega, numE k, fun w A c h => (h1 w A c h).mono fun _ _ ⟨a, b⟩ => ⟨none, 0, a, RowP.nil, b⟩, fun w A c h => (h2 w A c h).mono fun _ _ ⟨a, b⟩ => ⟨none, 0, a, RowP.nil, b⟩⟩
  · exact ⟨_, 0, n, srt ps, (srt_len ps).trans hn, hn2, numZ, fun w A c h => (sorted_ok A c n ps w hn h0 h hf hd).mono fun _ _ ⟨A', c', h1, h2, h3, h4⟩ => ⟨A', c', h1, RowP.of_own h2 ((srt_len ps).trans hn), h4⟩,
      fun w A c h => (refSorted_ok A c n ps w hn h0 h hf hd).mono fun _ _ ⟨A', c', h1, h2, h3, h4⟩ => ⟨A', c', h1, h2, h4⟩⟩
def SpC (s : Nat) (C : Option Addr) (nc cc : Nat) (cs : List Nat) (q : Int) (n2 : Nat) (z : List (Nat × Nat)) (E : Value) : Prop := ∀ w, RowN w C cs → Calls Tryd.prog 7 #[.int .u64 s, .slice C nc cc, .int .i64 q] w fun e w' => ∃ A' c', e = .returned (.tuple #[.slice A' n2 c', E]) ∧ RowP w' A' z ∧ Step w w'
def RpC (s : Nat) (C : Option Addr) (nc cc : Nat) (cs : List Nat) (q : Int) (n2 : Nat) (z : List (Nat × Nat)) (k : Int) : Prop := ∀ w, RowN w C cs → Calls Tryd.prog 8 #[.int .u64 s, .slice C nc cc, .int .i64 q] w fun e w' => ∃ A' c', e = .returned (.tuple #[.slice A' n2 c', .int .i64 k]) ∧ RowP w' A' z ∧ Step w w'
theorem pair_split (s : Nat) (C : Option Addr) (nc cc : Nat) (cs : List Nat) (q : Int) (hnc : cs.length = nc) : ∃ E k n2 z, z.length = n2 ∧ n2 ≤ 100000 ∧ NumC E k ∧ SpC s C nc cc cs q n2 z E ∧ RpC s C nc cc cs q n2 z k := by
  by_cases hq : q < 1 ∨ 64 < q ∨ q ≤ nc
  · exact ⟨_, 1, 0, [], rfl, by omega, numE 1, fun w h => (split_bad s C nc cc q w hq).mono fun _ _ ⟨a, b⟩ => ⟨none, 0, a, RowP.nil, b⟩, fun w h => (refSplit_bad s C nc cc q w hq).mono fun _ _ ⟨a, b⟩ => ⟨none, 0, a, RowP.nil, b⟩⟩
  · obtain ⟨m, rfl⟩ : ∃ m : Nat, q = m := ⟨q.toNat, by omega⟩
    exact ⟨_, 0, m, shs s cs m, shs_len _ _ _, by omega, numZ, fun w h => (split_ok s C nc cc m cs w hnc (by omega) (by omega) h).mono fun _ _ ⟨A', c', h1, h2, h3, h4⟩ => ⟨A', c', h1, RowP.of_own h2 (shs_len _ _ _), h4⟩,
      fun w h => (refSplit_ok s C nc cc m cs w hnc (by omega) (by omega) h).mono fun _ _ ⟨A', c', h1, h2, h3, h4⟩ => ⟨A', c', h1, h2, h4⟩⟩
def JoC (n : Nat) (ps : List (Nat × Nat)) (q : Int) (v : Nat) (E : Value) : Prop := ∀ w A c, RowP w A ps → Calls Tryd.prog 11 #[.slice A n c, .int .i64 q] w fun e w' => e = .returned (.tuple #[.int .u64 v, E]) ∧ Step w w'
def RjC (n : Nat) (ps : List (Nat × Nat)) (q : Int) (v : Nat) (k : Int) : Prop := ∀ w A c, RowP w A ps → Calls Tryd.prog 12 #[.slice A n c, .int .i64 q] w fun e w' => e = .returned (.tuple #[.int .u64 v, .int .i64 k]) ∧ Step w w'
theorem pair_join (n : Nat) (ps : List (Nat × Nat)) (q : Int) (hn : ps.length = n) : ∃ E k v, NumC E k ∧ JoC n ps q v E ∧ RjC n ps q v k := by
  by_cases hq : q < 1
  · exact ⟨_, 1, 0, numE 1, fun w A c _ => join_neg A c n q w hq, fun w A c _ => refJoin_neg A c n q w hq⟩
  · rcases sort_cases n ps hn with ⟨k, hk, h1, h2⟩ | ⟨h0, hf, hd⟩
    · exact ⟨_, k, 0, numE k, fun w A c h => join_err A c n q ps w (by omega) h k (fun w h => h1 w A c h), fun w A c h => refJoin_err A c n q ps w (by omega) h k hk (fun w h => h2 w A c h)⟩
    · by_cases hnq : (n : Int) < q
      · exact ⟨_, 7, 0, numE 7, fun w A c h => join_few A c n q ps w hn h0 h hf hd (by omega) hnq, fun w A c h => refJoin_few A c n q ps w hn h0 h hf hd (by omega) hnq⟩
      · obtain ⟨m, rfl⟩ : ∃ m : Nat, q = m := ⟨q.toNat, by omega⟩
        cases hb : okB ps m with
        | false => exact ⟨_, 4, 0, numE 4, fun w A c h => join_no A c n m ps w hn h0 h hf hd (by omega) (by omega) hb, fun w A c h => refJoin_no A c n m ps w hn h0 h hf hd (by omega) (by omega) hb⟩
        | true => exact ⟨_, 0, jn ps m, numZ, fun w A c h => join_ok A c n m ps w hn h0 h hf hd (by omega) (by omega) hb, fun w A c h => refJoin_ok A c n m ps w hn h0 h hf hd (by omega) (by omega) hb⟩
def SuC (n m : Nat) (ps qs : List (Nat × Nat)) (n2 : Nat) (z : List (Nat × Nat)) (E : Value) : Prop := ∀ w A c B d, RowP w A ps → RowP w B qs → Calls Tryd.prog 13 #[.slice A n c, .slice B m d] w fun e w' => ∃ A' c', e = .returned (.tuple #[.slice A' n2 c', E]) ∧ RowP w' A' z ∧ Step w w'
def RuC (n m : Nat) (ps qs : List (Nat × Nat)) (n2 : Nat) (z : List (Nat × Nat)) (k : Int) : Prop := ∀ w A c B d, RowP w A ps → RowP w B qs → Calls Tryd.prog 14 #[.slice A n c, .slice B m d] w fun e w' => ∃ A' c', e = .returned (.tuple #[.slice A' n2 c', .int .i64 k]) ∧ RowP w' A' z ∧ Step w w'
theorem pair_sum (n m : Nat) (ps qs : List (Nat × Nat)) (hn : ps.length = n) (hm : qs.length = m) : ∃ E k n2 z, z.length = n2 ∧ n2 ≤ 100000 ∧ NumC E k ∧ SuC n m ps qs n2 z E ∧ RuC n m ps qs n2 z k := by
  rcases sort_cases n ps hn with ⟨k, hk, h1, h2⟩ | ⟨h0, hf, hd⟩
  · exact ⟨_, k, 0, [], rfl, by omega, numE k, fun w A c B d h _ => (sum_err1 A B c d n m ps w h k (fun w h => h1 w A c h)).mono fun _ _ ⟨a, b⟩ => ⟨none, 0, a, RowP.nil, b⟩, fun w A c B d h _ => (refSum_err1 A B c d n m ps w h k hk (fun w h => h2 w A c h)).mono fun _ _ ⟨a, b⟩ => ⟨none, 0, a, RowP.nil, b⟩⟩
  · rcases sort_cases m qs hm with ⟨k, hk, h1, h2⟩ | ⟨g0, gf, gd⟩
    · exact ⟨_, k, 0, [], rfl, by omega, numE k, fun w A c B d h g => (sum_err2 A B c d n m ps qs w hn h0 h hf hd g k (fun w h => h1 w B d h)).mono fun _ _ ⟨a, b⟩ => ⟨none, 0, a, RowP.nil, b⟩, fun w A c B d h g => (refSum_err2 A B c d n m ps qs w hn h0 h hf hd g k hk (fun w h => h2 w B d h)).mono fun _ _ ⟨a, b⟩ => ⟨none, 0, a, RowP.nil, b⟩⟩
    · by_cases hnm : n = m
      · subst hnm
        by_cases hx : fs (srt ps) = fs (srt qs)
        · exact ⟨_, 0, n, sumL ps qs, sumL_len ps qs n hn hm, by omega, numZ, fun w A c B d h g => (sum_ok A B c d n ps qs w hn h0 h hf hd hm g gf gd (Lib.hid hx)).mono fun _ _ ⟨A', c', h1, h2, h3, h4⟩ => ⟨A', c', h1, RowP.of_own h2 (sumL_len ps qs n hn hm), h4⟩,
            fun w A c B d h g => (refSum_ok A B c d n ps qs w hn h0 h hf hd hm g gf gd (Lib.hid hx)).mono fun _ _ ⟨A', c', h1, h2, h3, h4⟩ => ⟨A', c', h1, h2, h4⟩⟩
        · exact ⟨_, 1, 0, [], rfl, by omega, numE 1, fun w A c B d h g => (sum_no A B c d n ps qs w hn h0 h hf hd hm g gf gd (Lib.hid hx)).mono fun _ _ ⟨a, b⟩ => ⟨none, 0, a, RowP.nil, b⟩, fun w A c B d h g => (refSum_no A B c d n ps qs w hn h0 h hf hd hm g gf gd (Lib.hid hx)).mono fun _ _ ⟨a, b⟩ => ⟨none, 0, a, RowP.nil, b⟩⟩
      · exact ⟨_, 1, 0, [], rfl, by omega, numE 1, fun w A c B d h g => (sum_len A B c d n m ps qs w hn h0 h hf hd hm g0 g gf gd hnm).mono fun _ _ ⟨a, b⟩ => ⟨none, 0, a, RowP.nil, b⟩, fun w A c B d h g => (refSum_len A B c d n m ps qs w hn h0 h hf hd hm g0 g gf gd hnm).mono fun _ _ ⟨a, b⟩ => ⟨none, 0, a, RowP.nil, b⟩⟩
theorem box_at (W : World) (s : Nat) (C : Option Addr) (nc cc : Nat) (q r : Int) (w' : World) (e : Ext (W.alloc (.cells #[.int .u64 s, .slice C nc cc, .int .i64 q, .int .i64 r] 25 (0, 0))) w') : w'.cell? ⟨W.heap.size, 0, none⟩ = some (.int .u64 s) ∧ w'.cell? ⟨W.heap.size, 1, none⟩ = some (.slice C nc cc) ∧ w'.cell? ⟨W.heap.size, 2, none⟩ = some (.int .i64 q) ∧ w'.cell? ⟨W.heap.size, 3, none⟩ = some (.int .i64 r) :=
  ⟨(e.h.cell (by simp)).trans (by simp), (e.h.cell (by simp)).trans (by simp), (e.h.cell (by simp)).trans (by simp), (e.h.cell (by simp)).trans (by simp)⟩
set_option maxHeartbeats 1600000 in
set_option maxRecDepth 1000000 in
theorem core (s : Nat) (C : Option Addr) (nc cc : Nat) (cs : List Nat) (q r : Int) (A : Option Addr) (n c : Nat) (ps : List (Nat × Nat)) (B : Option Addr) (m d : Nat) (qs : List (Nat × Nat)) (W : World) (hnc : cs.length = nc) (hc1 : nc ≤ 100) (hrc : RowN W C cs)
    (hn : ps.length = n) (hn2 : n ≤ 16 ∨ 64 < n ∧ n ≤ 100) (hrs : RowP W A ps) (hm : qs.length = m) (hm2 : m ≤ 100) (hrq : RowP W B qs) (hL : Laid W)
    (E1 : Value) (k1 : Int) (n1 : Nat) (z1 : List (Nat × Nat)) (hz1 : z1.length = n1) (hl1 : n1 ≤ 100000) (cN1 : NumC E1 k1) (cSp : SpC s C nc cc cs q n1 z1 E1) (cRp : RpC s C nc cc cs q n1 z1 k1)
    (E2 : Value) (k2 : Int) (n2 : Nat) (z2 : List (Nat × Nat)) (hz2 : z2.length = n2) (hl2 : n2 ≤ 100000) (cN2 : NumC E2 k2) (cSo : SoC n ps n2 z2 E2) (cRo : RoC n ps n2 z2 k2)
    (E3 : Value) (k3 : Int) (v : Nat) (cN3 : NumC E3 k3) (cJo : JoC n ps r v E3) (cRj : RjC n ps r v k3)
    (E4 : Value) (k4 : Int) (n4 : Nat) (z4 : List (Nat × Nat)) (hz4 : z4.length = n4) (hl4 : n4 ≤ 100000) (cN4 : NumC E4 k4) (cSu : SuC n m ps qs n4 z4 E4) (cRu : RuC n m ps qs n4 z4 k4) :
    Calls Tryd.prog 3 #[.agg #[.int .u64 s, .slice C nc cc, .int .i64 q, .int .i64 r], .slice A n c, .slice B m d] W fun e w' => e = .returned (.bool true) ∧ Step W w' := by
  have t1 : ¬ (100 : Int) < (nc : Int) := by omega
  have t2 : ¬ (100 : Int) < (n : Int) := by omega
  have t3 : ¬ (100 : Int) < (m : Int) := by omega
  have cG := fun w h => giveP A c n ps w hn (by omega) h
  have cH := fun w h => giveP B d m qs w hm (by omega) h
  have cA1 := fun w A c D d h1 h2 => are_yes A D c d n1 z1 w hz1 hl1 h1 h2
  have cA2 := fun w A c D d h1 h2 => are_yes A D c d n2 z2 w hz2 hl2 h1 h2
  have cA4 := fun w A c D d h1 h2 => are_yes A D c d n4 z4 w hz4 hl4 h1 h2
  have cA0 := fun w A c D d h1 h2 => are_yes A D c d n ps w hn (by omega) h1 h2
  have hb := box_at W s C nc cc q r
  unfold SpC at cSp
  unfold RpC at cRp
  unfold SoC at cSo
  unfold RoC at cRo
  unfold JoC at cJo
  unfold RjC at cRj
  unfold SuC at cSu
  unfold RuC at cRu
  unfold NumC at cN1 cN2 cN3 cN4
  rcases hn2 with h16 | ⟨h64, h100⟩
  · have t4 : ¬ (16 : Int) < (n : Int) := by omega
    clear h16
    go_enter Tryd.func3, Tryd.ntmps3
    go_wp2_with (first
      | (go_at_call 6; ((with_reducible refine (cG _ hrs.to).mono ?_); rintro e w1 ⟨A1, c1, rfl, X1, hc1, S1⟩; obtain ⟨a10, a11, a12, a13⟩ := hb w1 inferInstance))
      | (go_at_call 7; ((with_reducible refine (cSp _ hrc.to).mono ?_); rintro e w2 ⟨A2, c2, rfl, X2, S2⟩; obtain ⟨a20, a21, a22, a23⟩ := hb w2 inferInstance))
      | (go_at_call 8; ((with_reducible refine (cRp _ hrc.to).mono ?_); rintro e w3 ⟨A3, c3, rfl, X3, S3⟩; obtain ⟨a30, a31, a32, a33⟩ := hb w3 inferInstance))
      | (go_at_call 9; ((with_reducible refine (cSo _ _ _ X1.to).mono ?_); rintro e w4 ⟨A4, c4, rfl, X4, S4⟩; obtain ⟨a40, a41, a42, a43⟩ := hb w4 inferInstance))
      | (go_at_call 10; ((with_reducible refine (cRo _ _ _ hrs.to).mono ?_); rintro e w5 ⟨A5, c5, rfl, X5, S5⟩; obtain ⟨a50, a51, a52, a53⟩ := hb w5 inferInstance))
      | (go_at_call 11; ((with_reducible refine (cJo _ _ _ X1.to).mono ?_); rintro e w6 ⟨rfl, S6⟩; obtain ⟨a60, a61, a62, a63⟩ := hb w6 inferInstance))
      | (go_at_call 12; ((with_reducible refine (cRj _ _ _ hrs.to).mono ?_); rintro e w7 ⟨rfl, S7⟩))
      | (go_at_call 6; ((with_reducible refine (cH _ hrq.to).mono ?_); rintro e w8 ⟨A8, c8, rfl, X8, hc8, S8⟩))
      | (go_at_call 13; ((with_reducible refine (cSu _ _ _ _ _ X1.to X8.to).mono ?_); rintro e w9 ⟨A9, c9, rfl, X9, S9⟩))
      | (go_at_call 14; ((with_reducible refine (cRu _ _ _ _ _ hrs.to hrq.to).mono ?_); rintro e w10 ⟨A10, c10, rfl, X10, S10⟩))
      | (go_at_call 15; ((with_reducible refine (cA1 _ _ _ _ _ X2.to X3.to).mono ?_); rintro e w11 ⟨rfl, S11⟩))
      | (go_at_call 15; ((with_reducible refine (cA2 _ _ _ _ _ X4.to X5.to).mono ?_); rintro e w12 ⟨rfl, S12⟩))
      | (go_at_call 15; ((with_reducible refine (cA4 _ _ _ _ _ X9.to X10.to).mono ?_); rintro e w13 ⟨rfl, S13⟩))
      | (go_at_call 15; ((with_reducible refine (cA0 _ _ _ _ _ X1.to hrs.to).mono ?_); rintro e w14 ⟨rfl, S14⟩))
      | (go_at_call 16; ((with_reducible refine (cN1 _ hL.to).mono ?_); rintro e w15 ⟨rfl, S15⟩))
      | (go_at_call 16; ((with_reducible refine (cN2 _ hL.to).mono ?_); rintro e w16 ⟨rfl, S16⟩))
      | (go_at_call 16; ((with_reducible refine (cN3 _ hL.to).mono ?_); rintro e w17 ⟨rfl, S17⟩))
      | (go_at_call 16; ((with_reducible refine (cN4 _ hL.to).mono ?_); rintro e w18 ⟨rfl, S18⟩))
      | (go_at_call 5; ((with_reducible refine (sure_any _ hL.to).mono ?_); rintro e w19 ⟨rfl, S19⟩)))
    go_ret
    exact ⟨rfl, Step.of inferInstance⟩
  · have t4 : (16 : Int) < (n : Int) := by omega
    have t5 : ¬ (n : Int) ≤ (64 : Int) := by omega
    clear h64 h100
    go_enter Tryd.func3, Tryd.ntmps3
    go_wp2_with (first
      | (go_at_call 6; ((with_reducible refine (cG _ hrs.to).mono ?_); rintro e w1 ⟨A1, c1, rfl, X1, hc1, S1⟩; obtain ⟨a10, a11, a12, a13⟩ := hb w1 inferInstance))
      | (go_at_call 7; ((with_reducible refine (cSp _ hrc.to).mono ?_); rintro e w2 ⟨A2, c2, rfl, X2, S2⟩; obtain ⟨a20, a21, a22, a23⟩ := hb w2 inferInstance))
      | (go_at_call 8; ((with_reducible refine (cRp _ hrc.to).mono ?_); rintro e w3 ⟨A3, c3, rfl, X3, S3⟩; obtain ⟨a30, a31, a32, a33⟩ := hb w3 inferInstance))
      | (go_at_call 9; ((with_reducible refine (cSo _ _ _ X1.to).mono ?_); rintro e w4 ⟨A4, c4, rfl, X4, S4⟩; obtain ⟨a40, a41, a42, a43⟩ := hb w4 inferInstance))
      | (go_at_call 10; ((with_reducible refine (cRo _ _ _ hrs.to).mono ?_); rintro e w5 ⟨A5, c5, rfl, X5, S5⟩; obtain ⟨a50, a51, a52, a53⟩ := hb w5 inferInstance))
      | (go_at_call 11; ((with_reducible refine (cJo _ _ _ X1.to).mono ?_); rintro e w6 ⟨rfl, S6⟩; obtain ⟨a60, a61, a62, a63⟩ := hb w6 inferInstance))
      | (go_at_call 12; ((with_reducible refine (cRj _ _ _ hrs.to).mono ?_); rintro e w7 ⟨rfl, S7⟩))
      | (go_at_call 6; ((with_reducible refine (cH _ hrq.to).mono ?_); rintro e w8 ⟨A8, c8, rfl, X8, hc8, S8⟩))
      | (go_at_call 13; ((with_reducible refine (cSu _ _ _ _ _ X1.to X8.to).mono ?_); rintro e w9 ⟨A9, c9, rfl, X9, S9⟩))
      | (go_at_call 14; ((with_reducible refine (cRu _ _ _ _ _ hrs.to hrq.to).mono ?_); rintro e w10 ⟨A10, c10, rfl, X10, S10⟩))
      | (go_at_call 15; ((with_reducible refine (cA1 _ _ _ _ _ X2.to X3.to).mono ?_); rintro e w11 ⟨rfl, S11⟩))
      | (go_at_call 15; ((with_reducible refine (cA2 _ _ _ _ _ X4.to X5.to).mono ?_); rintro e w12 ⟨rfl, S12⟩))
      | (go_at_call 15; ((with_reducible refine (cA4 _ _ _ _ _ X9.to X10.to).mono ?_); rintro e w13 ⟨rfl, S13⟩))
      | (go_at_call 15; ((with_reducible refine (cA0 _ _ _ _ _ X1.to hrs.to).mono ?_); rintro e w14 ⟨rfl, S14⟩))
      | (go_at_call 16; ((with_reducible refine (cN1 _ hL.to).mono ?_); rintro e w15 ⟨rfl, S15⟩))
      | (go_at_call 16; ((with_reducible refine (cN2 _ hL.to).mono ?_); rintro e w16 ⟨rfl, S16⟩))
      | (go_at_call 16; ((with_reducible refine (cN3 _ hL.to).mono ?_); rintro e w17 ⟨rfl, S17⟩))
      | (go_at_call 16; ((with_reducible refine (cN4 _ hL.to).mono ?_); rintro e w18 ⟨rfl, S18⟩))
      | (go_at_call 5; ((with_reducible refine (sure_any _ hL.to).mono ?_); rintro e w19 ⟨rfl, S19⟩)))
    go_ret
    exact ⟨rfl, Step.of inferInstance⟩
set_option maxRecDepth 100000 in
theorem early (s : Int) (C : Option Addr) (nc cc : Nat) (q r : Int) (A : Option Addr) (n c : Nat) (B : Option Addr) (m d : Nat) (W : World) (hL : Laid W) (h : 100 < nc ∨ 16 < n ∧ n ≤ 64 ∨ 100 < n ∨ 100 < m) :
    Calls Tryd.prog 3 #[.agg #[.int .u64 s, .slice C nc cc, .int .i64 q, .int .i64 r], .slice A n c, .slice B m d] W fun e w' => e = .returned (.bool true) ∧ Step W w' := by
  by_cases h1 : (100 : Int) < (nc : Int)
  · clear h
    go_enter Tryd.func3, Tryd.ntmps3
    go_wp2_with (go_at_call 5; ((with_reducible refine (sure_any _ hL.to).mono ?_); rintro e w' ⟨rfl, S⟩))
    go_ret
    exact ⟨rfl, Step.of inferInstance⟩
  · by_cases h2 : (16 : Int) < (n : Int)
    · by_cases h3 : (n : Int) ≤ (64 : Int)
      · clear h
        go_enter Tryd.func3, Tryd.ntmps3
        go_wp2_with (go_at_call 5; ((with_reducible refine (sure_any _ hL.to).mono ?_); rintro e w' ⟨rfl, S⟩))
        go_ret
        exact ⟨rfl, Step.of inferInstance⟩
      · by_cases h4 : (100 : Int) < (n : Int)
        · clear h
          go_enter Tryd.func3, Tryd.ntmps3
          go_wp2_with (go_at_call 5; ((with_reducible refine (sure_any _ hL.to).mono ?_); rintro e w' ⟨rfl, S⟩))
          go_ret
          exact ⟨rfl, Step.of inferInstance⟩
        · have h5 : (100 : Int) < (m : Int) := by omega
          clear h
          go_enter Tryd.func3, Tryd.ntmps3
          go_wp2_with (go_at_call 5; ((with_reducible refine (sure_any _ hL.to).mono ?_); rintro e w' ⟨rfl, S⟩))
          go_ret
          exact ⟨rfl, Step.of inferInstance⟩
    · have h4 : ¬ (100 : Int) < (n : Int) := by omega
      have h5 : (100 : Int) < (m : Int) := by omega
      clear h
      go_enter Tryd.func3, Tryd.ntmps3
      go_wp2_with (go_at_call 5; ((with_reducible refine (sure_any _ hL.to).mono ?_); rintro e w' ⟨rfl, S⟩))
      go_ret
      exact ⟨rfl, Step.of inferInstance⟩
theorem pairs_of (xs ys : List Int) (n : Nat) (h1 : xs.length = n) (h2 : ys.length = n) (hx : ∀ z ∈ xs, 0 ≤ z ∧ z < 18446744073709551616) (hy : ∀ z ∈ ys, 0 ≤ z ∧ z < 18446744073709551616) (w : World) (A : Option Addr)
    (hr : ∀ j x y, xs[j]? = some x → ys[j]? = some y → ∃ b o, A = some ⟨b, o, none⟩ ∧ b < w.heap.size ∧ w.cell? ⟨b, o + j * 2, none⟩ = some (.int .u64 x) ∧ w.cell? ⟨b, o + j * 2 + 1, none⟩ = some (.int .u64 y)) :
    ∃ ps : List (Nat × Nat), ps.length = n ∧ RowP w A ps := by
  refine ⟨List.zipWith (fun x y => (x.toNat, y.toNat)) xs ys, by rw [List.length_zipWith]; omega, fun j hj => ?_⟩
  rw [fs_len, List.length_zipWith] at hj
  have e1 : xs[j]? = some xs[j] := List.getElem?_eq_getElem (by omega)
  have e2 : ys[j]? = some ys[j] := List.getElem?_eq_getElem (by omega)
  obtain ⟨b, o, hA, hb, c1, c2⟩ := hr j _ _ e1 e2
  have b1 := hx _ (List.getElem_mem (h := by omega) : xs[j] ∈ xs)
  have b2 := hy _ (List.getElem_mem (h := by omega) : ys[j] ∈ ys)
  rw [fs_at, sn_at, getD_ofP (by rw [List.length_zipWith]; omega), List.getElem_zipWith]
  refine ⟨b, o, hA, hb, ?_, ?_⟩
  · rw [c1]; congr 2; show _ = ((xs[j].toNat : Nat) : Int); omega
  · rw [c2]; congr 2; show _ = ((ys[j].toNat : Nat) : Int); omega
theorem nl_of (ps : List Int) (h : ∀ z ∈ ps, 0 ≤ z ∧ z < 18446744073709551616) : ∃ xs : List Nat, ps = NL xs ∧ xs.length = ps.length := by
  refine ⟨ps.map Int.toNat, ?_, by simp⟩
  unfold NL
  rw [List.map_map]
  conv => lhs; rw [← List.map_id ps]
  refine List.map_congr_left fun z hz => ?_
  have := (h z hz).1
  simp; omega
theorem walk (s : Int) (C : Option Addr) (nc cc : Nat) (cs : List Int) (q r : Int) (A : Option Addr) (n c : Nat) (xs ys : List Int) (B : Option Addr) (m d : Nat) (us vs : List Int) (W : World)
    (hs : 0 ≤ s ∧ s ≤ 18446744073709551615) (hnc : cs.length = nc) (hrc : Row .u64 W C cs) (hcb : ∀ z ∈ cs, 0 ≤ z ∧ z < 18446744073709551616)
    (hx : xs.length = n) (hy : ys.length = n) (_hc : n ≤ c) (hr : ∀ j x y, xs[j]? = some x → ys[j]? = some y → ∃ b o, A = some ⟨b, o, none⟩ ∧ b < W.heap.size ∧ W.cell? ⟨b, o + j * 2, none⟩ = some (.int .u64 x) ∧ W.cell? ⟨b, o + j * 2 + 1, none⟩ = some (.int .u64 y)) (hbx : ∀ z ∈ xs, 0 ≤ z ∧ z < 18446744073709551616) (hby : ∀ z ∈ ys, 0 ≤ z ∧ z < 18446744073709551616)
    (hu : us.length = m) (hv : vs.length = m) (_hd : m ≤ d) (hq : ∀ j x y, us[j]? = some x → vs[j]? = some y → ∃ b o, B = some ⟨b, o, none⟩ ∧ b < W.heap.size ∧ W.cell? ⟨b, o + j * 2, none⟩ = some (.int .u64 x) ∧ W.cell? ⟨b, o + j * 2 + 1, none⟩ = some (.int .u64 y)) (hbu : ∀ z ∈ us, 0 ≤ z ∧ z < 18446744073709551616) (hbv : ∀ z ∈ vs, 0 ≤ z ∧ z < 18446744073709551616) (hL : Laid W) :
    Calls Tryd.prog 3 #[.agg #[.int .u64 s, .slice C nc cc, .int .i64 q, .int .i64 r], .slice A n c, .slice B m d] W fun e w' => e = .returned (.bool true) ∧ Step W w' := by
  by_cases h : 100 < nc ∨ 16 < n ∧ n ≤ 64 ∨ 100 < n ∨ 100 < m
  · exact early s C nc cc q r A n c B m d W hL h
  · obtain ⟨ps, hn, hrs⟩ := pairs_of xs ys n hx hy hbx hby W A hr
    obtain ⟨qs, hm, hrq⟩ := pairs_of us vs m hu hv hbu hbv W B hq
    obtain ⟨zs, rfl, l1⟩ := nl_of cs hcb
    obtain ⟨S, rfl⟩ : ∃ S : Nat, s = S := ⟨s.toNat, by omega⟩
    obtain ⟨E1, k1, n1, z1, a1, a2, a3, a4, a5⟩ := pair_split S C nc cc zs q (by omega)
    obtain ⟨E2, k2, n2, z2, b1, b2, b3, b4, b5⟩ := pair_sorted n ps hn (by omega)
    obtain ⟨E3, k3, v, c3, c4, c5⟩ := pair_join n ps r hn
    obtain ⟨E4, k4, n4, z4, d1, d2, d3, d4, d5⟩ := pair_sum n m ps qs hn hm
    exact core S C nc cc zs q r A n c ps B m d qs W (by omega) (by omega) hrc hn (by omega) hrs hm (by omega) hrq hL E1 k1 n1 z1 a1 a2 a3 a4 a5 E2 k2 n2 z2 b1 b2 b3 b4 b5 E3 k3 v c3 c4 c5 E4 k4 n4 z4 d1 d2 d3 d4 d5
end LawShamirTells
end Go.Proofs.YtphelljbaodhpaaDoor
