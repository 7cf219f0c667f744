/- vec's calls: each answers the row of what is left, or the error. Conditions: what is handed in reads as rows of 32 bits; lengths below 2^31. -/
import Derived.Test.YtfeahgcigmoijaaGreatDoorPkA
import Derived.Test.YtfeahgcigmoijaaGreatDoorProg
namespace Go.Proofs.YtfeahgcigmoijaaGreatDoor
open Go.RowKit Go.Lib
namespace VecC
open SlR
/-- A row of the call's own. -/
def Ow (w : World) (base : Nat) (v : Value) (xs : List Int) : Prop := w.ownsRow base 51 1 v xs.length (xs.map (Value.int .u32))
theorem info : (Tryz.prog.info? 51).map (fun i => (i.zero, i.size, i.bytes)) = some (some (.int .u32 0), 1, 4) := by kernel_rfl
theorem made (n : Nat) : (madeCells (Value.int .u32 0).cells (n * 1)).toList = (List.replicate n (0 : Int)).map (Value.int .u32) := by
  rw [show (Value.int .u32 0).cells = #[Value.int .u32 0] from rfl, Nat.mul_one, toList_madeCells_one, List.map_replicate]
theorem zero_ok (n : Nat) (hn : n ≤ 32) (w : World) : Calls Tryz.prog 26 #[.int .i64 n] w fun e w' =>
    e = .returned (.tuple #[.slice (some ⟨w.heap.size, 0, none⟩) n n, .nilIface]) ∧ Ow w' w.heap.size (.slice (some ⟨w.heap.size, 0, none⟩) n n) (List.replicate n 0) ∧ Below w.heap.size w w' := by
  obtain ⟨i0, hi, hz0, hz1, hz2⟩ := info_parts info
  have h1 : ¬ ((n : Int) < 0) := by omega
  have h2 : ¬ (32 < (n : Int)) := by omega
  go_enter Tryz.func26, Tryz.ntmps26
  go_wp2_with (at_make; refine wpList_make_full _ rfl _ _ 22 rfl w.heap.size 51 i0 (.int .u32 0) 1 Tryz.underlying22 hi hz0 hz1 _ _ _ _ n rfl rfl rfl rfl (by rw [hz2]; omega) (by unfold maxLen; omega) (Nat.le_refl _) ?_; intro w1 hown hgrow)
  refine bodyPost_ret (v := .tuple #[.slice (some ⟨w.heap.size, 0, none⟩) n n, .nilIface]) (by simp [results, Tryz.results26, go_sem]) rfl ⟨rfl, ?_, (Below.refl _ _).grown hgrow (Nat.le_refl _) (fun k h => by cases h)⟩
  rw [made] at hown
  simpa [Ow] using hown
theorem zero_no (n : Int) (hn : n < 0 ∨ 32 < n) (w : World) : Calls Tryz.prog 26 #[.int .i64 n] w fun e w' =>
    e = .returned (.tuple #[.slice none 0 0, .iface 77 (.int .i64 1)]) ∧ w = w' := by
  by_cases h : n < 0
  · go_enter Tryz.func26, Tryz.ntmps26
    go_wp2
    exact bodyPost_ret (v := .tuple #[.slice none 0 0, .iface 77 (.int .i64 1)]) (by simp [results, Tryz.results26, go_sem]) rfl ⟨rfl, rfl⟩
  · have h2 : 32 < n := by omega
    go_enter Tryz.func26, Tryz.ntmps26
    go_wp2
    exact bodyPost_ret (v := .tuple #[.slice none 0 0, .iface 77 (.int .i64 1)]) (by simp [results, Tryz.results26, go_sem]) rfl ⟨rfl, rfl⟩
theorem sub1_any (i x y : Int) (g base n : Nat) (v : Value) (xs : List Value) (w : World) (hv : w.heap[g]? = some (.cells #[v] 22 (0, 0))) (hown : w.ownsRow base 51 1 v n xs) (hgb : g < base) (hbw : base ≤ w.heap.size) (hn : n ≤ 100) :
    Calls Tryz.prog 37 #[.int .i64 i, .int .u32 x, .int .u32 y, .pointer (some ⟨g, 0, none⟩)] w fun e w' => e = .returned (.tuple #[]) ∧ ∃ v', w'.heap[g]? = some (.cells #[v'] 22 (0, 0)) ∧
      w'.ownsRow base 51 1 v' (n + 1) (xs ++ [.int .u32 ((x - y) % 4294967296)]) ∧ Below g w w' := by
  obtain ⟨i0, hi, hz0, hz1, hz2⟩ := info_parts info
  have hc := cell_of_one hv
  have hf := free_of_one hv
  have hcA : ∀ o, (w.alloc o).cell? ⟨g, 0, none⟩ = some v := fun o => (World.cell?_alloc_lt w o ⟨g, 0, none⟩ (by show g < _; omega)).trans hc
  go_enter Tryz.func37, Tryz.ntmps37
  go_wp2_with (at_builtin; refine wpList_append_own _ rfl _ _ 22 rfl base 51 i0 (.int .u32 0) 1 4 Tryz.underlying22 hi hz0 hz1 hz2 rfl (by decide) _ _ _ rfl (hown.alloc _) ⟨w.heap.size, 0, none⟩ 1 1 [.int .u32 ((x - y) % 4294967296)] rfl rfl ?c1 ?c2 ?c3 ?c4 ?c5 ?_)
  case c1 =>
    intro j u hj
    match j, hj with
    | 0, hj => simp at hj; subst hj; simp [Addr.add]
  case c2 => intro u hu; simp at hu; subst hu; rfl
  case c3 => unfold maxLen; omega
  case c4 => omega
  case c5 => simp; omega
  intro v' w1 hown1 hgrow _
  obtain ⟨A', c', rfl⟩ := own_form hown1
  have hl := hown.lt
  have hne : some g ≠ v.ownBlock := fun h => by have := hl g h.symm; omega
  have hv1 : w1.heap[g]? = some (.cells #[v] 22 (0, 0)) := (hgrow.block g (by simp; omega) hne).trans ((Below.heap_alloc w _ g (by omega)).trans hv)
  have hc1 := cell_of_one hv1
  have hf1 := free_of_one hv1
  have R : (w1.setCell ⟨g, 0, none⟩ (.slice A' (n + 1) c')).heap[g]? = some (.cells #[.slice A' (n + 1) c'] 22 (0, 0)) ∧ (w1.setCell ⟨g, 0, none⟩ (.slice A' (n + 1) c')).ownsRow base 51 1 (.slice A' (n + 1) c') (n + 1) (xs ++ [.int .u32 ((x - y) % 4294967296)]) ∧ Below g w (w1.setCell ⟨g, 0, none⟩ (.slice A' (n + 1) c')) :=
    ⟨one_setCell hv1, ownsRow_setCell_below hown1 hgb _, (((Below.refl g w).alloc (by omega) _).grown hgrow (by simp; omega) (fun k hk => by have := (hl k hk).1; omega)).setCell (Nat.le_refl _) _⟩
  clear hv1 hgrow hown1 hne hl hcA hc hf hown hv
  go_wp2
  exact bodyPost_end (v := .tuple #[]) (by simp [results, Tryz.results37, go_sem]) rfl ⟨rfl, _, R⟩
def Bits (xs : List Int) : Prop := ∀ x ∈ xs, 0 ≤ x ∧ x < 4294967296
def vSub (xs ys : List Int) : List Int := List.zipWith (fun x y => (x - y) % 4294967296) xs ys
theorem vSub_length {xs ys : List Int} {n : Nat} (h1 : xs.length = n) (h2 : ys.length = n) : (vSub xs ys).length = n := by simp [vSub, h1, h2]
set_option maxHeartbeats 400000 in
theorem together_sub (A D : Option Addr) (c d g n : Nat) (xs ys : List Int) (w : World) (hxn : xs.length = n) (hyn : ys.length = n) (hx : Rd .u32 w g A xs) (hy : Rd .u32 w g D ys)
    (hg : w.heap[g]? = some (.cells #[.slice none 0 0] 22 (0, 0))) (hl : n ≤ 32) :
    Calls Tryz.prog 36 #[.slice A n c, .slice D n d, .func (.func 37) #[] #[.pointer (some ⟨g, 0, none⟩)]] w fun e w' =>
      e = .returned .nilIface ∧ ∃ v, w'.heap[g]? = some (.cells #[v] 22 (0, 0)) ∧ w'.ownsRow (g + 1) 51 1 v n ((vSub xs ys).map (Value.int .u32)) ∧ Below g w w' := by
  have hgs : g < w.heap.size := lt_of_block hg
  have hlz := Lib.hid (vSub_length hxn hyn)
  have hst : Hid (w.ownsRow (g + 1) 51 1 (.slice none 0 0) 0 (((vSub xs ys).take 0).map (Value.int .u32))) := Lib.hid (World.ownsRow_nil _ _ _ _)
  have hbig : ¬ (32 : Int) < (n : Int) := by omega
  go_enter Tryz.func36, Tryz.ntmps36
  go_wp2
  go_loopw [22] (fun i wr => ∃ (k : Nat) (v : Value), k ≤ n ∧ i = .int .i64 k ∧ wr.heap[g]? = some (.cells #[v] 22 (0, 0)) ∧ wr.ownsRow (g + 1) 51 1 v k (((vSub xs ys).take k).map (Value.int .u32)) ∧ Below g w wr) (fun i _ => n - (intOf i).toNat)
  case atStart => exact ⟨0, _, Nat.zero_le _, rfl, hg, hst.out, Below.refl _ _⟩
  case round =>
    clear hst hbig
    obtain ⟨k, v, hk, rfl, hv, hown, hb⟩ := hrel
    by_cases hlt : k < n
    · obtain ⟨ad, x, rfl, hab, hxk, hxc⟩ := (hx.below hb).at (j := k) (by omega)
      obtain ⟨bd, y, rfl, hbb, hyk, hyc⟩ := (hy.below hb).at (j := k) (by omega)
      have HT : Hid (((vSub xs ys).take (k + 1)).map (Value.int .u32) = ((vSub xs ys).take k).map (Value.int .u32) ++ [.int .u32 ((x - y) % 4294967296)]) := Lib.hid (by
        rw [vSub, take_snoc (zip_at hxk hyk), List.map_append]; rfl)
      have HB := Lib.hid hb
      have HV := Lib.hid hv
      have HO := Lib.hid hown
      clear hxk hyk hx hy hg hb hv hown
      go_wp2_with (go_at_call 37; refine (sub1_any _ _ _ g (g + 1) k v _ _ HV.out HO.out (by omega) (by have := HB.out.size; omega) (by omega)).mono ?_; rintro e w' ⟨rfl, v', R1, R2, R3⟩)
      go_roundw
      case rel => exact ⟨k + 1, v', by omega, by go_num, R1, by rw [HT.out]; exact R2, HB.out.trans R3⟩
      case measure => simp [intOf]; omega
    · have hkn : k = n := by omega
      subst hkn
      have HT : Hid ((vSub xs ys).take k = vSub xs ys) := Lib.hid (by rw [List.take_of_length_le (by rw [hlz.out]; omega)])
      rw [HT.out] at hown
      clear hx hy hg
      go_wp2
      go_ret
      exact ⟨rfl, _, hv, hown, hb⟩
def vAdd (xs ys : List Int) : List Int := List.zipWith (fun x y => (x + y) % 4294967296) xs ys
theorem vAdd_length {xs ys : List Int} {n : Nat} (h1 : xs.length = n) (h2 : ys.length = n) : (vAdd xs ys).length = n := by simp [vAdd, h1, h2]
theorem sum1_any (k n : Nat) (x y : Int) (g h base B : Nat) (zs : List Value) (w : World) (hv : w.heap[g]? = some (.cells #[.slice (some ⟨h, 0, none⟩) n n] 22 (0, 0))) (hown : w.ownsRow base 51 1 (.slice (some ⟨h, 0, none⟩) n n) n zs) (hgh : g ≠ h) (hBh : B ≤ h) (hk : k < n) :
    Calls Tryz.prog 43 #[.int .i64 k, .int .u32 x, .int .u32 y, .pointer (some ⟨g, 0, none⟩)] w fun e w' => e = .returned (.tuple #[]) ∧ w'.heap[g]? = some (.cells #[.slice (some ⟨h, 0, none⟩) n n] 22 (0, 0)) ∧
      w'.ownsRow base 51 1 (.slice (some ⟨h, 0, none⟩) n n) n (zs.set k (.int .u32 ((x + y) % 4294967296))) ∧ Below B w w' := by
  have hc := cell_of_one hv
  have hf := free_of_one hv
  have hck := hown.cellAt k (by omega)
  have hfk := hown.frozenAt k
  have hzl := hown.1
  have hck' : w.cell? ⟨h, k, none⟩ = some (zs[k]'(by omega)) := by rw [hck]; exact List.getElem?_eq_getElem _
  generalize zs[k]'(by omega) = z at hck'
  have R : (w.setCell ⟨h, k, none⟩ (.int .u32 ((x + y) % 4294967296))).heap[g]? = some (.cells #[.slice (some ⟨h, 0, none⟩) n n] 22 (0, 0)) ∧ (w.setCell ⟨h, k, none⟩ (.int .u32 ((x + y) % 4294967296))).ownsRow base 51 1 (.slice (some ⟨h, 0, none⟩) n n) n (zs.set k (.int .u32 ((x + y) % 4294967296))) ∧
      Below B w (w.setCell ⟨h, k, none⟩ (.int .u32 ((x + y) % 4294967296))) :=
    ⟨(Below.heap_setCell w ⟨h, k, none⟩ _ g hgh).trans hv, (hown.stored k _).1, (Below.refl B w).setCell hBh _⟩
  clear hck hzl hown hv
  go_enter Tryz.func43, Tryz.ntmps43
  go_wp2
  exact bodyPost_end (v := .tuple #[]) (by simp [results, Tryz.results43, go_sem]) rfl ⟨rfl, R⟩
theorem mix_set (zs cur : List Int) (k n : Nat) (z : Int) (h1 : zs.length = n) (h2 : cur.length = n) (hz : zs[k]? = some z) : (zs.take k ++ cur.drop k).set k z = zs.take (k + 1) ++ cur.drop (k + 1) := by
  have hk : k < n := by have := (List.getElem?_eq_some_iff.mp hz).1; omega
  rw [take_snoc hz, List.set_append_right _ _ (by simp; omega), List.append_assoc]
  congr 1
  rw [List.length_take, h1, Nat.min_eq_left (by omega), Nat.sub_self, List.drop_eq_getElem_cons (by omega : k < cur.length)]
  rfl
theorem mix_at (zs cur : List Int) (k n : Nat) (h1 : zs.length = n) (hk : k < n) : (zs.take k ++ cur.drop k)[k]? = cur[k]? := by
  rw [List.getElem?_append_right (by simp; omega)]
  rw [List.length_take, h1, Nat.min_eq_left (by omega), Nat.sub_self, List.getElem?_drop, Nat.add_zero]
set_option maxHeartbeats 400000 in
theorem together_sum (D : Option Addr) (d g h base B n : Nat) (xs ys : List Int) (w : World) (hxn : xs.length = n) (hyn : ys.length = n) (hy : Rd .u32 w B D ys)
    (hv : w.heap[g]? = some (.cells #[.slice (some ⟨h, 0, none⟩) n n] 22 (0, 0))) (hown : w.ownsRow base 51 1 (.slice (some ⟨h, 0, none⟩) n n) n (xs.map (Value.int .u32))) (hgh : g ≠ h) (hBh : B ≤ h) (hl : n ≤ 32) :
    Calls Tryz.prog 36 #[.slice (some ⟨h, 0, none⟩) n n, .slice D n d, .func (.func 43) #[] #[.pointer (some ⟨g, 0, none⟩)]] w fun e w' =>
      e = .returned .nilIface ∧ w'.heap[g]? = some (.cells #[.slice (some ⟨h, 0, none⟩) n n] 22 (0, 0)) ∧ w'.ownsRow base 51 1 (.slice (some ⟨h, 0, none⟩) n n) n ((vAdd xs ys).map (Value.int .u32)) ∧ Below B w w' := by
  have hlz := Lib.hid (vAdd_length hxn hyn)
  have hst : Hid (w.ownsRow base 51 1 (.slice (some ⟨h, 0, none⟩) n n) n (((vAdd xs ys).take 0 ++ xs.drop 0).map (Value.int .u32))) := Lib.hid hown
  have hbig : ¬ (32 : Int) < (n : Int) := by omega
  go_enter Tryz.func36, Tryz.ntmps36
  go_wp2
  go_loopw [22] (fun i wr => ∃ (k : Nat), k ≤ n ∧ i = .int .i64 k ∧ wr.heap[g]? = some (.cells #[.slice (some ⟨h, 0, none⟩) n n] 22 (0, 0)) ∧ wr.ownsRow base 51 1 (.slice (some ⟨h, 0, none⟩) n n) n (((vAdd xs ys).take k ++ xs.drop k).map (Value.int .u32)) ∧ Below B w wr) (fun i _ => n - (intOf i).toNat)
  case atStart => exact ⟨0, Nat.zero_le _, rfl, hv, hst.out, Below.refl _ _⟩
  case round =>
    clear hst hbig hv hown
    obtain ⟨k, hk, rfl, hv, hown, hb⟩ := hrel
    by_cases hlt : k < n
    · obtain ⟨x, hxk⟩ : ∃ x, xs[k]? = some x := ⟨_, List.getElem?_eq_getElem (by omega)⟩
      have hxc : wr.cell? ⟨h, k, none⟩ = some (.int .u32 x) := by
        rw [hown.cellAt k (by omega), List.getElem?_map, mix_at _ _ k n hlz.out hlt, hxk]; rfl
      obtain ⟨bd, y, rfl, hbb, hyk, hyc⟩ := (hy.below hb).at (j := k) (by omega)
      have HT : Hid ((((vAdd xs ys).take k ++ xs.drop k).map (Value.int .u32)).set k (.int .u32 ((x + y) % 4294967296)) = ((vAdd xs ys).take (k + 1) ++ xs.drop (k + 1)).map (Value.int .u32)) := Lib.hid (by
        rw [← mix_set (vAdd xs ys) xs k n _ hlz.out hxn (zip_at hxk hyk), List.map_set])
      have HB := Lib.hid hb
      have HV := Lib.hid hv
      have HO := Lib.hid hown
      clear hxk hyk hy hb hv hown
      go_wp2_with (go_at_call 43; refine (sum1_any k n _ _ g h base B _ _ HV.out HO.out hgh hBh hlt).mono ?_; rintro e w' ⟨rfl, R1, R2, R3⟩)
      go_roundw
      case rel => exact ⟨k + 1, by omega, by go_num, R1, by rw [← HT.out]; exact R2, HB.out.trans R3⟩
      case measure => simp [intOf]; omega
    · have hkn : k = n := by omega
      subst hkn
      have HT : Hid ((vAdd xs ys).take k ++ xs.drop k = vAdd xs ys) := Lib.hid (by rw [List.take_of_length_le (by rw [hlz.out]; omega), List.drop_eq_nil_of_le (by omega), List.append_nil])
      rw [HT.out] at hown
      clear hy
      go_wp2
      go_ret
      exact ⟨rfl, hv, hown, hb⟩
theorem together_no (A D : Option Addr) (c d n m : Nat) (f : Value) (w : World) (h : 32 < n ∨ n ≠ m) :
    Calls Tryz.prog 36 #[.slice A n c, .slice D m d, f] w fun e w' => e = .returned (.iface 77 (.int .i64 1)) ∧ w = w' := by
  by_cases h1 : 32 < n
  · have hbig : (32 : Int) < (n : Int) := by omega
    go_enter Tryz.func36, Tryz.ntmps36
    go_wp2
    go_ret
    exact ⟨rfl, rfl⟩
  · have hbig : ¬ (32 : Int) < (n : Int) := by omega
    have hne : ¬ (n : Int) = (m : Int) := by omega
    go_enter Tryz.func36, Tryz.ntmps36
    go_wp2
    go_ret
    exact ⟨rfl, rfl⟩
end VecC
end Go.Proofs.YtfeahgcigmoijaaGreatDoor
