/- The document's Row of layer 10. Conditions: what is handed in reads as rows of peers and of 32 bits; lengths as stated. -/
import Derived.Test.YtfeahgcigmoijaaGreatDoorRef10
namespace Go.Proofs.YtfeahgcigmoijaaGreatDoor
open Go.RowKit Go.Lib
namespace Bl
open SlR Sh Sp Mc Pg VecC VecE Pe Mp
theorem rowB_eq {n : Nat} {x : List Int} (hx : R n x) (me : Int) (seed key : Nat) (ps : List (Int × Nat)) : rowB n x me seed key ps = vAdd (vAdd x (oN n seed)) (rowP (wN n) me key ps n) := by
  unfold rowB vSum
  show vAdd (vAdd (vAdd (List.replicate n 0) x) (oN n seed)) _ = _
  rw [zeros_add hx.1 hx.2]
set_option maxHeartbeats 1600000 in
set_option maxRecDepth 100000 in
theorem drow_yes (A D : Option Addr) (c d n m : Nat) (x : List Int) (me : Int) (seed key : Nat) (ps : List (Int × Nat)) (w : World) (hn : R n x) (hn2 : n ≤ 32) (hs : Hid (seed < 18446744073709551616)) (hk : Hid (key < 18446744073709551616)) (hm : ps.length = m) (hm2 : m ≤ 100000)
    (hx : Row .u32 w A x) (hr : RowQ w D ps) (h64 : Hid (Q64 ps)) (hmay : Hid (mayF 0 ps = true)) (hin : Hid (isIn me ps = true)) :
    Calls Tryz.prog 7 #[.slice A n c, .int .i64 me, .int .u64 seed, .int .u64 key, .slice D m d] w (Ref02.YesB w n (rowB n x me seed key ps)) := by
  have cW := fun (w : World) => rwords_yes seed own n w hs lab_own hn2
  unfold own at cW
  have hN : Hid (oN n seed = NL (wsP seed ⟨#[111, 119, 110]⟩ n)) := Lib.hid rfl
  have cR := fun (w : World) (h1 : RowQ w D ps) => rrow_yes me key D d m n ps w hk hm hm2 h1 h64 hmay hin hn2
  have hO := oN_R n seed
  have hP := rowP_R (n := n) (fun s => (wN_R n s).1) me key ps
  rw [rowB_eq hn]
  generalize oN n seed = O at hN hO ⊢
  generalize rowP (wN n) me key ps n = X at cR hP ⊢
  have hS := R.add (n := n) hn.1 hO.1
  have cA : ∀ (A D : Option Addr) (c d : Nat) (w : World), Row .u32 w A x → Row .u32 w D O → Calls Tryz.prog 21 #[.slice A n c, .slice D n d, .int .u64 1] w (Ref02.YesB w n (vAdd x O)) := fun A D c d w h1 h2 => by
    have h := Ref02.add A D c d n 1 x O w hn.1 hO.1 h1 h2 hn.2 hO.2 hn2 (by omega)
    rwa [Ref02.vLin_one] at h
  generalize vAdd x O = SO at cA hS ⊢
  have cB : ∀ (A D : Option Addr) (c d : Nat) (w : World), Row .u32 w A SO → Row .u32 w D X → Calls Tryz.prog 21 #[.slice A n c, .slice D n d, .int .u64 1] w (Ref02.YesB w n (vAdd SO X)) := fun A D c d w h1 h2 => by
    have h := Ref02.add A D c d n 1 SO X w hS.1 hP.1 h1 h2 hS.2 hP.2 hn2 (by omega)
    rwa [Ref02.vLin_one] at h
  clear hS hP hO hn hmay hin
  go_enter Tryz.func7, Tryz.ntmps7
  go_wp2_with (first
    | (go_at_call 9; ((with_reducible refine (cW _).mono ?_); rintro e w2 ⟨A2, c2, rfl, R2, S2⟩; have R2 : Row .u32 w2 A2 O := hN.out ▸ R2))
    | (go_at_call 20; ((with_reducible refine (cR _ hr.to).mono ?_); rintro e w3 ⟨A3, c3, rfl, R3, S3⟩))
    | (go_at_call 21; ((with_reducible refine (cA _ _ _ _ _ hx.to R2.to).mono ?_); rintro e w4 ⟨A4, c4, rfl, R4, S4⟩))
    | (go_at_call 21; ((with_reducible refine (cB _ _ _ _ _ R4.to R3.to).mono ?_); rintro e w5 ⟨A5, c5, rfl, R5, S5⟩)))
  exact bodyPost_ret (v := .tuple #[.slice A5 n c5, .bool true]) (by simp [results, Tryz.results7, go_sem]) rfl ⟨A5, c5, rfl, R5, Step.of inferInstance⟩
set_option maxHeartbeats 1600000 in
set_option maxRecDepth 100000 in
theorem drow_no (A D : Option Addr) (c d n m : Nat) (me : Int) (seed key : Nat) (ps : List (Int × Nat)) (w : World) (hs : Hid (seed < 18446744073709551616)) (hk : Hid (key < 18446744073709551616)) (hm : ps.length = m) (hm2 : m ≤ 100000)
    (hr : RowQ w D ps) (h64 : Hid (Q64 ps)) (h : 32 < n ∨ mayF 0 ps = false ∨ isIn me ps = false) :
    Calls Tryz.prog 7 #[.slice A n c, .int .i64 me, .int .u64 seed, .int .u64 key, .slice D m d] w (Ref02.ErrB w) := by
  have cR : ∀ w : World, RowQ w D ps → Calls Tryz.prog 20 #[.int .i64 me, .int .u64 key, .slice D m d, .int .i64 n] w (Ref02.ErrB w) := fun w h1 => rrow_no me key D d m n ps w hk hm hm2 h1 h64 (by
    rcases h with h | h | h
    · exact .inr (.inr (.inr (by omega)))
    · exact .inl h
    · exact .inr (.inl h))
  by_cases hn : 32 < n
  · have cW := fun (w : World) => rwords_no seed own n w (by decide) (.inr (.inr (by omega)))
    unfold own at cW
    clear h hn
    go_enter Tryz.func7, Tryz.ntmps7
    go_wp2_with (first
      | (go_at_call 9; ((with_reducible refine (cW _).mono ?_); rintro e w2 ⟨rfl, S2⟩))
      | (go_at_call 20; ((with_reducible refine (cR _ hr.to).mono ?_); rintro e w3 ⟨rfl, S3⟩)))
    exact bodyPost_ret (v := .tuple #[.slice none 0 0, .bool false]) (by simp [results, Tryz.results7, go_sem]) rfl ⟨rfl, Step.of inferInstance⟩
  · have cW := fun (w : World) => rwords_yes seed own n w hs lab_own (by omega)
    unfold own at cW
    clear h hn
    go_enter Tryz.func7, Tryz.ntmps7
    go_wp2_with (first
      | (go_at_call 9; ((with_reducible refine (cW _).mono ?_); rintro e w2 ⟨A2, c2, rfl, R2, S2⟩))
      | (go_at_call 20; ((with_reducible refine (cR _ hr.to).mono ?_); rintro e w3 ⟨rfl, S3⟩)))
    exact bodyPost_ret (v := .tuple #[.slice none 0 0, .bool false]) (by simp [results, Tryz.results7, go_sem]) rfl ⟨rfl, Step.of inferInstance⟩
end Bl
end Go.Proofs.YtfeahgcigmoijaaGreatDoor
