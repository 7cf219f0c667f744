/- VecSums walked: true at every list of rows and every number. Condition: errors.errorType reads as laid. -/
import Derived.Test.YthplidolnffaaaaDoorRef02E
import Derived.Test.YthplidolnffaaaaDoorSure02
namespace Go.Proofs.YthplidolnffaaaaDoor
open Go.RowKit Go.Lib
namespace LawVecSums
open SlR VecC VecE ErrAs
theorem goodOr (n : Nat) (ls : List (List Int)) : (∀ row ∈ ls, row.length = n) ∨ ∃ row ∈ ls, row.length ≠ n := by
  by_cases h : ∀ row ∈ ls, row.length = n
  · exact .inl h
  · exact .inr (by simpa using h)
set_option maxHeartbeats 800000 in
theorem walk (A : Option Addr) (m c : Nat) (ls : List (List Int)) (n : Int) (W : World) (hm : ls.length = m) (hr : Rows2 W A ls) (hb : ∀ row ∈ ls, Bits row) (_hn : -9223372036854775808 ≤ n ∧ n ≤ 9223372036854775807) (hL : Laid W) :
    Calls Tryd.prog 4 #[.slice A m c, .int .i64 n] W fun e w' => e = .returned (.bool true) ∧ Step W w' := by
  by_cases h60 : 60 < m
  · have hbig : (60 : Int) < (m : Int) := by omega
    go_enter Tryd.func4, Tryd.ntmps4
    go_wp2_with (go_at_call 7; ((with_reducible refine (Sure02.sure_any _ hL.to).mono ?_); rintro e w' ⟨rfl, S⟩))
    go_ret
    exact ⟨rfl, Step.of inferInstance⟩
  · have hbig : ¬ (60 : Int) < (m : Int) := by omega
    go_enter Tryd.func4, Tryd.ntmps4
    go_wp2
    go_loop [5] (fun i => ∃ k : Nat, k ≤ m ∧ i = .int .i64 k) (fun i => m - (intOf i).toNat)
    case atStart => exact ⟨0, Nat.zero_le _, rfl⟩
    case round =>
      clear hbig
      obtain ⟨k, hk, rfl⟩ := hrel
      by_cases hlt : k < m
      · obtain ⟨row, hrow⟩ : ∃ row, ls[k]? = some row := ⟨_, List.getElem?_eq_getElem (by omega)⟩
        obtain ⟨ad, D, d, rfl, _, hac, _⟩ := hr k row hrow
        clear hr hrow
        by_cases h1 : 100 < row.length
        · have hbig : (100 : Int) < (row.length : Int) := by omega
          go_wp2_with (go_at_call 7; ((with_reducible refine (Sure02.sure_any _ hL.to).mono ?_); rintro e w' ⟨rfl, S⟩))
          go_ret
          exact ⟨rfl, Step.of inferInstance⟩
        · have hbig : ¬ (100 : Int) < (row.length : Int) := by omega
          go_wp2
          go_round
          case rel => exact ⟨k + 1, by omega, by go_num⟩
          case measure => simp [intOf]; omega
      · by_cases hn : n < 0 ∨ 32 < n
        · have c1 := sumNo A c m n W hn
          have c2 := Ref02.sumNo A c m n
          have c3 := fun w => Ref02.same none none 0 0 0 0 [] [] w rfl rfl Row.nil Row.nil (by omega) (by omega) true (by decide)
          go_wp2_with (first
            | (go_at_call 16; ((with_reducible refine c1.mono ?_); rintro e w1 ⟨rfl, S1⟩))
            | (go_at_call 17; ((with_reducible refine (c2 _ hn).mono ?_); rintro e w2 ⟨rfl, S2⟩))
            | (go_at_call 12; ((with_reducible refine (c3 _).mono ?_); rintro e w' ⟨rfl, t, rfl⟩))
            | (go_at_call 13; ((with_reducible refine (Num02.some_ 1 _ hL.to).mono ?_); rintro e w' ⟨rfl, S⟩))
            | (go_at_call 7; ((with_reducible refine (Sure02.sure_any _ hL.to).mono ?_); rintro e w' ⟨rfl, S⟩)))
          go_ret
          exact ⟨rfl, Step.of inferInstance⟩
        · obtain ⟨N, rfl⟩ : ∃ N : Nat, n = N := ⟨n.toNat, by omega⟩
          have hN : N ≤ 32 := by omega
          rcases goodOr N ls with hg | hg
          · have c1 := sum A c N m ls W hm (by omega) hr hN hg
            have c2 := fun w h => Ref02.sum A c N m ls w hm (by omega) h hb hN hg
            have hlen := vSum_length N ls hg
            have c3 := fun A D c d w h1 h2 => Ref02.same A D c d N N (vSum N ls) (vSum N ls) w hlen hlen h1 h2 (by omega) (by omega) true (by simp)
            go_wp2_with (first
              | (go_at_call 16; ((with_reducible refine c1.mono ?_); rintro e w1 ⟨A1, c1, rfl, R1, S1⟩))
              | (go_at_call 17; ((with_reducible refine (c2 _ hr.to).mono ?_); rintro e w2 ⟨A2, c2, rfl, R2, S2⟩))
              | (go_at_call 12; ((with_reducible refine (c3 _ _ _ _ _ R1.to R2.to).mono ?_); rintro e w' ⟨rfl, t, rfl⟩))
              | (go_at_call 7; ((with_reducible refine (Sure02.sure_any _ hL.to).mono ?_); rintro e w' ⟨rfl, S⟩)))
            go_ret
            exact ⟨rfl, Step.of inferInstance⟩
          · have c1 := sumBad A c N m ls W hm (by omega) hr hN hg
            have c2 := fun w h => Ref02.sumBad A c N m ls w hm (by omega) h hb hN hg
            have c3 := fun w => Ref02.same none none 0 0 0 0 [] [] w rfl rfl Row.nil Row.nil (by omega) (by omega) true (by decide)
            go_wp2_with (first
              | (go_at_call 16; ((with_reducible refine c1.mono ?_); rintro e w1 ⟨rfl, S1⟩))
              | (go_at_call 17; ((with_reducible refine (c2 _ hr.to).mono ?_); rintro e w2 ⟨rfl, S2⟩))
              | (go_at_call 12; ((with_reducible refine (c3 _).mono ?_); rintro e w' ⟨rfl, t, rfl⟩))
              | (go_at_call 13; ((with_reducible refine (Num02.some_ 1 _ hL.to).mono ?_); rintro e w' ⟨rfl, S⟩))
              | (go_at_call 7; ((with_reducible refine (Sure02.sure_any _ hL.to).mono ?_); rintro e w' ⟨rfl, S⟩)))
            go_ret
            exact ⟨rfl, Step.of inferInstance⟩
end LawVecSums
end Go.Proofs.YthplidolnffaaaaDoor
