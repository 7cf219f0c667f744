/- What the rows' listed variables (errors.errorType and sha.k) give the walks; a world that meets the condition (the witness). No condition of its own. -/
import Derived.Test.YtfeahgcigmoijaaGreatDoorRows
import Derived.Test.YtfeahgcigmoijaaGreatDoorPkA
import Derived.Test.YtfeahgcigmoijaaGreatDoorPkT
import Derived.ChangeSame
import Derived.ChangeVars
import Derived.JoinedOf
import Derived.LaidLaws
import Derived.LaidHandle
import Derived.LaidMore
import Derived.Stop.Joined
namespace Go.Proofs.YtfeahgcigmoijaaGreatDoor
open Go.RowKit
namespace LaidX
theorem et : Tryz.prog.globalNamed "errors.errorType" = some 0 := by kernel_rfl
theorem rt : (Tryz.prog.cutTypes.find? (·.1 == "internal/reflectlite.rtype")).map (·.2) = some 114 := by kernel_rfl
theorem oneRow : ((List.range 181).filter fun t => Tryz.prog.rowNamed t [101, 114, 114, 111, 114]) = [31] := by kernel_rfl
theorem size : Tryz.prog.types.size = 181 := by kernel_rfl
theorem of_handles {l : List (String × DataW Unit)} {W : World} (h : handlesMet Tryz.prog l W) (hm : ("errors.errorType", Rows.laid_errors_errorType) ∈ l) : ErrAs.Laid W := by
  obtain ⟨name, u, ty, e1, e2, e3, e4, e5⟩ := h _ hm
  have en : name = [101, 114, 114, 111, 114] := (Option.some.inj e1).symm
  subst en
  obtain rfl := Option.some.inj (rt.symm.trans e2)
  have hm : ty ∈ (List.range 181).filter fun t => Tryz.prog.rowNamed t [101, 114, 114, 111, 114] := List.mem_filter.2 ⟨List.mem_range.2 (by rw [← size]; exact e3), e4⟩
  rw [oneRow] at hm
  obtain rfl := List.mem_singleton.1 hm
  have hh : typeHandle Tryz.prog 31 = .pointer (some ⟨4, 31, none⟩) := by kernel_rfl
  rw [hh] at e5
  have h6 := World.var?_cell et e5 0
  exact h6.trans (by rfl)
/-- What both give. -/
def LaidS (W : World) : Prop := ErrAs.Laid W ∧ Sp.LaidK W
theorem kname : Tryz.prog.globalNamed "caucus/sha.k" = some 3 := by kernel_rfl
abbrev both : List (String × DataW Unit) := [("errors.errorType", Rows.laid_errors_errorType), ("caucus/sha.k", Rows.laid_caucus_sha_k)]
set_option maxRecDepth 100000 in
theorem k_of {W : World} (h : laidMet Tryz.prog [("caucus/sha.k", Rows.laid_caucus_sha_k)] W) : Sp.LaidK W := by
  obtain ⟨ps, hv, -, -⟩ := h
  obtain ⟨g, t, cs, fuel, p, q, hg, ht, hcs, hd, -, -⟩ := hv
  have hg0 : 3 = g := Option.some.inj (kname.symm.trans hg)
  subst hg0
  have ht0 : t = 143 := by
    have e : (Tryz.prog.globals[3]?).map (·.type) = some 143 := by kernel_rfl
    exact Option.some.inj (ht.symm.trans e)
  subst ht0
  obtain ⟨xs, m, -, hx, hl, hxl, hel⟩ := DataW.trod_array Tryz.underlying143 hd
  have hc1 : Tryz.prog.cellsOf 51 = 1 := by kernel_rfl
  have hc64 : Tryz.prog.cellsOf 143 = 64 := by kernel_rfl
  rw [hc64] at hl
  have hmap : xs.map (·.1) = Sh.KL.map fun v => DataW.lit (.int .u32 ((v : Nat) : Int)) := by
    have e1 : (Rows.laid_caucus_sha_k : DataW Unit) = .agg (xs.map (·.1)) := congrArg Prod.fst hx
    have e2 : (Rows.laid_caucus_sha_k : DataW Unit) = .agg (Sh.KL.map fun v => DataW.lit (.int .u32 ((v : Nat) : Int))) := rfl
    rw [e2] at e1
    injection e1 with e3
    exact e3.symm
  intro j y hy
  have hj : j < Sh.KL.length := by
    have := (List.getElem?_eq_some_iff.1 hy).1
    rw [Sh.NL_len] at this
    exact this
  have hj64 : j < 64 := hj
  have hcell : W.cell? ⟨3, j, none⟩ = some (.int .u32 y) := by
    have h1 := World.var?_cell kname hcs j
    have h2 := hel j hj64
    rw [hc1, Nat.mul_one, List.getElem?_eq_getElem (by omega : j < xs.length)] at h2
    have e1 : (cs.toList.drop j).take 1 = [cs.toList[j]] := by rw [List.drop_eq_getElem_cons (by omega)]; rfl
    rw [e1] at h2
    obtain ⟨n, hn, hx2, -⟩ := DataW.trod_int Tryz.underlying51 h2
    have h3 : (xs.map (·.1))[j]? = some (DataW.lit (.int .u32 n)) := by rw [List.getElem?_map, List.getElem?_eq_getElem (by omega : j < xs.length), hx2]; rfl
    obtain ⟨v, hv⟩ : ∃ v, Sh.KL[j]? = some v := ⟨_, List.getElem?_eq_getElem hj⟩
    rw [hmap, List.getElem?_map, hv] at h3
    have h4 : y = n := by
      unfold Sh.NL at hy
      rw [List.getElem?_map, hv] at hy
      have h5 : (v : Int) = y := Option.some.inj hy
      have h6 : DataW.lit (H := Unit) (.int .u32 ((v : Nat) : Int)) = DataW.lit (.int .u32 n) := Option.some.inj h3
      injection h6 with h6
      injection h6 with _ h6
      omega
    have h5 : cs.toList[j] = .int .u32 n := by injection hn
    have h6 : cs[j]? = some (.int .u32 n) := by
      rw [← Array.getElem?_toList, List.getElem?_eq_getElem (by omega), h5]
    rw [h4]
    exact h1.trans h6
  refine ⟨_, rfl, ?_, ?_⟩
  · show 3 < W.heap.size
    exact World.block_lt_of_cell? W _ hcell
  · rw [Addr.add_mid, Nat.zero_add]
    exact hcell
theorem of_laid {W : World} (h : laidMetH Tryz.prog both W) : LaidS W := by
  have h' : laidMet Tryz.prog [("caucus/sha.k", Rows.laid_caucus_sha_k)] W ∧ handlesMet Tryz.prog [("errors.errorType", Rows.laid_errors_errorType)] W := h
  exact ⟨of_handles h'.2 (List.mem_singleton.2 rfl), k_of h'.1⟩
theorem door_met (os : Os) (args : Array Value) : laidMetH Tryz.prog both ((World.doorLaid Tryz.prog 400 os).forCall (fun _ _ => 0) ⟨#[], args, []⟩).memory :=
  laidMetH_of_parts3 (fuel := 8) (laidMet_of_run' 8 (by kernel_rfl) (by kernel_rfl)) (by kernel_rfl) (by kernel_rfl)
end LaidX
end Go.Proofs.YtfeahgcigmoijaaGreatDoor
