/- What an argument that can be read holds: a struct by value of four integers. No condition. -/
import Derived.Test.YtmdknpejadepbaaDoorPkA
namespace Go.Proofs.YtmdknpejadepbaaDoor
open Go.ChangeShapes Go.WideShapes Go.ChangeAt Go.RowKit Go.Lib Go.Deep Go.Joins
open SlR
namespace Opn
section
variable {H : Type} {enc : TypeId × Value → H} {P : Program} {w : World}
/-- A struct by value: four integers. -/
theorem fourV {e : TypeId} {f0 f1 f2 f3 : Field} {k0 k1 k2 k3 : IntKind} {held : Bool} {v : Value} {d : DataW H} {ps : List MemPlace} {r : Reach} {b0 : Nat} (he : P.underlying e = some (.struct #[f0, f1, f2, f3]))
    (h0 : P.underlying f0.type = some (.int k0)) (h1 : P.underlying f1.type = some (.int k1)) (h2 : P.underlying f2.type = some (.int k2)) (h3 : P.underlying f3.type = some (.int k3))
    (hone : oneCellFields P #[f0, f1, f2, f3] = true) (ce : P.cellsOf e = 4) (hv : Value.okWide P w r b0 e v) (h : DataW.Trod enc P w 0 (fun _ => true) held e v d ps) :
    ∃ a b c g : Int, v = .agg #[.int k0 a, .int k1 b, .int k2 c, .int k3 g] ∧ (Lit.int k0 a).wf = true ∧ (Lit.int k1 b).wf = true ∧ (Lit.int k2 c).wf = true ∧ (Lit.int k3 g).wf = true := by
  obtain ⟨cs, rfl, hsz⟩ := okWide_struct he hv
  obtain ⟨fuel, hf⟩ := h
  obtain ⟨y0, y1, y2, y3, n, _, hl, t0, t1, t2, t3⟩ := trod_struct4 he hf
  obtain ⟨o0, q0⟩ := hone_of hone 0 f0 rfl
  obtain ⟨o1, q1⟩ := hone_of hone 1 f1 rfl
  obtain ⟨o2, q2⟩ := hone_of hone 2 f2 rfl
  obtain ⟨o3, q3⟩ := hone_of hone 3 f3 rfl
  rw [o0, q0] at t0
  rw [o1, q1] at t1
  rw [o2, q2] at t2
  rw [o3, q3] at t3
  rw [ce] at hsz
  obtain ⟨u0, u1, u2, u3, rfl⟩ := array4 hsz
  obtain ⟨a, ha, wa⟩ := cell h0 t0
  obtain ⟨b, hb, wb⟩ := cell h1 t1
  obtain ⟨c, hc, wc⟩ := cell h2 t2
  obtain ⟨g, hg, wg⟩ := cell h3 t3
  simp [Value.cells] at ha hb hc hg
  subst ha hb hc hg
  exact ⟨a, b, c, g, rfl, wa, wb, wc, wg⟩
end
end Opn
end Go.Proofs.YtmdknpejadepbaaDoor
