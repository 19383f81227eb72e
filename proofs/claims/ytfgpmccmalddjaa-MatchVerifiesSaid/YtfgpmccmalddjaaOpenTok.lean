/- How an argument that is a token (a struct of two ints) is opened. -/
import Derived.Test.YtfgpmccmalddjaaOpen
import Derived.Deep.Slices
import Derived.Deep.Strs
import Derived.ChangeSame
namespace Go.Proofs.Ytfgpmccmalddjaa
open Go.ChangeShapes Go.WideShapes Go.ChangeAt Go.RowKit

section
variable {H : Type} {enc : TypeId × Value → H} {P : Program} {W : World}
theorem open_tok {t : TypeId} {f0 f1 : Field} (ht : P.underlying t = some (.struct #[f0, f1])) (hc : P.cellsOf t = 2)
    (u0 : P.underlying f0.type = some (.int .i64)) (u1 : P.underlying f1.type = some (.int .i64))
    (k0 : P.cellsOf f0.type = 1) (k1 : P.cellsOf f1.type = 1) (o0 : f0.offset = 0) (o1 : f1.offset = 1)
    {v : Value} {r : Reach} {base : Nat} (hv : Value.okWide P W r base t v) {d : DataW H} {p : List MemPlace} (h : DataW.Trod enc P W 0 (fun _ => true) true t v d p) :
    ∃ x y, v = .agg #[.int .i64 x, .int .i64 y] ∧ (Lit.int .i64 x).wf = true ∧ (Lit.int .i64 y).wf = true := by
  obtain ⟨cs, rfl, hcs⟩ := okWide_struct ht hv
  rw [hc] at hcs
  obtain ⟨fuel, hf⟩ := h
  obtain ⟨y0, y1, n, hx, _, t0, t1⟩ := Go.ChangeShapes.trod_struct2 ht hf
  rw [o0, k0] at t0
  rw [o1, k1] at t1
  obtain ⟨n0, e0, _, w0⟩ := DataW.trod_int u0 t0
  obtain ⟨n1, e1, _, w1⟩ := DataW.trod_int u1 t1
  obtain ⟨l⟩ := cs
  match l, hcs with
  | [c0, c1], _ =>
    simp [Value.cells] at e0 e1
    subst e0 e1
    exact ⟨n0, n1, rfl, w0, w1⟩
end
end Go.Proofs.Ytfgpmccmalddjaa
