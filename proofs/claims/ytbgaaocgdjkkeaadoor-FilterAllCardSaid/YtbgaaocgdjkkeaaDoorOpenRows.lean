/- How {[]byte, int, int, []int} is opened, a law's argument. -/
import Derived.Test.YtbgaaocgdjkkeaaDoorOpenCanon
namespace Go.Proofs.YtbgaaocgdjkkeaaDoor
open Go.ChangeShapes Go.WideShapes Go.ChangeAt Go.RowKit

section
variable {H : Type} {enc : TypeId × Value → H} {P : Program} {W : World}
theorem open_rows {t e0 e1 : TypeId} {f0 f1 f2 f3 : Field} (ht : P.underlying t = some (.struct #[f0, f1, f2, f3])) (hc : P.cellsOf t = 4)
    (u0 : P.underlying f0.type = some (.slice e0)) (x0 : P.underlying e0 = some (.int .u8)) (k0 : P.cellsOf e0 = 1) (b0 : P.bytesOf e0 = 1)
    (u1 : P.underlying f1.type = some (.int .i64)) (u2 : P.underlying f2.type = some (.int .i64))
    (u3 : P.underlying f3.type = some (.slice e1)) (x1 : P.underlying e1 = some (.int .i64)) (k1 : P.cellsOf e1 = 1) (b1 : P.bytesOf e1 = 8)
    (c0 : P.cellsOf f0.type = 1) (c1 : P.cellsOf f1.type = 1) (c2 : P.cellsOf f2.type = 1) (c3 : P.cellsOf f3.type = 1) (o0 : f0.offset = 0) (o1 : f1.offset = 1) (o2 : f2.offset = 2) (o3 : f3.offset = 3)
    {v : Value} {r : Reach} {base : Nat} (hv : Value.okWide P W r base t v) {d : DataW H} {p : List MemPlace} (h : DataW.Trod enc P W 0 (fun _ => true) true t v d p)
    {ts : List TypeId} {ds : List (DataW H)} (hsz : (DataW.weightsEach P ts ds).all (· ≤ reachBytes) = true) (j : Nat) (htj : ts[j]? = some t) (hdj : ds[j]? = some d) :
    ∃ a len cap l n1 n2 a2 len2 cap2 l2, v = .agg #[.slice a len cap, .int .i64 n1, .int .i64 n2, .slice a2 len2 cap2] ∧ Bs W a len cap l ∧ cap ≤ 140737488351232 ∧ (Lit.int .i64 n1).wf = true ∧ (Lit.int .i64 n2).wf = true ∧ Is .i64 W a2 len2 cap2 l2 ∧ cap2 * 8 ≤ 140737488351232 := by
  obtain ⟨cs, rfl, hcs⟩ := okWide_struct ht hv
  rw [hc] at hcs
  obtain ⟨v0, v1, v2, v3, rfl⟩ := Go.Joins.array4 hcs
  obtain ⟨fuel, hf⟩ := h
  obtain ⟨y0, y1, y2, y3, n, hx, _, t0, t1, t2, t3⟩ := Go.Joins.trod_struct4 ht hf
  rw [o0, c0] at t0
  rw [o1, c1] at t1
  rw [o2, c2] at t2
  rw [o3, c3] at t3
  simp only [Value.cells, List.drop_zero, List.drop_succ_cons, List.take_succ_cons, List.take_zero] at t0 t1 t2 t3
  simp only [Prod.mk.injEq] at hx
  obtain ⟨rfl, _⟩ := hx
  have hp := sized_parts hsz htj hdj ht
  obtain ⟨a, len, cap, rfl⟩ := slice_cell u0 t0
  obtain ⟨m1, e1, _, w1⟩ := DataW.trod_int u1 t1
  obtain ⟨m2, e2, _, w2⟩ := DataW.trod_int u2 t2
  obtain ⟨a2, len2, cap2, rfl⟩ := slice_cell u3 t3
  simp only [List.cons.injEq, and_true] at e1 e2
  subst e1 e2
  obtain ⟨l, hl, hr⟩ := open_bs u0 x0 k0 b0 (d := y0.1) (p := y0.2) ⟨n, t0⟩ hp 0 rfl rfl
  obtain ⟨l2, hl2, hr2⟩ := open_is u3 x1 k1 b1 (d := y3.1) (p := y3.2) ⟨n, t3⟩ hp 3 rfl rfl
  exact ⟨a, len, cap, l, m1, m2, a2, len2, cap2, l2, rfl, hl, hr, w1, w2, hl2, hr2⟩
end
end Go.Proofs.YtbgaaocgdjkkeaaDoor
