/- A law's argument: a struct of three slices of ints. -/
import Derived.Test.YtedncnaeojomcaaOpenCanon
namespace Go.Proofs.Ytedncnaeojomcaa
open Go.ChangeShapes Go.WideShapes Go.ChangeAt Go.RowKit
variable {H : Type} {enc : TypeId × Value → H} {P : Program} {W : World}
set_option maxHeartbeats 1000000 in
theorem open_pr3 {t e0 e1 e2 : TypeId} {f0 f1 f2 : Field} (ht : P.underlying t = some (.struct #[f0, f1, f2])) (hc : P.cellsOf t = 3)
    (u0 : P.underlying f0.type = some (.slice e0)) (x0 : P.underlying e0 = some (.int .i64)) (k0 : P.cellsOf e0 = 1) (b0 : P.bytesOf e0 = 8)
    (u1 : P.underlying f1.type = some (.slice e1)) (x1 : P.underlying e1 = some (.int .i64)) (k1 : P.cellsOf e1 = 1) (b1 : P.bytesOf e1 = 8)
    (u2 : P.underlying f2.type = some (.slice e2)) (x2 : P.underlying e2 = some (.int .i64)) (k2 : P.cellsOf e2 = 1) (b2 : P.bytesOf e2 = 8)
    (c0 : P.cellsOf f0.type = 1) (c1 : P.cellsOf f1.type = 1) (c2 : P.cellsOf f2.type = 1) (o0 : f0.offset = 0) (o1 : f1.offset = 1) (o2 : f2.offset = 2)
    {v : Value} {r : Reach} {base : Nat} (hv : Value.okWide P W r base t v) {d : DataW H} {p : List MemPlace} (h : DataW.Trod enc P W 0 (fun _ => true) true t v d p)
    {ts : List TypeId} {ds : List (DataW H)} (hsz : (DataW.weightsEach P ts ds).all (· ≤ reachBytes) = true) (j : Nat) (htj : ts[j]? = some t) (hdj : ds[j]? = some d) :
    ∃ a len cap l a2 len2 cap2 l2 a3 len3 cap3 l3, v = .agg #[.slice a len cap, .slice a2 len2 cap2, .slice a3 len3 cap3] ∧ Is .i64 W a len cap l ∧ cap * 8 ≤ 140737488351232 ∧ Is .i64 W a2 len2 cap2 l2 ∧ cap2 * 8 ≤ 140737488351232 ∧ Is .i64 W a3 len3 cap3 l3 ∧ cap3 * 8 ≤ 140737488351232 := by
  obtain ⟨cs, rfl, hcs⟩ := okWide_struct ht hv
  rw [hc] at hcs
  obtain ⟨v0, v1, v2, rfl⟩ := Go.Joins.array3 hcs
  obtain ⟨fuel, hf⟩ := h
  obtain ⟨y0, y1, y2, n, hx, _, t0, t1, t2⟩ := Go.Deep.trod_struct3 ht hf
  rw [o0, c0] at t0
  rw [o1, c1] at t1
  rw [o2, c2] at t2
  simp only [Value.cells, List.drop_zero, List.drop_succ_cons, List.take_succ_cons, List.take_zero] at t0 t1 t2
  simp only [Prod.mk.injEq] at hx
  obtain ⟨rfl, _⟩ := hx
  have hp := sized_parts hsz htj hdj ht
  obtain ⟨a, len, cap, rfl⟩ := slice_cell u0 t0
  obtain ⟨a2, len2, cap2, rfl⟩ := slice_cell u1 t1
  obtain ⟨a3, len3, cap3, rfl⟩ := slice_cell u2 t2
  obtain ⟨l, hl, hr⟩ := open_is u0 x0 k0 b0 (d := y0.1) (p := y0.2) ⟨n, t0⟩ hp 0 rfl rfl
  obtain ⟨l2, hl2, hr2⟩ := open_is u1 x1 k1 b1 (d := y1.1) (p := y1.2) ⟨n, t1⟩ hp 1 rfl rfl
  obtain ⟨l3, hl3, hr3⟩ := open_is u2 x2 k2 b2 (d := y2.1) (p := y2.2) ⟨n, t2⟩ hp 2 rfl rfl
  exact ⟨a, len, cap, l, a2, len2, cap2, l2, a3, len3, cap3, l3, rfl, hl, hr, hl2, hr2, hl3, hr3⟩
end Go.Proofs.Ytedncnaeojomcaa
