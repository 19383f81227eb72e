/- How {int, byte, byte, byte} and {int, []byte, []byte, int} are opened, laws' arguments. -/
import Derived.Test.YtbgaaocgdjkkeaaOpenCanon
namespace Go.Proofs.Ytbgaaocgdjkkeaa
open Go.ChangeShapes Go.WideShapes Go.ChangeAt Go.RowKit

section
variable {H : Type} {enc : TypeId × Value → H} {P : Program} {W : World}
theorem open_around {t : TypeId} {f0 f1 f2 f3 : Field} (ht : P.underlying t = some (.struct #[f0, f1, f2, f3])) (hc : P.cellsOf t = 4)
    (u0 : P.underlying f0.type = some (.int .i64)) (u1 : P.underlying f1.type = some (.int .u8)) (u2 : P.underlying f2.type = some (.int .u8)) (u3 : P.underlying f3.type = some (.int .u8))
    (c0 : P.cellsOf f0.type = 1) (c1 : P.cellsOf f1.type = 1) (c2 : P.cellsOf f2.type = 1) (c3 : P.cellsOf f3.type = 1) (o0 : f0.offset = 0) (o1 : f1.offset = 1) (o2 : f2.offset = 2) (o3 : f3.offset = 3)
    {v : Value} {r : Reach} {base : Nat} (hv : Value.okWide P W r base t v) {d : DataW H} {p : List MemPlace} (h : DataW.Trod enc P W 0 (fun _ => true) true t v d p) :
    ∃ (k : Int) (a b c : Nat), v = .agg #[.int .i64 k, .int .u8 a, .int .u8 b, .int .u8 c] ∧ (Lit.int .i64 k).wf = true ∧ (a < 256 ∧ b < 256 ∧ c < 256) := by
  obtain ⟨cs, rfl, hcs⟩ := okWide_struct ht hv
  rw [hc] at hcs
  obtain ⟨v0, v1, v2, v3, rfl⟩ := Go.Joins.array4 hcs
  obtain ⟨fuel, hf⟩ := h
  obtain ⟨y0, y1, y2, y3, n, hx, _, t0, t1, t2, t3⟩ := Go.Joins.trod_struct4 ht hf
  rw [o0, c0] at t0
  rw [o1, c1] at t1
  rw [o2, c2] at t2
  rw [o3, c3] at t3
  simp only [Value.cells, List.drop_zero, List.drop_succ_cons, List.take_succ_cons, List.take_zero] at t0 t1 t2 t3
  obtain ⟨m0, e0, _, w0⟩ := DataW.trod_int u0 t0
  obtain ⟨m1, e1, _, w1⟩ := DataW.trod_int u1 t1
  obtain ⟨m2, e2, _, w2⟩ := DataW.trod_int u2 t2
  obtain ⟨m3, e3, _, w3⟩ := DataW.trod_int u3 t3
  simp only [List.cons.injEq, and_true] at e0 e1 e2 e3
  subst e0 e1 e2 e3
  have q1 : 0 ≤ m1 ∧ m1 ≤ 255 := by simpa [Lit.wf, IntKind.min, IntKind.max, IntKind.signed, IntKind.bits] using w1
  have q2 : 0 ≤ m2 ∧ m2 ≤ 255 := by simpa [Lit.wf, IntKind.min, IntKind.max, IntKind.signed, IntKind.bits] using w2
  have q3 : 0 ≤ m3 ∧ m3 ≤ 255 := by simpa [Lit.wf, IntKind.min, IntKind.max, IntKind.signed, IntKind.bits] using w3
  refine ⟨m0, m1.toNat, m2.toNat, m3.toNat, ?_, w0, by omega, by omega, by omega⟩
  rw [Int.toNat_of_nonneg q1.1, Int.toNat_of_nonneg q2.1, Int.toNat_of_nonneg q3.1]
theorem open_row {t e0 e1 : TypeId} {f0 f1 f2 f3 : Field} (ht : P.underlying t = some (.struct #[f0, f1, f2, f3])) (hc : P.cellsOf t = 4)
    (u0 : P.underlying f0.type = some (.int .i64))
    (u1 : P.underlying f1.type = some (.slice e0)) (x0 : P.underlying e0 = some (.int .u8)) (k0 : P.cellsOf e0 = 1) (b0 : P.bytesOf e0 = 1)
    (u2 : P.underlying f2.type = some (.slice e1)) (x1 : P.underlying e1 = some (.int .u8)) (k1 : P.cellsOf e1 = 1) (b1 : P.bytesOf e1 = 1)
    (u3 : P.underlying f3.type = some (.int .i64))
    (c0 : P.cellsOf f0.type = 1) (c1 : P.cellsOf f1.type = 1) (c2 : P.cellsOf f2.type = 1) (c3 : P.cellsOf f3.type = 1) (o0 : f0.offset = 0) (o1 : f1.offset = 1) (o2 : f2.offset = 2) (o3 : f3.offset = 3)
    {v : Value} {r : Reach} {base : Nat} (hv : Value.okWide P W r base t v) {d : DataW H} {p : List MemPlace} (h : DataW.Trod enc P W 0 (fun _ => true) true t v d p)
    {ts : List TypeId} {ds : List (DataW H)} (hsz : (DataW.weightsEach P ts ds).all (· ≤ reachBytes) = true) (j : Nat) (htj : ts[j]? = some t) (hdj : ds[j]? = some d) :
    ∃ k a len cap l a2 len2 cap2 l2 n, v = .agg #[.int .i64 k, .slice a len cap, .slice a2 len2 cap2, .int .i64 n] ∧ (Lit.int .i64 k).wf = true ∧ Bs W a len cap l ∧ cap ≤ 140737488351232 ∧ Bs W a2 len2 cap2 l2 ∧ cap2 ≤ 140737488351232 ∧ (Lit.int .i64 n).wf = true := by
  obtain ⟨cs, rfl, hcs⟩ := okWide_struct ht hv
  rw [hc] at hcs
  obtain ⟨v0, v1, v2, v3, rfl⟩ := Go.Joins.array4 hcs
  obtain ⟨fuel, hf⟩ := h
  obtain ⟨y0, y1, y2, y3, n, hx, _, t0, t1, t2, t3⟩ := Go.Joins.trod_struct4 ht hf
  rw [o0, c0] at t0
  rw [o1, c1] at t1
  rw [o2, c2] at t2
  rw [o3, c3] at t3
  simp only [Value.cells, List.drop_zero, List.drop_succ_cons, List.take_succ_cons, List.take_zero] at t0 t1 t2 t3
  simp only [Prod.mk.injEq] at hx
  obtain ⟨rfl, _⟩ := hx
  have hp := sized_parts hsz htj hdj ht
  obtain ⟨m0, e0, _, w0⟩ := DataW.trod_int u0 t0
  obtain ⟨a, len, cap, rfl⟩ := slice_cell u1 t1
  obtain ⟨a2, len2, cap2, rfl⟩ := slice_cell u2 t2
  obtain ⟨m3, e3, _, w3⟩ := DataW.trod_int u3 t3
  simp only [List.cons.injEq, and_true] at e0 e3
  subst e0 e3
  obtain ⟨l, hl, hr⟩ := open_bs u1 x0 k0 b0 (d := y1.1) (p := y1.2) ⟨n, t1⟩ hp 1 rfl rfl
  obtain ⟨l2, hl2, hr2⟩ := open_bs u2 x1 k1 b1 (d := y2.1) (p := y2.2) ⟨n, t2⟩ hp 2 rfl rfl
  exact ⟨m0, a, len, cap, l, a2, len2, cap2, l2, m3, rfl, w0, hl, hr, hl2, hr2, w3⟩
end
end Go.Proofs.Ytbgaaocgdjkkeaa
