/- How layer 4's struct arguments are opened: {[]int, []byte, bool, int}, and {[16]int, []byte}. -/
import Derived.Test.YtfdnjblbhbkndaaDoorOpen
import Derived.Deep.Slices
import Derived.Deep.Strs
import Derived.Lib.SmallJoins
import Derived.ChangeSame
import Derived.OpenShut
namespace Go.Proofs.YtfdnjblbhbkndaaDoor
open Go.ChangeShapes Go.WideShapes Go.ChangeAt Go.RowKit

/-- A JPEG's codes as they lie. -/
def codesV (c : Nat → Int) (v : Value) : Value := .agg #[.int .i64 (c 0), .int .i64 (c 1), .int .i64 (c 2), .int .i64 (c 3), .int .i64 (c 4), .int .i64 (c 5), .int .i64 (c 6), .int .i64 (c 7), .int .i64 (c 8), .int .i64 (c 9), .int .i64 (c 10), .int .i64 (c 11), .int .i64 (c 12), .int .i64 (c 13), .int .i64 (c 14), .int .i64 (c 15), v]
section
variable {H : Type} {enc : TypeId × Value → H} {P : Program} {W : World}
theorem sized_parts {ts : List TypeId} {ds : List (DataW H)} (h : (DataW.weightsEach P ts ds).all (· ≤ reachBytes) = true) {j : Nat} {t : TypeId} {fs : Array Field} {parts : List (DataW H)} (ht : ts[j]? = some t) (hd : ds[j]? = some (.agg parts)) (hu : P.underlying t = some (.struct fs)) :
    (DataW.weightsEach P (fs.toList.map (·.type)) parts).all (· ≤ reachBytes) = true := by
  rw [List.all_eq_true] at h ⊢
  intro n hn
  exact h n (DataW.weights_mem_each ht hd n (by simpa [DataW.weights, hu] using hn))
theorem slice_cell {t e : TypeId} {fuel : Nat} {c0 : Value} {x : DataW H × List MemPlace} (ht : P.underlying t = some (.slice e)) (h : DataW.trod enc P W 0 (fun _ => true) true fuel t [c0] = some x) : ∃ a len cap, c0 = .slice a len cap := by
  rcases Go.Deep.open_slice ht h with ⟨hcs, _⟩ | ⟨ad, len, cap, m, n, D, Pl, hcs, _⟩
  · exact ⟨_, _, _, by simpa using hcs⟩
  · exact ⟨_, _, _, by simpa using hcs⟩
theorem open_read {t e0 e1 : TypeId} {f0 f1 f2 f3 : Field} (ht : P.underlying t = some (.struct #[f0, f1, f2, f3])) (hc : P.cellsOf t = 4)
    (u0 : P.underlying f0.type = some (.slice e0)) (x0 : P.underlying e0 = some (.int .i64)) (k0 : P.cellsOf e0 = 1) (b0 : P.bytesOf e0 = 8)
    (u1 : P.underlying f1.type = some (.slice e1)) (x1 : P.underlying e1 = some (.int .u8)) (k1 : P.cellsOf e1 = 1) (b1 : P.bytesOf e1 = 1)
    (u2 : P.underlying f2.type = some .bool) (u3 : P.underlying f3.type = some (.int .i64))
    (c0 : P.cellsOf f0.type = 1) (c1 : P.cellsOf f1.type = 1) (c2 : P.cellsOf f2.type = 1) (c3 : P.cellsOf f3.type = 1) (o0 : f0.offset = 0) (o1 : f1.offset = 1) (o2 : f2.offset = 2) (o3 : f3.offset = 3)
    {v : Value} {r : Reach} {base : Nat} (hv : Value.okWide P W r base t v) {d : DataW H} {p : List MemPlace} (h : DataW.Trod enc P W 0 (fun _ => true) true t v d p)
    {ts : List TypeId} {ds : List (DataW H)} (hsz : (DataW.weightsEach P ts ds).all (· ≤ reachBytes) = true) (j : Nat) (htj : ts[j]? = some t) (hdj : ds[j]? = some d) :
    ∃ a len cap l a2 len2 cap2 l2 hi n, v = .agg #[.slice a len cap, .slice a2 len2 cap2, .bool hi, .int .i64 n] ∧ Is .i64 W a len cap l ∧ cap * 8 ≤ 140737488351232 ∧ Bs W a2 len2 cap2 l2 ∧ cap2 ≤ 140737488351232 ∧ (Lit.int .i64 n).wf = true := by
  obtain ⟨cs, rfl, hcs⟩ := okWide_struct ht hv
  rw [hc] at hcs
  obtain ⟨v0, v1, v2, v3, rfl⟩ := Go.Joins.array4 hcs
  obtain ⟨fuel, hf⟩ := h
  obtain ⟨y0, y1, y2, y3, n, hx, _, t0, t1, t2, t3⟩ := Go.Joins.trod_struct4 ht hf
  rw [o0, c0] at t0
  rw [o1, c1] at t1
  rw [o2, c2] at t2
  rw [o3, c3] at t3
  simp only [Value.cells, List.drop_zero, List.drop_succ_cons, List.take_succ_cons, List.take_zero] at t0 t1 t2 t3
  simp only [Prod.mk.injEq] at hx
  obtain ⟨rfl, _⟩ := hx
  have hp := sized_parts hsz htj hdj ht
  obtain ⟨a, len, cap, rfl⟩ := slice_cell u0 t0
  obtain ⟨a2, len2, cap2, rfl⟩ := slice_cell u1 t1
  obtain ⟨b, e2, _⟩ := DataW.trod_bool u2 t2
  obtain ⟨m, e3, _, w3⟩ := DataW.trod_int u3 t3
  simp only [List.cons.injEq, and_true] at e2 e3
  subst e2 e3
  obtain ⟨l, hl, hr⟩ := open_is u0 x0 k0 b0 (d := y0.1) (p := y0.2) ⟨n, t0⟩ hp 0 rfl rfl
  obtain ⟨l2, hl2, hr2⟩ := open_bs u1 x1 k1 b1 (d := y1.1) (p := y1.2) ⟨n, t1⟩ hp 1 rfl rfl
  exact ⟨a, len, cap, l, a2, len2, cap2, l2, b, m, rfl, hl, hr, hl2, hr2, w3⟩
set_option maxHeartbeats 1000000 in
theorem open_codes {t e e1 : TypeId} {f0 f1 : Field} (ht : P.underlying t = some (.struct #[f0, f1])) (hc : P.cellsOf t = 17)
    (u0 : P.underlying f0.type = some (.array 16 e)) (x0 : P.underlying e = some (.int .i64)) (k0 : P.cellsOf e = 1)
    (u1 : P.underlying f1.type = some (.slice e1)) (x1 : P.underlying e1 = some (.int .u8)) (k1 : P.cellsOf e1 = 1) (b1 : P.bytesOf e1 = 1)
    (c0 : P.cellsOf f0.type = 16) (c1 : P.cellsOf f1.type = 1) (o0 : f0.offset = 0) (o1 : f1.offset = 16)
    {v : Value} {r : Reach} {base : Nat} (hv : Value.okWide P W r base t v) {d : DataW H} {p : List MemPlace} (h : DataW.Trod enc P W 0 (fun _ => true) true t v d p)
    {ts : List TypeId} {ds : List (DataW H)} (hsz : (DataW.weightsEach P ts ds).all (· ≤ reachBytes) = true) (j : Nat) (htj : ts[j]? = some t) (hdj : ds[j]? = some d) :
    ∃ c a len cap l, v = codesV c (.slice a len cap) ∧ (∀ i, i < 16 → (Lit.int .i64 (c i)).wf = true) ∧ Bs W a len cap l ∧ cap ≤ 140737488351232 := by
  obtain ⟨cs, rfl, hcs⟩ := okWide_struct ht hv
  rw [hc] at hcs
  obtain ⟨fuel, hf⟩ := h
  obtain ⟨y0, y1, n, hx, _, t0, t1⟩ := Go.ChangeShapes.trod_struct2 ht hf
  rw [o0, c0] at t0
  rw [o1, c1] at t1
  simp only [Prod.mk.injEq] at hx
  obtain ⟨rfl, _⟩ := hx
  have hp := sized_parts hsz htj hdj ht
  obtain ⟨xs, m, _, _, _, hxl, hat⟩ := DataW.trod_array u0 t0
  have ho : ∀ i, i < 16 → ∃ n, (((Value.agg cs).cells.toList.drop 0).take 16 |>.drop i).take 1 = [.int .i64 n] ∧ True ∧ (Lit.int .i64 n).wf = true := by
    intro i hi
    have h1 := hat i hi
    rw [k0, Nat.mul_one, List.getElem?_eq_getElem (by omega)] at h1
    obtain ⟨n, e1, _, w1⟩ := DataW.trod_int x0 h1
    exact ⟨n, e1, trivial, w1⟩
  clear hat t0
  obtain ⟨l⟩ := cs
  match l, hcs with
  | [c0, c1, c2, c3, c4, c5, c6, c7, c8, c9, c10, c11, c12, c13, c14, c15, c16], _ =>
    simp only [Value.cells] at ho t1
    obtain ⟨n0, e0, _, w0⟩ := ho 0 (by omega)
    simp only [List.drop_zero, List.drop_succ_cons, List.take_succ_cons, List.take_zero, List.cons.injEq, and_true] at e0
    subst e0
    obtain ⟨n1, e1, _, w1⟩ := ho 1 (by omega)
    simp only [List.drop_zero, List.drop_succ_cons, List.take_succ_cons, List.take_zero, List.cons.injEq, and_true] at e1
    subst e1
    obtain ⟨n2, e2, _, w2⟩ := ho 2 (by omega)
    simp only [List.drop_zero, List.drop_succ_cons, List.take_succ_cons, List.take_zero, List.cons.injEq, and_true] at e2
    subst e2
    obtain ⟨n3, e3, _, w3⟩ := ho 3 (by omega)
    simp only [List.drop_zero, List.drop_succ_cons, List.take_succ_cons, List.take_zero, List.cons.injEq, and_true] at e3
    subst e3
    obtain ⟨n4, e4, _, w4⟩ := ho 4 (by omega)
    simp only [List.drop_zero, List.drop_succ_cons, List.take_succ_cons, List.take_zero, List.cons.injEq, and_true] at e4
    subst e4
    obtain ⟨n5, e5, _, w5⟩ := ho 5 (by omega)
    simp only [List.drop_zero, List.drop_succ_cons, List.take_succ_cons, List.take_zero, List.cons.injEq, and_true] at e5
    subst e5
    obtain ⟨n6, e6, _, w6⟩ := ho 6 (by omega)
    simp only [List.drop_zero, List.drop_succ_cons, List.take_succ_cons, List.take_zero, List.cons.injEq, and_true] at e6
    subst e6
    obtain ⟨n7, e7, _, w7⟩ := ho 7 (by omega)
    simp only [List.drop_zero, List.drop_succ_cons, List.take_succ_cons, List.take_zero, List.cons.injEq, and_true] at e7
    subst e7
    obtain ⟨n8, e8, _, w8⟩ := ho 8 (by omega)
    simp only [List.drop_zero, List.drop_succ_cons, List.take_succ_cons, List.take_zero, List.cons.injEq, and_true] at e8
    subst e8
    obtain ⟨n9, e9, _, w9⟩ := ho 9 (by omega)
    simp only [List.drop_zero, List.drop_succ_cons, List.take_succ_cons, List.take_zero, List.cons.injEq, and_true] at e9
    subst e9
    obtain ⟨n10, e10, _, w10⟩ := ho 10 (by omega)
    simp only [List.drop_zero, List.drop_succ_cons, List.take_succ_cons, List.take_zero, List.cons.injEq, and_true] at e10
    subst e10
    obtain ⟨n11, e11, _, w11⟩ := ho 11 (by omega)
    simp only [List.drop_zero, List.drop_succ_cons, List.take_succ_cons, List.take_zero, List.cons.injEq, and_true] at e11
    subst e11
    obtain ⟨n12, e12, _, w12⟩ := ho 12 (by omega)
    simp only [List.drop_zero, List.drop_succ_cons, List.take_succ_cons, List.take_zero, List.cons.injEq, and_true] at e12
    subst e12
    obtain ⟨n13, e13, _, w13⟩ := ho 13 (by omega)
    simp only [List.drop_zero, List.drop_succ_cons, List.take_succ_cons, List.take_zero, List.cons.injEq, and_true] at e13
    subst e13
    obtain ⟨n14, e14, _, w14⟩ := ho 14 (by omega)
    simp only [List.drop_zero, List.drop_succ_cons, List.take_succ_cons, List.take_zero, List.cons.injEq, and_true] at e14
    subst e14
    obtain ⟨n15, e15, _, w15⟩ := ho 15 (by omega)
    simp only [List.drop_zero, List.drop_succ_cons, List.take_succ_cons, List.take_zero, List.cons.injEq, and_true] at e15
    subst e15
    simp only [List.drop_zero, List.drop_succ_cons, List.take_succ_cons, List.take_zero] at t1
    obtain ⟨a, len, cap, rfl⟩ := slice_cell u1 t1
    obtain ⟨l, hl, hr⟩ := open_bs u1 x1 k1 b1 (d := y1.1) (p := y1.2) ⟨n, t1⟩ hp 1 rfl rfl
    refine ⟨fun i => [n0, n1, n2, n3, n4, n5, n6, n7, n8, n9, n10, n11, n12, n13, n14, n15].getD i 0, a, len, cap, l, rfl, fun i hi => ?_, hl, hr⟩
    match i, hi with
    | 0, _ => exact w0
    | 1, _ => exact w1
    | 2, _ => exact w2
    | 3, _ => exact w3
    | 4, _ => exact w4
    | 5, _ => exact w5
    | 6, _ => exact w6
    | 7, _ => exact w7
    | 8, _ => exact w8
    | 9, _ => exact w9
    | 10, _ => exact w10
    | 11, _ => exact w11
    | 12, _ => exact w12
    | 13, _ => exact w13
    | 14, _ => exact w14
    | 15, _ => exact w15
    | i + 16, h => omega
end
end Go.Proofs.YtfdnjblbhbkndaaDoor
