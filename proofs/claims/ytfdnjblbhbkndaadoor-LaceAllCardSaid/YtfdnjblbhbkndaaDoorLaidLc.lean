/- What the listed variable holds. -/
import Derived.Test.YtfdnjblbhbkndaaDoorRows
import Derived.Test.YtfdnjblbhbkndaaDoorLcPass
import Derived.Test.YtfdnjblbhbkndaaDoorOpen
import Derived.LaidLaws
import Derived.MakeChecks
import Derived.Stop.Joined
namespace Go.Proofs.YtfdnjblbhbkndaaDoor
open Go.ChangeShapes Go.WideShapes Go.ChangeAt Go.RowKit

namespace Lc
/-- The seven passes' numbers, in a row. -/
def tab28 : List Nat := [0, 8, 0, 8, 4, 8, 0, 8, 0, 4, 4, 8, 2, 4, 0, 4, 0, 2, 2, 4, 1, 2, 0, 2, 0, 1, 1, 2]
/-- The passes in memory. -/
structure Lp (w : World) : Prop where
  lt : 0 < w.heap.size
  at' : ∀ r, r < 28 → w.cell? ⟨0, r, none⟩ = some (.int .i64 (tab28.getD r 0 : Nat))
theorem Lp.below {w w' : World} (h : Lp w) (hb : Below w.heap.size w w') : Lp w' := ⟨Nat.lt_of_lt_of_le h.lt hb.size, fun r hr => by rw [hb.cell (p := ⟨0, r, none⟩) h.lt]; exact h.at' r hr⟩
theorem trod_struct4 {H : Type} {enc : TypeId × Value → H} {P : Program} {W : World} {base : Nat} {t : TypeId} {held : Bool} {sp : Nat → Bool} {f0 f1 f2 f3 : Field} {fuel : Nat} {cs : List Value} {x : DataW H × List MemPlace} (ht : P.underlying t = some (.struct #[f0, f1, f2, f3])) (h : DataW.trod enc P W base sp held fuel t cs = some x) :
    ∃ (y0 y1 y2 y3 : DataW H × List MemPlace) (n : Nat), cs.length = P.cellsOf t ∧ x.1 = .agg [y0.1, y1.1, y2.1, y3.1] ∧ DataW.trod enc P W base sp held n f0.type ((cs.drop f0.offset).take (P.cellsOf f0.type)) = some y0 ∧
      DataW.trod enc P W base sp held n f1.type ((cs.drop f1.offset).take (P.cellsOf f1.type)) = some y1 ∧ DataW.trod enc P W base sp held n f2.type ((cs.drop f2.offset).take (P.cellsOf f2.type)) = some y2 ∧
      DataW.trod enc P W base sp held n f3.type ((cs.drop f3.offset).take (P.cellsOf f3.type)) = some y3 := by
  obtain ⟨xs, n, _, rfl, hl, hlen, hf⟩ := DataW.trod_struct ht h
  match xs, hlen with
  | [y0, y1, y2, y3], _ => exact ⟨y0, y1, y2, y3, n, hl, rfl, by simpa using hf 0 f0 rfl, by simpa using hf 1 f1 rfl, by simpa using hf 2 f2 rfl, by simpa using hf 3 f3 rfl⟩
theorem pass_cells {enc : TypeId × Value → Unit} {W : World} {base fuel : Nat} {sp : Nat → Bool} {held : Bool} {cs : List Value} {y : DataW Unit × List MemPlace} {a b c d : Int}
    (h : DataW.trod enc Tryd.prog W base sp held fuel 52 cs = some y) (hy : y.1 = .agg [.lit (.int .i64 a), .lit (.int .i64 b), .lit (.int .i64 c), .lit (.int .i64 d)]) :
    cs = [.int .i64 a, .int .i64 b, .int .i64 c, .int .i64 d] := by
  obtain ⟨y0, y1, y2, y3, n, hl, hx, t0, t1, t2, t3⟩ := trod_struct4 Tryd.underlying52 h
  have hl4 : cs.length = 4 := hl.trans (by kernel_rfl)
  rw [hx] at hy
  have k : Tryd.prog.cellsOf 3 = 1 := by kernel_rfl
  simp only [k] at t0 t1 t2 t3
  simp only [DataW.agg.injEq, List.cons.injEq, and_true] at hy
  obtain ⟨q0, q1, q2, q3⟩ := hy
  obtain ⟨m0, e0, f0, _⟩ := DataW.trod_int Tryd.underlying3 t0
  obtain ⟨m1, e1, f1, _⟩ := DataW.trod_int Tryd.underlying3 t1
  obtain ⟨m2, e2, f2, _⟩ := DataW.trod_int Tryd.underlying3 t2
  obtain ⟨m3, e3, f3, _⟩ := DataW.trod_int Tryd.underlying3 t3
  rw [f0] at q0
  rw [f1] at q1
  rw [f2] at q2
  rw [f3] at q3
  simp only [DataW.lit.injEq, Lit.int.injEq, true_and] at q0 q1 q2 q3
  subst q0 q1 q2 q3
  match cs, hl4 with
  | [c0, c1, c2, c3], _ =>
    simp only [List.drop_zero, List.drop_succ_cons, List.take_succ_cons, List.take_zero, List.cons.injEq, and_true] at e0 e1 e2 e3
    rw [e0, e1, e2, e3]
theorem lp_of_laid {W : World} (h : laidMetH Tryd.prog [("burnish/lace.passes", Rows.laid_burnish_lace_passes)] W) : Lp W := by
  rw [MakeChecks.laidMetH_plain _ _ _ (by kernel_rfl)] at h
  obtain ⟨ps, ⟨g, t, cs, fuel, p, q, hg, ht, hv, hd, _, _⟩, _, _⟩ := h
  obtain rfl := Option.some.inj ((show Tryd.prog.globalNamed "burnish/lace.passes" = some 0 by kernel_rfl).symm.trans hg)
  obtain rfl := Option.some.inj ((show (Tryd.prog.globals[0]?).map (·.type) = some 59 by kernel_rfl).symm.trans ht)
  obtain ⟨xs, m, _, ex, _, hl, hel⟩ := DataW.trod_array Tryd.underlying59 hd
  have c5 : Tryd.prog.cellsOf 52 = 4 := by kernel_rfl
  have e3 : (xs.map (·.1)) = [.agg [.lit (.int .i64 0), .lit (.int .i64 8), .lit (.int .i64 0), .lit (.int .i64 8)], .agg [.lit (.int .i64 4), .lit (.int .i64 8), .lit (.int .i64 0), .lit (.int .i64 8)], .agg [.lit (.int .i64 0), .lit (.int .i64 4), .lit (.int .i64 4), .lit (.int .i64 8)], .agg [.lit (.int .i64 2), .lit (.int .i64 4), .lit (.int .i64 0), .lit (.int .i64 4)], .agg [.lit (.int .i64 0), .lit (.int .i64 2), .lit (.int .i64 2), .lit (.int .i64 4)], .agg [.lit (.int .i64 1), .lit (.int .i64 2), .lit (.int .i64 0), .lit (.int .i64 2)], .agg [.lit (.int .i64 0), .lit (.int .i64 1), .lit (.int .i64 1), .lit (.int .i64 2)]] := by
    have := (Prod.mk.inj ex).1
    exact (DataW.agg.inj this).symm
  have hcell : ∀ r, r < 28 → W.cell? ⟨0, r, none⟩ = some (.int .i64 (tab28.getD r 0 : Nat)) := fun r hr => by
    have hE := hel (r / 4) (by omega)
    rw [c5, List.getElem?_eq_getElem (by omega : r / 4 < xs.length)] at hE
    have hx : (xs[r / 4]'(by omega)).1 = (xs.map (·.1))[r / 4]'(by rw [List.length_map]; omega) := by simp
    have key : ∃ a b c d : Nat, (xs[r / 4]'(by omega)).1 = .agg [.lit (.int .i64 (a : Nat)), .lit (.int .i64 (b : Nat)), .lit (.int .i64 (c : Nat)), .lit (.int .i64 (d : Nat))] ∧ [a, b, c, d].getD (r % 4) 0 = tab28.getD r 0 := by
      rw [hx]
      simp only [e3]
      clear hx hE
      match r, hr with
      | 0, _ | 1, _ | 2, _ | 3, _ => exact ⟨0, 8, 0, 8, rfl, rfl⟩
      | 4, _ | 5, _ | 6, _ | 7, _ => exact ⟨4, 8, 0, 8, rfl, rfl⟩
      | 8, _ | 9, _ | 10, _ | 11, _ => exact ⟨0, 4, 4, 8, rfl, rfl⟩
      | 12, _ | 13, _ | 14, _ | 15, _ => exact ⟨2, 4, 0, 4, rfl, rfl⟩
      | 16, _ | 17, _ | 18, _ | 19, _ => exact ⟨0, 2, 2, 4, rfl, rfl⟩
      | 20, _ | 21, _ | 22, _ | 23, _ => exact ⟨1, 2, 0, 2, rfl, rfl⟩
      | 24, _ | 25, _ | 26, _ | 27, _ => exact ⟨0, 1, 1, 2, rfl, rfl⟩
      | n + 28, h => omega
    obtain ⟨a, b, c, d, k1, k2⟩ := key
    have hp := pass_cells hE k1
    rw [World.var?_cell hg hv r, ← k2]
    have h0 : ((cs.toList.drop (r / 4 * 4)).take 4)[r % 4]? = cs.toList[r]? := by
      rw [List.getElem?_take_of_lt (Nat.mod_lt _ (by omega)), List.getElem?_drop]
      congr 1
      omega
    have h1 : cs.toList[r]? = some (.int .i64 ([a, b, c, d].getD (r % 4) 0 : Nat)) := by
      rw [← h0, hp]
      have : r % 4 = 0 ∨ r % 4 = 1 ∨ r % 4 = 2 ∨ r % 4 = 3 := by omega
      rcases this with e | e | e | e <;> rw [e] <;> rfl
    simpa using h1
  refine ⟨?_, hcell⟩
  have h0 := hcell 0 (by omega)
  rcases Nat.lt_or_ge 0 W.heap.size with hz | hz
  · exact hz
  · exfalso
    have hn : W.heap[0]? = none := Array.getElem?_eq_none (by omega)
    simp [World.cell?, hn] at h0
/-- A pass's four cells. -/
theorem Lp.four {w : World} (h : Lp w) (p : Nat) (hp : p < 7) : w.cell? ⟨0, p * 4, none⟩ = some (.int .i64 (px p : Nat)) ∧ w.cell? ⟨0, p * 4 + 1, none⟩ = some (.int .i64 (pdx p : Nat)) ∧
    w.cell? ⟨0, p * 4 + 2, none⟩ = some (.int .i64 (py p : Nat)) ∧ w.cell? ⟨0, p * 4 + 3, none⟩ = some (.int .i64 (pdy p : Nat)) := by
  have k : ∀ p, p < 7 → tab28.getD (p * 4) 0 = px p ∧ tab28.getD (p * 4 + 1) 0 = pdx p ∧ tab28.getD (p * 4 + 2) 0 = py p ∧ tab28.getD (p * 4 + 3) 0 = pdy p := by decide
  obtain ⟨k0, k1, k2, k3⟩ := k p hp
  refine ⟨?_, ?_, ?_, ?_⟩
  · rw [h.at' _ (by omega), k0]
  · rw [h.at' _ (by omega), k1]
  · rw [h.at' _ (by omega), k2]
  · rw [h.at' _ (by omega), k3]
end Lc
end Go.Proofs.YtfdnjblbhbkndaaDoor
