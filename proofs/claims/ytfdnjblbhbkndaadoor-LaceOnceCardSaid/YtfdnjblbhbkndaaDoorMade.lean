/- What make lays. -/
import Derived.Test.YtfdnjblbhbkndaaDoorWalkIn
import Derived.Test.YtfdnjblbhbkndaaDoorInts
namespace Go.Proofs.YtfdnjblbhbkndaaDoor
open Go.RowKit

theorem made_ints1 (n : Nat) : (madeCells #[.int .i64 0] (n * 1)).toList = ivs (List.replicate n 0) := by
  rw [made_all _ _ (.int .i64 0) (by simp) (fun i hi => by
    match i, hi with
    | 0, _ => rfl), Nat.mul_one]
  simp [ivs]
theorem wpl_make_full {P : Program} {w : World} {ops : Array Oper} {rest : List Oper} {o : Oper} {a : Act} {Q : Exit → Act → World → Prop} {t e : TypeId} {z : Value} {size by' : Nat} (R : RowTy P t e z size by') (hg : o.guard = none) (l c : Operand) (hop : o.op = Op.makeSlice t l c) (base : Nat)
    (kl kc : IntKind) (L C : Int) (n : Nat) (hl : a.eval l = .int kl L) (hc : a.eval c = .int kc C) (hL : L = (n : Int)) (hC : C = (n : Int)) (b2 : by' * n ≤ 281474976710656) (b3 : n ≤ 9223372036854775807) (b4 : base ≤ w.heap.size)
    (hK : ∀ w', w'.ownsRow base e size (.slice (some ⟨w.heap.size, 0, none⟩) n n) n (madeCells z.cells (n * size)).toList → w.grownBy w' none → wpList P ops Q rest (a.put o.dst (.slice (some ⟨w.heap.size, 0, none⟩) n n)) w') :
    wpList P ops Q (o :: rest) a w := by
  obtain ⟨i0, hi, hz0, hz1, hz2⟩ := info_parts R.info
  subst hz2
  exact wpList_make_full w hg l c t hop base e i0 z size R.ht hi hz0 hz1 kl kc L C n hl hc hL hC b2 (by unfold maxLen; omega) b4 hK
end Go.Proofs.YtfdnjblbhbkndaaDoor
