/- What make lays of bytes. -/
import Derived.Test.YtbgaaocgdjkkeaaDoorWalkIn
import Derived.Test.YtbgaaocgdjkkeaaDoorTyB
import Derived.Test.YtbgaaocgdjkkeaaDoorAppend3
namespace Go.Proofs.YtbgaaocgdjkkeaaDoor
open Go.RowKit

theorem made_bytes (n : Nat) : (madeCells #[.int .u8 0] (n * 1)).toList = bvs (List.replicate n 0) := by
  rw [made_all _ _ (.int .u8 0) (by simp) (fun i hi => by
    match i, hi with
    | 0, _ => rfl), Nat.mul_one]
  simp [bvs]
theorem wpl_make_bytes {w : World} {ops : Array Oper} {rest : List Oper} {o : Oper} {a : Act} {Q : Exit → Act → World → Prop} (hg : o.guard = none) (l c : Operand) (hop : o.op = Op.makeSlice 22 l c) (base : Nat)
    (kl kc : IntKind) (L C : Int) (n : Nat) (hl : a.eval l = .int kl L) (hc : a.eval c = .int kc C) (hL : L = (n : Int)) (hC : C = (n : Int)) (b2 : n ≤ 281474976710656) (b4 : base ≤ w.heap.size)
    (hK : ∀ w', w'.ownsRow base 5 1 (.slice (some ⟨w.heap.size, 0, none⟩) n n) n (bvs (List.replicate n 0)) → Below w.heap.size w w' → wpList Tryd.prog ops Q rest (a.put o.dst (.slice (some ⟨w.heap.size, 0, none⟩) n n)) w') :
    wpList Tryd.prog ops Q (o :: rest) a w := by
  obtain ⟨i0, hi, hz0, hz1, hz2⟩ := info_parts tyB.info
  refine wpList_make_full w hg l c 22 hop base 5 i0 (.int .u8 0) 1 tyB.ht hi hz0 hz1 kl kc L C n hl hc hL hC (by rw [hz2]; omega) (by unfold maxLen; omega) b4 (fun w' h1 h2 => hK w' ?_ ((Below.refl _ _).grown h2 (Nat.le_refl _) (by simp)))
  rw [← made_bytes]
  exact h1
end Go.Proofs.YtbgaaocgdjkkeaaDoor
