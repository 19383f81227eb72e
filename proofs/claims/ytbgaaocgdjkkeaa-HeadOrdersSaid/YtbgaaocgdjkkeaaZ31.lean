/- append, whatever is appended: the row that comes of it lies where it lay, or in a new block. -/
import Derived.Test.YtbgaaocgdjkkeaaZ6
set_option linter.unusedSimpArgs false
set_option linter.unusedVariables false
section
namespace Go.Proofs.Ytbgaaocgdjkkeaa
open Go.RowKit

section
variable {P : Program} {w : World} {ops : Array Oper} {rest : List Oper} {o : Oper} {a : Act} {Q : Exit → Act → World → Prop}
variable {t e : TypeId} {z : Value} {size by' : Nat}
theorem Ch.grown {w w' : World} {v : Value} (hg : w.grownBy w' v.ownBlock) : Ch w w' (fun k => v.ownBlock = some k) :=
  ⟨hg.os, hg.tape, hg.output, hg.size, fun i hi ht => hg.block i hi (fun e => ht e.symm)⟩
theorem wpl_append3 (R : RowTy P t e z size by') (hg : o.guard = none) (s x : Operand) (hop : o.op = Op.call { callee := Callee.builtin Builtin.append, args := #[s, x], argTypes := #[t, t] })
    {base n : Nat} {v : Value} {xs : List Value} (hown : w.ownsRow base e size v n xs) {ao : Option Addr} {m c : Nat} {news : List Value} (hsrc : SrcRow w ao m c news size)
    (hs : a.eval s = v) (hx : a.eval x = .slice ao m c) (h63 : n + m ≤ 9223372036854775807) (hbytes : (n + m) * by' ≤ 140737488355328) (hbase : base ≤ w.heap.size)
    (hK : ∀ v' w', w'.ownsRow base e size v' (n + m) (xs ++ news) → Ch w w' (fun k => v.ownBlock = some k) → (∀ k, v'.ownBlock = some k → v.ownBlock = some k ∨ w.heap.size ≤ k) → wpList P ops Q rest (a.put o.dst v') w') :
    wpList P ops Q (o :: rest) a w := by
  by_cases hm : 0 < m
  · cases ao with
    | none => have := (hsrc.hnone rfl).1; omega
    | some ad => exact wpl_append2 R hg s x hop hown hsrc hs hx hm h63 hbytes hbase (fun v' w' h1 st => hK v' w' h1 (Ch.step st) st.block)
  · obtain rfl : m = 0 := by omega
    rcases own_nil_or hown with ⟨rfl, rfl⟩ | ⟨g, cap, rfl, hle, _⟩
    · refine wpl_append R hg s x hop hown hsrc hs hx h63 hbytes hbase (fun v' w' h1 hg1 hiff => hK v' w' h1 (Ch.grown hg1) (fun k hk => ?_))
      rw [hiff.2 ⟨rfl, rfl⟩] at hk
      simp [Value.ownBlock] at hk
    · exact wpl_fits R hg s x hop hown hsrc hs hx (by omega) (fun w' h1 hg1 => hK _ w' h1 (Ch.grown hg1) (fun k hk => .inl (by simpa [Value.ownBlock] using hk)))
end
end Go.Proofs.Ytbgaaocgdjkkeaa
end
