/- append of whatever (none, nil, some), as one step of a drawn region. -/
import Derived.Test.YtbgaaocgdjkkeaaZ31
import Derived.Test.YtbgaaocgdjkkeaaZ46
set_option linter.unusedSimpArgs false
set_option linter.unusedVariables false
section
namespace Go.Proofs.Ytbgaaocgdjkkeaa
open Go.RowKit
set_option linter.unusedSimpArgs false
set_option linter.unusedVariables false

section
variable {P : Program} {w : World} {ops : Array Oper} {o : Oper} {a : Act} {Q : Exit → Act → World → Prop} {K : Act → World → Prop} {E : Prop}
variable {t e : TypeId} {z : Value} {size by' : Nat}
theorem step_app3 (R : RowTy P t e z size by') (hg : o.guard = none) (s x : Operand) (hop : o.op = Op.call { callee := Callee.builtin Builtin.append, args := #[s, x], argTypes := #[t, t] })
    {base n : Nat} {v : Value} {xs : List Value} (hown : w.ownsRow base e size v n xs) {ao : Option Addr} {m c : Nat} {news : List Value} (hsrc : SrcRow w ao m c news size)
    (hs : a.eval s = v) (hx : a.eval x = .slice ao m c) (h63 : n + m ≤ 9223372036854775807) (hbytes : (n + m) * by' ≤ 140737488355328) (hbase : base ≤ w.heap.size)
    (hK : ∀ v' w', w'.ownsRow base e size v' (n + m) (xs ++ news) → Ch w w' (fun k => v.ownBlock = some k) → (∀ k, v'.ownBlock = some k → v.ownBlock = some k ∨ w.heap.size ≤ k) → K (a.put o.dst v') w') :
    if Region.wanted o (yielded ops a.tmps) = true then Oper.wp P o a w K Q else E := by
  obtain ⟨i0, hi, hz0, hz1, hz2⟩ := info_parts R.info
  have hw : Region.wanted o (yielded ops a.tmps) = true := by simp [Region.wanted, hg]
  cases ao with
  | none =>
    obtain ⟨rfl, rfl⟩ := hsrc.hnone rfl
    have hnews : news = [] := List.eq_nil_of_length_eq_zero (by simpa using hsrc.hl)
    subst hnews
    rw [if_pos hw]
    have hrun := run_append_owned_none (P := P) w base t o.type e i0 size R.ht hi v n xs hown
    unfold Oper.wp
    simp [execOp, hop, resolve, invoke, builtin, hs, hx, hrun, Result.andThen]
    exact hK v w (by simpa using hown) (Ch.refl _ _) (fun k h => .inl h)
  | some ad =>
    by_cases hm : 0 < m
    · exact step_app R hg s x hop hown hsrc hs hx hm h63 hbytes hbase (fun v' w' h1 st => hK v' w' h1 (Ch.step st) st.block)
    · obtain rfl : m = 0 := by omega
      rw [if_pos hw]
      rcases own_nil_or hown with ⟨rfl, rfl⟩ | ⟨g, cap, rfl, hle, _⟩
      · obtain ⟨v', w', hrun, r1, r2, hiff⟩ := run_append_own (P := P) w base t o.type e i0 z size by' R.ht hi hz0 hz1 hz2 R.hzs R.hsz _ 0 xs hown ad 0 c news hsrc.hl (hsrc.hc ad rfl) hsrc.h1 (by omega) hbytes hbase
        unfold Oper.wp
        simp [execOp, hop, resolve, invoke, builtin, hs, hx, hrun, Result.andThen]
        exact hK v' w' r1 (Ch.grown r2) (fun k hk => by rw [hiff.2 ⟨rfl, rfl⟩] at hk; simp [Value.ownBlock] at hk)
      · obtain ⟨w', hrun, r1, r2⟩ := run_append_fits (P := P) w base t o.type e i0 size R.ht hi hz1 g n cap xs hown ad 0 c news hsrc.hl (hsrc.hc ad rfl) hsrc.h1 (by omega)
        unfold Oper.wp
        simp [execOp, hop, resolve, invoke, builtin, hs, hx, hrun, Result.andThen]
        exact hK _ w' r1 (Ch.grown r2) (fun k hk => .inl (by simpa [Value.ownBlock] using hk))
end
end Go.Proofs.Ytbgaaocgdjkkeaa
end
