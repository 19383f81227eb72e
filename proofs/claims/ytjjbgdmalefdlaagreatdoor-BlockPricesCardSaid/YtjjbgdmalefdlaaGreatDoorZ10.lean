/- Laws of the walk within a fence: append, make. -/
import Derived.Test.YtjjbgdmalefdlaaGreatDoorZ9
import Derived.OwnWalkIn
set_option linter.unusedSimpArgs false
set_option linter.unusedVariables false
section
namespace Go.Proofs.YtjjbgdmalefdlaaGreatDoor
open Go.RowKit

section
variable {F : Fence} {k : Nat} {P : Program} {w : World} {ops : Array Oper} {rest : List Oper} {o : Oper} {a : Act} {Q : Exit → Act → World → Prop}
variable {t e : TypeId} {z : Value} {size by' : Nat}
theorem run_app (R : RowTy P t e z size by') (ot : TypeId) {base n : Nat} {v : Value} {xs : List Value} (hown : w.ownsRow base e size v n xs) {ad : Addr} {m c : Nat} {news : List Value} (hsrc : SrcRow w (some ad) m c news size)
    (hm : 0 < m) (h63 : n + m ≤ 9223372036854775807) (hbytes : (n + m) * by' ≤ 140737488355328) (hbase : base ≤ w.heap.size) :
    ∃ v' w', (Builtin.append_ #[t, t] ot #[v, .slice (some ad) m c]).run P w = .ok v' w' ∧ w'.ownsRow base e size v' (n + m) (xs ++ news) ∧ Step w w' v v' := by
  obtain ⟨i0, hi, hz0, hz1, hz2⟩ := info_parts R.info
  have hnc := hsrc.hc ad rfl
  have hml : n + m ≤ maxLen := by unfold maxLen; omega
  have new : ∀ {v' : Value} {w' : World} {ys : List Value} {b : Nat}, w'.ownsRow b e size v' (n + m) ys → w.heap.size ≤ b → ∃ g, v'.ownBlock = some g ∧ w.heap.size ≤ g := by
    intro v' w' ys b r hb
    rcases own_nil_or r with ⟨_, h⟩ | ⟨g, cap, rfl, _, h, _⟩
    · omega
    · exact ⟨g, rfl, Nat.le_trans hb h⟩
  rcases own_nil_or hown with ⟨rfl, rfl⟩ | ⟨g, cap, rfl, hle, hbg, hgl, hcap⟩
  · have hx0 : xs = [] := List.eq_nil_of_length_eq_zero (by have := hown.1; simpa using this)
    subst hx0
    obtain ⟨v', w', hrun, r1, r2, _⟩ := run_append_own (P := P) w w.heap.size t ot e i0 z size by' R.ht hi hz0 hz1 hz2 R.hzs R.hsz _ 0 [] (World.ownsRow_nil w w.heap.size e size) ad m c news hsrc.hl hnc hsrc.h1 hml hbytes (Nat.le_refl _)
    exact ⟨v', w', hrun, own_base r1 (fun g hg => Nat.le_trans hbase ((r1.lt g hg).1)), .inr ⟨new r1 (Nat.le_refl _), r2⟩⟩
  · by_cases hroom : n + m ≤ cap
    · obtain ⟨w', hrun, r1, r2⟩ := run_append_fits (P := P) w base t ot e i0 size R.ht hi hz1 g n cap xs hown ad m c news hsrc.hl hnc hsrc.h1 hroom
      exact ⟨_, w', hrun, r1, .inl ⟨g, n, cap, n + m, rfl, rfl, r2⟩⟩
    · obtain ⟨v', w', hrun, r1, r2⟩ := run_append_arg_grows (P := P) w t ot e i0 z size by' R.ht hi hz0 hz1 hz2 R.hzs R.hsz ⟨g, 0, none⟩ n cap xs hown.1 (hown.cells rfl) ad m c news hsrc.hl hnc (by omega) hml hbytes
      exact ⟨v', w', hrun, own_base r1 (fun g hg => Nat.le_trans hbase ((r1.lt g hg).1)), .inr ⟨new r1 (Nat.le_refl _), r2⟩⟩
theorem wplIn_app (R : RowTy P t e z size by') (hg : o.guard = none) (s x : Operand) (hop : o.op = Op.call { callee := Callee.builtin Builtin.append, args := #[s, x], argTypes := #[t, t] })
    {base n : Nat} {v : Value} {xs : List Value} (hown : w.ownsRow base e size v n xs) {ad : Addr} {m c : Nat} {news : List Value} (hsrc : SrcRow w (some ad) m c news size)
    (hs : a.eval s = v) (hx : a.eval x = .slice (some ad) m c) (hm : 0 < m) (h63 : n + m ≤ 9223372036854775807) (hbytes : (n + m) * by' ≤ 140737488355328) (hbase : base ≤ w.heap.size)
    (hK : ∀ v' w', w'.ownsRow base e size v' (n + m) (xs ++ news) → Ch w w' (fun k => v.ownBlock = some k) → (∀ k, v'.ownBlock = some k → v.ownBlock = some k ∨ w.heap.size ≤ k) → wpListIn F k P ops Q rest (a.put o.dst v') w') :
    wpListIn F k P ops Q (o :: rest) a w := by
  refine wpListIn_plain hg fun K hK' => ?_
  obtain ⟨v', w', hrun, r1, r2⟩ := run_app R o.type hown hsrc hm h63 hbytes hbase
  unfold Oper.wpIn
  refine ⟨?_, ?_⟩
  · simp [Oper.about, hop, resolve, Target.leads, Sem.run_pure]
  · rw [Oper.semAt_plain F _ _ (by rw [hop]; intro c hc'; cases hc')]
    simp [execOp, hop, resolve, invoke, builtin, hs, hx, hrun, Result.andThen]
    exact hK' _ _ (hK v' w' r1 (Ch.step r2) r2.block)
theorem wplIn_make_full (R : RowTy P t e z size by') (hg : o.guard = none) (l c : Operand) (hop : o.op = Op.makeSlice t l c) (base : Nat)
    (kl kc : IntKind) (L C : Int) (n : Nat) (hl : a.eval l = .int kl L) (hc : a.eval c = .int kc C) (hL : L = (n : Int)) (hC : C = (n : Int)) (b2 : by' * n ≤ 281474976710656) (b3 : n ≤ 9223372036854775807) (b4 : base ≤ w.heap.size)
    (hK : ∀ w', w'.ownsRow base e size (.slice (some ⟨w.heap.size, 0, none⟩) n n) n (madeCells z.cells (n * size)).toList → w.grownBy w' none → wpListIn F k P ops Q rest (a.put o.dst (.slice (some ⟨w.heap.size, 0, none⟩) n n)) w') :
    wpListIn F k P ops Q (o :: rest) a w := by
  obtain ⟨i0, hi, hz0, hz1, hz2⟩ := info_parts R.info
  subst hz2
  refine wpListIn_plain hg fun K hK' => ?_
  obtain ⟨w', hrun, r1, r2⟩ := run_make_full (P := P) w base t e i0 z size R.ht hi hz0 hz1 kl kc n b2 (by unfold maxLen; omega) b4
  subst hL
  subst hC
  unfold Oper.wpIn
  refine ⟨?_, ?_⟩
  · simp [Oper.about, hop]
  · rw [Oper.semAt_plain F _ _ (by rw [hop]; intro c hc'; cases hc')]
    simp [execOp, hop, hl, hc, hrun, Result.andThen]
    exact hK' _ _ (hK w' r1 r2)
end
theorem made_all (zs : Array Value) (n : Nat) (u : Value) (hz : 0 < zs.size) (h : ∀ i, i < zs.size → zs[i]! = u) : (madeCells zs n).toList = List.replicate n u := by
  rw [List.eq_replicate_iff]
  refine ⟨by rw [Array.length_toList, size_madeCells], fun b hb => ?_⟩
  simp only [madeCells, Array.toList_map, List.mem_map] at hb
  obtain ⟨i, _, rfl⟩ := hb
  exact h _ (Nat.mod_lt _ hz)
end Go.Proofs.YtjjbgdmalefdlaaGreatDoor
end
