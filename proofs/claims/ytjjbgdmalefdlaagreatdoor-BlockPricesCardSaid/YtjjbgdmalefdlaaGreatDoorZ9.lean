/- What a call may change: 'only blocks of T'. Drawn worlds. append, whatever is appended: the row that comes of it lies where it lay, or in a new block. A cell of a row of one's own. A draw changes no memory. -/
import Derived.Test.YtjjbgdmalefdlaaGreatDoorZ1
import Derived.Test.YtjjbgdmalefdlaaGreatDoorZ4
set_option linter.unusedSimpArgs false
set_option linter.unusedVariables false
section
namespace Go.Proofs.YtjjbgdmalefdlaaGreatDoor
open Go.RowKit

/-- Only blocks of T may have changed; new ones may have come. -/
structure Ch (w w' : World) (T : Nat → Prop) : Prop where
  os : w'.os = w.os
  tape : w'.tape = w.tape
  output : w'.output = w.output
  size : w.heap.size ≤ w'.heap.size
  block : ∀ k, k < w.heap.size → ¬ T k → w'.heap[k]? = w.heap[k]?
theorem Ch.refl (w : World) (T : Nat → Prop) : Ch w w T := ⟨rfl, rfl, rfl, Nat.le_refl _, fun _ _ _ => rfl⟩
theorem Ch.of_below {w w' : World} {T : Nat → Prop} (h : Below w.heap.size w w') : Ch w w' T := ⟨h.os, h.tape, h.output, h.size, fun k hk _ => h.block k hk⟩
theorem Ch.trans {a b c : World} {T U : Nat → Prop} (h : Ch a b T) (k : Ch b c U) (hu : ∀ n, U n → T n ∨ a.heap.size ≤ n) : Ch a c T :=
  ⟨k.os.trans h.os, k.tape.trans h.tape, k.output.trans h.output, Nat.le_trans h.size k.size, fun i hi ht => (k.block i (Nat.lt_of_lt_of_le hi h.size) (fun hui => (hu i hui).elim ht (fun h' => by omega))).trans (h.block i hi ht)⟩
theorem Ch.drew {a w : World} {T : Nat → Prop} (h : Ch a w T) : Ch a w.drew T := ⟨h.os, h.tape, h.output, h.size, h.block⟩
theorem Ch.alloc {a w : World} {T : Nat → Prop} (h : Ch a w T) (o : Obj) : Ch a (w.alloc o) T :=
  h.trans (Ch.of_below (T := fun _ => False) (below_alloc w o)) (fun _ h => h.elim)
theorem Ch.set {a w : World} {T : Nat → Prop} (h : Ch a w T) {p : Addr} (hp : T p.block ∨ a.heap.size ≤ p.block) (u : Value) : Ch a (w.setCell p u) T :=
  h.trans (U := fun k => k = p.block) ⟨rfl, rfl, rfl, by simp, fun k _ ht => Below.heap_setCell w p u k ht⟩ (fun n hn => by subst hn; exact hp)
theorem Ch.below {w w' : World} {T : Nat → Prop} (h : Ch w w' T) {B : Nat} (hB : B ≤ w.heap.size) (ht : ∀ k, T k → B ≤ k) : Below B w w' :=
  ⟨h.os, h.tape, h.output, h.size, fun k hk => h.block k (by omega) (fun h' => by have := ht k h'; omega)⟩
theorem Ch.own {w w' : World} {T : Nat → Prop} (h : Ch w w' T) {base : Nat} {e : TypeId} {size : Nat} {v : Value} {n : Nat} {xs : List Value} (hv : w.ownsRow base e size v n xs) (hn : ∀ g, v.ownBlock = some g → ¬ T g) : w'.ownsRow base e size v n xs := by
  obtain ⟨h1, h2⟩ := hv
  refine ⟨h1, ?_⟩
  rcases h2 with h2 | ⟨g, cap, cur, rfl, hb, hg, r⟩
  · exact .inl h2
  · refine .inr ⟨g, cap, cur, rfl, hb, ?_, r⟩
    rw [h.block g (Array.getElem?_eq_some_iff.1 hg).1 (hn g rfl)]; exact hg
theorem Ch.step {w w' : World} {v v' : Value} (h : Step w w' v v') : Ch w w' (fun k => v.ownBlock = some k) := by
  rcases h with ⟨g, k, cap, k', rfl, _, hg⟩ | ⟨_, hg⟩
  · exact ⟨hg.os, hg.tape, hg.output, hg.size, fun i hi ht => hg.block i hi (fun e => ht (by simpa [Value.ownBlock] using e.symm))⟩
  · exact ⟨hg.os, hg.tape, hg.output, hg.size, fun i hi _ => hg.block i hi (by simp)⟩
theorem Ch.wide {w w' : World} {T U : Nat → Prop} (h : Ch w w' T) (hu : ∀ k, T k → U k ∨ w.heap.size ≤ k) : Ch w w' U :=
  ⟨h.os, h.tape, h.output, h.size, fun k hk ht => h.block k hk (fun h' => (hu k h').elim ht (fun h'' => by omega))⟩

end Go.Proofs.YtjjbgdmalefdlaaGreatDoor
end

section
namespace Go.Proofs.YtjjbgdmalefdlaaGreatDoor
open Go.RowKit

theorem drewN_is (w : World) (n : Nat) : Below w.heap.size w (w.drewN n) := ⟨rfl, rfl, rfl, Nat.le_refl _, fun _ _ => rfl⟩
theorem drewN_two (w : World) (a b : Nat) : (w.drewN a).drewN b = w.drewN (a + b) := by simp [World.drewN, Nat.add_assoc]
end Go.Proofs.YtjjbgdmalefdlaaGreatDoor
end

section
namespace Go.Proofs.YtjjbgdmalefdlaaGreatDoor
open Go.RowKit

section
variable {P : Program} {w : World} {ops : Array Oper} {rest : List Oper} {o : Oper} {a : Act} {Q : Exit → Act → World → Prop}
variable {t e : TypeId} {z : Value} {size by' : Nat}
theorem Ch.grown {w w' : World} {v : Value} (hg : w.grownBy w' v.ownBlock) : Ch w w' (fun k => v.ownBlock = some k) :=
  ⟨hg.os, hg.tape, hg.output, hg.size, fun i hi ht => hg.block i hi (fun e => ht e.symm)⟩
theorem wpl_append3 (R : RowTy P t e z size by') (hg : o.guard = none) (s x : Operand) (hop : o.op = Op.call { callee := Callee.builtin Builtin.append, args := #[s, x], argTypes := #[t, t] })
    {base n : Nat} {v : Value} {xs : List Value} (hown : w.ownsRow base e size v n xs) {ao : Option Addr} {m c : Nat} {news : List Value} (hsrc : SrcRow w ao m c news size)
    (hs : a.eval s = v) (hx : a.eval x = .slice ao m c) (h63 : n + m ≤ 9223372036854775807) (hbytes : (n + m) * by' ≤ 140737488355328) (hbase : base ≤ w.heap.size)
    (hK : ∀ v' w', w'.ownsRow base e size v' (n + m) (xs ++ news) → Ch w w' (fun k => v.ownBlock = some k) → (∀ k, v'.ownBlock = some k → v.ownBlock = some k ∨ w.heap.size ≤ k) → wpList P ops Q rest (a.put o.dst v') w') :
    wpList P ops Q (o :: rest) a w := by
  by_cases hm : 0 < m
  · cases ao with
    | none => have := (hsrc.hnone rfl).1; omega
    | some ad => exact wpl_append2 R hg s x hop hown hsrc hs hx hm h63 hbytes hbase (fun v' w' h1 st => hK v' w' h1 (Ch.step st) st.block)
  · obtain rfl : m = 0 := by omega
    rcases own_nil_or hown with ⟨rfl, rfl⟩ | ⟨g, cap, rfl, hle, _⟩
    · refine wpl_append R hg s x hop hown hsrc hs hx h63 hbytes hbase (fun v' w' h1 hg1 hiff => hK v' w' h1 (Ch.grown hg1) (fun k hk => ?_))
      rw [hiff.2 ⟨rfl, rfl⟩] at hk
      simp [Value.ownBlock] at hk
    · exact wpl_fits R hg s x hop hown hsrc hs hx (by omega) (fun w' h1 hg1 => hK _ w' h1 (Ch.grown hg1) (fun k hk => .inl (by simpa [Value.ownBlock] using hk)))
end
end Go.Proofs.YtjjbgdmalefdlaaGreatDoor
end

section
namespace Go.Proofs.YtjjbgdmalefdlaaGreatDoor
open Go.RowKit

theorem own_slot {w : World} {base g n cap : Nat} {e : TypeId} {xs : List Value} (h : w.ownsRow base e 1 (.slice (some ⟨g, 0, none⟩) n cap) n xs) (i : Nat) (hi : i < n) : (∃ z, w.cell? ⟨g, i, none⟩ = some z) ∧ w.frozen? ⟨g, i, none⟩ = false := by
  have hl := h.1
  refine ⟨⟨xs[i]'(by omega), by rw [h.cellAt i (by omega)]; simp⟩, ?_⟩
  rcases h.2 with ⟨h1, _⟩ | ⟨g2, cap2, cur, h1, _, hg, _⟩
  · simp at h1
  · simp only [Value.slice.injEq, Option.some.injEq, Addr.mk.injEq, and_true, true_and] at h1
    obtain ⟨rfl, rfl⟩ := h1
    exact frozen_of_row _ _ _ _ _ hg
end Go.Proofs.YtjjbgdmalefdlaaGreatDoor
end

section
namespace Go.Proofs.YtjjbgdmalefdlaaGreatDoor
open Go.RowKit
theorem dn_below (w : World) (n : Nat) : Below w.heap.size w (w.drewN n) := ⟨rfl, rfl, rfl, Nat.le_refl _, fun _ _ => rfl⟩
end Go.Proofs.YtjjbgdmalefdlaaGreatDoor
end
