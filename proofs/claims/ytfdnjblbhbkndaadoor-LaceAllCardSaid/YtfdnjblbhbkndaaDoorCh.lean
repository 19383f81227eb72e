/- What a call may change: 'only blocks of T'. -/
import Derived.Test.YtfdnjblbhbkndaaDoorApartMem
namespace Go.Proofs.YtfdnjblbhbkndaaDoor
open Go.RowKit

/-- Only blocks of T may have changed; new ones may have come. -/
structure Ch (w w' : World) (T : Nat → Prop) : Prop where
  os : w'.os = w.os
  tape : w'.tape = w.tape
  output : w'.output = w.output
  size : w.heap.size ≤ w'.heap.size
  block : ∀ k, k < w.heap.size → ¬ T k → w'.heap[k]? = w.heap[k]?
theorem Ch.refl (w : World) (T : Nat → Prop) : Ch w w T := ⟨rfl, rfl, rfl, Nat.le_refl _, fun _ _ _ => rfl⟩
theorem Ch.of_below {w w' : World} {T : Nat → Prop} (h : Below w.heap.size w w') : Ch w w' T := ⟨h.os, h.tape, h.output, h.size, fun k hk _ => h.block k hk⟩
theorem Ch.trans {a b c : World} {T U : Nat → Prop} (h : Ch a b T) (k : Ch b c U) (hu : ∀ n, U n → T n ∨ a.heap.size ≤ n) : Ch a c T :=
  ⟨k.os.trans h.os, k.tape.trans h.tape, k.output.trans h.output, Nat.le_trans h.size k.size, fun i hi ht => (k.block i (Nat.lt_of_lt_of_le hi h.size) (fun hui => (hu i hui).elim ht (fun h' => by omega))).trans (h.block i hi ht)⟩
theorem Ch.drew {a w : World} {T : Nat → Prop} (h : Ch a w T) : Ch a w.drew T := ⟨h.os, h.tape, h.output, h.size, h.block⟩
theorem Ch.alloc {a w : World} {T : Nat → Prop} (h : Ch a w T) (o : Obj) : Ch a (w.alloc o) T :=
  h.trans (Ch.of_below (T := fun _ => False) (below_alloc w o)) (fun _ h => h.elim)
theorem Ch.set {a w : World} {T : Nat → Prop} (h : Ch a w T) {p : Addr} (hp : T p.block ∨ a.heap.size ≤ p.block) (u : Value) : Ch a (w.setCell p u) T :=
  h.trans (U := fun k => k = p.block) ⟨rfl, rfl, rfl, by simp, fun k _ ht => Below.heap_setCell w p u k ht⟩ (fun n hn => by subst hn; exact hp)
theorem Ch.below {w w' : World} {T : Nat → Prop} (h : Ch w w' T) {B : Nat} (hB : B ≤ w.heap.size) (ht : ∀ k, T k → B ≤ k) : Below B w w' :=
  ⟨h.os, h.tape, h.output, h.size, fun k hk => h.block k (by omega) (fun h' => by have := ht k h'; omega)⟩
theorem Ch.own {w w' : World} {T : Nat → Prop} (h : Ch w w' T) {base : Nat} {e : TypeId} {size : Nat} {v : Value} {n : Nat} {xs : List Value} (hv : w.ownsRow base e size v n xs) (hn : ∀ g, v.ownBlock = some g → ¬ T g) : w'.ownsRow base e size v n xs := by
  obtain ⟨h1, h2⟩ := hv
  refine ⟨h1, ?_⟩
  rcases h2 with h2 | ⟨g, cap, cur, rfl, hb, hg, r⟩
  · exact .inl h2
  · refine .inr ⟨g, cap, cur, rfl, hb, ?_, r⟩
    rw [h.block g (Array.getElem?_eq_some_iff.1 hg).1 (hn g rfl)]; exact hg
theorem Ch.step {w w' : World} {v v' : Value} (h : Step w w' v v') : Ch w w' (fun k => v.ownBlock = some k) := by
  rcases h with ⟨g, k, cap, k', rfl, _, hg⟩ | ⟨_, hg⟩
  · exact ⟨hg.os, hg.tape, hg.output, hg.size, fun i hi ht => hg.block i hi (fun e => ht (by simpa [Value.ownBlock] using e.symm))⟩
  · exact ⟨hg.os, hg.tape, hg.output, hg.size, fun i hi _ => hg.block i hi (by simp)⟩
theorem Ch.wide {w w' : World} {T U : Nat → Prop} (h : Ch w w' T) (hu : ∀ k, T k → U k ∨ w.heap.size ≤ k) : Ch w w' U :=
  ⟨h.os, h.tape, h.output, h.size, fun k hk ht => h.block k hk (fun h' => (hu k h').elim ht (fun h'' => by omega))⟩

end Go.Proofs.YtfdnjblbhbkndaaDoor
