/- burnishnum.Apart at two lists. -/
import Derived.Test.YtbgaaocgdjkkeaaApart
namespace Go.Proofs.Ytbgaaocgdjkkeaa
open Go.RowKit

theorem own_val {w : World} {base : Nat} {e : TypeId} {v : Value} {n : Nat} {xs : List Value} (h : w.ownsRow base e 1 v n xs) : ∃ a cap, v = .slice a n cap := by
  rcases own_nil_or h with ⟨rfl, rfl⟩ | ⟨g, cap, rfl, _⟩
  · exact ⟨_, _, rfl⟩
  · exact ⟨_, _, rfl⟩
theorem apart2 (B b : Nat) (v1 v2 : Value) (n1 n2 : Nat) (l1 l2 : List UInt8) (W : World) (hbk : b = W.heap.size) (hB : B ≤ W.heap.size) (h1 : W.ownsRow B 5 1 v1 n1 (bvs l1)) (h2 : W.ownsRow B 5 1 v2 n2 (bvs l2))
    (hne : ∀ g, v1.ownBlock = some g → v2.ownBlock ≠ some g) (hn1 : n1 ≤ 140737488355000) (hn2 : n2 ≤ 140737488355000) :
    Calls Try.prog 25 #[.slice (some ⟨b, 0, none⟩) 2 2] (W.alloc (.cells #[v1, v2] 24)) fun e w' => e = .returned (.bool true) ∧ Below B W w' := by
  subst hbk
  obtain ⟨a1, c1, rfl⟩ := own_val h1
  obtain ⟨a2, c2, rfl⟩ := own_val h2
  have hb := below_alloc W (.cells #[.slice a1 n1 c1, .slice a2 n2 c2] 24)
  have e0 : nth [⟨a1, n1, c1, l1⟩, ⟨a2, n2, c2, l2⟩] 0 = ⟨a1, n1, c1, l1⟩ := rfl
  have e1 : nth [⟨a1, n1, c1, l1⟩, ⟨a2, n2, c2, l2⟩] 1 = ⟨a2, n2, c2, l2⟩ := rfl
  have two : ∀ (p : Nat → Prop), p 0 → p 1 → ∀ i, i < ([⟨a1, n1, c1, l1⟩, ⟨a2, n2, c2, l2⟩] : List Sl).length → p i := by
    intro p h0 h1 i hi
    simp only [List.length_cons, List.length_nil] at hi
    rcases (show i = 0 ∨ i = 1 by omega) with rfl | rfl
    · exact h0
    · exact h1
  refine (apart_any B W.heap.size 0 2 2 [⟨a1, n1, c1, l1⟩, ⟨a2, n2, c2, l2⟩] _ rfl (by omega) (by simp; omega) hB (by simp) ?_ ?_ ?_ ?_ ?_).mono ?_
  · intro i j hi hj hij g hg
    simp only [List.length_cons, List.length_nil] at hi hj
    rcases (show (i = 0 ∧ j = 1) ∨ (i = 1 ∧ j = 0) by omega) with ⟨rfl, rfl⟩ | ⟨rfl, rfl⟩
    · exact hne g hg
    · exact fun he => hne g he hg
  · refine two _ (fun he => ?_) (fun he => ?_)
    · have := (h1.lt _ he).2; omega
    · have := (h2.lt _ he).2; omega
  · exact two _ hn1 hn2
  · refine two _ ?_ ?_
    · rw [cell_of_row _ _ _ _ _ (0, 0) (heap_alloc_last W _)]; rfl
    · rw [cell_of_row _ _ _ _ _ (0, 0) (heap_alloc_last W _)]; rfl
  · exact two _ (own_below h1 hb) (own_below h2 hb)
  · rintro e w' ⟨rfl, hb'⟩
    exact ⟨rfl, (hb.mono hB).trans hb'⟩
end Go.Proofs.Ytbgaaocgdjkkeaa
