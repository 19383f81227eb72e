/- burnishnum.Apart at three lists; the beginning of a slice. -/
import Derived.Test.YtbohhdakbgnaeaaApart2
import Derived.Test.YtbohhdakbgnaeaaBsTake
namespace Go.Proofs.Ytbohhdakbgnaeaa
open Go.RowKit

/-- The first k bytes. -/
theorem apart3 (B b : Nat) (v1 v2 v3 : Value) (n1 n2 n3 : Nat) (l1 l2 l3 : List UInt8) (W : World) (hbk : b = W.heap.size) (hB : B ≤ W.heap.size)
    (h1 : W.ownsRow B 5 1 v1 n1 (bvs l1)) (h2 : W.ownsRow B 5 1 v2 n2 (bvs l2)) (h3 : W.ownsRow B 5 1 v3 n3 (bvs l3))
    (h12 : ∀ g, v1.ownBlock = some g → v2.ownBlock ≠ some g) (h13 : ∀ g, v1.ownBlock = some g → v3.ownBlock ≠ some g) (h23 : ∀ g, v2.ownBlock = some g → v3.ownBlock ≠ some g)
    (hn1 : n1 ≤ 140737488355000) (hn2 : n2 ≤ 140737488355000) (hn3 : n3 ≤ 140737488355000) :
    Calls Try.prog 11 #[.slice (some ⟨b, 0, none⟩) 3 3] (W.alloc (.cells #[v1, v2, v3] 22)) fun e w' => e = .returned (.bool true) ∧ Below B W w' := by
  subst hbk
  obtain ⟨a1, c1, rfl⟩ := own_val h1
  obtain ⟨a2, c2, rfl⟩ := own_val h2
  obtain ⟨a3, c3, rfl⟩ := own_val h3
  have hb := below_alloc W (.cells #[.slice a1 n1 c1, .slice a2 n2 c2, .slice a3 n3 c3] 22)
  have three : ∀ (p : Nat → Prop), p 0 → p 1 → p 2 → ∀ i, i < ([⟨a1, n1, c1, l1⟩, ⟨a2, n2, c2, l2⟩, ⟨a3, n3, c3, l3⟩] : List Sl).length → p i := by
    intro p h0 h1 h2 i hi
    simp only [List.length_cons, List.length_nil] at hi
    rcases (show i = 0 ∨ i = 1 ∨ i = 2 by omega) with rfl | rfl | rfl
    · exact h0
    · exact h1
    · exact h2
  refine (apart_any B W.heap.size 0 3 3 [⟨a1, n1, c1, l1⟩, ⟨a2, n2, c2, l2⟩, ⟨a3, n3, c3, l3⟩] _ rfl (by omega) (by simp; omega) hB (by simp) ?_ ?_ ?_ ?_ ?_).mono ?_
  · intro i j hi hj hij g hg
    simp only [List.length_cons, List.length_nil] at hi hj
    rcases (show (i = 0 ∧ j = 1) ∨ (i = 1 ∧ j = 0) ∨ (i = 0 ∧ j = 2) ∨ (i = 2 ∧ j = 0) ∨ (i = 1 ∧ j = 2) ∨ (i = 2 ∧ j = 1) by omega) with ⟨rfl, rfl⟩ | ⟨rfl, rfl⟩ | ⟨rfl, rfl⟩ | ⟨rfl, rfl⟩ | ⟨rfl, rfl⟩ | ⟨rfl, rfl⟩
    · exact h12 g hg
    · exact fun he => h12 g he hg
    · exact h13 g hg
    · exact fun he => h13 g he hg
    · exact h23 g hg
    · exact fun he => h23 g he hg
  · refine three _ (fun he => ?_) (fun he => ?_) (fun he => ?_)
    · have := (h1.lt _ he).2; omega
    · have := (h2.lt _ he).2; omega
    · have := (h3.lt _ he).2; omega
  · exact three _ hn1 hn2 hn3
  · refine three _ ?_ ?_ ?_
    · rw [cell_of_row _ _ _ _ _ (0, 0) (heap_alloc_last W _)]; rfl
    · rw [cell_of_row _ _ _ _ _ (0, 0) (heap_alloc_last W _)]; rfl
    · rw [cell_of_row _ _ _ _ _ (0, 0) (heap_alloc_last W _)]; rfl
  · exact three _ (own_below h1 hb) (own_below h2 hb) (own_below h3 hb)
  · rintro e w' ⟨rfl, hb'⟩
    exact ⟨rfl, (hb.mono hB).trans hb'⟩
end Go.Proofs.Ytbohhdakbgnaeaa
