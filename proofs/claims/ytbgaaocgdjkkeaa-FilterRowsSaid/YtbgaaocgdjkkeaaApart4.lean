/- burnishnum.Apart at four lists, each in a block of its own. -/
import Derived.Test.YtbgaaocgdjkkeaaApart2
namespace Go.Proofs.Ytbgaaocgdjkkeaa
open Go.RowKit

/-- Lists of the call's own, in a new block. -/
theorem apartL (B b n : Nat) (ss : List Sl) (W : World) (cs : Array Value) (hcs : (ss.map Sl.val).toArray = cs) (hbk : b = W.heap.size) (hB : B ≤ W.heap.size) (hn : ss.length = n) (hn2 : n ≤ 1000)
    (ho : ∀ i, i < ss.length → W.ownsRow B 5 1 (nth ss i).val (nth ss i).len (bvs (nth ss i).l)) (hd : Dj ss) (hl : ∀ i, i < ss.length → (nth ss i).len ≤ 140737488355000) :
    Calls Try.prog 25 #[.slice (some ⟨b, 0, none⟩) n n] (W.alloc (.cells cs 24)) fun e w' => e = .returned (.bool true) ∧ Below B W w' := by
  subst hbk
  subst hcs
  have hb := below_alloc W (.cells (ss.map Sl.val).toArray 24)
  refine (apart_any B W.heap.size 0 n n ss _ hn hn2 (by simp; omega) hB (by simp) hd (fun i hi he => ?_) hl (fun i hi => ?_) (fun i hi => own_below (ho i hi) hb)).mono ?_
  · have := ((ho i hi).lt _ he).2; omega
  · rw [cell_of_row _ _ _ _ _ (0, 0) (heap_alloc_last W _), Nat.zero_add, nth_get ss i hi]
    simp [Sl.val, List.getElem?_eq_getElem hi]
  · rintro e w' ⟨rfl, hb'⟩
    exact ⟨rfl, (hb.mono hB).trans hb'⟩
theorem apart4 (B b : Nat) (g1 g2 g3 g4 n1 n2 n3 n4 c1 c2 c3 c4 : Nat) (l1 l2 l3 l4 : List UInt8) (W : World) (hbk : b = W.heap.size) (hB : B ≤ W.heap.size)
    (h1 : W.ownsRow B 5 1 (.slice (some ⟨g1, 0, none⟩) n1 c1) n1 (bvs l1)) (h2 : W.ownsRow B 5 1 (.slice (some ⟨g2, 0, none⟩) n2 c2) n2 (bvs l2))
    (h3 : W.ownsRow B 5 1 (.slice (some ⟨g3, 0, none⟩) n3 c3) n3 (bvs l3)) (h4 : W.ownsRow B 5 1 (.slice (some ⟨g4, 0, none⟩) n4 c4) n4 (bvs l4))
    (hd : g1 ≠ g2 ∧ g1 ≠ g3 ∧ g1 ≠ g4 ∧ g2 ≠ g3 ∧ g2 ≠ g4 ∧ g3 ≠ g4) (hn : n1 ≤ 140737488355000 ∧ n2 ≤ 140737488355000 ∧ n3 ≤ 140737488355000 ∧ n4 ≤ 140737488355000) :
    Calls Try.prog 25 #[.slice (some ⟨b, 0, none⟩) 4 4] (W.alloc (.cells #[.slice (some ⟨g1, 0, none⟩) n1 c1, .slice (some ⟨g2, 0, none⟩) n2 c2, .slice (some ⟨g3, 0, none⟩) n3 c3, .slice (some ⟨g4, 0, none⟩) n4 c4] 24)) fun e w' => e = .returned (.bool true) ∧ Below B W w' := by
  have four : ∀ (p : Nat → Prop), p 0 → p 1 → p 2 → p 3 → ∀ i, i < ([⟨some ⟨g1, 0, none⟩, n1, c1, l1⟩, ⟨some ⟨g2, 0, none⟩, n2, c2, l2⟩, ⟨some ⟨g3, 0, none⟩, n3, c3, l3⟩, ⟨some ⟨g4, 0, none⟩, n4, c4, l4⟩] : List Sl).length → p i := by
    intro p h0 h1 h2 h3 i hi
    simp only [List.length_cons, List.length_nil] at hi
    rcases (show i = 0 ∨ i = 1 ∨ i = 2 ∨ i = 3 by omega) with rfl | rfl | rfl | rfl
    · exact h0
    · exact h1
    · exact h2
    · exact h3
  refine apartL B b 4 [⟨some ⟨g1, 0, none⟩, n1, c1, l1⟩, ⟨some ⟨g2, 0, none⟩, n2, c2, l2⟩, ⟨some ⟨g3, 0, none⟩, n3, c3, l3⟩, ⟨some ⟨g4, 0, none⟩, n4, c4, l4⟩] W _ rfl hbk hB rfl (by omega) (four _ h1 h2 h3 h4) ?_ (four _ hn.1 hn.2.1 hn.2.2.1 hn.2.2.2)
  obtain ⟨d1, d2, d3, d4, d5, d6⟩ := hd
  intro i j hi hj hij g hg he
  have key : ∀ k, k < 4 → (nth [⟨some ⟨g1, 0, none⟩, n1, c1, l1⟩, ⟨some ⟨g2, 0, none⟩, n2, c2, l2⟩, ⟨some ⟨g3, 0, none⟩, n3, c3, l3⟩, ⟨some ⟨g4, 0, none⟩, n4, c4, l4⟩] k).val.ownBlock = some (if k = 0 then g1 else if k = 1 then g2 else if k = 2 then g3 else g4) := by
    intro k hk
    rcases (show k = 0 ∨ k = 1 ∨ k = 2 ∨ k = 3 by omega) with rfl | rfl | rfl | rfl <;> rfl
  simp only [List.length_cons, List.length_nil] at hi hj
  rw [key i (by omega)] at hg
  rw [key j (by omega)] at he
  have hx := Option.some.inj (hg.trans he.symm)
  clear hg he key four h1 h2 h3 h4 hn
  rcases (show i = 0 ∨ i = 1 ∨ i = 2 ∨ i = 3 by omega) with rfl | rfl | rfl | rfl <;> rcases (show j = 0 ∨ j = 1 ∨ j = 2 ∨ j = 3 by omega) with rfl | rfl | rfl | rfl <;> simp at hx hij <;> omega
end Go.Proofs.Ytbgaaocgdjkkeaa
