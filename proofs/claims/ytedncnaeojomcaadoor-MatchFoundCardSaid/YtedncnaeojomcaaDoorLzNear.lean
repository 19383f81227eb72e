/- The nearest match of a length, by a place's records. -/
import Derived.Test.YtedncnaeojomcaaDoorLzForest
namespace Go.Proofs.YtedncnaeojomcaaDoor.Lz
/-- Is there a match of n bytes at a distance? -/
def Mat (b : Nat → Nat) (N t n far : Nat) : Prop := 1 ≤ far ∧ far ≤ t ∧ far ≤ 32768 ∧ n ≤ cp b (t - far) t (L N t)
/-- The first record of at least n bytes is the nearest match of n bytes. -/
theorem near_some {b : Nat → Nat} {N t n : Nat} {R : List (Nat × Nat)} {q : Nat × Nat} (h : Rec b N t R) (h3 : 3 ≤ n) (hq : R.find? (fun q => decide (n ≤ q.1)) = some q) :
    Mat b N t n q.2 ∧ ∀ far, far < q.2 → ¬ Mat b N t n far := by
  obtain ⟨hp, as, bs, hR, has⟩ := List.find?_eq_some_iff_append.1 hq
  have hn : n ≤ q.1 := by simpa using hp
  have hmem : q ∈ R := by rw [hR]; simp
  obtain ⟨s1, s2, s3, s4, s5⟩ := h.2.1 q hmem
  refine ⟨⟨s1, s2, s3, by rw [← s5]; exact hn⟩, fun far hlt hm => ?_⟩
  obtain ⟨q', hq', k1, k2⟩ := h.2.2 far hm.1 hm.2.1 hm.2.2.1 (by have := hm.2.2.2; omega)
  have hn' : n ≤ q'.1 := Nat.le_trans hm.2.2.2 k2
  have hpw := h.1
  rw [hR] at hq' hpw
  rcases List.mem_append.1 hq' with h1 | h1
  · have := has q' h1
    simp at this
    omega
  · rcases List.mem_cons.1 h1 with rfl | h1
    · omega
    · have := (List.pairwise_append.1 hpw).2.1
      have := (List.pairwise_cons.1 this).1 q' h1
      omega
theorem near_none {b : Nat → Nat} {N t n : Nat} {R : List (Nat × Nat)} (h : Rec b N t R) (h3 : 3 ≤ n) (hq : R.find? (fun q => decide (n ≤ q.1)) = none) : ∀ far, ¬ Mat b N t n far := fun far hm => by
  obtain ⟨q', hq', k1, k2⟩ := h.2.2 far hm.1 hm.2.1 hm.2.2.1 (by have := hm.2.2.2; omega)
  have := List.find?_eq_none.1 hq q' hq'
  simp at this
  have := hm.2.2.2
  omega
/-- The longest match is the last record. -/
theorem last_most {b : Nat → Nat} {N t : Nat} {R : List (Nat × Nat)} {q : Nat × Nat} (h : Rec b N t R) (hq : R.getLast? = some q) : (∀ p, p ∈ R → p.1 ≤ q.1 ∧ p.2 ≤ q.2) ∧ ∀ n far, 3 ≤ n → Mat b N t n far → n ≤ q.1 := by
  have hall : ∀ p, p ∈ R → p.1 ≤ q.1 ∧ p.2 ≤ q.2 := fun p hp => by
    obtain ⟨as, hR⟩ := List.getLast?_eq_some_iff.1 hq
    have hpw := h.1
    rw [hR] at hp hpw
    rcases List.mem_append.1 hp with h1 | h1
    · have := (List.pairwise_append.1 hpw).2.2 p h1 q (by simp)
      omega
    · simp at h1; subst h1; exact ⟨Nat.le_refl _, Nat.le_refl _⟩
  refine ⟨hall, fun n far h3 hm => ?_⟩
  obtain ⟨q', hq', k1, k2⟩ := h.2.2 far hm.1 hm.2.1 hm.2.2.1 (by have := hm.2.2.2; omega)
  have := (hall q' hq').1
  have := hm.2.2.2
  omega
end Go.Proofs.YtedncnaeojomcaaDoor.Lz
