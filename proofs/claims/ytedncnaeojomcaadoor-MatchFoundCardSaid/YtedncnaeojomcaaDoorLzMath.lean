/- Places of a text by what stands there: how many bytes are common, and the order of their beginnings. -/
import Derived.Test.YtedncnaeojomcaaDoorBase
namespace Go.Proofs.YtedncnaeojomcaaDoor.Lz
/-- How many bytes from x and from y on are alike, n at most. -/
def cp (b : Nat → Nat) (x y : Nat) : Nat → Nat
  | 0 => 0
  | n + 1 => if b x = b y then cp b (x + 1) (y + 1) n + 1 else 0
theorem cp_le (b : Nat → Nat) : ∀ (n x y : Nat), cp b x y n ≤ n
  | 0, _, _ => Nat.le_refl _
  | n + 1, x, y => by
    unfold cp
    split
    · have := cp_le b n (x + 1) (y + 1); omega
    · omega
theorem cp_eq (b : Nat → Nat) : ∀ (n x y k : Nat), k < cp b x y n → b (x + k) = b (y + k)
  | 0, _, _, _, h => by simp [cp] at h
  | n + 1, x, y, k, h => by
    unfold cp at h
    split at h
    · rename_i he
      cases k with
      | zero => simpa using he
      | succ k =>
        have := cp_eq b n (x + 1) (y + 1) k (by omega)
        rwa [show x + 1 + k = x + (k + 1) by omega, show y + 1 + k = y + (k + 1) by omega] at this
    · omega
theorem cp_ne (b : Nat → Nat) : ∀ (n x y : Nat), cp b x y n < n → b (x + cp b x y n) ≠ b (y + cp b x y n)
  | 0, _, _, h => by omega
  | n + 1, x, y, h => by
    unfold cp at h ⊢
    split
    · rename_i he
      rw [if_pos he] at h
      have := cp_ne b n (x + 1) (y + 1) (by omega)
      rwa [show x + 1 + cp b (x + 1) (y + 1) n = x + (cp b (x + 1) (y + 1) n + 1) by omega, show y + 1 + cp b (x + 1) (y + 1) n = y + (cp b (x + 1) (y + 1) n + 1) by omega] at this
    · rename_i he; simpa using he
/-- So many are alike, and no more. -/
theorem cp_is {b : Nat → Nat} {n x y k : Nat} (hk : k ≤ n) (he : ∀ i, i < k → b (x + i) = b (y + i)) (hn : k < n → b (x + k) ≠ b (y + k)) : cp b x y n = k := by
  have h1 := cp_le b n x y
  rcases Nat.lt_trichotomy (cp b x y n) k with h | h | h
  · exact absurd (he _ h) (cp_ne b n x y (by omega))
  · exact h
  · exact absurd (cp_eq b n x y k h) (hn (by omega))
theorem cp_ge {b : Nat → Nat} {n x y k : Nat} (hk : k ≤ n) (he : ∀ i, i < k → b (x + i) = b (y + i)) : k ≤ cp b x y n := by
  have h1 := cp_le b n x y
  rcases Nat.lt_or_ge (cp b x y n) k with h | h
  · exact absurd (he _ h) (cp_ne b n x y (by omega))
  · exact h
theorem cp_comm (b : Nat → Nat) (x y n : Nat) : cp b x y n = cp b y x n :=
  cp_is (cp_le b n y x) (fun i hi => (cp_eq b n y x i hi).symm) (fun h e => cp_ne b n y x h e.symm)
theorem cp_self (b : Nat → Nat) (x n : Nat) : cp b x x n = n := cp_is (Nat.le_refl _) (fun _ _ => rfl) (fun h => absurd h (by omega))
theorem cp_min (b : Nat → Nat) (x y : Nat) {m n : Nat} (h : m ≤ n) : cp b x y m = min (cp b x y n) m := by
  have h1 := cp_le b n x y
  refine cp_is (Nat.min_le_right _ _) (fun i hi => cp_eq b n x y i (by omega)) (fun hlt => ?_)
  have e : min (cp b x y n) m = cp b x y n := by omega
  rw [e]
  exact cp_ne b n x y (by omega)
/-- Three places: two of the three numbers bound the third from below. -/
theorem cp_tri (b : Nat → Nat) (x y z n : Nat) : min (cp b x y n) (cp b y z n) ≤ cp b x z n := by
  have h1 := cp_le b n x y
  exact cp_ge (by omega) (fun i hi => (cp_eq b n x y i (by omega)).trans (cp_eq b n y z i (by omega)))
/-- What stands at x, n bytes of it, is not behind what stands at y. -/
def le (b : Nat → Nat) (n x y : Nat) : Prop := cp b x y n = n ∨ b (x + cp b x y n) < b (y + cp b x y n)
theorem le_total (b : Nat → Nat) (n x y : Nat) : le b n x y ∨ le b n y x := by
  by_cases h : cp b x y n = n
  · exact .inl (.inl h)
  · have h1 := cp_le b n x y
    have h2 := cp_ne b n x y (by omega)
    rcases Nat.lt_or_ge (b (x + cp b x y n)) (b (y + cp b x y n)) with h3 | h3
    · exact .inl (.inr h3)
    · refine .inr (.inr ?_)
      rw [cp_comm b y x n]
      omega
theorem le_less {b : Nat → Nat} {m n x y : Nat} (h : le b n x y) (hm : m ≤ n) : le b m x y := by
  have e := cp_min b x y hm
  have h1 := cp_le b n x y
  rcases h with h | h
  · exact .inl (by omega)
  · by_cases hc : cp b x y n < m
    · refine .inr ?_
      rw [e, Nat.min_eq_left (by omega)]
      exact h
    · exact .inl (by omega)
/-- What lies between two has at least as many in common with each as they have. -/
theorem between {b : Nat → Nat} {n x y z : Nat} (h1 : le b n x y) (h2 : le b n y z) : le b n x z ∧ cp b x z n ≤ cp b x y n ∧ cp b x z n ≤ cp b y z n := by
  have a1 := cp_le b n x y
  have a2 := cp_le b n y z
  have a3 := cp_le b n x z
  have t1 := cp_tri b x y z n
  have t2 := cp_tri b x z y n
  have t3 := cp_tri b y x z n
  rw [cp_comm b z y n] at t2
  rw [cp_comm b y x n] at t3
  have key : cp b x z n ≤ cp b x y n := by
    rcases Nat.lt_or_ge (cp b x y n) (cp b x z n) with h | h
    · exfalso
      have e1 : cp b y z n = cp b x y n := by omega
      have q1 := cp_eq b n x z (cp b x y n) h
      rcases h1 with h1 | h1
      · omega
      · rcases h2 with h2 | h2
        · omega
        · rw [e1] at h2; omega
    · exact h
  have key2 : cp b x z n ≤ cp b y z n := by omega
  refine ⟨?_, key, key2⟩
  by_cases hn : cp b x z n = n
  · exact .inl hn
  · rcases Nat.lt_trichotomy (cp b x y n) (cp b y z n) with h | h | h
    · have e : cp b x z n = cp b x y n := by omega
      refine .inr ?_
      rw [e]
      have q := cp_eq b n y z (cp b x y n) h
      rcases h1 with h1 | h1
      · omega
      · omega
    · have e : cp b x z n = cp b x y n := by omega
      refine .inr ?_
      rw [e]
      rcases h1 with h1 | h1
      · omega
      · rcases h2 with h2 | h2
        · omega
        · rw [← h] at h2; omega
    · have e : cp b x z n = cp b y z n := by omega
      refine .inr ?_
      rw [e]
      have q := cp_eq b n x y (cp b y z n) h
      rcases h2 with h2 | h2
      · omega
      · omega
/-- One that is all alike is like the other towards all. -/
theorem cp_like {b : Nat → Nat} {n x y : Nat} (h : cp b x y n = n) (z : Nat) : cp b x z n = cp b y z n := by
  have a2 := cp_le b n y z
  have a3 := cp_le b n x z
  have t1 := cp_tri b x y z n
  have t2 := cp_tri b y x z n
  rw [cp_comm b y x n] at t2
  omega
end Go.Proofs.YtedncnaeojomcaaDoor.Lz
