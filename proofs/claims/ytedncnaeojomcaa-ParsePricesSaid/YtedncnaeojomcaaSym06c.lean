/- Which symbol holds a length or a distance. -/
import Derived.Test.YtedncnaeojomcaaSym06t
import Derived.Test.YtedncnaeojomcaaSym06b
namespace Go.Proofs.Ytedncnaeojomcaa
open Go.RowKit
namespace Sy
theorem held4 {a r : Nat} (ha : a < 255) (h : Held a 4 r) : r ≤ 27 ∧ (lb r).1 ≤ a + 3 ∧ a + 3 < (lb (r + 1)).1 := by
  obtain ⟨e, he, h1, h2, h3⟩ := h
  have T : ∀ e, e < 6 → ∀ q, q < 8 → (e = 0 ∨ 4 ≤ q) → (lb (e * 4 + q)).1 = 3 + q * 2 ^ e ∧ (e * 4 + q < 27 → (lb (e * 4 + q + 1)).1 = 3 + 2 ^ e * (q + 1)) := by decide +kernel
  have l1 := Nat.div_mul_le_self a (2 ^ e)
  have l2 := Nat.lt_mul_div_succ a (Nat.two_pow_pos e)
  have h6 : e < 6 := by
    rcases Nat.lt_or_ge e 6 with h | h
    · exact h
    · have p : 2 ^ 6 ≤ 2 ^ e := Nat.pow_le_pow_right (by omega) h
      have := Nat.mul_le_mul (show 4 ≤ a / 2 ^ e by omega) p
      omega
  generalize a / 2 ^ e = q at *
  obtain ⟨t1, t2⟩ := T e h6 q h1 h2
  subst he
  refine ⟨by omega, by omega, ?_⟩
  by_cases h27 : e * 4 + q = 27
  · rw [h27]; have : (lb (27 + 1)).1 = 258 := by decide
    omega
  · rw [t2 (by omega)]; omega
theorem held2 {a r : Nat} (ha : a < 32768) (h : Held a 2 r) : r ≤ 29 ∧ (db r).1 ≤ a + 1 ∧ (r < 29 → a + 1 < (db (r + 1)).1) := by
  obtain ⟨e, he, h1, h2, h3⟩ := h
  have T : ∀ e, e < 14 → ∀ q, q < 4 → (e = 0 ∨ 2 ≤ q) → (db (e * 2 + q)).1 = 1 + q * 2 ^ e ∧ (e * 2 + q < 29 → (db (e * 2 + q + 1)).1 = 1 + 2 ^ e * (q + 1)) := by decide +kernel
  have l1 := Nat.div_mul_le_self a (2 ^ e)
  have l2 := Nat.lt_mul_div_succ a (Nat.two_pow_pos e)
  have h6 : e < 14 := by
    rcases Nat.lt_or_ge e 14 with h | h
    · exact h
    · have p : 2 ^ 14 ≤ 2 ^ e := Nat.pow_le_pow_right (by omega) h
      have := Nat.mul_le_mul (show 2 ≤ a / 2 ^ e by omega) p
      omega
  generalize a / 2 ^ e = q at *
  obtain ⟨t1, t2⟩ := T e h6 q h1 h2
  subst he
  exact ⟨by omega, by omega, fun h => by rw [t2 h]; omega⟩
end Sy
end Go.Proofs.Ytedncnaeojomcaa
