/- How many parts a picture has, and how great they are. -/
import Derived.Test.YtfdnjblbhbkndaaDoorLcMath
import Derived.Test.YtfdnjblbhbkndaaDoorLcSzMath
namespace Go.Proofs.YtfdnjblbhbkndaaDoor
namespace Lc
theorem of_le (p w h : Nat) : (of p w h).c ≤ w ∧ (of p w h).r ≤ h := by
  unfold of
  split
  · exact ⟨Nat.zero_le _, Nat.zero_le _⟩
  · exact ⟨stp_le'' _ _ _, stp_le'' _ _ _⟩
theorem from_mem (w h : Nat) : ∀ n p q, q ∈ from' w h p n → q.2.c ≤ w ∧ q.2.r ≤ h
  | 0, p, q, hq => by cases hq
  | n + 1, p, q, hq => by
    rcases List.mem_append.1 (show q ∈ (if 0 < (of p w h).c then [(p, of p w h)] else []) ++ from' w h (p + 1) n from hq) with h1 | h1
    · split at h1
      · have e : q = (p, of p w h) := by simpa using h1
        rw [e]; exact of_le p w h
      · cases h1
    · exact from_mem w h n (p + 1) q h1
theorem from_len (w h : Nat) : ∀ n p, (from' w h p n).length ≤ n
  | 0, p => Nat.le_refl _
  | n + 1, p => by
    have := from_len w h n (p + 1)
    show ((if 0 < (of p w h).c then [(p, of p w h)] else []) ++ from' w h (p + 1) n).length ≤ n + 1
    rw [List.length_append]
    split <;> simp <;> omega
theorem parts_mem (w h : Nat) (l : Int) (q : Nat × Pa) (hq : q ∈ parts w h l) : q.2.c ≤ w ∧ q.2.r ≤ h := by
  unfold parts at hq
  split at hq
  · have e : q = (0, ⟨0, 1, 0, 1, w, h⟩) := by simpa using hq
    rw [e]; exact ⟨Nat.le_refl _, Nat.le_refl _⟩
  · exact from_mem w h 7 0 q hq
theorem parts_len (w h : Nat) (l : Int) : (parts w h l).length ≤ 7 := by
  unfold parts
  split
  · simp
  · exact from_len w h 7 0
end Lc
end Go.Proofs.YtfdnjblbhbkndaaDoor
