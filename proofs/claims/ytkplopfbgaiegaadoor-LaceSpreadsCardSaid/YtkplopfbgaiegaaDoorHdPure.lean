/- Heads of PNGs: the pure functions. -/
import Derived.Test.YtkplopfbgaiegaaDoorBase
import Derived.Test.YtkplopfbgaiegaaDoorProg
namespace Go.Proofs.YtkplopfbgaiegaaDoor
open Go.RowKit

namespace Hd
structure H where
  w : Int
  h : Int
  d : Int
  c : Int
  l : Int
def H.val (x : H) : Value := .agg #[.int .i64 x.w, .int .i64 x.h, .int .i64 x.d, .int .i64 x.c, .int .i64 x.l]
def zero : H := ⟨0, 0, 0, 0, 0⟩
def three : H := ⟨3, 1, 2, 0, 0⟩
/-- The depths of a color type. -/
def deps (c : Int) : List Int := if c = 0 then [1, 2, 4, 8, 16] else if c = 3 then [1, 2, 4, 8] else if c = 2 ∨ c = 4 ∨ c = 6 then [8, 16] else []
def malf (x : H) : Bool := decide (x.w < 1) || decide (x.h < 1) || !(deps x.c).contains x.d || !(x.l == 0 || x.l == 1)
def large (x : H) : Bool := decide (65535 < x.w) || decide (65535 < x.h) || decide (262144 < x.w * x.h)
def bad (x : H) : Nat := if malf x then 2 else if large x then 4 else 0
def errV (n : Nat) : Value := if n = 0 then .nilIface else .iface 40 (.int .i64 n)
def chan (c : Int) : Int := if c = 0 then 1 else if c = 2 then 3 else if c = 3 then 1 else if c = 4 then 2 else if c = 6 then 4 else 0
def row (x : H) (n : Int) : Int := if bad x ≠ 0 ∨ n < 1 ∨ 65535 < n then 0 else (n * chan x.c * x.d + 7) / 8
/-- What a good head keeps. -/
theorem good_all {x : H} (h : bad x = 0) : 1 ≤ x.w ∧ x.w ≤ 65535 ∧ 1 ≤ x.h ∧ x.h ≤ 65535 ∧ x.w * x.h ≤ 262144 ∧ x.d ∈ deps x.c ∧ (x.l = 0 ∨ x.l = 1) := by
  unfold bad at h
  by_cases hm : malf x = true
  · rw [if_pos hm] at h; omega
  · rw [if_neg hm] at h
    by_cases hl : large x = true
    · rw [if_pos hl] at h; omega
    · unfold malf at hm
      unfold large at hl
      simp only [Bool.or_eq_true, Bool.not_eq_true', Bool.or_eq_false_iff, not_or, decide_eq_true_eq, Bool.not_eq_true, List.contains_eq_mem, decide_eq_false_iff_not, Decidable.not_not, beq_eq_false_iff_ne, ne_eq, not_and] at hm hl
      obtain ⟨⟨⟨h1, h2⟩, h3⟩, h4⟩ := hm
      obtain ⟨⟨h5, h6⟩, h7⟩ := hl
      refine ⟨by omega, by omega, by omega, by omega, by omega, by simpa using h3, ?_⟩
      by_cases h0 : x.l = 0
      · exact .inl h0
      · exact .inr (h4 h0)
theorem dep_small {c d : Int} (h : d ∈ deps c) : 1 ≤ d ∧ d ≤ 16 ∧ (c = 0 ∨ c = 2 ∨ c = 3 ∨ c = 4 ∨ c = 6) := by
  unfold deps at h
  by_cases h0 : c = 0
  · rw [if_pos h0] at h; simp at h; omega
  · rw [if_neg h0] at h
    by_cases h3 : c = 3
    · rw [if_pos h3] at h; simp at h; omega
    · rw [if_neg h3] at h
      by_cases h2 : c = 2 ∨ c = 4 ∨ c = 6
      · rw [if_pos h2] at h; simp at h; omega
      · rw [if_neg h2] at h; simp at h
theorem chan_small (c : Int) : 0 ≤ chan c ∧ chan c ≤ 4 := by
  unfold chan
  repeat' split
  all_goals omega
end Hd
end Go.Proofs.YtkplopfbgaiegaaDoor
