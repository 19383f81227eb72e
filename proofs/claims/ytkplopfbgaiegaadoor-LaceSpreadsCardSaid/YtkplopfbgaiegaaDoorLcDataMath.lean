/- How many bytes all rows have: the pure part. -/
import Derived.Test.YtkplopfbgaiegaaDoorLcPassIt
import Derived.Test.YtkplopfbgaiegaaDoorHdRefRow
namespace Go.Proofs.YtkplopfbgaiegaaDoor
namespace Lc
open Hd
def one (x : H) (q : Nat × Pa) : Int := (q.2.r : Int) * (1 + row x q.2.c)
def dsum (x : H) : List (Nat × Pa) → Int
  | [] => 0
  | q :: s => one x q + dsum x s
theorem dsum_app (x : H) : ∀ s t, dsum x (s ++ t) = dsum x s + dsum x t
  | [], t => by simp [dsum]
  | q :: s, t => by simp [dsum, dsum_app x s t]; omega
theorem dsum_snoc (x : H) (s : List (Nat × Pa)) (q : Nat × Pa) : dsum x (s ++ [q]) = dsum x s + one x q := by rw [dsum_app]; simp [dsum]
theorem row_bd (x : H) (n : Int) : 0 ≤ row x n ∧ row x n ≤ 524281 := by
  unfold row
  split
  · omega
  · rename_i h
    have hg := good_all (show bad x = 0 by omega)
    have hd := dep_small hg.2.2.2.2.2.1
    have hc := chan_small x.c
    have h1 := Int.mul_nonneg (show 0 ≤ n by omega) hc.1
    have h2 := Int.mul_le_mul (show n ≤ 65535 by omega) hc.2 hc.1 (by omega)
    have h3 := Int.mul_nonneg h1 (show 0 ≤ x.d by omega)
    have h4 := Int.mul_le_mul (show n * chan x.c ≤ 262140 by omega) hd.2.1 (by omega) (by omega)
    omega
theorem one_bd (x : H) (q : Nat × Pa) (h : q.2.r ≤ 65535) : 0 ≤ one x q ∧ one x q ≤ 34358820870 := by
  have hr := row_bd x q.2.c
  unfold one
  have h1 := Int.mul_nonneg (show (0 : Int) ≤ (q.2.r : Int) by omega) (show 0 ≤ 1 + row x q.2.c by omega)
  have h2 := Int.mul_le_mul (show (q.2.r : Int) ≤ 65535 by omega) (show 1 + row x q.2.c ≤ 524282 by omega) (by omega) (by omega)
  omega
theorem dsum_bd (x : H) : ∀ s : List (Nat × Pa), (∀ q ∈ s, q.2.r ≤ 65535) → 0 ≤ dsum x s ∧ dsum x s ≤ s.length * 34358820870
  | [], _ => by simp [dsum]
  | q :: s, h => by
    have h1 := one_bd x q (h q (by simp))
    have h2 := dsum_bd x s (fun r hr => h r (List.mem_cons_of_mem _ hr))
    simp only [dsum, List.length_cons]
    omega
theorem of_le (p w h : Nat) : (of p w h).c ≤ w ∧ (of p w h).r ≤ h := by
  unfold of
  split
  · exact ⟨Nat.zero_le _, Nat.zero_le _⟩
  · exact ⟨stp_le'' _ _ _, stp_le'' _ _ _⟩
theorem from_mem (w h : Nat) : ∀ n p q, q ∈ from' w h p n → q.2.c ≤ w ∧ q.2.r ≤ h
  | 0, p, q, hq => by cases hq
  | n + 1, p, q, hq => by
    rcases List.mem_append.1 (show q ∈ (if 0 < (of p w h).c then [(p, of p w h)] else []) ++ from' w h (p + 1) n from hq) with h1 | h1
    · split at h1
      · have e : q = (p, of p w h) := by simpa using h1
        rw [e]; exact of_le p w h
      · cases h1
    · exact from_mem w h n (p + 1) q h1
theorem from_len (w h : Nat) : ∀ n p, (from' w h p n).length ≤ n
  | 0, p => Nat.le_refl _
  | n + 1, p => by
    have := from_len w h n (p + 1)
    show ((if 0 < (of p w h).c then [(p, of p w h)] else []) ++ from' w h (p + 1) n).length ≤ n + 1
    rw [List.length_append]
    split <;> simp <;> omega
theorem parts_mem (w h : Nat) (l : Int) (q : Nat × Pa) (hq : q ∈ parts w h l) : q.2.c ≤ w ∧ q.2.r ≤ h := by
  unfold parts at hq
  split at hq
  · have e : q = (0, ⟨0, 1, 0, 1, w, h⟩) := by simpa using hq
    rw [e]; exact ⟨Nat.le_refl _, Nat.le_refl _⟩
  · exact from_mem w h 7 0 q hq
theorem parts_len (w h : Nat) (l : Int) : (parts w h l).length ≤ 7 := by
  unfold parts
  split
  · simp
  · exact from_len w h 7 0
/-- How many bytes all rows have. -/
def data (x : H) : Int := if bad x ≠ 0 then 0 else dsum x (parts x.w.toNat x.h.toNat x.l)
/-- What stands before a round of the sum. -/
theorem pre_bd (x : H) (w h : Nat) (l : Int) (hh : h ≤ 65535) (pre : List (Nat × Pa)) (q : Nat × Pa) (s : List (Nat × Pa)) (e : parts w h l = pre ++ q :: s) :
    0 ≤ dsum x pre ∧ dsum x pre ≤ 7 * 34358820870 ∧ 0 ≤ one x q ∧ one x q ≤ 34358820870 ∧ q.2.r ≤ 65535 := by
  have hm : ∀ r ∈ pre ++ q :: s, r.2.r ≤ 65535 := fun r hr => by
    rw [← e] at hr
    have := (parts_mem w h l r hr).2
    omega
  have h1 := dsum_bd x pre (fun r hr => hm r (List.mem_append_left _ hr))
  have hl := parts_len w h l
  rw [e, List.length_append, List.length_cons] at hl
  have hq := hm q (by simp)
  have h2 := one_bd x q hq
  refine ⟨h1.1, ?_, h2.1, h2.2, hq⟩
  have : (pre.length : Int) * 34358820870 ≤ 7 * 34358820870 := Int.mul_le_mul_of_nonneg_right (by omega) (by omega)
  omega
end Lc
end Go.Proofs.YtkplopfbgaiegaaDoor
