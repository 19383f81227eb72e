/- Sums of products, and what is within bounds. -/
import Derived.Test.YtcagdnajapcmkaaBase
namespace Go.Proofs.Ytcagdnajapcmkaa

namespace Mg
/-- Are there at most n numbers, each from 0 to t? -/
def within (l : List Int) (n : Nat) (t : Int) : Bool := decide (l.length ≤ n) && l.all fun x => decide (0 ≤ x ∧ x ≤ t)
theorem within_big (l : List Int) (n : Nat) (t : Int) (h : n < l.length) : within l n t = false := by
  unfold within; rw [decide_eq_false (by omega)]; rfl
theorem within_bad (l : List Int) (n : Nat) (t : Int) (k : Nat) (hk : k < l.length) (h : l.getD k 0 < 0 ∨ t < l.getD k 0) : within l n t = false := by
  unfold within
  have : (l.all fun x => decide (0 ≤ x ∧ x ≤ t)) = false := by
    rw [List.all_eq_false]
    refine ⟨l[k], List.getElem_mem hk, ?_⟩
    have e : l.getD k 0 = l[k] := by simp [List.getD, List.getElem?_eq_getElem hk]
    rw [e] at h
    simp; omega
  rw [this, Bool.and_false]
theorem within_good (l : List Int) (n : Nat) (t : Int) (hn : l.length ≤ n) (h : ∀ k, k < l.length → 0 ≤ l.getD k 0 ∧ l.getD k 0 ≤ t) : within l n t = true := by
  unfold within
  rw [decide_eq_true hn, Bool.true_and, List.all_eq_true]
  intro x hx
  obtain ⟨k, hk, rfl⟩ := List.mem_iff_getElem.1 hx
  have := h k hk
  have e : l.getD k 0 = l[k] := by simp [List.getD, List.getElem?_eq_getElem hk]
  rw [e] at this
  exact decide_eq_true this
theorem within_len {l : List Int} {n : Nat} {t : Int} (h : within l n t = true) : l.length ≤ n := by
  unfold within at h; rw [Bool.and_eq_true] at h; exact of_decide_eq_true h.1
theorem within_at {l : List Int} {n : Nat} {t : Int} (h : within l n t = true) (k : Nat) (hk : k < l.length) : 0 ≤ l.getD k 0 ∧ l.getD k 0 ≤ t := by
  unfold within at h; rw [Bool.and_eq_true, List.all_eq_true] at h
  have := h.2 l[k] (List.getElem_mem hk)
  have e : l.getD k 0 = l[k] := by simp [List.getD, List.getElem?_eq_getElem hk]
  rw [e]; exact of_decide_eq_true this
/-- The sum of k products. -/
def dot (l m : List Int) : Nat → Int
  | 0 => 0
  | k + 1 => dot l m k + l.getD k 0 * m.getD k 0
theorem prod_le {x y a b : Int} (h0 : 0 ≤ x) (h1 : x ≤ a) (g0 : 0 ≤ y) (g1 : y ≤ b) : 0 ≤ x * y ∧ x * y ≤ a * b := by
  refine ⟨Int.mul_nonneg h0 g0, ?_⟩
  exact Int.le_trans (Int.mul_le_mul_of_nonneg_right h1 g0) (Int.mul_le_mul_of_nonneg_left g1 (Int.le_trans h0 h1))
theorem dot_le (l m : List Int) (k : Nat) (a b : Int) (h : ∀ j, j < k → 0 ≤ l.getD j 0 ∧ l.getD j 0 ≤ a) (g : ∀ j, j < k → 0 ≤ m.getD j 0 ∧ m.getD j 0 ≤ b) : 0 ≤ dot l m k ∧ dot l m k ≤ (a * b) * (k : Int) := by
  induction k with
  | zero => simp [dot]
  | succ k ih =>
    have h1 := ih (fun j hj => h j (by omega)) (fun j hj => g j (by omega))
    have h2 := prod_le (h k (by omega)).1 (h k (by omega)).2 (g k (by omega)).1 (g k (by omega)).2
    have e : (a * b) * ((k + 1 : Nat) : Int) = (a * b) * (k : Int) + a * b := by rw [Int.natCast_add, Int.mul_add]; simp
    rw [e]
    simp only [dot]
    omega
/-- How many aren't 0. -/
def used (l : List Int) : Nat := (l.filter fun x => decide (0 < x)).length
theorem used_snoc (l : List Int) (k : Nat) (h : k < l.length) : used (l.take (k + 1)) = used (l.take k) + (if 0 < l.getD k 0 then 1 else 0) := by
  have e : l.take (k + 1) = l.take k ++ [l.getD k 0] := by rw [List.take_succ_eq_append_getElem h]; simp [List.getD, List.getElem?_eq_getElem h]
  rw [e]
  unfold used
  rw [List.filter_append, List.length_append]
  by_cases hp : 0 < l.getD k 0
  · rw [if_pos hp, List.filter_cons_of_pos (by simpa using hp)]; rfl
  · rw [if_neg hp, List.filter_cons_of_neg (by simpa using hp)]; rfl
theorem used_le (l : List Int) : used l ≤ l.length := List.length_filter_le _ _
end Mg
end Go.Proofs.Ytcagdnajapcmkaa
