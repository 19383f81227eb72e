/- The lengths that merging by packages finds. -/
import Derived.Test.YtcagdnajapcmkaaPmMath
namespace Go.Proofs.Ytcagdnajapcmkaa

namespace Mg
/-- What is to be taken of the (m + 1)-st last round. -/
def tk (R : List Int) (L t : Nat) : Nat → Nat
  | 0 => t
  | m + 1 => 2 * (tk R L t m - syN (rnd R (L - m)) (tk R L t m))
def cut (R : List Int) (L t m : Nat) : Nat := syN (rnd R (L - m)) (tk R L t m)
theorem tk_shift (R : List Int) (L t : Nat) : ∀ m, tk R (L + 1) t (m + 1) = tk R L (2 * (t - syN (rnd R (L + 1)) t)) m
  | 0 => rfl
  | m + 1 => by
    have ih := tk_shift R L t m
    show 2 * (tk R (L + 1) t (m + 1) - syN (rnd R (L + 1 - (m + 1))) (tk R (L + 1) t (m + 1))) = _
    rw [ih, show L + 1 - (m + 1) = L - m by omega]
    rfl
theorem back_eq (R : List Int) : ∀ (L t : Nat), back R L t = (List.range L).map (cut R L t)
  | 0, _ => rfl
  | L + 1, t => by
    rw [back, back_eq R L, List.range_succ_eq_map, List.map_cons, List.map_map]
    congr 1
    apply List.map_congr_left
    intro m _
    show cut R L _ m = cut R (L + 1) t (m + 1)
    unfold cut
    rw [tk_shift, show L + 1 - (m + 1) = L - m by omega]
theorem tk_le (R : List Int) (L t : Nat) (ht : t ≤ (rnd R L).length) : ∀ m, m ≤ L → tk R L t m ≤ (rnd R (L - m)).length
  | 0, _ => ht
  | m + 1, h => by
    have ih := tk_le R L t ht m (by omega)
    obtain ⟨r, hr⟩ : ∃ r, L - m = r + 1 := ⟨L - m - 1, by omega⟩
    rw [tk, hr, show L - (m + 1) = r by omega]
    rw [hr] at ih
    exact (rnd_split R r _ ih).2.1
/-- How often symbol i is taken from m rounds. -/
def tim (R : List Int) (L t m i : Nat) : Nat := (((List.range m).map (cut R L t)).filter fun c => decide (i < c)).length
theorem tim_succ (R : List Int) (L t m i : Nat) : tim R L t (m + 1) i = tim R L t m i + (if i < cut R L t m then 1 else 0) := by
  unfold tim
  rw [List.range_succ, List.map_append, List.filter_append, List.length_append]
  by_cases h : i < cut R L t m <;> simp [h]
theorem tim_le (R : List Int) (L t m i : Nat) : tim R L t m i ≤ m := by
  unfold tim
  refine Nat.le_trans (List.length_filter_le _ _) ?_
  simp
/-- The lengths of the symbols, the rarest one first. -/
def lens (R : List Int) (L : Nat) : List Int := if R.length < 2 then List.replicate R.length 1 else (List.range R.length).map fun i => ((tim R L (2 * R.length - 2) L i : Nat) : Int)
theorem lens_length (R : List Int) (L : Nat) : (lens R L).length = R.length := by
  unfold lens; split <;> simp
/-- In the midst: m rounds are done, and k symbols of the next one. -/
def outL (R : List Int) (L t m k : Nat) : List Int := (List.range R.length).map fun i => ((tim R L t m i + (if i < k then 1 else 0) : Nat) : Int)
theorem outL_length (R : List Int) (L t m k : Nat) : (outL R L t m k).length = R.length := by simp [outL]
theorem outL_get (R : List Int) (L t m k i : Nat) (h : i < R.length) : (outL R L t m k).getD i 0 = ((tim R L t m i + (if i < k then 1 else 0) : Nat) : Int) := by
  simp [outL, List.getD, List.getElem?_range h]
theorem outL_start (R : List Int) (L t : Nat) : outL R L t 0 0 = List.replicate R.length 0 := by
  rw [List.eq_replicate_iff]
  refine ⟨outL_length _ _ _ _ _, fun b hb => ?_⟩
  simp only [outL, List.mem_map] at hb
  obtain ⟨i, _, rfl⟩ := hb
  simp [tim]
theorem outL_set (R : List Int) (L t m k : Nat) (h : k < R.length) : (outL R L t m k).set k (((tim R L t m k : Nat) : Int) + 1) = outL R L t m (k + 1) := by
  apply List.ext_getElem?
  intro i
  rw [List.getElem?_set, outL_length]
  by_cases hi : i < R.length
  · have e1 : ∀ k, (outL R L t m k)[i]? = some ((tim R L t m i + (if i < k then 1 else 0) : Nat) : Int) := fun k => by simp [outL, List.getElem?_range hi]
    rw [e1, e1]
    by_cases hk : k = i
    · subst hk
      rw [if_pos rfl, if_pos hi, if_pos (by omega)]
      simp
    · rw [if_neg hk]
      by_cases h2 : i < k
      · rw [if_pos h2, if_pos (by omega)]
      · rw [if_neg h2, if_neg (by omega)]
  · have e1 : ∀ k, (outL R L t m k)[i]? = none := fun k => by rw [List.getElem?_eq_none]; rw [outL_length]; omega
    rw [e1, e1]
    split
    · rename_i e; omega
    · rfl
theorem outL_next (R : List Int) (L t m : Nat) : outL R L t m (cut R L t m) = outL R L t (m + 1) 0 := by
  unfold outL
  apply List.map_congr_left
  intro i _
  rw [tim_succ]
  simp
theorem outL_end (R : List Int) (L : Nat) (h : 2 ≤ R.length) : outL R L (2 * R.length - 2) L 0 = lens R L := by
  unfold outL lens
  rw [if_neg (by omega)]
  apply List.map_congr_left
  intro i _
  simp
/-- One item more. -/
theorem syN_succ (A : List Itm) (j : Nat) (h : j < A.length) : syN A (j + 1) = syN A j + (if (A.getD j (0, false)).2 = true then 1 else 0) := by
  unfold syN
  rw [List.take_succ_eq_append_getElem h, List.filter_append, List.length_append]
  have e : A.getD j (0, false) = A[j] := by simp [List.getD, List.getElem?_eq_getElem h]
  rw [e]
  cases hb : A[j].2 <;> simp [hb]
theorem rnd_syms (R : List Int) (r t : Nat) (ht : t ≤ (rnd R r).length) : syN (rnd R r) t ≤ R.length := by
  cases r with
  | zero => simp [rnd, syN_nil]
  | succ r => exact (rnd_split R r t ht).1
theorem rnd_size (R : List Int) (r : Nat) : (rnd R r).length ≤ 2 * R.length := by
  induction r with
  | zero => simp [rnd]
  | succ r ih => rw [rnd_length]; omega
/-- No item weighs more than that. -/
theorem rnd_weight (R : List Int) (b : Int) (hb : 0 ≤ b) (hR : ∀ x ∈ R, 0 ≤ x ∧ x ≤ b) : ∀ r, ∀ x ∈ wts (rnd R r), 0 ≤ x ∧ x ≤ b * 2 ^ r
  | 0 => by simp [rnd, wts]
  | r + 1 => by
    have ih := rnd_weight R b hb hR r
    intro x hx
    have h2 : b ≤ b * 2 ^ r := by
      have h1 : (1 : Int) ≤ 2 ^ r := by exact_mod_cast Nat.one_le_two_pow
      have := Int.mul_le_mul_of_nonneg_left h1 hb
      rwa [Int.mul_one] at this
    have h3 : b * 2 ^ (r + 1) = b * 2 ^ r * 2 := by rw [Int.pow_succ, Int.mul_assoc]
    rw [h3]
    rcases (mrg_mem _ _ _).1 hx with hx | hx
    · have := hR x hx; omega
    · have key : ∀ (l : List Int) (c : Int), (∀ u ∈ l, 0 ≤ u ∧ u ≤ c) → ∀ z ∈ pairs l, 0 ≤ z ∧ z ≤ c * 2 := by
        intro l
        induction l using pairs.induct with
        | case1 a b l ih2 =>
          intro c hl z hz
          rw [pairs, List.mem_cons] at hz
          rcases hz with rfl | hz
          · have := hl a (by simp); have := hl b (by simp); omega
          · exact ih2 c (fun u hu => hl u (by simp [hu])) z hz
        | case2 l hl =>
          intro c _ z hz
          rw [pairs] at hz
          · simp at hz
          · exact hl
      exact key _ _ ih x hx
end Mg
end Go.Proofs.Ytcagdnajapcmkaa
