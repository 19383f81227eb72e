/- Numbers that are scattered by the symbol. -/
import Derived.Test.YtcagdnajapcmkaaLensMath
import Derived.Test.YtcagdnajapcmkaaOrder
namespace Go.Proofs.Ytcagdnajapcmkaa

namespace Mg
theorem getD_set_ne {l : List Int} {s j : Nat} {z : Int} (h : s ≠ j) : (l.set s z).getD j 0 = l.getD j 0 := by
  simp only [List.getD]; rw [List.getElem?_set_ne h]
theorem getD_set_same {l : List Int} {s : Nat} {z : Int} (h : s < l.length) : (l.set s z).getD s 0 = z := by
  simp only [List.getD]; rw [List.getElem?_set_self h]; rfl
theorem nodup_ne {ss : List Nat} (hn : ss.Nodup) {i k : Nat} (hi : i < ss.length) (hk : k < ss.length) (h : i ≠ k) : ss.getD i 0 ≠ ss.getD k 0 := by
  have ei : ss.getD i 0 = ss[i] := by simp [List.getD, List.getElem?_eq_getElem hi]
  have ek : ss.getD k 0 = ss[k] := by simp [List.getD, List.getElem?_eq_getElem hk]
  rw [ei, ek]
  rcases Nat.lt_or_gt_of_ne h with h | h
  · exact (List.pairwise_iff_getElem.1 hn) i k hi hk h
  · exact fun e => (List.pairwise_iff_getElem.1 hn) k i hk hi h e.symm
/-- k numbers are scattered. -/
def scat (n : Nat) (ss : List Nat) (zs : List Int) : Nat → List Int
  | 0 => List.replicate n 0
  | k + 1 => (scat n ss zs k).set (ss.getD k 0) (zs.getD k 0)
theorem scat_length (n : Nat) (ss : List Nat) (zs : List Int) : ∀ k, (scat n ss zs k).length = n
  | 0 => by simp [scat]
  | k + 1 => by rw [scat, List.length_set, scat_length n ss zs k]
theorem scat_out (n : Nat) (ss : List Nat) (zs : List Int) (j : Nat) : ∀ k, (∀ i, i < k → ss.getD i 0 ≠ j) → (scat n ss zs k).getD j 0 = 0
  | 0, _ => by by_cases hj : j < n <;> simp [scat, List.getD, List.getElem?_replicate, hj]
  | k + 1, h => by
    have ih := scat_out n ss zs j k (fun i hi => h i (by omega))
    rw [scat, getD_set_ne (h k (by omega))]; exact ih
theorem scat_in (n : Nat) (ss : List Nat) (zs : List Int) (hn : ss.Nodup) (hs : ∀ s ∈ ss, s < n) : ∀ k, k ≤ ss.length → ∀ i, i < k → (scat n ss zs k).getD (ss.getD i 0) 0 = zs.getD i 0
  | 0, _, i, h => by omega
  | k + 1, hk, i, hi => by
    have ek : ss.getD k 0 = ss[k] := by simp [List.getD, List.getElem?_eq_getElem (show k < ss.length by omega)]
    by_cases h : i = k
    · subst h
      have hlt : ss.getD i 0 < n := by rw [ek]; exact hs _ (List.getElem_mem _)
      rw [scat, getD_set_same (by rw [scat_length]; exact hlt)]
    · have ih := scat_in n ss zs hn hs k (by omega) i (by omega)
      rw [scat, getD_set_ne (nodup_ne hn (by omega) (by omega) (by omega))]; exact ih
/-- A sum over the places. -/
def sumg (g : Nat → Int → Int) (l : List Int) : Nat → Int
  | 0 => 0
  | k + 1 => sumg g l k + g k (l.getD k 0)
theorem sumg_set (g : Nat → Int → Int) (l : List Int) (s : Nat) (z : Int) (hs : s < l.length) : ∀ k, sumg g (l.set s z) k = sumg g l k + (if s < k then g s z - g s (l.getD s 0) else 0)
  | 0 => by simp [sumg]
  | k + 1 => by
    rw [sumg, sumg, sumg_set g l s z hs k]
    by_cases h : s = k
    · subst h
      rw [if_neg (by omega), if_pos (by omega)]
      rw [getD_set_same hs]; omega
    · rw [getD_set_ne h]
      by_cases h2 : s < k
      · rw [if_pos h2, if_pos (by omega)]; omega
      · rw [if_neg h2, if_neg (by omega)]; omega
theorem scat_sum (n : Nat) (ss : List Nat) (zs : List Int) (g : Nat → Int → Int) (g0 : ∀ j, g j 0 = 0) (hn : ss.Nodup) (hs : ∀ s ∈ ss, s < n) : ∀ k, k ≤ ss.length →
    sumg g (scat n ss zs k) n = ((List.range k).map fun i => g (ss.getD i 0) (zs.getD i 0)).sum
  | 0, _ => by
    have : ∀ m, sumg g (List.replicate n 0) m = 0 := by
      intro m
      induction m with
      | zero => rfl
      | succ m ih =>
        rw [sumg, ih]
        have : (List.replicate n (0 : Int)).getD m 0 = 0 := by by_cases hj : m < n <;> simp [List.getD, List.getElem?_replicate, hj]
        rw [this, g0]; rfl
    simp [scat, this]
  | k + 1, hk => by
    have ih := scat_sum n ss zs g g0 hn hs k (by omega)
    have ek : ss.getD k 0 = ss[k] := by simp [List.getD, List.getElem?_eq_getElem (show k < ss.length by omega)]
    have hlt : ss.getD k 0 < n := by rw [ek]; exact hs _ (List.getElem_mem _)
    have h0 : (scat n ss zs k).getD (ss.getD k 0) 0 = 0 := scat_out n ss zs _ k (fun i hi => nodup_ne hn (by omega) (by omega) (by omega))
    rw [scat, sumg_set g _ _ _ (by rw [scat_length]; exact hlt), if_pos hlt, ih, h0, g0, List.range_succ, List.map_append, List.sum_append]
    simp
/-- The lengths of counts. -/
def lensOf (l : List Int) (L : Nat) : List Int := scat l.length (order l) (lens (rise l) L) (order l).length
theorem lensOf_length (l : List Int) (L : Nat) : (lensOf l L).length = l.length := scat_length _ _ _ _
/-- Where a symbol stands in the order. -/
theorem order_at (l : List Int) (j : Nat) (hj : j < l.length) (hp : 0 < l.getD j 0) : ∃ i, i < (order l).length ∧ (order l).getD i 0 = j := by
  obtain ⟨i, hi, e⟩ := List.mem_iff_getElem.1 ((order_mem l j).2 ⟨hj, hp⟩)
  exact ⟨i, hi, by simp [List.getD, List.getElem?_eq_getElem hi, e]⟩
theorem order_lt (l : List Int) : ∀ s ∈ order l, s < l.length := fun s hs => ((order_mem l s).1 hs).1
theorem lensOf_at (l : List Int) (L i : Nat) (hi : i < (order l).length) : (lensOf l L).getD ((order l).getD i 0) 0 = (lens (rise l) L).getD i 0 :=
  scat_in _ _ _ (order_nodup l) (order_lt l) _ (Nat.le_refl _) i hi
theorem lensOf_none (l : List Int) (L j : Nat) (h : ¬ (j < l.length ∧ 0 < l.getD j 0)) : (lensOf l L).getD j 0 = 0 :=
  scat_out _ _ _ _ _ (fun i hi e => h ((order_mem l j).1 (by rw [← e]; simp [List.getD, List.getElem?_eq_getElem hi])))
end Mg
end Go.Proofs.Ytcagdnajapcmkaa
