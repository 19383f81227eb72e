/- What the laws ask of the best lengths. -/
import Derived.Test.YtcagdnajapcmkaaFormMath
import Derived.Test.YtcagdnajapcmkaaMergeMath
namespace Go.Proofs.Ytcagdnajapcmkaa

namespace Mg
theorem rise_Pos (l : List Int) : Pos (rise l) := fun x hx => Int.le_of_lt (rise_pos l x hx)
theorem rise_get (l : List Int) (i : Nat) (hi : i < (order l).length) : (rise l).getD i 0 = l.getD ((order l).getD i 0) 0 := by
  simp [rise, List.getD, List.getElem?_eq_getElem hi]
section
variable {l : List Int} {L : Nat}
/-- Each length, by the symbol. -/
theorem lensOf_range (h0 : ∀ k, k < l.length → 0 ≤ l.getD k 0) (hL : 0 < L) (hu : used l ≤ 2 ^ L) (j : Nat) (hj : j < l.length) :
    0 ≤ (lensOf l L).getD j 0 ∧ (lensOf l L).getD j 0 ≤ L ∧ ((lensOf l L).getD j 0 = 0 ↔ l.getD j 0 = 0) ∧ (used l = 1 → (lensOf l L).getD j 0 ≤ 1) := by
  by_cases hp : 0 < l.getD j 0
  · obtain ⟨i, hi, rfl⟩ := order_at l j hj hp
    rw [lensOf_at l L i hi]
    have hr : i < (rise l).length := by rw [rise_length, ← order_used]; exact hi
    have h := lens_range (rise_up l) (rise_Pos l) hL (by rw [rise_length]; exact hu) i hr
    rw [rise_length] at h
    refine ⟨by omega, h.2.1, ⟨fun e => by omega, fun e => by omega⟩, fun e => by have := h.2.2 e; omega⟩
  · have := h0 j hj
    rw [lensOf_none l L j (fun h => hp h.2)]
    exact ⟨by omega, by omega, ⟨fun _ => by omega, fun _ => rfl⟩, fun _ => by omega⟩
/-- What stands more often has no greater length. -/
theorem lensOf_order (i k : Nat) (hi : i < l.length) (hk : k < l.length) (h : l.getD k 0 < l.getD i 0) (h0 : 0 < l.getD k 0) : (lensOf l L).getD i 0 ≤ (lensOf l L).getD k 0 := by
  obtain ⟨p, hp, rfl⟩ := order_at l i hi (by omega)
  obtain ⟨q, hq, rfl⟩ := order_at l k hk h0
  rw [lensOf_at l L p hp, lensOf_at l L q hq]
  have hpq : q ≤ p := by
    rcases Nat.lt_or_ge p q with hlt | hge
    · exfalso
      have ep : (order l).getD p 0 = (order l)[p] := by simp [List.getD, List.getElem?_eq_getElem hp]
      have eq : (order l).getD q 0 = (order l)[q] := by simp [List.getD, List.getElem?_eq_getElem hq]
      have hs := (List.pairwise_iff_getElem.1 (order_sort l)) p q hp hq hlt
      rw [leO_iff, ← ep, ← eq] at hs
      omega
    · exact hge
  exact lens_anti q p hpq (by rw [rise_length, ← order_used]; exact hp)
theorem lensOf_form (h0 : ∀ k, k < l.length → 0 ≤ l.getD k 0) (hL : 0 < L) (hL16 : L ≤ 16) (hl : l.length ≤ 512) (hu : used l ≤ 2 ^ L) : Cn.formB (lensOf l L) = true :=
  Cn.form_good _ (by rw [lensOf_length]; exact hl) (fun k hk => by
    rw [lensOf_length] at hk
    have := lensOf_range h0 hL hu k hk
    omega)
theorem sumg_take (g : Int → Nat) (l : List Int) : ∀ k, k ≤ l.length → sumg (fun _ z => ((g z : Nat) : Int)) l k = (((l.take k).map g).sum : Nat)
  | 0, _ => by simp [sumg]
  | k + 1, h => by
    rw [sumg, sumg_take g l k (by omega), List.take_succ_eq_append_getElem (by omega), List.map_append, List.sum_append]
    simp [List.getD, List.getElem?_eq_getElem (show k < l.length by omega)]
theorem part_zero : Cn.part 0 = 0 := rfl
/-- What the lengths leave free. -/
theorem lensOf_sum : ((Cn.sum (lensOf l L) : Nat) : Int) = SI (fun i => ((Cn.part ((lens (rise l) L).getD i 0) : Nat) : Int)) (used l) := by
  have h1 := sumg_take Cn.part (lensOf l L) l.length (by rw [lensOf_length]; exact Nat.le_refl _)
  rw [List.take_of_length_le (by rw [lensOf_length]; exact Nat.le_refl _)] at h1
  have h2 := scat_sum l.length (order l) (lens (rise l) L) (fun _ z => ((Cn.part z : Nat) : Int)) (fun _ => rfl) (order_nodup l) (order_lt l) _ (Nat.le_refl _)
  have e : ((Cn.sum (lensOf l L) : Nat) : Int) = sumg (fun _ z => ((Cn.part z : Nat) : Int)) (lensOf l L) l.length := by rw [h1]; rfl
  rw [e]
  refine h2.trans ?_
  rw [range_sum, order_used]
theorem lensOf_whole (hL : 0 < L) (hL16 : L ≤ 16) (hu : used l ≤ 2 ^ L) : (1 < used l → Cn.sum (lensOf l L) = 65536) ∧ (used l ≤ 1 → Cn.sum (lensOf l L) ≤ 32768) := by
  have h := lensOf_sum (l := l) (L := L)
  refine ⟨fun hn => ?_, fun hn => ?_⟩
  · rw [SI_nat] at h
    have h2 := lens_whole (rise_up l) (rise_Pos l) hL hL16 (by rw [rise_length]; exact hu) (by rw [rise_length]; exact hn)
    rw [rise_length] at h2
    rw [h2] at h
    exact_mod_cast h
  · rw [SI_nat] at h
    have : S (fun i => Cn.part ((lens (rise l) L).getD i 0)) (used l) ≤ 32768 := by
      match hm : used l, hn with
      | 0, _ => simp [S]
      | 1, _ =>
        have e := lens_one (R := rise l) (L := L) (by rw [rise_length]; omega) 0 (by rw [rise_length]; omega)
        simp only [S, e]
        decide
    omega
theorem lensOf_free (h0 : ∀ k, k < l.length → 0 ≤ l.getD k 0) (hL : 0 < L) (hL16 : L ≤ 16) (hl : l.length ≤ 512) (hu : used l ≤ 2 ^ L) : Cn.freeB (lensOf l L) = true ∧ (Cn.freeN (lensOf l L) = 0 ↔ 1 < used l) := by
  have hf := lensOf_form h0 hL hL16 hl hu
  obtain ⟨h1, h2⟩ := lensOf_whole (l := l) hL hL16 hu
  unfold Cn.freeB Cn.freeN
  rw [hf]
  simp only [Bool.true_and, if_true, decide_eq_true_eq]
  by_cases h : 1 < used l
  · have := h1 h
    exact ⟨by omega, ⟨fun _ => h, fun _ => by omega⟩⟩
  · have := h2 (by omega)
    exact ⟨by omega, ⟨fun _ => by omega, fun e => absurd e h⟩⟩
/-- What the lengths cost. -/
theorem dot_sumg (m : List Int) : ∀ k, dot l m k = sumg (fun j z => l.getD j 0 * z) m k
  | 0 => rfl
  | k + 1 => by rw [dot, sumg, dot_sumg m k]
theorem lensOf_cost : dot l (lensOf l L) l.length = SI (fun i => (rise l).getD i 0 * (lens (rise l) L).getD i 0) (used l) := by
  rw [dot_sumg]
  have h2 := scat_sum l.length (order l) (lens (rise l) L) (fun j z => l.getD j 0 * z) (fun _ => Int.mul_zero _) (order_nodup l) (order_lt l) _ (Nat.le_refl _)
  refine h2.trans ?_
  rw [range_sum, ← order_used]
  refine SI_congr _ (fun i hi => ?_)
  rw [rise_get l i hi]
/-- .. and that is what is taken of the last round. -/
theorem cost_back (R : List Int) (hn : 2 ≤ R.length) (hL : 0 < L) (hL2 : R.length ≤ 2 ^ L) : SI (fun i => R.getD i 0 * (lens R L).getD i 0) R.length = pre (wts (rnd R L)) (2 * R.length - 2) := by
  have hr := rnd_room R (by omega) L hL hL2
  rw [← back_val R L _ hr, val_cnt R _ (back_le R L _ hr)]
  refine SI_congr _ (fun i hi => ?_)
  rw [lens_big hn i hi]
end
end Mg
end Go.Proofs.Ytcagdnajapcmkaa
