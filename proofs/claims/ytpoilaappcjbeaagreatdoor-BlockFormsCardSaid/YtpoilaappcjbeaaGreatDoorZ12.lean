/- The lengths that merging by packages finds. Sums of products, and what is within bounds. The symbols that stand, the rarest one first. Numbers that are scattered by the symbol. The best lengths are in form: whole, in order, and what they cost. What the laws ask of the best lengths. Best lengths that are completed; lengths of kind 1. -/
import Derived.Test.YtpoilaappcjbeaaGreatDoorZ1
import Derived.Test.YtpoilaappcjbeaaGreatDoorZ4
import Derived.Test.YtpoilaappcjbeaaGreatDoorZ5
set_option linter.unusedSimpArgs false
set_option linter.unusedVariables false
section
namespace Go.Proofs.YtpoilaappcjbeaaGreatDoor

namespace Mg
/-- What is to be taken of the (m + 1)-st last round. -/
def tk (R : List Int) (L t : Nat) : Nat → Nat
  | 0 => t
  | m + 1 => 2 * (tk R L t m - syN (rnd R (L - m)) (tk R L t m))
def cut (R : List Int) (L t m : Nat) : Nat := syN (rnd R (L - m)) (tk R L t m)
theorem tk_shift (R : List Int) (L t : Nat) : ∀ m, tk R (L + 1) t (m + 1) = tk R L (2 * (t - syN (rnd R (L + 1)) t)) m
  | 0 => rfl
  | m + 1 => by
    have ih := tk_shift R L t m
    show 2 * (tk R (L + 1) t (m + 1) - syN (rnd R (L + 1 - (m + 1))) (tk R (L + 1) t (m + 1))) = _
    rw [ih, show L + 1 - (m + 1) = L - m by omega]
    rfl
theorem back_eq (R : List Int) : ∀ (L t : Nat), back R L t = (List.range L).map (cut R L t)
  | 0, _ => rfl
  | L + 1, t => by
    rw [back, back_eq R L, List.range_succ_eq_map, List.map_cons, List.map_map]
    congr 1
    apply List.map_congr_left
    intro m _
    show cut R L _ m = cut R (L + 1) t (m + 1)
    unfold cut
    rw [tk_shift, show L + 1 - (m + 1) = L - m by omega]
theorem tk_le (R : List Int) (L t : Nat) (ht : t ≤ (rnd R L).length) : ∀ m, m ≤ L → tk R L t m ≤ (rnd R (L - m)).length
  | 0, _ => ht
  | m + 1, h => by
    have ih := tk_le R L t ht m (by omega)
    obtain ⟨r, hr⟩ : ∃ r, L - m = r + 1 := ⟨L - m - 1, by omega⟩
    rw [tk, hr, show L - (m + 1) = r by omega]
    rw [hr] at ih
    exact (rnd_split R r _ ih).2.1
/-- How often symbol i is taken from m rounds. -/
def tim (R : List Int) (L t m i : Nat) : Nat := (((List.range m).map (cut R L t)).filter fun c => decide (i < c)).length
theorem tim_succ (R : List Int) (L t m i : Nat) : tim R L t (m + 1) i = tim R L t m i + (if i < cut R L t m then 1 else 0) := by
  unfold tim
  rw [List.range_succ, List.map_append, List.filter_append, List.length_append]
  by_cases h : i < cut R L t m <;> simp [h]
theorem tim_le (R : List Int) (L t m i : Nat) : tim R L t m i ≤ m := by
  unfold tim
  refine Nat.le_trans (List.length_filter_le _ _) ?_
  simp
/-- The lengths of the symbols, the rarest one first. -/
def lens (R : List Int) (L : Nat) : List Int := if R.length < 2 then List.replicate R.length 1 else (List.range R.length).map fun i => ((tim R L (2 * R.length - 2) L i : Nat) : Int)
theorem lens_length (R : List Int) (L : Nat) : (lens R L).length = R.length := by
  unfold lens; split <;> simp
/-- In the midst: m rounds are done, and k symbols of the next one. -/
def outL (R : List Int) (L t m k : Nat) : List Int := (List.range R.length).map fun i => ((tim R L t m i + (if i < k then 1 else 0) : Nat) : Int)
theorem outL_length (R : List Int) (L t m k : Nat) : (outL R L t m k).length = R.length := by simp [outL]
theorem outL_get (R : List Int) (L t m k i : Nat) (h : i < R.length) : (outL R L t m k).getD i 0 = ((tim R L t m i + (if i < k then 1 else 0) : Nat) : Int) := by
  simp [outL, List.getD, List.getElem?_range h]
theorem outL_start (R : List Int) (L t : Nat) : outL R L t 0 0 = List.replicate R.length 0 := by
  rw [List.eq_replicate_iff]
  refine ⟨outL_length _ _ _ _ _, fun b hb => ?_⟩
  simp only [outL, List.mem_map] at hb
  obtain ⟨i, _, rfl⟩ := hb
  simp [tim]
theorem outL_set (R : List Int) (L t m k : Nat) (h : k < R.length) : (outL R L t m k).set k (((tim R L t m k : Nat) : Int) + 1) = outL R L t m (k + 1) := by
  apply List.ext_getElem?
  intro i
  rw [List.getElem?_set, outL_length]
  by_cases hi : i < R.length
  · have e1 : ∀ k, (outL R L t m k)[i]? = some ((tim R L t m i + (if i < k then 1 else 0) : Nat) : Int) := fun k => by simp [outL, List.getElem?_range hi]
    rw [e1, e1]
    by_cases hk : k = i
    · subst hk
      rw [if_pos rfl, if_pos hi, if_pos (by omega)]
      simp
    · rw [if_neg hk]
      by_cases h2 : i < k
      · rw [if_pos h2, if_pos (by omega)]
      · rw [if_neg h2, if_neg (by omega)]
  · have e1 : ∀ k, (outL R L t m k)[i]? = none := fun k => by rw [List.getElem?_eq_none]; rw [outL_length]; omega
    rw [e1, e1]
    split
    · rename_i e; omega
    · rfl
theorem outL_next (R : List Int) (L t m : Nat) : outL R L t m (cut R L t m) = outL R L t (m + 1) 0 := by
  unfold outL
  apply List.map_congr_left
  intro i _
  rw [tim_succ]
  simp
theorem outL_end (R : List Int) (L : Nat) (h : 2 ≤ R.length) : outL R L (2 * R.length - 2) L 0 = lens R L := by
  unfold outL lens
  rw [if_neg (by omega)]
  apply List.map_congr_left
  intro i _
  simp
/-- One item more. -/
theorem syN_succ (A : List Itm) (j : Nat) (h : j < A.length) : syN A (j + 1) = syN A j + (if (A.getD j (0, false)).2 = true then 1 else 0) := by
  unfold syN
  rw [List.take_succ_eq_append_getElem h, List.filter_append, List.length_append]
  have e : A.getD j (0, false) = A[j] := by simp [List.getD, List.getElem?_eq_getElem h]
  rw [e]
  cases hb : A[j].2 <;> simp [hb]
theorem rnd_syms (R : List Int) (r t : Nat) (ht : t ≤ (rnd R r).length) : syN (rnd R r) t ≤ R.length := by
  cases r with
  | zero => simp [rnd, syN_nil]
  | succ r => exact (rnd_split R r t ht).1
theorem rnd_size (R : List Int) (r : Nat) : (rnd R r).length ≤ 2 * R.length := by
  induction r with
  | zero => simp [rnd]
  | succ r ih => rw [rnd_length]; omega
/-- No item weighs more than that. -/
theorem rnd_weight (R : List Int) (b : Int) (hb : 0 ≤ b) (hR : ∀ x ∈ R, 0 ≤ x ∧ x ≤ b) : ∀ r, ∀ x ∈ wts (rnd R r), 0 ≤ x ∧ x ≤ b * 2 ^ r
  | 0 => by simp [rnd, wts]
  | r + 1 => by
    have ih := rnd_weight R b hb hR r
    intro x hx
    have h2 : b ≤ b * 2 ^ r := by
      have h1 : (1 : Int) ≤ 2 ^ r := by exact_mod_cast Nat.one_le_two_pow
      have := Int.mul_le_mul_of_nonneg_left h1 hb
      rwa [Int.mul_one] at this
    have h3 : b * 2 ^ (r + 1) = b * 2 ^ r * 2 := by rw [Int.pow_succ, Int.mul_assoc]
    rw [h3]
    rcases (mrg_mem _ _ _).1 hx with hx | hx
    · have := hR x hx; omega
    · have key : ∀ (l : List Int) (c : Int), (∀ u ∈ l, 0 ≤ u ∧ u ≤ c) → ∀ z ∈ pairs l, 0 ≤ z ∧ z ≤ c * 2 := by
        intro l
        induction l using pairs.induct with
        | case1 a b l ih2 =>
          intro c hl z hz
          rw [pairs, List.mem_cons] at hz
          rcases hz with rfl | hz
          · have := hl a (by simp); have := hl b (by simp); omega
          · exact ih2 c (fun u hu => hl u (by simp [hu])) z hz
        | case2 l hl =>
          intro c _ z hz
          rw [pairs] at hz
          · simp at hz
          · exact hl
      exact key _ _ ih x hx
end Mg
end Go.Proofs.YtpoilaappcjbeaaGreatDoor
end

section
namespace Go.Proofs.YtpoilaappcjbeaaGreatDoor

namespace Mg
/-- Are there at most n numbers, each from 0 to t? -/
def within (l : List Int) (n : Nat) (t : Int) : Bool := decide (l.length ≤ n) && l.all fun x => decide (0 ≤ x ∧ x ≤ t)
theorem within_big (l : List Int) (n : Nat) (t : Int) (h : n < l.length) : within l n t = false := by
  unfold within; rw [decide_eq_false (by omega)]; rfl
theorem within_bad (l : List Int) (n : Nat) (t : Int) (k : Nat) (hk : k < l.length) (h : l.getD k 0 < 0 ∨ t < l.getD k 0) : within l n t = false := by
  unfold within
  have : (l.all fun x => decide (0 ≤ x ∧ x ≤ t)) = false := by
    rw [List.all_eq_false]
    refine ⟨l[k], List.getElem_mem hk, ?_⟩
    have e : l.getD k 0 = l[k] := by simp [List.getD, List.getElem?_eq_getElem hk]
    rw [e] at h
    simp; omega
  rw [this, Bool.and_false]
theorem within_good (l : List Int) (n : Nat) (t : Int) (hn : l.length ≤ n) (h : ∀ k, k < l.length → 0 ≤ l.getD k 0 ∧ l.getD k 0 ≤ t) : within l n t = true := by
  unfold within
  rw [decide_eq_true hn, Bool.true_and, List.all_eq_true]
  intro x hx
  obtain ⟨k, hk, rfl⟩ := List.mem_iff_getElem.1 hx
  have := h k hk
  have e : l.getD k 0 = l[k] := by simp [List.getD, List.getElem?_eq_getElem hk]
  rw [e] at this
  exact decide_eq_true this
theorem within_len {l : List Int} {n : Nat} {t : Int} (h : within l n t = true) : l.length ≤ n := by
  unfold within at h; rw [Bool.and_eq_true] at h; exact of_decide_eq_true h.1
theorem within_at {l : List Int} {n : Nat} {t : Int} (h : within l n t = true) (k : Nat) (hk : k < l.length) : 0 ≤ l.getD k 0 ∧ l.getD k 0 ≤ t := by
  unfold within at h; rw [Bool.and_eq_true, List.all_eq_true] at h
  have := h.2 l[k] (List.getElem_mem hk)
  have e : l.getD k 0 = l[k] := by simp [List.getD, List.getElem?_eq_getElem hk]
  rw [e]; exact of_decide_eq_true this
/-- The sum of k products. -/
def dot (l m : List Int) : Nat → Int
  | 0 => 0
  | k + 1 => dot l m k + l.getD k 0 * m.getD k 0
theorem prod_le {x y a b : Int} (h0 : 0 ≤ x) (h1 : x ≤ a) (g0 : 0 ≤ y) (g1 : y ≤ b) : 0 ≤ x * y ∧ x * y ≤ a * b := by
  refine ⟨Int.mul_nonneg h0 g0, ?_⟩
  exact Int.le_trans (Int.mul_le_mul_of_nonneg_right h1 g0) (Int.mul_le_mul_of_nonneg_left g1 (Int.le_trans h0 h1))
theorem dot_le (l m : List Int) (k : Nat) (a b : Int) (h : ∀ j, j < k → 0 ≤ l.getD j 0 ∧ l.getD j 0 ≤ a) (g : ∀ j, j < k → 0 ≤ m.getD j 0 ∧ m.getD j 0 ≤ b) : 0 ≤ dot l m k ∧ dot l m k ≤ (a * b) * (k : Int) := by
  induction k with
  | zero => simp [dot]
  | succ k ih =>
    have h1 := ih (fun j hj => h j (by omega)) (fun j hj => g j (by omega))
    have h2 := prod_le (h k (by omega)).1 (h k (by omega)).2 (g k (by omega)).1 (g k (by omega)).2
    have e : (a * b) * ((k + 1 : Nat) : Int) = (a * b) * (k : Int) + a * b := by rw [Int.natCast_add, Int.mul_add]; simp
    rw [e]
    simp only [dot]
    omega
/-- How many aren't 0. -/
def used (l : List Int) : Nat := (l.filter fun x => decide (0 < x)).length
theorem used_snoc (l : List Int) (k : Nat) (h : k < l.length) : used (l.take (k + 1)) = used (l.take k) + (if 0 < l.getD k 0 then 1 else 0) := by
  have e : l.take (k + 1) = l.take k ++ [l.getD k 0] := by rw [List.take_succ_eq_append_getElem h]; simp [List.getD, List.getElem?_eq_getElem h]
  rw [e]
  unfold used
  rw [List.filter_append, List.length_append]
  by_cases hp : 0 < l.getD k 0
  · rw [if_pos hp, List.filter_cons_of_pos (by simpa using hp)]; rfl
  · rw [if_neg hp, List.filter_cons_of_neg (by simpa using hp)]; rfl
theorem used_le (l : List Int) : used l ≤ l.length := List.length_filter_le _ _
end Mg
end Go.Proofs.YtpoilaappcjbeaaGreatDoor
end

section
namespace Go.Proofs.YtpoilaappcjbeaaGreatDoor

namespace Mg
/-- Does x come ahead of y (or is it y)? -/
def leO (l : List Int) (x y : Nat) : Bool := decide (l.getD x 0 < l.getD y 0 ∨ l.getD x 0 = l.getD y 0 ∧ y ≤ x)
theorem leO_iff (l : List Int) (x y : Nat) : leO l x y = true ↔ l.getD x 0 < l.getD y 0 ∨ l.getD x 0 = l.getD y 0 ∧ y ≤ x := by unfold leO; exact decide_eq_true_iff
theorem leO_trans {l : List Int} {x y z : Nat} (h : leO l x y = true) (k : leO l y z = true) : leO l x z = true := by
  rw [leO_iff] at *; omega
theorem leO_total (l : List Int) (x y : Nat) : leO l x y = true ∨ leO l y x = true := by
  rw [leO_iff, leO_iff]; omega
theorem leO_anti {l : List Int} {x y : Nat} (h : leO l x y = true) (k : leO l y x = true) : x = y := by
  rw [leO_iff] at *; omega
def insO (l : List Int) (x : Nat) : List Nat → List Nat
  | [] => [x]
  | y :: r => if leO l x y then x :: y :: r else y :: insO l x r
theorem insO_perm (l : List Int) (x : Nat) : ∀ r, (insO l x r).Perm (x :: r)
  | [] => List.Perm.refl _
  | y :: r => by
    unfold insO
    split
    · exact List.Perm.refl _
    · exact ((insO_perm l x r).cons y).trans (List.Perm.swap x y r)
def SortO (l : List Int) (r : List Nat) : Prop := r.Pairwise fun x y => leO l x y = true
theorem insO_sort (l : List Int) (x : Nat) : ∀ r, SortO l r → SortO l (insO l x r)
  | [], _ => by unfold insO SortO; simp
  | y :: r, h => by
    have h1 := List.pairwise_cons.1 h
    unfold insO
    split
    · rename_i hle
      refine List.pairwise_cons.2 ⟨fun z hz => ?_, h⟩
      rcases List.mem_cons.1 hz with rfl | hz
      · exact hle
      · exact leO_trans hle (h1.1 z hz)
    · rename_i hle
      refine List.pairwise_cons.2 ⟨fun z hz => ?_, insO_sort l x r h1.2⟩
      rcases List.mem_cons.1 ((insO_perm l x r).mem_iff.1 hz) with rfl | hz
      · exact (leO_total l _ _).resolve_left hle
      · exact h1.1 z hz
theorem sort_unique (l : List Int) : ∀ (r s : List Nat), r.Perm s → SortO l r → SortO l s → r = s
  | [], s, h, _, _ => by rw [List.nil_perm] at h; exact h.symm
  | x :: r, [], h, _, _ => by have := h.length_eq; simp at this
  | x :: r, y :: s, h, hr, hs => by
    have h1 := List.pairwise_cons.1 hr
    have h2 := List.pairwise_cons.1 hs
    have hxy : x = y := by
      have hx : x ∈ y :: s := h.mem_iff.1 (by simp)
      have hy : y ∈ x :: r := h.mem_iff.2 (by simp)
      rcases List.mem_cons.1 hx with e | hx
      · exact e
      · rcases List.mem_cons.1 hy with e | hy
        · exact e.symm
        · exact leO_anti (h1.1 y hy) (h2.1 x hx)
    subst hxy
    rw [sort_unique l r s (List.Perm.cons_inv h) h1.2 h2.2]
/-- The symbols that stand, as they come. -/
def stand (l : List Int) (k : Nat) : List Nat := (List.range k).filter fun i => decide (0 < l.getD i 0)
theorem stand_succ (l : List Int) (k : Nat) : stand l (k + 1) = stand l k ++ (if 0 < l.getD k 0 then [k] else []) := by
  unfold stand
  rw [List.range_succ, List.filter_append]
  by_cases h : 0 < l.getD k 0
  · rw [if_pos h, List.filter_cons, if_pos (decide_eq_true h)]; rfl
  · rw [if_neg h, List.filter_cons, if_neg (by rw [decide_eq_false h]; simp)]; rfl
theorem stand_mem (l : List Int) (k i : Nat) : i ∈ stand l k ↔ i < k ∧ 0 < l.getD i 0 := by simp [stand]
theorem stand_le (l : List Int) (k : Nat) : (stand l k).length ≤ k := by
  unfold stand
  refine Nat.le_trans (List.length_filter_le _ _) ?_
  simp
theorem stand_nodup (l : List Int) (k : Nat) : (stand l k).Nodup := List.Pairwise.filter _ List.nodup_range
/-- The rarest one first. -/
def order (l : List Int) : List Nat := (stand l l.length).foldr (insO l) []
theorem order_perm (l : List Int) : (order l).Perm (stand l l.length) := by
  unfold order
  induction stand l l.length with
  | nil => exact List.Perm.refl _
  | cons x r ih => exact (insO_perm l x _).trans (ih.cons x)
theorem order_sort (l : List Int) : SortO l (order l) := by
  unfold order
  induction stand l l.length with
  | nil => exact List.Pairwise.nil
  | cons x r ih => exact insO_sort l x _ ih
theorem order_length (l : List Int) : (order l).length = (stand l l.length).length := (order_perm l).length_eq
theorem order_nodup (l : List Int) : (order l).Nodup := (order_perm l).nodup_iff.2 (stand_nodup _ _)
theorem order_mem (l : List Int) (i : Nat) : i ∈ order l ↔ i < l.length ∧ 0 < l.getD i 0 := by rw [(order_perm l).mem_iff, stand_mem]
theorem stand_used (l : List Int) : ∀ k, k ≤ l.length → (stand l k).length = used (l.take k)
  | 0, _ => rfl
  | k + 1, h => by
    rw [stand_succ, List.length_append, used_snoc l k (by omega), stand_used l k (by omega)]
    split <;> rfl
theorem order_used (l : List Int) : (order l).length = used l := by rw [order_length, stand_used l _ (Nat.le_refl _), List.take_length]
/-- Their counts. -/
def rise (l : List Int) : List Int := (order l).map fun i => l.getD i 0
theorem rise_length (l : List Int) : (rise l).length = used l := by unfold rise; rw [List.length_map, order_used]
theorem rise_up (l : List Int) : Up (rise l) := by
  unfold Up rise
  rw [List.pairwise_map]
  refine (order_sort l).imp (fun h => ?_)
  rw [leO_iff] at h; omega
theorem rise_pos (l : List Int) : ∀ x ∈ rise l, 0 < x := by
  intro x hx
  simp only [rise, List.mem_map] at hx
  obtain ⟨i, hi, rfl⟩ := hx
  exact ((order_mem l i).1 hi).2
theorem rise_le (l : List Int) (b : Int) (h : ∀ k, k < l.length → l.getD k 0 ≤ b) : ∀ x ∈ rise l, x ≤ b := by
  intro x hx
  simp only [rise, List.mem_map] at hx
  obtain ⟨i, hi, rfl⟩ := hx
  exact h i ((order_mem l i).1 hi).1
end Mg
end Go.Proofs.YtpoilaappcjbeaaGreatDoor
end

section
namespace Go.Proofs.YtpoilaappcjbeaaGreatDoor

namespace Mg
theorem getD_set_ne {l : List Int} {s j : Nat} {z : Int} (h : s ≠ j) : (l.set s z).getD j 0 = l.getD j 0 := by
  simp only [List.getD]; rw [List.getElem?_set_ne h]
theorem getD_set_same {l : List Int} {s : Nat} {z : Int} (h : s < l.length) : (l.set s z).getD s 0 = z := by
  simp only [List.getD]; rw [List.getElem?_set_self h]; rfl
theorem nodup_ne {ss : List Nat} (hn : ss.Nodup) {i k : Nat} (hi : i < ss.length) (hk : k < ss.length) (h : i ≠ k) : ss.getD i 0 ≠ ss.getD k 0 := by
  have ei : ss.getD i 0 = ss[i] := by simp [List.getD, List.getElem?_eq_getElem hi]
  have ek : ss.getD k 0 = ss[k] := by simp [List.getD, List.getElem?_eq_getElem hk]
  rw [ei, ek]
  rcases Nat.lt_or_gt_of_ne h with h | h
  · exact (List.pairwise_iff_getElem.1 hn) i k hi hk h
  · exact fun e => (List.pairwise_iff_getElem.1 hn) k i hk hi h e.symm
/-- k numbers are scattered. -/
def scat (n : Nat) (ss : List Nat) (zs : List Int) : Nat → List Int
  | 0 => List.replicate n 0
  | k + 1 => (scat n ss zs k).set (ss.getD k 0) (zs.getD k 0)
theorem scat_length (n : Nat) (ss : List Nat) (zs : List Int) : ∀ k, (scat n ss zs k).length = n
  | 0 => by simp [scat]
  | k + 1 => by rw [scat, List.length_set, scat_length n ss zs k]
theorem scat_out (n : Nat) (ss : List Nat) (zs : List Int) (j : Nat) : ∀ k, (∀ i, i < k → ss.getD i 0 ≠ j) → (scat n ss zs k).getD j 0 = 0
  | 0, _ => by by_cases hj : j < n <;> simp [scat, List.getD, List.getElem?_replicate, hj]
  | k + 1, h => by
    have ih := scat_out n ss zs j k (fun i hi => h i (by omega))
    rw [scat, getD_set_ne (h k (by omega))]; exact ih
theorem scat_in (n : Nat) (ss : List Nat) (zs : List Int) (hn : ss.Nodup) (hs : ∀ s ∈ ss, s < n) : ∀ k, k ≤ ss.length → ∀ i, i < k → (scat n ss zs k).getD (ss.getD i 0) 0 = zs.getD i 0
  | 0, _, i, h => by omega
  | k + 1, hk, i, hi => by
    have ek : ss.getD k 0 = ss[k] := by simp [List.getD, List.getElem?_eq_getElem (show k < ss.length by omega)]
    by_cases h : i = k
    · subst h
      have hlt : ss.getD i 0 < n := by rw [ek]; exact hs _ (List.getElem_mem _)
      rw [scat, getD_set_same (by rw [scat_length]; exact hlt)]
    · have ih := scat_in n ss zs hn hs k (by omega) i (by omega)
      rw [scat, getD_set_ne (nodup_ne hn (by omega) (by omega) (by omega))]; exact ih
/-- A sum over the places. -/
def sumg (g : Nat → Int → Int) (l : List Int) : Nat → Int
  | 0 => 0
  | k + 1 => sumg g l k + g k (l.getD k 0)
theorem sumg_set (g : Nat → Int → Int) (l : List Int) (s : Nat) (z : Int) (hs : s < l.length) : ∀ k, sumg g (l.set s z) k = sumg g l k + (if s < k then g s z - g s (l.getD s 0) else 0)
  | 0 => by simp [sumg]
  | k + 1 => by
    rw [sumg, sumg, sumg_set g l s z hs k]
    by_cases h : s = k
    · subst h
      rw [if_neg (by omega), if_pos (by omega)]
      rw [getD_set_same hs]; omega
    · rw [getD_set_ne h]
      by_cases h2 : s < k
      · rw [if_pos h2, if_pos (by omega)]; omega
      · rw [if_neg h2, if_neg (by omega)]; omega
theorem scat_sum (n : Nat) (ss : List Nat) (zs : List Int) (g : Nat → Int → Int) (g0 : ∀ j, g j 0 = 0) (hn : ss.Nodup) (hs : ∀ s ∈ ss, s < n) : ∀ k, k ≤ ss.length →
    sumg g (scat n ss zs k) n = ((List.range k).map fun i => g (ss.getD i 0) (zs.getD i 0)).sum
  | 0, _ => by
    have : ∀ m, sumg g (List.replicate n 0) m = 0 := by
      intro m
      induction m with
      | zero => rfl
      | succ m ih =>
        rw [sumg, ih]
        have : (List.replicate n (0 : Int)).getD m 0 = 0 := by by_cases hj : m < n <;> simp [List.getD, List.getElem?_replicate, hj]
        rw [this, g0]; rfl
    simp [scat, this]
  | k + 1, hk => by
    have ih := scat_sum n ss zs g g0 hn hs k (by omega)
    have ek : ss.getD k 0 = ss[k] := by simp [List.getD, List.getElem?_eq_getElem (show k < ss.length by omega)]
    have hlt : ss.getD k 0 < n := by rw [ek]; exact hs _ (List.getElem_mem _)
    have h0 : (scat n ss zs k).getD (ss.getD k 0) 0 = 0 := scat_out n ss zs _ k (fun i hi => nodup_ne hn (by omega) (by omega) (by omega))
    rw [scat, sumg_set g _ _ _ (by rw [scat_length]; exact hlt), if_pos hlt, ih, h0, g0, List.range_succ, List.map_append, List.sum_append]
    simp
/-- The lengths of counts. -/
def lensOf (l : List Int) (L : Nat) : List Int := scat l.length (order l) (lens (rise l) L) (order l).length
theorem lensOf_length (l : List Int) (L : Nat) : (lensOf l L).length = l.length := scat_length _ _ _ _
/-- Where a symbol stands in the order. -/
theorem order_at (l : List Int) (j : Nat) (hj : j < l.length) (hp : 0 < l.getD j 0) : ∃ i, i < (order l).length ∧ (order l).getD i 0 = j := by
  obtain ⟨i, hi, e⟩ := List.mem_iff_getElem.1 ((order_mem l j).2 ⟨hj, hp⟩)
  exact ⟨i, hi, by simp [List.getD, List.getElem?_eq_getElem hi, e]⟩
theorem order_lt (l : List Int) : ∀ s ∈ order l, s < l.length := fun s hs => ((order_mem l s).1 hs).1
theorem lensOf_at (l : List Int) (L i : Nat) (hi : i < (order l).length) : (lensOf l L).getD ((order l).getD i 0) 0 = (lens (rise l) L).getD i 0 :=
  scat_in _ _ _ (order_nodup l) (order_lt l) _ (Nat.le_refl _) i hi
theorem lensOf_none (l : List Int) (L j : Nat) (h : ¬ (j < l.length ∧ 0 < l.getD j 0)) : (lensOf l L).getD j 0 = 0 :=
  scat_out _ _ _ _ _ (fun i hi e => h ((order_mem l j).1 (by rw [← e]; simp [List.getD, List.getElem?_eq_getElem hi])))
end Mg
end Go.Proofs.YtpoilaappcjbeaaGreatDoor
end

section
namespace Go.Proofs.YtpoilaappcjbeaaGreatDoor

namespace Mg
def S (f : Nat → Nat) : Nat → Nat
  | 0 => 0
  | n + 1 => S f n + f n
theorem S_congr {f g : Nat → Nat} : ∀ n, (∀ i, i < n → f i = g i) → S f n = S g n
  | 0, _ => rfl
  | n + 1, h => by rw [S, S, S_congr n (fun i hi => h i (by omega)), h n (by omega)]
theorem S_add (f g : Nat → Nat) : ∀ n, S (fun i => f i + g i) n = S f n + S g n
  | 0 => rfl
  | n + 1 => by rw [S, S, S, S_add f g n]; omega
theorem S_const (c : Nat) : ∀ n, S (fun _ => c) n = n * c
  | 0 => by simp [S]
  | n + 1 => by rw [S, S_const c n, Nat.succ_mul]
theorem S_mul (c : Nat) (f : Nat → Nat) : ∀ n, S (fun i => c * f i) n = c * S f n
  | 0 => by simp [S]
  | n + 1 => by rw [S, S, S_mul c f n, Nat.mul_add]
theorem S_from (k c : Nat) : ∀ n, S (fun i => if i < k then 0 else c) n = (n - k) * c
  | 0 => by simp [S]
  | n + 1 => by
    rw [S, S_from k c n]
    by_cases h : n < k
    · rw [if_pos h, show n + 1 - k = 0 by omega, show n - k = 0 by omega]; omega
    · rw [if_neg h, show n + 1 - k = n - k + 1 by omega, Nat.succ_mul]
def SI (f : Nat → Int) : Nat → Int
  | 0 => 0
  | n + 1 => SI f n + f n
theorem SI_congr {f g : Nat → Int} : ∀ n, (∀ i, i < n → f i = g i) → SI f n = SI g n
  | 0, _ => rfl
  | n + 1, h => by rw [SI, SI, SI_congr n (fun i hi => h i (by omega)), h n (by omega)]
theorem SI_add (f g : Nat → Int) : ∀ n, SI (fun i => f i + g i) n = SI f n + SI g n
  | 0 => rfl
  | n + 1 => by rw [SI, SI, SI, SI_add f g n]; omega
theorem SI_zero : ∀ n, SI (fun _ => 0) n = 0
  | 0 => rfl
  | n + 1 => by rw [SI, SI_zero n]; rfl
theorem range_sum (f : Nat → Int) : ∀ n, ((List.range n).map f).sum = SI f n
  | 0 => rfl
  | n + 1 => by rw [List.range_succ, List.map_append, List.sum_append, range_sum f n, SI]; simp
theorem SI_nat (f : Nat → Nat) : ∀ n, SI (fun i => ((f i : Nat) : Int)) n = ((S f n : Nat) : Int)
  | 0 => rfl
  | n + 1 => by rw [SI, S, SI_nat f n]; omega
/-- How often place i is taken. -/
def cnt (ks : List Nat) (i : Nat) : Nat := (ks.filter fun c => decide (i < c)).length
theorem cnt_cons (k : Nat) (ks : List Nat) (i : Nat) : cnt (k :: ks) i = (if i < k then 1 else 0) + cnt ks i := by
  unfold cnt
  rw [List.filter_cons]
  by_cases h : i < k
  · rw [if_pos (decide_eq_true h), if_pos h, List.length_cons]; omega
  · rw [if_neg (by rw [decide_eq_false h]; simp), if_neg h]; omega
theorem cnt_le (ks : List Nat) (i : Nat) : cnt ks i ≤ ks.length := List.length_filter_le _ _
theorem cnt_zero (ks : List Nat) (i : Nat) (h : ∀ c ∈ ks, c ≤ i) : cnt ks i = 0 := by
  unfold cnt
  rw [List.filter_eq_nil_iff.2 (fun c hc => by have := h c hc; simp; omega)]; rfl
theorem cnt_anti (ks : List Nat) {i j : Nat} (h : i ≤ j) : cnt ks j ≤ cnt ks i := by
  induction ks with
  | nil => exact Nat.le_refl _
  | cons k ks ih =>
    rw [cnt_cons, cnt_cons]
    by_cases h1 : j < k
    · rw [if_pos h1, if_pos (by omega)]; omega
    · rw [if_neg h1]; omega
theorem tim_cnt (R : List Int) (L t i : Nat) : tim R L t L i = cnt (back R L t) i := by
  unfold tim cnt; rw [← back_eq]
def Ev : List Nat → Prop
  | [] => True
  | _ :: ks => T ks % 2 = 0 ∧ Ev ks
theorem back_ev (R : List Int) : ∀ (r t : Nat), t ≤ (rnd R r).length → Ev (back R r t)
  | 0, _, _ => trivial
  | r + 1, t, h => by
    obtain ⟨_, h2, _⟩ := rnd_split R r t h
    exact ⟨by rw [back_T R r _ h2]; omega, back_ev R r _ h2⟩
def K (ks : List Nat) (n : Nat) : Nat := S (fun i => 2 ^ (ks.length - cnt ks i)) n
theorem kraft (n : Nat) : ∀ ks : List Nat, ks.Pairwise (fun a b => b ≤ a) → (∀ k ∈ ks, k ≤ n) → Ev ks → 2 * K ks n + 2 ^ ks.length * T ks = 2 * (n * 2 ^ ks.length)
  | [], _, _, _ => by
    have : K [] n = n * 1 := by unfold K; rw [← S_const 1 n]; exact S_congr n (fun i _ => rfl)
    rw [this]; simp [T]
  | k :: ks, hp, hk, he => by
    have hp1 := List.pairwise_cons.1 hp
    have ih := kraft n ks hp1.2 (fun c hc => hk c (by simp [hc])) he.2
    have hkn := hk k (by simp)
    have e : K (k :: ks) n = K ks n + (n - k) * 2 ^ ks.length := by
      unfold K
      rw [← S_from k (2 ^ ks.length) n, ← S_add]
      refine S_congr n (fun i _ => ?_)
      rw [cnt_cons, List.length_cons]
      by_cases h : i < k
      · rw [if_pos h, if_pos h, show ks.length + 1 - (1 + cnt ks i) = ks.length - cnt ks i by omega]; omega
      · rw [if_neg h, if_neg h, cnt_zero ks i (fun c hc => by have := hp1.1 c hc; omega)]
        rw [show ks.length + 1 - (0 + 0) = ks.length + 1 by omega, show ks.length - 0 = ks.length by omega, Nat.pow_succ]; omega
    obtain ⟨u, hu⟩ : ∃ u, T ks = 2 * u := ⟨T ks / 2, by have := he.1; omega⟩
    obtain ⟨d, hd⟩ : ∃ d, n = k + d := ⟨n - k, by omega⟩
    rw [e, List.length_cons, Nat.pow_succ, T, hu, show 2 * u / 2 = u by omega]
    rw [hu] at ih
    rw [show n - k = d by omega]
    generalize 2 ^ ks.length = p at *
    generalize K ks n = q at *
    have e1 : n * p = k * p + d * p := by rw [hd, Nat.add_mul]
    have e2 : p * 2 * (k + u) = 2 * (k * p) + 2 * (u * p) := by
      rw [Nat.mul_add, Nat.mul_comm p 2, Nat.mul_assoc, Nat.mul_assoc, Nat.mul_comm p k, Nat.mul_comm p u]
    have e3 : p * (2 * u) = 2 * (u * p) := by rw [← Nat.mul_assoc, Nat.mul_comm p 2, Nat.mul_assoc, Nat.mul_comm p u]
    have e4 : n * (p * 2) = 2 * (n * p) := by rw [← Nat.mul_assoc, Nat.mul_comm]
    rw [e2, e4, e1]
    rw [e3, e1] at ih
    omega
theorem pre_SI (R : List Int) : ∀ k, k ≤ R.length → pre R k = SI (fun i => R.getD i 0) k
  | 0, _ => pre_zero R
  | k + 1, h => by
    rw [pre_succ R k (by omega), pre_SI R k (by omega), SI]
    simp [List.getD, List.getElem?_eq_getElem (show k < R.length by omega)]
theorem SI_cut (f : Nat → Int) (k : Nat) : ∀ n, k ≤ n → SI (fun i => if i < k then f i else 0) n = SI f k
  | 0, h => by obtain rfl : k = 0 := by omega
               rfl
  | n + 1, h => by
    by_cases hk : k = n + 1
    · subst hk; exact SI_congr _ (fun i hi => if_pos hi)
    · rw [SI, SI_cut f k n (by omega), if_neg (by omega)]; omega
/-- What is taken costs what the symbols cost. -/
theorem val_cnt (R : List Int) : ∀ ks : List Nat, (∀ k ∈ ks, k ≤ R.length) → val R ks = SI (fun i => R.getD i 0 * ((cnt ks i : Nat) : Int)) R.length
  | [], _ => by
    have : SI (fun i => R.getD i 0 * ((cnt [] i : Nat) : Int)) R.length = SI (fun _ => 0) R.length := SI_congr _ (fun i _ => by simp [cnt])
    rw [this, SI_zero]; rfl
  | k :: ks, h => by
    have e : val R (k :: ks) = pre R k + val R ks := by simp [val]
    rw [e, val_cnt R ks (fun c hc => h c (by simp [hc])), pre_SI R k (h k (by simp)), ← SI_cut _ k R.length (h k (by simp)), ← SI_add]
    refine SI_congr _ (fun i _ => ?_)
    rw [cnt_cons]
    by_cases hi : i < k
    · rw [if_pos hi, if_pos hi, Int.natCast_add, Int.mul_add]; simp
    · rw [if_neg hi, if_neg hi]; simp
section
variable {R : List Int} {L : Nat}
theorem lens_big (hn : 2 ≤ R.length) (i : Nat) (hi : i < R.length) : (lens R L).getD i 0 = ((cnt (back R L (2 * R.length - 2)) i : Nat) : Int) := by
  unfold lens
  rw [if_neg (by omega)]
  rw [← tim_cnt]
  simp [List.getD, List.getElem?_range hi]
theorem lens_one (hn : R.length < 2) (i : Nat) (hi : i < R.length) : (lens R L).getD i 0 = 1 := by
  unfold lens
  rw [if_pos hn]
  simp [List.getD, List.getElem?_replicate, hi]
theorem back_head (hU : Up R) (hP : Pos R) (hn : 2 ≤ R.length) (hL : 0 < L) (hr : 2 * R.length - 2 ≤ (rnd R L).length) : ∃ ks, back R L (2 * R.length - 2) = R.length :: ks := by
  obtain ⟨r, rfl⟩ : ∃ r, L = r + 1 := ⟨L - 1, by omega⟩
  exact ⟨_, by rw [back, rnd_all hU hP hn _ hr]⟩
theorem lens_range (hU : Up R) (hP : Pos R) (hL : 0 < L) (hL2 : R.length ≤ 2 ^ L) (i : Nat) (hi : i < R.length) : 1 ≤ (lens R L).getD i 0 ∧ (lens R L).getD i 0 ≤ L ∧ (R.length = 1 → (lens R L).getD i 0 = 1) := by
  by_cases hn : 2 ≤ R.length
  · rw [lens_big hn i hi]
    obtain ⟨ks, hk⟩ := back_head hU hP hn hL (rnd_room R (by omega) L hL hL2)
    have h1 := cnt_le (back R L (2 * R.length - 2)) i
    rw [back_length] at h1
    have h2 : 1 ≤ cnt (back R L (2 * R.length - 2)) i := by rw [hk, cnt_cons, if_pos hi]; omega
    omega
  · rw [lens_one (by omega) i hi]; omega
theorem lens_anti (i j : Nat) (h : i ≤ j) (hj : j < R.length) : (lens R L).getD j 0 ≤ (lens R L).getD i 0 := by
  by_cases hn : 2 ≤ R.length
  · rw [lens_big hn i (by omega), lens_big hn j hj]
    have := cnt_anti (back R L (2 * R.length - 2)) h
    omega
  · rw [lens_one (by omega) i (by omega), lens_one (by omega) j hj]; omega
theorem part_nat (t : Nat) (h1 : 1 ≤ t) (h2 : t ≤ 16) : Cn.part (t : Int) = 2 ^ (16 - t) := by
  unfold Cn.part
  rw [if_neg (by omega), Int.toNat_natCast, show (65536 : Nat) = 2 ^ 16 from rfl, Nat.pow_div h2 (by omega)]
/-- The lengths are whole. -/
theorem lens_whole (hU : Up R) (hP : Pos R) (hL : 0 < L) (hL16 : L ≤ 16) (hL2 : R.length ≤ 2 ^ L) (hn : 2 ≤ R.length) : S (fun i => Cn.part ((lens R L).getD i 0)) R.length = 65536 := by
  have hr := rnd_room R (by omega) L hL hL2
  have e : S (fun i => Cn.part ((lens R L).getD i 0)) R.length = S (fun i => 2 ^ (16 - L) * 2 ^ (L - cnt (back R L (2 * R.length - 2)) i)) R.length := by
    refine S_congr _ (fun i hi => ?_)
    have h1 := (lens_range hU hP hL hL2 i hi)
    rw [lens_big hn i hi] at h1 ⊢
    rw [part_nat _ (by omega) (by omega), ← Nat.pow_add, show 16 - L + (L - cnt (back R L (2 * R.length - 2)) i) = 16 - cnt (back R L (2 * R.length - 2)) i by omega]
  rw [e, S_mul]
  have hk := kraft R.length (back R L (2 * R.length - 2)) (back_anti hU hP L _ hr) (back_le R L _ hr) (back_ev R L _ hr)
  rw [back_length, back_T R L _ hr] at hk
  have e2 : K (back R L (2 * R.length - 2)) R.length = S (fun i => 2 ^ (L - cnt (back R L (2 * R.length - 2)) i)) R.length := by unfold K; rw [back_length]
  rw [e2] at hk
  generalize S (fun i => 2 ^ (L - cnt (back R L (2 * R.length - 2)) i)) R.length = q at *
  have hq : q = 2 ^ L := by
    obtain ⟨m, hm⟩ : ∃ m, R.length = m + 1 := ⟨R.length - 1, by omega⟩
    rw [hm, show 2 * (m + 1) - 2 = 2 * m by omega] at hk
    generalize 2 ^ L = p at *
    have e1 : p * (2 * m) = 2 * (m * p) := by rw [← Nat.mul_assoc, Nat.mul_comm p 2, Nat.mul_assoc, Nat.mul_comm p m]
    have e3 : (m + 1) * p = m * p + p := Nat.succ_mul m p
    rw [e1, e3] at hk
    omega
  rw [hq, ← Nat.pow_add, show 16 - L + L = 16 by omega]
end
end Mg
end Go.Proofs.YtpoilaappcjbeaaGreatDoor
end

section
namespace Go.Proofs.YtpoilaappcjbeaaGreatDoor

namespace Mg
theorem rise_Pos (l : List Int) : Pos (rise l) := fun x hx => Int.le_of_lt (rise_pos l x hx)
theorem rise_get (l : List Int) (i : Nat) (hi : i < (order l).length) : (rise l).getD i 0 = l.getD ((order l).getD i 0) 0 := by
  simp [rise, List.getD, List.getElem?_eq_getElem hi]
section
variable {l : List Int} {L : Nat}
/-- Each length, by the symbol. -/
theorem lensOf_range (h0 : ∀ k, k < l.length → 0 ≤ l.getD k 0) (hL : 0 < L) (hu : used l ≤ 2 ^ L) (j : Nat) (hj : j < l.length) :
    0 ≤ (lensOf l L).getD j 0 ∧ (lensOf l L).getD j 0 ≤ L ∧ ((lensOf l L).getD j 0 = 0 ↔ l.getD j 0 = 0) ∧ (used l = 1 → (lensOf l L).getD j 0 ≤ 1) := by
  by_cases hp : 0 < l.getD j 0
  · obtain ⟨i, hi, rfl⟩ := order_at l j hj hp
    rw [lensOf_at l L i hi]
    have hr : i < (rise l).length := by rw [rise_length, ← order_used]; exact hi
    have h := lens_range (rise_up l) (rise_Pos l) hL (by rw [rise_length]; exact hu) i hr
    rw [rise_length] at h
    refine ⟨by omega, h.2.1, ⟨fun e => by omega, fun e => by omega⟩, fun e => by have := h.2.2 e; omega⟩
  · have := h0 j hj
    rw [lensOf_none l L j (fun h => hp h.2)]
    exact ⟨by omega, by omega, ⟨fun _ => by omega, fun _ => rfl⟩, fun _ => by omega⟩
/-- What stands more often has no greater length. -/
theorem lensOf_order (i k : Nat) (hi : i < l.length) (hk : k < l.length) (h : l.getD k 0 < l.getD i 0) (h0 : 0 < l.getD k 0) : (lensOf l L).getD i 0 ≤ (lensOf l L).getD k 0 := by
  obtain ⟨p, hp, rfl⟩ := order_at l i hi (by omega)
  obtain ⟨q, hq, rfl⟩ := order_at l k hk h0
  rw [lensOf_at l L p hp, lensOf_at l L q hq]
  have hpq : q ≤ p := by
    rcases Nat.lt_or_ge p q with hlt | hge
    · exfalso
      have ep : (order l).getD p 0 = (order l)[p] := by simp [List.getD, List.getElem?_eq_getElem hp]
      have eq : (order l).getD q 0 = (order l)[q] := by simp [List.getD, List.getElem?_eq_getElem hq]
      have hs := (List.pairwise_iff_getElem.1 (order_sort l)) p q hp hq hlt
      rw [leO_iff, ← ep, ← eq] at hs
      omega
    · exact hge
  exact lens_anti q p hpq (by rw [rise_length, ← order_used]; exact hp)
theorem lensOf_form (h0 : ∀ k, k < l.length → 0 ≤ l.getD k 0) (hL : 0 < L) (hL16 : L ≤ 16) (hl : l.length ≤ 512) (hu : used l ≤ 2 ^ L) : Cn.formB (lensOf l L) = true :=
  Cn.form_good _ (by rw [lensOf_length]; exact hl) (fun k hk => by
    rw [lensOf_length] at hk
    have := lensOf_range h0 hL hu k hk
    omega)
theorem sumg_take (g : Int → Nat) (l : List Int) : ∀ k, k ≤ l.length → sumg (fun _ z => ((g z : Nat) : Int)) l k = (((l.take k).map g).sum : Nat)
  | 0, _ => by simp [sumg]
  | k + 1, h => by
    rw [sumg, sumg_take g l k (by omega), List.take_succ_eq_append_getElem (by omega), List.map_append, List.sum_append]
    simp [List.getD, List.getElem?_eq_getElem (show k < l.length by omega)]
theorem part_zero : Cn.part 0 = 0 := rfl
/-- What the lengths leave free. -/
theorem lensOf_sum : ((Cn.sum (lensOf l L) : Nat) : Int) = SI (fun i => ((Cn.part ((lens (rise l) L).getD i 0) : Nat) : Int)) (used l) := by
  have h1 := sumg_take Cn.part (lensOf l L) l.length (by rw [lensOf_length]; exact Nat.le_refl _)
  rw [List.take_of_length_le (by rw [lensOf_length]; exact Nat.le_refl _)] at h1
  have h2 := scat_sum l.length (order l) (lens (rise l) L) (fun _ z => ((Cn.part z : Nat) : Int)) (fun _ => rfl) (order_nodup l) (order_lt l) _ (Nat.le_refl _)
  have e : ((Cn.sum (lensOf l L) : Nat) : Int) = sumg (fun _ z => ((Cn.part z : Nat) : Int)) (lensOf l L) l.length := by rw [h1]; rfl
  rw [e]
  refine h2.trans ?_
  rw [range_sum, order_used]
theorem lensOf_whole (hL : 0 < L) (hL16 : L ≤ 16) (hu : used l ≤ 2 ^ L) : (1 < used l → Cn.sum (lensOf l L) = 65536) ∧ (used l ≤ 1 → Cn.sum (lensOf l L) ≤ 32768) := by
  have h := lensOf_sum (l := l) (L := L)
  refine ⟨fun hn => ?_, fun hn => ?_⟩
  · rw [SI_nat] at h
    have h2 := lens_whole (rise_up l) (rise_Pos l) hL hL16 (by rw [rise_length]; exact hu) (by rw [rise_length]; exact hn)
    rw [rise_length] at h2
    rw [h2] at h
    exact_mod_cast h
  · rw [SI_nat] at h
    have : S (fun i => Cn.part ((lens (rise l) L).getD i 0)) (used l) ≤ 32768 := by
      match hm : used l, hn with
      | 0, _ => simp [S]
      | 1, _ =>
        have e := lens_one (R := rise l) (L := L) (by rw [rise_length]; omega) 0 (by rw [rise_length]; omega)
        simp only [S, e]
        decide
    omega
theorem lensOf_free (h0 : ∀ k, k < l.length → 0 ≤ l.getD k 0) (hL : 0 < L) (hL16 : L ≤ 16) (hl : l.length ≤ 512) (hu : used l ≤ 2 ^ L) : Cn.freeB (lensOf l L) = true ∧ (Cn.freeN (lensOf l L) = 0 ↔ 1 < used l) := by
  have hf := lensOf_form h0 hL hL16 hl hu
  obtain ⟨h1, h2⟩ := lensOf_whole (l := l) hL hL16 hu
  unfold Cn.freeB Cn.freeN
  rw [hf]
  simp only [Bool.true_and, if_true, decide_eq_true_eq]
  by_cases h : 1 < used l
  · have := h1 h
    exact ⟨by omega, ⟨fun _ => h, fun _ => by omega⟩⟩
  · have := h2 (by omega)
    exact ⟨by omega, ⟨fun _ => by omega, fun e => absurd e h⟩⟩
/-- What the lengths cost. -/
theorem dot_sumg (m : List Int) : ∀ k, dot l m k = sumg (fun j z => l.getD j 0 * z) m k
  | 0 => rfl
  | k + 1 => by rw [dot, sumg, dot_sumg m k]
theorem lensOf_cost : dot l (lensOf l L) l.length = SI (fun i => (rise l).getD i 0 * (lens (rise l) L).getD i 0) (used l) := by
  rw [dot_sumg]
  have h2 := scat_sum l.length (order l) (lens (rise l) L) (fun j z => l.getD j 0 * z) (fun _ => Int.mul_zero _) (order_nodup l) (order_lt l) _ (Nat.le_refl _)
  refine h2.trans ?_
  rw [range_sum, ← order_used]
  refine SI_congr _ (fun i hi => ?_)
  rw [rise_get l i hi]
/-- .. and that is what is taken of the last round. -/
theorem cost_back (R : List Int) (hn : 2 ≤ R.length) (hL : 0 < L) (hL2 : R.length ≤ 2 ^ L) : SI (fun i => R.getD i 0 * (lens R L).getD i 0) R.length = pre (wts (rnd R L)) (2 * R.length - 2) := by
  have hr := rnd_room R (by omega) L hL hL2
  rw [← back_val R L _ hr, val_cnt R _ (back_le R L _ hr)]
  refine SI_congr _ (fun i hi => ?_)
  rw [lens_big hn i hi]
end
end Mg
end Go.Proofs.YtpoilaappcjbeaaGreatDoor
end

section
namespace Go.Proofs.YtpoilaappcjbeaaGreatDoor

namespace Cn
theorem sum_cons (x : Int) (l : List Int) : sum (x :: l) = part x + sum l := by simp [sum]
theorem sum_set (n : Int) : ∀ (l : List Int) (j : Nat), j < l.length → l.getD j 0 = 0 → sum (l.set j n) = sum l + part n
  | [], j, hj, _ => by simp at hj
  | x :: l, 0, _, h => by
    have hx : x = 0 := by simpa using h
    subst hx
    have e : part 0 = 0 := rfl
    rw [List.set_cons_zero, sum_cons, sum_cons, e]; omega
  | x :: l, j + 1, hj, h => by
    rw [List.set_cons_succ, sum_cons, sum_cons, sum_set n l j (by simpa using hj) (by simpa using h)]; omega
end Cn
namespace Bc
/-- Lengths of kind 1. -/
def litL : List Int := List.replicate 144 8 ++ List.replicate 112 9 ++ List.replicate 24 7 ++ List.replicate 8 8
def dstL : List Int := List.replicate 32 5
theorem litL_length : litL.length = 288 := by simp only [litL, List.length_append, List.length_replicate]
theorem dstL_length : dstL.length = 32 := by simp only [dstL, List.length_replicate]
theorem free_litL : Cn.freeB litL = true := by decide +kernel
theorem free_dstL : Cn.freeB dstL = true := by decide +kernel
/-- Where the first 0 stands. -/
def fz (l : List Int) : Nat := l.findIdx fun x => x == 0
theorem fz_lt {l : List Int} {j : Nat} (hj : j < l.length) (h : l.getD j 0 = 0) : fz l < l.length :=
  List.findIdx_lt_length_of_exists ⟨l[j], List.getElem_mem hj, by
    have : l.getD j 0 = l[j] := by simp [List.getD, List.getElem?_eq_getElem hj]
    rw [this] at h; simp [h]⟩
theorem fz_is {l : List Int} (h : fz l < l.length) : l.getD (fz l) 0 = 0 := by
  have h1 := List.findIdx_getElem (p := fun x : Int => x == 0) (xs := l) (w := h)
  have e : l.getD (fz l) 0 = l[fz l] := by simp [List.getD, List.getElem?_eq_getElem h]
  rw [e]; exact eq_of_beq h1
theorem fz_of {l : List Int} {k : Nat} (hk : k < l.length) (h0 : l.getD k 0 = 0) (h : ∀ j, j < k → l.getD j 0 ≠ 0) : fz l = k := by
  have hl := fz_lt hk h0
  have hi := fz_is hl
  rcases Nat.lt_trichotomy (fz l) k with h1 | h1 | h1
  · exact absurd hi (h _ h1)
  · exact h1
  · have := List.not_of_lt_findIdx (p := fun x : Int => x == 0) (xs := l) (i := k) h1
    have e : l.getD k 0 = l[k] := by simp [List.getD, List.getElem?_eq_getElem hk]
    rw [e] at h0; simp [h0] at this
/-- The best lengths, completed. -/
def cmpl (C : List Int) (L : Nat) : List Int := if 1 < Mg.used C then Mg.lensOf C L else (Mg.lensOf C L).set (fz (Mg.lensOf C L)) 1
theorem cmpl_length (C : List Int) (L : Nat) : (cmpl C L).length = C.length := by
  unfold cmpl; split <;> simp [Mg.lensOf_length]
/-- Counts for which there are best lengths. -/
structure Co (C : List Int) (L : Nat) : Prop where
  h0 : ∀ k, k < C.length → 0 ≤ C.getD k 0
  hup : ∀ k, k < C.length → C.getD k 0 ≤ 1000000000
  hL : 0 < L
  h15 : L ≤ 15
  h2 : 2 ≤ C.length
  h300 : C.length ≤ 300
  hu : Mg.used C ≤ 2 ^ L
theorem used_all : ∀ (C : List Int), (∀ k, k < C.length → 0 < C.getD k 0) → Mg.used C = C.length
  | [], _ => rfl
  | x :: C, h => by
    have ih := used_all C (fun k hk => by have := h (k + 1) (by simpa using hk); simpa using this)
    have hx : 0 < x := by have := h 0 (by simp); simpa using this
    unfold Mg.used at ih ⊢
    rw [List.filter_cons_of_pos (by simpa using hx), List.length_cons, ih, List.length_cons]
theorem used_pos : ∀ (C : List Int) (k : Nat), k < C.length → 0 < C.getD k 0 → 0 < Mg.used C
  | [], k, h, _ => by simp at h
  | x :: C, 0, _, h => by
    unfold Mg.used
    rw [List.filter_cons_of_pos (by simpa using h)]; simp
  | x :: C, k + 1, hk, h => by
    have ih := used_pos C k (by simpa using hk) (by simpa using h)
    unfold Mg.used at ih ⊢
    by_cases hx : 0 < x
    · rw [List.filter_cons_of_pos (by simpa using hx)]; simp
    · rw [List.filter_cons_of_neg (by simpa using hx)]; exact ih
section
variable {C : List Int} {L : Nat}
theorem Co.lens (h : Co C L) (j : Nat) (hj : j < C.length) : 0 ≤ (Mg.lensOf C L).getD j 0 ∧ (Mg.lensOf C L).getD j 0 ≤ L ∧ ((Mg.lensOf C L).getD j 0 = 0 ↔ C.getD j 0 = 0) :=
  have := Mg.lensOf_range h.h0 h.hL h.hu j hj
  ⟨this.1, this.2.1, this.2.2.1⟩
theorem Co.zero (h : Co C L) (hu : ¬ 1 < Mg.used C) : fz (Mg.lensOf C L) < C.length := by
  by_cases hx : ∃ k, k < C.length ∧ C.getD k 0 = 0
  · obtain ⟨k, hk, e⟩ := hx
    have := fz_lt (l := Mg.lensOf C L) (j := k) (by rw [Mg.lensOf_length]; exact hk) ((h.lens k hk).2.2.2 e)
    rwa [Mg.lensOf_length] at this
  · have := used_all C (fun k hk => by
      have h1 := h.h0 k hk
      have h2 : C.getD k 0 ≠ 0 := fun e => hx ⟨k, hk, e⟩
      omega)
    have := h.h2
    omega
theorem getD_set (l : List Int) (k j : Nat) (n : Int) (hk : k < l.length) : (l.set k n).getD j 0 = if k = j then n else l.getD j 0 := by
  by_cases h : k = j
  · subst h; simp [List.getD, List.getElem?_set, hk]
  · simp [List.getD, List.getElem?_set, h]
theorem Co.range (h : Co C L) (j : Nat) (hj : j < C.length) : 0 ≤ (cmpl C L).getD j 0 ∧ (cmpl C L).getD j 0 ≤ L ∧ (0 < C.getD j 0 → 0 < (cmpl C L).getD j 0) := by
  have h1 := h.lens j hj
  have h0 := h.h0 j hj
  have hL := h.hL
  unfold cmpl
  split
  · exact ⟨h1.1, h1.2.1, fun hp => by
      have : (Mg.lensOf C L).getD j 0 ≠ 0 := fun e => by have := h1.2.2.1 e; omega
      omega⟩
  · rename_i hu
    have hz := h.zero hu
    rw [getD_set _ _ _ _ (by rw [Mg.lensOf_length]; exact hz)]
    split
    · exact ⟨by omega, by omega, fun _ => by omega⟩
    · exact ⟨h1.1, h1.2.1, fun hp => by
        have : (Mg.lensOf C L).getD j 0 ≠ 0 := fun e => by have := h1.2.2.1 e; omega
        omega⟩
theorem Co.free (h : Co C L) : Cn.freeB (Mg.lensOf C L) = true ∧ (Cn.freeN (Mg.lensOf C L) = 0 ↔ 1 < Mg.used C) :=
  Mg.lensOf_free h.h0 h.hL (by have := h.h15; omega) (by have := h.h300; omega) h.hu
theorem form_of {l : List Int} (h5 : l.length ≤ 512) (h : ∀ k, k < l.length → 0 ≤ l.getD k 0 ∧ l.getD k 0 ≤ 16) : Cn.formB l = true := Cn.form_good l h5 h
theorem Co.cfree (h : Co C L) : Cn.freeB (cmpl C L) = true := by
  have h1 := h.free
  have hw := Mg.lensOf_whole (l := C) (L := L) h.hL (by have := h.h15; omega) h.hu
  by_cases hu : 1 < Mg.used C
  · unfold cmpl; rw [if_pos hu]; exact h1.1
  · have hr := h.range
    have hf : Cn.formB (cmpl C L) = true := Cn.form_good _ (by rw [cmpl_length]; have := h.h300; omega) (fun k hk => by
      rw [cmpl_length] at hk
      have := hr k hk
      have := h.h15
      omega)
    unfold Cn.freeB
    rw [hf, Bool.true_and]
    apply decide_eq_true
    have hz := h.zero hu
    unfold cmpl
    rw [if_neg hu, Cn.sum_set 1 _ _ (by rw [Mg.lensOf_length]; exact hz) (fz_is (by rw [Mg.lensOf_length]; exact hz))]
    have := hw.2 (by omega)
    have e : Cn.part 1 = 32768 := rfl
    rw [e]; omega
/-- Completed, they are whole. -/
theorem Co.whole (h : Co C L) (hp : 0 < Mg.used C) : Cn.freeN (cmpl C L) = 0 := by
  have hc := h.cfree
  have hw := Mg.lensOf_whole (l := C) (L := L) h.hL (by have := h.h15; omega) h.hu
  have hf : Cn.formB (cmpl C L) = true := by
    unfold Cn.freeB at hc
    rw [Bool.and_eq_true] at hc; exact hc.1
  unfold Cn.freeN
  rw [if_pos hf]
  by_cases hu : 1 < Mg.used C
  · unfold cmpl; rw [if_pos hu, hw.1 hu]; rfl
  · have hz := h.zero hu
    have h1 : Mg.used C = 1 := by omega
    have hs := Mg.lensOf_sum (l := C) (L := L)
    rw [Mg.SI_nat, h1] at hs
    have e := Mg.lens_one (R := Mg.rise C) (L := L) (by rw [Mg.rise_length]; omega) 0 (by rw [Mg.rise_length]; omega)
    simp only [Mg.S, e] at hs
    have e1 : Cn.part 1 = 32768 := rfl
    rw [e1] at hs
    unfold cmpl
    rw [if_neg hu, Cn.sum_set 1 _ _ (by rw [Mg.lensOf_length]; exact hz) (fz_is (by rw [Mg.lensOf_length]; exact hz)), e1]
    omega
end
end Bc
end Go.Proofs.YtpoilaappcjbeaaGreatDoor
end
