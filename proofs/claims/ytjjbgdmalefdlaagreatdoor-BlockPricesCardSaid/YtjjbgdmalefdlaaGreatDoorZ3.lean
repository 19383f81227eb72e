/- The lengths that merging by packages finds. Sums of products, and what is within bounds. The symbols that stand, the rarest one first. Numbers that are scattered by the symbol. -/
import Derived.Test.YtjjbgdmalefdlaaGreatDoorZ1
set_option linter.unusedSimpArgs false
set_option linter.unusedVariables false
section
namespace Go.Proofs.YtjjbgdmalefdlaaGreatDoor

namespace Mg
/-- What is to be taken of the (m + 1)-st last round. -/
def tk (R : List Int) (L t : Nat) : Nat → Nat
  | 0 => t
  | m + 1 => 2 * (tk R L t m - syN (rnd R (L - m)) (tk R L t m))
def cut (R : List Int) (L t m : Nat) : Nat := syN (rnd R (L - m)) (tk R L t m)
theorem tk_shift (R : List Int) (L t : Nat) : ∀ m, tk R (L + 1) t (m + 1) = tk R L (2 * (t - syN (rnd R (L + 1)) t)) m
  | 0 => rfl
  | m + 1 => by
    have ih := tk_shift R L t m
    show 2 * (tk R (L + 1) t (m + 1) - syN (rnd R (L + 1 - (m + 1))) (tk R (L + 1) t (m + 1))) = _
    rw [ih, show L + 1 - (m + 1) = L - m by omega]
    rfl
theorem back_eq (R : List Int) : ∀ (L t : Nat), back R L t = (List.range L).map (cut R L t)
  | 0, _ => rfl
  | L + 1, t => by
    rw [back, back_eq R L, List.range_succ_eq_map, List.map_cons, List.map_map]
    congr 1
    apply List.map_congr_left
    intro m _
    show cut R L _ m = cut R (L + 1) t (m + 1)
    unfold cut
    rw [tk_shift, show L + 1 - (m + 1) = L - m by omega]
theorem tk_le (R : List Int) (L t : Nat) (ht : t ≤ (rnd R L).length) : ∀ m, m ≤ L → tk R L t m ≤ (rnd R (L - m)).length
  | 0, _ => ht
  | m + 1, h => by
    have ih := tk_le R L t ht m (by omega)
    obtain ⟨r, hr⟩ : ∃ r, L - m = r + 1 := ⟨L - m - 1, by omega⟩
    rw [tk, hr, show L - (m + 1) = r by omega]
    rw [hr] at ih
    exact (rnd_split R r _ ih).2.1
/-- How often symbol i is taken from m rounds. -/
def tim (R : List Int) (L t m i : Nat) : Nat := (((List.range m).map (cut R L t)).filter fun c => decide (i < c)).length
theorem tim_succ (R : List Int) (L t m i : Nat) : tim R L t (m + 1) i = tim R L t m i + (if i < cut R L t m then 1 else 0) := by
  unfold tim
  rw [List.range_succ, List.map_append, List.filter_append, List.length_append]
  by_cases h : i < cut R L t m <;> simp [h]
theorem tim_le (R : List Int) (L t m i : Nat) : tim R L t m i ≤ m := by
  unfold tim
  refine Nat.le_trans (List.length_filter_le _ _) ?_
  simp
/-- The lengths of the symbols, the rarest one first. -/
def lens (R : List Int) (L : Nat) : List Int := if R.length < 2 then List.replicate R.length 1 else (List.range R.length).map fun i => ((tim R L (2 * R.length - 2) L i : Nat) : Int)
theorem lens_length (R : List Int) (L : Nat) : (lens R L).length = R.length := by
  unfold lens; split <;> simp
/-- In the midst: m rounds are done, and k symbols of the next one. -/
def outL (R : List Int) (L t m k : Nat) : List Int := (List.range R.length).map fun i => ((tim R L t m i + (if i < k then 1 else 0) : Nat) : Int)
theorem outL_length (R : List Int) (L t m k : Nat) : (outL R L t m k).length = R.length := by simp [outL]
theorem outL_get (R : List Int) (L t m k i : Nat) (h : i < R.length) : (outL R L t m k).getD i 0 = ((tim R L t m i + (if i < k then 1 else 0) : Nat) : Int) := by
  simp [outL, List.getD, List.getElem?_range h]
theorem outL_start (R : List Int) (L t : Nat) : outL R L t 0 0 = List.replicate R.length 0 := by
  rw [List.eq_replicate_iff]
  refine ⟨outL_length _ _ _ _ _, fun b hb => ?_⟩
  simp only [outL, List.mem_map] at hb
  obtain ⟨i, _, rfl⟩ := hb
  simp [tim]
theorem outL_set (R : List Int) (L t m k : Nat) (h : k < R.length) : (outL R L t m k).set k (((tim R L t m k : Nat) : Int) + 1) = outL R L t m (k + 1) := by
  apply List.ext_getElem?
  intro i
  rw [List.getElem?_set, outL_length]
  by_cases hi : i < R.length
  · have e1 : ∀ k, (outL R L t m k)[i]? = some ((tim R L t m i + (if i < k then 1 else 0) : Nat) : Int) := fun k => by simp [outL, List.getElem?_range hi]
    rw [e1, e1]
    by_cases hk : k = i
    · subst hk
      rw [if_pos rfl, if_pos hi, if_pos (by omega)]
      simp
    · rw [if_neg hk]
      by_cases h2 : i < k
      · rw [if_pos h2, if_pos (by omega)]
      · rw [if_neg h2, if_neg (by omega)]
  · have e1 : ∀ k, (outL R L t m k)[i]? = none := fun k => by rw [List.getElem?_eq_none]; rw [outL_length]; omega
    rw [e1, e1]
    split
    · rename_i e; omega
    · rfl
theorem outL_next (R : List Int) (L t m : Nat) : outL R L t m (cut R L t m) = outL R L t (m + 1) 0 := by
  unfold outL
  apply List.map_congr_left
  intro i _
  rw [tim_succ]
  simp
theorem outL_end (R : List Int) (L : Nat) (h : 2 ≤ R.length) : outL R L (2 * R.length - 2) L 0 = lens R L := by
  unfold outL lens
  rw [if_neg (by omega)]
  apply List.map_congr_left
  intro i _
  simp
/-- One item more. -/
theorem syN_succ (A : List Itm) (j : Nat) (h : j < A.length) : syN A (j + 1) = syN A j + (if (A.getD j (0, false)).2 = true then 1 else 0) := by
  unfold syN
  rw [List.take_succ_eq_append_getElem h, List.filter_append, List.length_append]
  have e : A.getD j (0, false) = A[j] := by simp [List.getD, List.getElem?_eq_getElem h]
  rw [e]
  cases hb : A[j].2 <;> simp [hb]
theorem rnd_syms (R : List Int) (r t : Nat) (ht : t ≤ (rnd R r).length) : syN (rnd R r) t ≤ R.length := by
  cases r with
  | zero => simp [rnd, syN_nil]
  | succ r => exact (rnd_split R r t ht).1
theorem rnd_size (R : List Int) (r : Nat) : (rnd R r).length ≤ 2 * R.length := by
  induction r with
  | zero => simp [rnd]
  | succ r ih => rw [rnd_length]; omega
/-- No item weighs more than that. -/
theorem rnd_weight (R : List Int) (b : Int) (hb : 0 ≤ b) (hR : ∀ x ∈ R, 0 ≤ x ∧ x ≤ b) : ∀ r, ∀ x ∈ wts (rnd R r), 0 ≤ x ∧ x ≤ b * 2 ^ r
  | 0 => by simp [rnd, wts]
  | r + 1 => by
    have ih := rnd_weight R b hb hR r
    intro x hx
    have h2 : b ≤ b * 2 ^ r := by
      have h1 : (1 : Int) ≤ 2 ^ r := by exact_mod_cast Nat.one_le_two_pow
      have := Int.mul_le_mul_of_nonneg_left h1 hb
      rwa [Int.mul_one] at this
    have h3 : b * 2 ^ (r + 1) = b * 2 ^ r * 2 := by rw [Int.pow_succ, Int.mul_assoc]
    rw [h3]
    rcases (mrg_mem _ _ _).1 hx with hx | hx
    · have := hR x hx; omega
    · have key : ∀ (l : List Int) (c : Int), (∀ u ∈ l, 0 ≤ u ∧ u ≤ c) → ∀ z ∈ pairs l, 0 ≤ z ∧ z ≤ c * 2 := by
        intro l
        induction l using pairs.induct with
        | case1 a b l ih2 =>
          intro c hl z hz
          rw [pairs, List.mem_cons] at hz
          rcases hz with rfl | hz
          · have := hl a (by simp); have := hl b (by simp); omega
          · exact ih2 c (fun u hu => hl u (by simp [hu])) z hz
        | case2 l hl =>
          intro c _ z hz
          rw [pairs] at hz
          · simp at hz
          · exact hl
      exact key _ _ ih x hx
end Mg
end Go.Proofs.YtjjbgdmalefdlaaGreatDoor
end

section
namespace Go.Proofs.YtjjbgdmalefdlaaGreatDoor

namespace Mg
/-- Are there at most n numbers, each from 0 to t? -/
def within (l : List Int) (n : Nat) (t : Int) : Bool := decide (l.length ≤ n) && l.all fun x => decide (0 ≤ x ∧ x ≤ t)
theorem within_big (l : List Int) (n : Nat) (t : Int) (h : n < l.length) : within l n t = false := by
  unfold within; rw [decide_eq_false (by omega)]; rfl
theorem within_bad (l : List Int) (n : Nat) (t : Int) (k : Nat) (hk : k < l.length) (h : l.getD k 0 < 0 ∨ t < l.getD k 0) : within l n t = false := by
  unfold within
  have : (l.all fun x => decide (0 ≤ x ∧ x ≤ t)) = false := by
    rw [List.all_eq_false]
    refine ⟨l[k], List.getElem_mem hk, ?_⟩
    have e : l.getD k 0 = l[k] := by simp [List.getD, List.getElem?_eq_getElem hk]
    rw [e] at h
    simp; omega
  rw [this, Bool.and_false]
theorem within_good (l : List Int) (n : Nat) (t : Int) (hn : l.length ≤ n) (h : ∀ k, k < l.length → 0 ≤ l.getD k 0 ∧ l.getD k 0 ≤ t) : within l n t = true := by
  unfold within
  rw [decide_eq_true hn, Bool.true_and, List.all_eq_true]
  intro x hx
  obtain ⟨k, hk, rfl⟩ := List.mem_iff_getElem.1 hx
  have := h k hk
  have e : l.getD k 0 = l[k] := by simp [List.getD, List.getElem?_eq_getElem hk]
  rw [e] at this
  exact decide_eq_true this
theorem within_len {l : List Int} {n : Nat} {t : Int} (h : within l n t = true) : l.length ≤ n := by
  unfold within at h; rw [Bool.and_eq_true] at h; exact of_decide_eq_true h.1
theorem within_at {l : List Int} {n : Nat} {t : Int} (h : within l n t = true) (k : Nat) (hk : k < l.length) : 0 ≤ l.getD k 0 ∧ l.getD k 0 ≤ t := by
  unfold within at h; rw [Bool.and_eq_true, List.all_eq_true] at h
  have := h.2 l[k] (List.getElem_mem hk)
  have e : l.getD k 0 = l[k] := by simp [List.getD, List.getElem?_eq_getElem hk]
  rw [e]; exact of_decide_eq_true this
/-- The sum of k products. -/
def dot (l m : List Int) : Nat → Int
  | 0 => 0
  | k + 1 => dot l m k + l.getD k 0 * m.getD k 0
theorem prod_le {x y a b : Int} (h0 : 0 ≤ x) (h1 : x ≤ a) (g0 : 0 ≤ y) (g1 : y ≤ b) : 0 ≤ x * y ∧ x * y ≤ a * b := by
  refine ⟨Int.mul_nonneg h0 g0, ?_⟩
  exact Int.le_trans (Int.mul_le_mul_of_nonneg_right h1 g0) (Int.mul_le_mul_of_nonneg_left g1 (Int.le_trans h0 h1))
theorem dot_le (l m : List Int) (k : Nat) (a b : Int) (h : ∀ j, j < k → 0 ≤ l.getD j 0 ∧ l.getD j 0 ≤ a) (g : ∀ j, j < k → 0 ≤ m.getD j 0 ∧ m.getD j 0 ≤ b) : 0 ≤ dot l m k ∧ dot l m k ≤ (a * b) * (k : Int) := by
  induction k with
  | zero => simp [dot]
  | succ k ih =>
    have h1 := ih (fun j hj => h j (by omega)) (fun j hj => g j (by omega))
    have h2 := prod_le (h k (by omega)).1 (h k (by omega)).2 (g k (by omega)).1 (g k (by omega)).2
    have e : (a * b) * ((k + 1 : Nat) : Int) = (a * b) * (k : Int) + a * b := by rw [Int.natCast_add, Int.mul_add]; simp
    rw [e]
    simp only [dot]
    omega
/-- How many aren't 0. -/
def used (l : List Int) : Nat := (l.filter fun x => decide (0 < x)).length
theorem used_snoc (l : List Int) (k : Nat) (h : k < l.length) : used (l.take (k + 1)) = used (l.take k) + (if 0 < l.getD k 0 then 1 else 0) := by
  have e : l.take (k + 1) = l.take k ++ [l.getD k 0] := by rw [List.take_succ_eq_append_getElem h]; simp [List.getD, List.getElem?_eq_getElem h]
  rw [e]
  unfold used
  rw [List.filter_append, List.length_append]
  by_cases hp : 0 < l.getD k 0
  · rw [if_pos hp, List.filter_cons_of_pos (by simpa using hp)]; rfl
  · rw [if_neg hp, List.filter_cons_of_neg (by simpa using hp)]; rfl
theorem used_le (l : List Int) : used l ≤ l.length := List.length_filter_le _ _
end Mg
end Go.Proofs.YtjjbgdmalefdlaaGreatDoor
end

section
namespace Go.Proofs.YtjjbgdmalefdlaaGreatDoor

namespace Mg
/-- Does x come ahead of y (or is it y)? -/
def leO (l : List Int) (x y : Nat) : Bool := decide (l.getD x 0 < l.getD y 0 ∨ l.getD x 0 = l.getD y 0 ∧ y ≤ x)
theorem leO_iff (l : List Int) (x y : Nat) : leO l x y = true ↔ l.getD x 0 < l.getD y 0 ∨ l.getD x 0 = l.getD y 0 ∧ y ≤ x := by unfold leO; exact decide_eq_true_iff
theorem leO_trans {l : List Int} {x y z : Nat} (h : leO l x y = true) (k : leO l y z = true) : leO l x z = true := by
  rw [leO_iff] at *; omega
theorem leO_total (l : List Int) (x y : Nat) : leO l x y = true ∨ leO l y x = true := by
  rw [leO_iff, leO_iff]; omega
theorem leO_anti {l : List Int} {x y : Nat} (h : leO l x y = true) (k : leO l y x = true) : x = y := by
  rw [leO_iff] at *; omega
def insO (l : List Int) (x : Nat) : List Nat → List Nat
  | [] => [x]
  | y :: r => if leO l x y then x :: y :: r else y :: insO l x r
theorem insO_perm (l : List Int) (x : Nat) : ∀ r, (insO l x r).Perm (x :: r)
  | [] => List.Perm.refl _
  | y :: r => by
    unfold insO
    split
    · exact List.Perm.refl _
    · exact ((insO_perm l x r).cons y).trans (List.Perm.swap x y r)
def SortO (l : List Int) (r : List Nat) : Prop := r.Pairwise fun x y => leO l x y = true
theorem insO_sort (l : List Int) (x : Nat) : ∀ r, SortO l r → SortO l (insO l x r)
  | [], _ => by unfold insO SortO; simp
  | y :: r, h => by
    have h1 := List.pairwise_cons.1 h
    unfold insO
    split
    · rename_i hle
      refine List.pairwise_cons.2 ⟨fun z hz => ?_, h⟩
      rcases List.mem_cons.1 hz with rfl | hz
      · exact hle
      · exact leO_trans hle (h1.1 z hz)
    · rename_i hle
      refine List.pairwise_cons.2 ⟨fun z hz => ?_, insO_sort l x r h1.2⟩
      rcases List.mem_cons.1 ((insO_perm l x r).mem_iff.1 hz) with rfl | hz
      · exact (leO_total l _ _).resolve_left hle
      · exact h1.1 z hz
theorem sort_unique (l : List Int) : ∀ (r s : List Nat), r.Perm s → SortO l r → SortO l s → r = s
  | [], s, h, _, _ => by rw [List.nil_perm] at h; exact h.symm
  | x :: r, [], h, _, _ => by have := h.length_eq; simp at this
  | x :: r, y :: s, h, hr, hs => by
    have h1 := List.pairwise_cons.1 hr
    have h2 := List.pairwise_cons.1 hs
    have hxy : x = y := by
      have hx : x ∈ y :: s := h.mem_iff.1 (by simp)
      have hy : y ∈ x :: r := h.mem_iff.2 (by simp)
      rcases List.mem_cons.1 hx with e | hx
      · exact e
      · rcases List.mem_cons.1 hy with e | hy
        · exact e.symm
        · exact leO_anti (h1.1 y hy) (h2.1 x hx)
    subst hxy
    rw [sort_unique l r s (List.Perm.cons_inv h) h1.2 h2.2]
/-- The symbols that stand, as they come. -/
def stand (l : List Int) (k : Nat) : List Nat := (List.range k).filter fun i => decide (0 < l.getD i 0)
theorem stand_succ (l : List Int) (k : Nat) : stand l (k + 1) = stand l k ++ (if 0 < l.getD k 0 then [k] else []) := by
  unfold stand
  rw [List.range_succ, List.filter_append]
  by_cases h : 0 < l.getD k 0
  · rw [if_pos h, List.filter_cons, if_pos (decide_eq_true h)]; rfl
  · rw [if_neg h, List.filter_cons, if_neg (by rw [decide_eq_false h]; simp)]; rfl
theorem stand_mem (l : List Int) (k i : Nat) : i ∈ stand l k ↔ i < k ∧ 0 < l.getD i 0 := by simp [stand]
theorem stand_le (l : List Int) (k : Nat) : (stand l k).length ≤ k := by
  unfold stand
  refine Nat.le_trans (List.length_filter_le _ _) ?_
  simp
theorem stand_nodup (l : List Int) (k : Nat) : (stand l k).Nodup := List.Pairwise.filter _ List.nodup_range
/-- The rarest one first. -/
def order (l : List Int) : List Nat := (stand l l.length).foldr (insO l) []
theorem order_perm (l : List Int) : (order l).Perm (stand l l.length) := by
  unfold order
  induction stand l l.length with
  | nil => exact List.Perm.refl _
  | cons x r ih => exact (insO_perm l x _).trans (ih.cons x)
theorem order_sort (l : List Int) : SortO l (order l) := by
  unfold order
  induction stand l l.length with
  | nil => exact List.Pairwise.nil
  | cons x r ih => exact insO_sort l x _ ih
theorem order_length (l : List Int) : (order l).length = (stand l l.length).length := (order_perm l).length_eq
theorem order_nodup (l : List Int) : (order l).Nodup := (order_perm l).nodup_iff.2 (stand_nodup _ _)
theorem order_mem (l : List Int) (i : Nat) : i ∈ order l ↔ i < l.length ∧ 0 < l.getD i 0 := by rw [(order_perm l).mem_iff, stand_mem]
theorem stand_used (l : List Int) : ∀ k, k ≤ l.length → (stand l k).length = used (l.take k)
  | 0, _ => rfl
  | k + 1, h => by
    rw [stand_succ, List.length_append, used_snoc l k (by omega), stand_used l k (by omega)]
    split <;> rfl
theorem order_used (l : List Int) : (order l).length = used l := by rw [order_length, stand_used l _ (Nat.le_refl _), List.take_length]
/-- Their counts. -/
def rise (l : List Int) : List Int := (order l).map fun i => l.getD i 0
theorem rise_length (l : List Int) : (rise l).length = used l := by unfold rise; rw [List.length_map, order_used]
theorem rise_up (l : List Int) : Up (rise l) := by
  unfold Up rise
  rw [List.pairwise_map]
  refine (order_sort l).imp (fun h => ?_)
  rw [leO_iff] at h; omega
theorem rise_pos (l : List Int) : ∀ x ∈ rise l, 0 < x := by
  intro x hx
  simp only [rise, List.mem_map] at hx
  obtain ⟨i, hi, rfl⟩ := hx
  exact ((order_mem l i).1 hi).2
theorem rise_le (l : List Int) (b : Int) (h : ∀ k, k < l.length → l.getD k 0 ≤ b) : ∀ x ∈ rise l, x ≤ b := by
  intro x hx
  simp only [rise, List.mem_map] at hx
  obtain ⟨i, hi, rfl⟩ := hx
  exact h i ((order_mem l i).1 hi).1
end Mg
end Go.Proofs.YtjjbgdmalefdlaaGreatDoor
end

section
namespace Go.Proofs.YtjjbgdmalefdlaaGreatDoor

namespace Mg
theorem getD_set_ne {l : List Int} {s j : Nat} {z : Int} (h : s ≠ j) : (l.set s z).getD j 0 = l.getD j 0 := by
  simp only [List.getD]; rw [List.getElem?_set_ne h]
theorem getD_set_same {l : List Int} {s : Nat} {z : Int} (h : s < l.length) : (l.set s z).getD s 0 = z := by
  simp only [List.getD]; rw [List.getElem?_set_self h]; rfl
theorem nodup_ne {ss : List Nat} (hn : ss.Nodup) {i k : Nat} (hi : i < ss.length) (hk : k < ss.length) (h : i ≠ k) : ss.getD i 0 ≠ ss.getD k 0 := by
  have ei : ss.getD i 0 = ss[i] := by simp [List.getD, List.getElem?_eq_getElem hi]
  have ek : ss.getD k 0 = ss[k] := by simp [List.getD, List.getElem?_eq_getElem hk]
  rw [ei, ek]
  rcases Nat.lt_or_gt_of_ne h with h | h
  · exact (List.pairwise_iff_getElem.1 hn) i k hi hk h
  · exact fun e => (List.pairwise_iff_getElem.1 hn) k i hk hi h e.symm
/-- k numbers are scattered. -/
def scat (n : Nat) (ss : List Nat) (zs : List Int) : Nat → List Int
  | 0 => List.replicate n 0
  | k + 1 => (scat n ss zs k).set (ss.getD k 0) (zs.getD k 0)
theorem scat_length (n : Nat) (ss : List Nat) (zs : List Int) : ∀ k, (scat n ss zs k).length = n
  | 0 => by simp [scat]
  | k + 1 => by rw [scat, List.length_set, scat_length n ss zs k]
theorem scat_out (n : Nat) (ss : List Nat) (zs : List Int) (j : Nat) : ∀ k, (∀ i, i < k → ss.getD i 0 ≠ j) → (scat n ss zs k).getD j 0 = 0
  | 0, _ => by by_cases hj : j < n <;> simp [scat, List.getD, List.getElem?_replicate, hj]
  | k + 1, h => by
    have ih := scat_out n ss zs j k (fun i hi => h i (by omega))
    rw [scat, getD_set_ne (h k (by omega))]; exact ih
theorem scat_in (n : Nat) (ss : List Nat) (zs : List Int) (hn : ss.Nodup) (hs : ∀ s ∈ ss, s < n) : ∀ k, k ≤ ss.length → ∀ i, i < k → (scat n ss zs k).getD (ss.getD i 0) 0 = zs.getD i 0
  | 0, _, i, h => by omega
  | k + 1, hk, i, hi => by
    have ek : ss.getD k 0 = ss[k] := by simp [List.getD, List.getElem?_eq_getElem (show k < ss.length by omega)]
    by_cases h : i = k
    · subst h
      have hlt : ss.getD i 0 < n := by rw [ek]; exact hs _ (List.getElem_mem _)
      rw [scat, getD_set_same (by rw [scat_length]; exact hlt)]
    · have ih := scat_in n ss zs hn hs k (by omega) i (by omega)
      rw [scat, getD_set_ne (nodup_ne hn (by omega) (by omega) (by omega))]; exact ih
/-- A sum over the places. -/
def sumg (g : Nat → Int → Int) (l : List Int) : Nat → Int
  | 0 => 0
  | k + 1 => sumg g l k + g k (l.getD k 0)
theorem sumg_set (g : Nat → Int → Int) (l : List Int) (s : Nat) (z : Int) (hs : s < l.length) : ∀ k, sumg g (l.set s z) k = sumg g l k + (if s < k then g s z - g s (l.getD s 0) else 0)
  | 0 => by simp [sumg]
  | k + 1 => by
    rw [sumg, sumg, sumg_set g l s z hs k]
    by_cases h : s = k
    · subst h
      rw [if_neg (by omega), if_pos (by omega)]
      rw [getD_set_same hs]; omega
    · rw [getD_set_ne h]
      by_cases h2 : s < k
      · rw [if_pos h2, if_pos (by omega)]; omega
      · rw [if_neg h2, if_neg (by omega)]; omega
theorem scat_sum (n : Nat) (ss : List Nat) (zs : List Int) (g : Nat → Int → Int) (g0 : ∀ j, g j 0 = 0) (hn : ss.Nodup) (hs : ∀ s ∈ ss, s < n) : ∀ k, k ≤ ss.length →
    sumg g (scat n ss zs k) n = ((List.range k).map fun i => g (ss.getD i 0) (zs.getD i 0)).sum
  | 0, _ => by
    have : ∀ m, sumg g (List.replicate n 0) m = 0 := by
      intro m
      induction m with
      | zero => rfl
      | succ m ih =>
        rw [sumg, ih]
        have : (List.replicate n (0 : Int)).getD m 0 = 0 := by by_cases hj : m < n <;> simp [List.getD, List.getElem?_replicate, hj]
        rw [this, g0]; rfl
    simp [scat, this]
  | k + 1, hk => by
    have ih := scat_sum n ss zs g g0 hn hs k (by omega)
    have ek : ss.getD k 0 = ss[k] := by simp [List.getD, List.getElem?_eq_getElem (show k < ss.length by omega)]
    have hlt : ss.getD k 0 < n := by rw [ek]; exact hs _ (List.getElem_mem _)
    have h0 : (scat n ss zs k).getD (ss.getD k 0) 0 = 0 := scat_out n ss zs _ k (fun i hi => nodup_ne hn (by omega) (by omega) (by omega))
    rw [scat, sumg_set g _ _ _ (by rw [scat_length]; exact hlt), if_pos hlt, ih, h0, g0, List.range_succ, List.map_append, List.sum_append]
    simp
/-- The lengths of counts. -/
def lensOf (l : List Int) (L : Nat) : List Int := scat l.length (order l) (lens (rise l) L) (order l).length
theorem lensOf_length (l : List Int) (L : Nat) : (lensOf l L).length = l.length := scat_length _ _ _ _
/-- Where a symbol stands in the order. -/
theorem order_at (l : List Int) (j : Nat) (hj : j < l.length) (hp : 0 < l.getD j 0) : ∃ i, i < (order l).length ∧ (order l).getD i 0 = j := by
  obtain ⟨i, hi, e⟩ := List.mem_iff_getElem.1 ((order_mem l j).2 ⟨hj, hp⟩)
  exact ⟨i, hi, by simp [List.getD, List.getElem?_eq_getElem hi, e]⟩
theorem order_lt (l : List Int) : ∀ s ∈ order l, s < l.length := fun s hs => ((order_mem l s).1 hs).1
theorem lensOf_at (l : List Int) (L i : Nat) (hi : i < (order l).length) : (lensOf l L).getD ((order l).getD i 0) 0 = (lens (rise l) L).getD i 0 :=
  scat_in _ _ _ (order_nodup l) (order_lt l) _ (Nat.le_refl _) i hi
theorem lensOf_none (l : List Int) (L j : Nat) (h : ¬ (j < l.length ∧ 0 < l.getD j 0)) : (lensOf l L).getD j 0 = 0 :=
  scat_out _ _ _ _ _ (fun i hi e => h ((order_mem l j).1 (by rw [← e]; simp [List.getD, List.getElem?_eq_getElem hi])))
end Mg
end Go.Proofs.YtjjbgdmalefdlaaGreatDoor
end
