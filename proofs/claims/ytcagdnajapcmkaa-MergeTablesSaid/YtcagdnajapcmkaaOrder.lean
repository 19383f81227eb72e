/- The symbols that stand, the rarest one first. -/
import Derived.Test.YtcagdnajapcmkaaPmMath
import Derived.Test.YtcagdnajapcmkaaMergeMath
namespace Go.Proofs.Ytcagdnajapcmkaa

namespace Mg
/-- Does x come ahead of y (or is it y)? -/
def leO (l : List Int) (x y : Nat) : Bool := decide (l.getD x 0 < l.getD y 0 ∨ l.getD x 0 = l.getD y 0 ∧ y ≤ x)
theorem leO_iff (l : List Int) (x y : Nat) : leO l x y = true ↔ l.getD x 0 < l.getD y 0 ∨ l.getD x 0 = l.getD y 0 ∧ y ≤ x := by unfold leO; exact decide_eq_true_iff
theorem leO_trans {l : List Int} {x y z : Nat} (h : leO l x y = true) (k : leO l y z = true) : leO l x z = true := by
  rw [leO_iff] at *; omega
theorem leO_total (l : List Int) (x y : Nat) : leO l x y = true ∨ leO l y x = true := by
  rw [leO_iff, leO_iff]; omega
theorem leO_anti {l : List Int} {x y : Nat} (h : leO l x y = true) (k : leO l y x = true) : x = y := by
  rw [leO_iff] at *; omega
def insO (l : List Int) (x : Nat) : List Nat → List Nat
  | [] => [x]
  | y :: r => if leO l x y then x :: y :: r else y :: insO l x r
theorem insO_perm (l : List Int) (x : Nat) : ∀ r, (insO l x r).Perm (x :: r)
  | [] => List.Perm.refl _
  | y :: r => by
    unfold insO
    split
    · exact List.Perm.refl _
    · exact ((insO_perm l x r).cons y).trans (List.Perm.swap x y r)
def SortO (l : List Int) (r : List Nat) : Prop := r.Pairwise fun x y => leO l x y = true
theorem insO_sort (l : List Int) (x : Nat) : ∀ r, SortO l r → SortO l (insO l x r)
  | [], _ => by unfold insO SortO; simp
  | y :: r, h => by
    have h1 := List.pairwise_cons.1 h
    unfold insO
    split
    · rename_i hle
      refine List.pairwise_cons.2 ⟨fun z hz => ?_, h⟩
      rcases List.mem_cons.1 hz with rfl | hz
      · exact hle
      · exact leO_trans hle (h1.1 z hz)
    · rename_i hle
      refine List.pairwise_cons.2 ⟨fun z hz => ?_, insO_sort l x r h1.2⟩
      rcases List.mem_cons.1 ((insO_perm l x r).mem_iff.1 hz) with rfl | hz
      · exact (leO_total l _ _).resolve_left hle
      · exact h1.1 z hz
theorem sort_unique (l : List Int) : ∀ (r s : List Nat), r.Perm s → SortO l r → SortO l s → r = s
  | [], s, h, _, _ => by rw [List.nil_perm] at h; exact h.symm
  | x :: r, [], h, _, _ => by have := h.length_eq; simp at this
  | x :: r, y :: s, h, hr, hs => by
    have h1 := List.pairwise_cons.1 hr
    have h2 := List.pairwise_cons.1 hs
    have hxy : x = y := by
      have hx : x ∈ y :: s := h.mem_iff.1 (by simp)
      have hy : y ∈ x :: r := h.mem_iff.2 (by simp)
      rcases List.mem_cons.1 hx with e | hx
      · exact e
      · rcases List.mem_cons.1 hy with e | hy
        · exact e.symm
        · exact leO_anti (h1.1 y hy) (h2.1 x hx)
    subst hxy
    rw [sort_unique l r s (List.Perm.cons_inv h) h1.2 h2.2]
/-- The symbols that stand, as they come. -/
def stand (l : List Int) (k : Nat) : List Nat := (List.range k).filter fun i => decide (0 < l.getD i 0)
theorem stand_succ (l : List Int) (k : Nat) : stand l (k + 1) = stand l k ++ (if 0 < l.getD k 0 then [k] else []) := by
  unfold stand
  rw [List.range_succ, List.filter_append]
  by_cases h : 0 < l.getD k 0
  · rw [if_pos h, List.filter_cons, if_pos (decide_eq_true h)]; rfl
  · rw [if_neg h, List.filter_cons, if_neg (by rw [decide_eq_false h]; simp)]; rfl
theorem stand_mem (l : List Int) (k i : Nat) : i ∈ stand l k ↔ i < k ∧ 0 < l.getD i 0 := by simp [stand]
theorem stand_le (l : List Int) (k : Nat) : (stand l k).length ≤ k := by
  unfold stand
  refine Nat.le_trans (List.length_filter_le _ _) ?_
  simp
theorem stand_nodup (l : List Int) (k : Nat) : (stand l k).Nodup := List.Pairwise.filter _ List.nodup_range
/-- The rarest one first. -/
def order (l : List Int) : List Nat := (stand l l.length).foldr (insO l) []
theorem order_perm (l : List Int) : (order l).Perm (stand l l.length) := by
  unfold order
  induction stand l l.length with
  | nil => exact List.Perm.refl _
  | cons x r ih => exact (insO_perm l x _).trans (ih.cons x)
theorem order_sort (l : List Int) : SortO l (order l) := by
  unfold order
  induction stand l l.length with
  | nil => exact List.Pairwise.nil
  | cons x r ih => exact insO_sort l x _ ih
theorem order_length (l : List Int) : (order l).length = (stand l l.length).length := (order_perm l).length_eq
theorem order_nodup (l : List Int) : (order l).Nodup := (order_perm l).nodup_iff.2 (stand_nodup _ _)
theorem order_mem (l : List Int) (i : Nat) : i ∈ order l ↔ i < l.length ∧ 0 < l.getD i 0 := by rw [(order_perm l).mem_iff, stand_mem]
theorem stand_used (l : List Int) : ∀ k, k ≤ l.length → (stand l k).length = used (l.take k)
  | 0, _ => rfl
  | k + 1, h => by
    rw [stand_succ, List.length_append, used_snoc l k (by omega), stand_used l k (by omega)]
    split <;> rfl
theorem order_used (l : List Int) : (order l).length = used l := by rw [order_length, stand_used l _ (Nat.le_refl _), List.take_length]
/-- Their counts. -/
def rise (l : List Int) : List Int := (order l).map fun i => l.getD i 0
theorem rise_length (l : List Int) : (rise l).length = used l := by unfold rise; rw [List.length_map, order_used]
theorem rise_up (l : List Int) : Up (rise l) := by
  unfold Up rise
  rw [List.pairwise_map]
  refine (order_sort l).imp (fun h => ?_)
  rw [leO_iff] at h; omega
theorem rise_pos (l : List Int) : ∀ x ∈ rise l, 0 < x := by
  intro x hx
  simp only [rise, List.mem_map] at hx
  obtain ⟨i, hi, rfl⟩ := hx
  exact ((order_mem l i).1 hi).2
theorem rise_le (l : List Int) (b : Int) (h : ∀ k, k < l.length → l.getD k 0 ≤ b) : ∀ x ∈ rise l, x ≤ b := by
  intro x hx
  simp only [rise, List.mem_map] at hx
  obtain ⟨i, hi, rfl⟩ := hx
  exact h i ((order_mem l i).1 hi).1
end Mg
end Go.Proofs.Ytcagdnajapcmkaa
