/- What is nearest at a place, by its records. -/
import Derived.Test.YtedncnaeojomcaaDoorLzNear
namespace Go.Proofs.YtedncnaeojomcaaDoor.Lz
/-- How long the longest match is; 2 where there is none. -/
def top (R : List (Nat × Nat)) : Nat := match R.getLast? with | some q => q.1 | none => 2
/-- How far the nearest match of n bytes is. -/
def far (R : List (Nat × Nat)) (n : Nat) : Nat := match R.find? (fun q => decide (n ≤ q.1)) with | some q => q.2 | none => 0
theorem top_nil : top [] = 2 := rfl
theorem top_snoc (R : List (Nat × Nat)) (q : Nat × Nat) : top (R ++ [q]) = q.1 := by simp [top]
theorem far_nil (n : Nat) : far [] n = 0 := rfl
theorem find_top {R : List (Nat × Nat)} {n : Nat} (h3 : 3 ≤ n) (hn : n ≤ top R) : ∃ q, R.find? (fun q => decide (n ≤ q.1)) = some q := by
  cases hf : R.find? (fun q => decide (n ≤ q.1)) with
  | some q => exact ⟨q, rfl⟩
  | none =>
    exfalso
    unfold top at hn
    cases hl : R.getLast? with
    | none => rw [hl] at hn; simp at hn; omega
    | some q =>
      rw [hl] at hn
      obtain ⟨as, rfl⟩ := List.getLast?_eq_some_iff.1 hl
      have := List.find?_eq_none.1 hf q (by simp)
      simp at this
      simp at hn
      omega
theorem find_over {b : Nat → Nat} {N t n : Nat} {R : List (Nat × Nat)} (h : Rec b N t R) (hn : top R < n) : R.find? (fun q => decide (n ≤ q.1)) = none := by
  rw [List.find?_eq_none]
  intro q hq
  cases hl : R.getLast? with
  | none => rw [List.getLast?_eq_none_iff.1 hl] at hq; simp at hq
  | some p =>
    have h1 := ((last_most h hl).1 q hq).1
    have h2 : top R = p.1 := by unfold top; rw [hl]
    simp
    omega
theorem top_ge {b : Nat → Nat} {N t : Nat} {R : List (Nat × Nat)} (h : Rec b N t R) : 2 ≤ top R := by
  unfold top
  cases hl : R.getLast? with
  | none => exact Nat.le_refl _
  | some q =>
    have := (h.2.1 q (List.mem_of_getLast? hl)).2.2.2.1
    show 2 ≤ q.1
    omega
theorem top_le {b : Nat → Nat} {N t : Nat} {R : List (Nat × Nat)} (h : Rec b N t R) : top R ≤ 258 := by
  unfold top
  cases hl : R.getLast? with
  | none => show 2 ≤ 258; omega
  | some q =>
    have h1 := (h.2.1 q (List.mem_of_getLast? hl)).2.2.2.2
    have h2 := cp_le b (L N t) (t - q.2) t
    have h3 : L N t ≤ 258 := by unfold L; omega
    show q.1 ≤ 258
    omega
theorem top_le_L {b : Nat → Nat} {N t : Nat} {R : List (Nat × Nat)} (h : Rec b N t R) (h3 : 3 ≤ top R) : top R ≤ L N t := by
  unfold top at h3 ⊢
  cases hl : R.getLast? with
  | none => rw [hl] at h3; simp at h3
  | some q =>
    have h1 := (h.2.1 q (List.mem_of_getLast? hl)).2.2.2.2
    have h2 := cp_le b (L N t) (t - q.2) t
    show q.1 ≤ L N t
    omega
theorem far_some {b : Nat → Nat} {N t n : Nat} {R : List (Nat × Nat)} (h : Rec b N t R) (h3 : 3 ≤ n) (hn : n ≤ top R) : Mat b N t n (far R n) ∧ ∀ f, f < far R n → ¬ Mat b N t n f := by
  obtain ⟨q, hq⟩ := find_top h3 hn
  have : far R n = q.2 := by unfold far; rw [hq]
  rw [this]
  exact near_some h h3 hq
theorem far_none {b : Nat → Nat} {N t n : Nat} {R : List (Nat × Nat)} (h : Rec b N t R) (h3 : 3 ≤ n) (hn : top R < n) : ∀ f, ¬ Mat b N t n f := near_none h h3 (find_over h hn)
/-- A match of n bytes there is just where n isn't beyond the longest one. -/
theorem mat_top {b : Nat → Nat} {N t n f : Nat} {R : List (Nat × Nat)} (h : Rec b N t R) (h3 : 3 ≤ n) (hm : Mat b N t n f) : n ≤ top R ∧ far R n ≤ f := by
  have h1 : n ≤ top R := by
    rcases Nat.lt_or_ge (top R) n with h' | h'
    · exact absurd hm (far_none h h3 h' f)
    · exact h'
  refine ⟨h1, ?_⟩
  rcases Nat.lt_or_ge f (far R n) with h' | h'
  · exact absurd hm ((far_some h h3 h1).2 f h')
  · exact h'
theorem top_nil_iff {b : Nat → Nat} {N t : Nat} {R : List (Nat × Nat)} (h : Rec b N t R) : R = [] ↔ top R = 2 := by
  constructor
  · rintro rfl; rfl
  · intro h2
    cases hl : R.getLast? with
    | none => exact List.getLast?_eq_none_iff.1 hl
    | some q =>
      have h1 := (h.2.1 q (List.mem_of_getLast? hl)).2.2.2.1
      unfold top at h2
      rw [hl] at h2
      simp at h2
      omega
/-- The lengths that a record adds are at its distance. -/
theorem far_mid {b : Nat → Nat} {N t n : Nat} {pre s : List (Nat × Nat)} {q : Nat × Nat} (h : Rec b N t (pre ++ q :: s)) (h1 : top pre < n) (h2 : n ≤ q.1) : far (pre ++ q :: s) n = q.2 := by
  unfold far
  have hpre : pre.find? (fun q => decide (n ≤ q.1)) = none := by
    rw [List.find?_eq_none]
    intro p hp
    have hpw := (List.pairwise_append.1 h.1).1
    cases hl : pre.getLast? with
    | none => rw [List.getLast?_eq_none_iff.1 hl] at hp; simp at hp
    | some z =>
      obtain ⟨as, rfl⟩ := List.getLast?_eq_some_iff.1 hl
      rw [top_snoc] at h1
      rcases List.mem_append.1 hp with h' | h'
      · have := (List.pairwise_append.1 hpw).2.2 p h' z (by simp)
        simp
        omega
      · simp at h'; subst h'
        simp; omega
  rw [List.find?_append, hpre]
  simp [h2]
theorem far_last {b : Nat → Nat} {N t : Nat} {R : List (Nat × Nat)} {q : Nat × Nat} (h : Rec b N t (R ++ [q])) : far (R ++ [q]) (top (R ++ [q])) = q.2 := by
  rw [top_snoc]
  refine far_mid h ?_ (Nat.le_refl _)
  cases hl : R.getLast? with
  | none =>
    rw [List.getLast?_eq_none_iff.1 hl] at h ⊢
    have := (h.2.1 q (by simp)).2.2.2.1
    rw [top_nil]; omega
  | some z =>
    obtain ⟨as, rfl⟩ := List.getLast?_eq_some_iff.1 hl
    rw [top_snoc]
    exact ((List.pairwise_append.1 h.1).2.2 z (by simp) q (by simp)).1
/-- The document's list: of each length from 3 on the nearest match's distance. -/
def want (R : List (Nat × Nat)) : List Nat := (List.range (top R - 2)).map fun i => far R (3 + i)
theorem want_length (R : List (Nat × Nat)) : (want R).length = top R - 2 := by simp [want]
theorem want_get (R : List (Nat × Nat)) (i : Nat) (h : i < top R - 2) : (want R)[i]? = some (far R (3 + i)) := by simp [want, h]
theorem want_getD (R : List (Nat × Nat)) (i : Nat) (h : i < top R - 2) : (want R).getD i 0 = far R (3 + i) := by simp [List.getD, want_get R i h]
theorem want_nil : want [] = [] := rfl
/-- Distances don't decrease. -/
theorem far_mono {b : Nat → Nat} {N t n m : Nat} {R : List (Nat × Nat)} (h : Rec b N t R) (h3 : 3 ≤ n) (hnm : n ≤ m) (hm : m ≤ top R) : far R n ≤ far R m := by
  obtain ⟨k1, k2, k3, k4⟩ := (far_some h (by omega) hm).1
  exact (mat_top h h3 (f := far R m) ⟨k1, k2, k3, by omega⟩).2
/-- A length with its distance, as it is handed over. -/
def near (R : List (Nat × Nat)) : List (Nat × Nat) := (List.range (top R - 2)).map fun i => (3 + i, far R (3 + i))
theorem near_length (R : List (Nat × Nat)) : (near R).length = top R - 2 := by simp [near]
theorem near_get (R : List (Nat × Nat)) (i : Nat) (h : i < top R - 2) : (near R)[i]? = some (3 + i, far R (3 + i)) := by simp [near, h]
theorem near_next (R : List (Nat × Nat)) (i : Nat) (h : i < top R - 2) : ∃ t, near R = (near R).take i ++ (3 + i, far R (3 + i)) :: t := by
  refine ⟨(near R).drop (i + 1), ?_⟩
  have hi : i < (near R).length := by rw [near_length]; exact h
  have e : (near R)[i] = (3 + i, far R (3 + i)) := by
    have := near_get R i h
    rw [List.getElem?_eq_getElem hi] at this
    simpa using this
  rw [← e, ← List.drop_eq_getElem_cons hi, List.take_append_drop]
theorem near_take (R : List (Nat × Nat)) (i : Nat) (h : i < top R - 2) : (near R).take (i + 1) = (near R).take i ++ [(3 + i, far R (3 + i))] := by
  rw [List.take_add_one, near_get R i h]; rfl
theorem near_pre {R : List (Nat × Nat)} {pre t : List (Nat × Nat)} {x : Nat × Nat} (h : near R = pre ++ x :: t) : pre.length < top R - 2 ∧ x = (3 + pre.length, far R (3 + pre.length)) := by
  have h1 : pre.length < top R - 2 := by
    have := congrArg List.length h
    rw [near_length] at this
    simp at this
    omega
  refine ⟨h1, ?_⟩
  have h2 := near_get R pre.length h1
  rw [h] at h2
  simpa using h2
end Go.Proofs.YtedncnaeojomcaaDoor.Lz
