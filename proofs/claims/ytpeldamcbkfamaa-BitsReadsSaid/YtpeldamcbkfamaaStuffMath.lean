/- Stuffed bytes, as lists. -/
import Derived.Test.YtpeldamcbkfamaaBase
namespace Go.Proofs.Ytpeldamcbkfamaa
open Go.RowKit
namespace Sf
def one (x : UInt8) : List UInt8 := if x = 255 then [x, 0] else [x]
/-- Stuffed bytes. -/
def st (l : List UInt8) : List UInt8 := l.flatMap one
/-- The bytes of stuffed ones, and how many were read. -/
def un : List UInt8 → List UInt8 × Nat
  | [] => ([], 0)
  | x :: r =>
    if x = 255 then
      match r with
      | y :: r' => if y = 0 then (x :: (un r').1, (un r').2 + 2) else ([], 0)
      | [] => ([], 0)
    else (x :: (un r).1, (un r).2 + 1)
def U (l : List UInt8) : List UInt8 := (un l).1
def T (l : List UInt8) : Nat := (un l).2
theorem st_nil : st [] = [] := rfl
theorem st_cons (x : UInt8) (l : List UInt8) : st (x :: l) = one x ++ st l := rfl
theorem st_append (l m : List UInt8) : st (l ++ m) = st l ++ st m := by simp [st]
theorem one_length (x : UInt8) : 1 ≤ (one x).length ∧ (one x).length ≤ 2 := by unfold one; split <;> simp
theorem st_length (l : List UInt8) : l.length ≤ (st l).length ∧ (st l).length ≤ 2 * l.length := by
  induction l with
  | nil => simp [st]
  | cons x l ih => have := one_length x; simp only [st_cons, List.length_append, List.length_cons]; omega
theorem st_take (l : List UInt8) (k : Nat) (h : k < l.length) : st (l.take (k + 1)) = st (l.take k) ++ one (l.getD k 0) := by
  rw [take_succ_getD l k h, st_append]; simp [st]
theorem un_c1 (x : UInt8) (r : List UInt8) (hx : x ≠ 255) : un (x :: r) = (x :: (un r).1, (un r).2 + 1) := by rw [un.eq_def]; simp [hx]
theorem un_c2 (x y : UInt8) (r : List UInt8) (hx : x = 255) (hy : y = 0) : un (x :: y :: r) = (x :: (un r).1, (un r).2 + 2) := by rw [un.eq_def]; simp [hx, hy]
theorem un_c3 (x y : UInt8) (r : List UInt8) (hx : x = 255) (hy : y ≠ 0) : un (x :: y :: r) = ([], 0) := by rw [un.eq_def]; simp [hx, hy]
theorem un_c4 (x : UInt8) (hx : x = 255) : un [x] = ([], 0) := by rw [un.eq_def]; simp [hx]
theorem un_low (l : List UInt8) (k : Nat) (h : k < l.length) (hx : l.getD k 0 ≠ 255) : U (l.drop k) = l.getD k 0 :: U (l.drop (k + 1)) ∧ T (l.drop k) = T (l.drop (k + 1)) + 1 := by
  have e : l.drop k = l.getD k 0 :: l.drop (k + 1) := by
    rw [List.drop_eq_getElem_cons h]; simp [List.getD, List.getElem?_eq_getElem h]
  unfold U T
  rw [e, un_c1 _ _ hx]; exact ⟨rfl, rfl⟩
theorem un_pair (l : List UInt8) (k : Nat) (h : k + 1 < l.length) (hx : l.getD k 0 = 255) (hy : l.getD (k + 1) 0 = 0) : U (l.drop k) = l.getD k 0 :: U (l.drop (k + 2)) ∧ T (l.drop k) = T (l.drop (k + 2)) + 2 := by
  have e : l.drop k = l.getD k 0 :: l.getD (k + 1) 0 :: l.drop (k + 2) := by
    rw [List.drop_eq_getElem_cons (by omega), List.drop_eq_getElem_cons h]; simp [List.getD, List.getElem?_eq_getElem h, List.getElem?_eq_getElem (show k < l.length by omega)]
  unfold U T
  rw [e, un_c2 _ _ _ hx hy]; exact ⟨rfl, rfl⟩
theorem un_stop (l : List UInt8) (k : Nat) (h : k < l.length) (hx : l.getD k 0 = 255) (hy : k + 1 < l.length → l.getD (k + 1) 0 ≠ 0) : U (l.drop k) = [] ∧ T (l.drop k) = 0 := by
  have e : l.drop k = l.getD k 0 :: l.drop (k + 1) := by
    rw [List.drop_eq_getElem_cons h]; simp [List.getD, List.getElem?_eq_getElem h]
  unfold U T
  rw [e]
  by_cases h2 : k + 1 < l.length
  · have e2 : l.drop (k + 1) = l.getD (k + 1) 0 :: l.drop (k + 2) := by
      rw [List.drop_eq_getElem_cons h2]; simp [List.getD, List.getElem?_eq_getElem h2]
    rw [e2, un_c3 _ _ _ hx (hy h2)]; exact ⟨rfl, rfl⟩
  · rw [List.drop_eq_nil_of_le (by omega), un_c4 _ hx]; exact ⟨rfl, rfl⟩
theorem un_end (l : List UInt8) (k : Nat) (h : l.length ≤ k) : U (l.drop k) = [] ∧ T (l.drop k) = 0 := by
  rw [List.drop_eq_nil_of_le h]; exact ⟨rfl, rfl⟩
theorem un_st (l r : List UInt8) : U (st l ++ r) = l ++ U r ∧ T (st l ++ r) = (st l).length + T r := by
  induction l with
  | nil => simp [st]
  | cons x l ih =>
    rw [st_cons, List.append_assoc]
    by_cases hx : x = 255
    · subst hx
      have e : one 255 ++ (st l ++ r) = 255 :: 0 :: (st l ++ r) := rfl
      unfold U T at *
      rw [e, un.eq_def]; simp [ih, one]; omega
    · have e : one x ++ (st l ++ r) = x :: (st l ++ r) := by simp [one, hx]
      unfold U T at *
      rw [e, un.eq_def]; simp [ih, one, hx]; omega
theorem st_un : ∀ (n : Nat) (l : List UInt8), l.length ≤ n → st (U l) = l.take (T l) ∧ T l ≤ l.length ∧ (U l).length ≤ T l
  | 0, l, h => by
    have : l = [] := List.eq_nil_of_length_eq_zero (by omega)
    subst this; exact ⟨rfl, Nat.le_refl _, Nat.le_refl _⟩
  | n + 1, l, h => by
    match l, h with
    | [], _ => exact ⟨rfl, Nat.le_refl _, Nat.le_refl _⟩
    | x :: r, h =>
      simp only [List.length_cons] at h
      by_cases hx : x = 255
      · match r, h with
        | [], _ => unfold U T; rw [un.eq_def]; simp [hx, st]
        | y :: r', h =>
          simp only [List.length_cons] at h
          by_cases hy : y = 0
          · have ih := st_un n r' (by omega)
            unfold U T at *
            rw [un.eq_def]
            simp only [hx, hy, if_true, st_cons, ih.1, List.length_cons]
            exact ⟨rfl, by omega, by omega⟩
          · unfold U T; rw [un.eq_def]; simp [hx, hy, st]
      · have ih := st_un n r (by omega)
        unfold U T at *
        rw [un.eq_def]
        simp only [hx, if_false, st_cons, ih.1, List.length_cons]
        exact ⟨by simp [one, hx], by omega, by omega⟩
theorem st_marks (l : List UInt8) : ∀ i, i < (st l).length → (st l).getD i 0 = 255 → i + 1 < (st l).length ∧ (st l).getD (i + 1) 0 = 0 := by
  induction l with
  | nil => intro i h; simp [st] at h
  | cons x l ih =>
    intro i h h2
    rw [st_cons] at h h2 ⊢
    by_cases hx : x = 255
    · have e : one x = [255, 0] := by simp [one, hx]
      rw [e] at h h2 ⊢
      match i with
      | 0 => exact ⟨by simp, rfl⟩
      | 1 => simp [List.getD] at h2
      | i + 2 =>
        have := ih i (by simp at h; omega) (by simpa [List.getD] using h2)
        exact ⟨by simp; omega, by simpa [List.getD] using this.2⟩
    · have e : one x = [x] := by simp [one, hx]
      rw [e] at h h2 ⊢
      match i with
      | 0 => simp [List.getD] at h2; exact absurd h2 hx
      | i + 1 =>
        have := ih i (by simp at h; omega) (by simpa [List.getD] using h2)
        exact ⟨by simp; omega, by simpa [List.getD] using this.2⟩
theorem byte_eq (l : List UInt8) (k c : Nat) (hc : c < 256) : gb l k = c ↔ l.getD k 0 = UInt8.ofNat c := by
  unfold gb
  constructor
  · intro h; rw [← h]; simp
  · intro h; rw [h]; simp; omega
end Sf
end Go.Proofs.Ytpeldamcbkfamaa
