/- The document's order of codes: sorted sizes, their sum, and which symbols. -/
import Derived.Test.YtnlbomijnldlmaaCanonVal
namespace Go.Proofs.Ytnlbomijnldlmaa
open Go.RowKit

namespace Cn
theorem sizN_low (l : List Int) (m : Nat) : ∀ x ∈ sizN l m, 1 ≤ x ∧ x ≤ m := by
  intro x hx
  simp only [sizN, List.mem_flatMap, List.mem_range, List.mem_map] at hx
  obtain ⟨n, hn, _, _, rfl⟩ := hx
  omega
theorem sizN_sorted (l : List Int) (m : Nat) : (sizN l m).Pairwise (· ≤ ·) := by
  induction m with
  | zero => exact List.Pairwise.nil
  | succ m ih =>
    rw [sizN_succ, List.pairwise_append]
    refine ⟨ih, ?_, fun x hx y hy => ?_⟩
    · rw [List.pairwise_map]
      generalize row l m l.length = r
      induction r with
      | nil => exact List.Pairwise.nil
      | cons a r ih2 => exact List.Pairwise.cons (fun _ _ => Int.le_refl _) ih2
    · obtain ⟨_, _, rfl⟩ := List.mem_map.1 hy
      have := sizN_low l m x hx
      omega
theorem row_count (l : List Int) (m : Nat) : ∀ k, k ≤ l.length → (row l m k).length = (l.take k).countP (fun x => x == ((m + 1 : Nat) : Int)) := by
  intro k
  induction k with
  | zero => intro _; simp [row]
  | succ k ih =>
    intro hk
    have hg : l.getD k 0 = l[k] := by simp [List.getD, List.getElem?_eq_getElem (show k < l.length by omega)]
    rw [row_succ, List.length_append, ih (by omega), List.take_succ_eq_append_getElem (show k < l.length by omega), List.countP_append, hg]
    by_cases h : (l[k] == ((m + 1 : Nat) : Int)) = true
    · rw [if_pos h, List.countP_cons_of_pos (p := fun x => x == ((m + 1 : Nat) : Int)) h]; rfl
    · rw [if_neg h, List.countP_cons_of_neg (p := fun x => x == ((m + 1 : Nat) : Int)) h]; rfl
def sumTo (l : List Int) (m : Nat) : Nat := (l.map fun (n : Int) => if n ≤ (m : Int) then part n else 0).sum
theorem sumTo_succ (l : List Int) (m : Nat) : sumTo l (m + 1) = sumTo l m + l.countP (fun x => x == ((m + 1 : Nat) : Int)) * part ((m + 1 : Nat) : Int) := by
  induction l with
  | nil => simp [sumTo]
  | cons x l ih =>
    have e1 : sumTo (x :: l) (m + 1) = (if x ≤ ((m + 1 : Nat) : Int) then part x else 0) + sumTo l (m + 1) := rfl
    have e2 : sumTo (x :: l) m = (if x ≤ (m : Int) then part x else 0) + sumTo l m := rfl
    rw [e1, e2, ih]
    by_cases h : x = ((m + 1 : Nat) : Int)
    · rw [List.countP_cons_of_pos (by simpa using h), if_pos (by omega), if_neg (by omega), h, Nat.succ_mul]; omega
    · rw [List.countP_cons_of_neg (by simpa using h)]
      by_cases h2 : x ≤ (m : Int)
      · rw [if_pos (by omega), if_pos h2]; omega
      · rw [if_neg (by omega), if_neg h2]; omega
theorem sum_sizN (l : List Int) (m : Nat) (h0 : ∀ x ∈ l, 0 ≤ x) : sum (sizN l m) = sumTo l m := by
  induction m with
  | zero =>
    have : sumTo l 0 = 0 := by
      unfold sumTo
      induction l with
      | nil => rfl
      | cons x l ih =>
        rw [List.map_cons, List.sum_cons, ih (fun y hy => h0 y (List.mem_cons_of_mem _ hy))]
        have := h0 x (List.mem_cons_self ..)
        by_cases h : x ≤ ((0 : Nat) : Int)
        · rw [if_pos h]; unfold part; rw [if_pos (by omega)]
        · rw [if_neg h]
    rw [this]; rfl
  | succ m ih =>
    rw [sizN_succ, sumTo_succ, ← ih]
    have hr := row_count l m l.length (Nat.le_refl _)
    rw [List.take_length] at hr
    rw [← hr]
    unfold sum
    rw [List.map_append, List.sum_append, List.map_map]
    congr 1
    generalize row l m l.length = r
    induction r with
    | nil => simp
    | cons a r ih2 => rw [List.map_cons, List.sum_cons, ih2, List.length_cons, Nat.succ_mul, Nat.add_comm]; rfl
theorem form_mem (l : List Int) (h : formB l = true) : ∀ x ∈ l, 0 ≤ x ∧ x ≤ 16 := by
  intro x hx
  simp only [formB, Bool.and_eq_true, List.all_eq_true, decide_eq_true_eq] at h
  exact h.2 x hx
theorem sumTo_all (l : List Int) (m : Nat) (h : ∀ x ∈ l, x ≤ (m : Int)) : sumTo l m = sum l := by
  unfold sumTo sum
  congr 1
  exact List.map_congr_left (fun x hx => if_pos (h x hx))
theorem sum_sizes (l : List Int) (h : formB l = true) : sum (sizes l) = sum l := by
  unfold sizes
  rw [sum_sizN l 16 (fun x hx => (form_mem l h x hx).1), sumTo_all l 16 (fun x hx => (form_mem l h x hx).2)]
/-- The codes of lengths in form: each as long as asked for, and where it begins. -/
theorem sizes_val (l : List Int) (h : freeB l = true) (i : Nat) (hi : i < (sizes l).length) :
    ((codes (sizes l)).getD i []).length = ((sizes l).getD i 0).toNat ∧ Bt.numH ((codes (sizes l)).getD i []) * 2 ^ (16 - ((sizes l).getD i 0).toNat) = sum ((sizes l).take i) := by
  simp only [freeB, Bool.and_eq_true, decide_eq_true_eq] at h
  have hg : ∀ j (hj : j < (sizes l).length), (sizes l).getD j 0 = (sizes l)[j] := fun j hj => by simp [List.getD, List.getElem?_eq_getElem hj]
  refine codes_val (sizes l) (fun j hj => ?_) (fun j hj => ?_) (by rw [sum_sizes l h.1]; exact h.2) i hi
  · rw [hg j hj]; exact sizN_low l 16 _ (List.getElem_mem hj)
  · rw [hg j (by omega), hg (j + 1) hj]
    exact List.pairwise_iff_getElem.1 (sizN_sorted l 16) j (j + 1) (Nat.lt_of_succ_lt hj) hj (Nat.lt_succ_self _)
/-- Symbols and lengths, in the order of their codes. -/
def pairs (l : List Int) (m : Nat) : List (Nat × Int) := (List.range m).flatMap fun n => (row l n l.length).map fun s => (s, ((n + 1 : Nat) : Int))
theorem pairs_syms (l : List Int) : syms l = (pairs l 16).map fun p => (p.1 : Int) := by
  simp only [syms, symN, pairs, List.map_flatMap, List.map_map]; rfl
theorem pairs_sizes (l : List Int) : sizes l = (pairs l 16).map fun p => p.2 := by
  simp only [sizes, sizN, pairs, List.map_flatMap, List.map_map]; rfl
theorem pairs_mem (l : List Int) (m s : Nat) (n : Int) : (s, n) ∈ pairs l m ↔ s < l.length ∧ l.getD s 0 = n ∧ 1 ≤ n ∧ n ≤ m := by
  simp only [pairs, List.mem_flatMap, List.mem_range, List.mem_map, row, List.mem_filter, beq_iff_eq, Prod.mk.injEq]
  constructor
  · rintro ⟨k, hk, t, ⟨ht, he⟩, rfl, rfl⟩
    exact ⟨ht, he, by omega, by omega⟩
  · rintro ⟨hs, he, h1, h2⟩
    exact ⟨n.toNat - 1, by omega, s, ⟨hs, by omega⟩, rfl, by omega⟩
theorem pairs_nodup (l : List Int) (m : Nat) : ((pairs l m).map fun p => p.1).Nodup := by
  induction m with
  | zero => exact List.Pairwise.nil
  | succ m ih =>
    have e : pairs l (m + 1) = pairs l m ++ (row l m l.length).map fun s => (s, ((m + 1 : Nat) : Int)) := by simp [pairs, List.range_succ]
    rw [e, List.map_append, List.map_map, List.nodup_append]
    refine ⟨ih, ?_, ?_⟩
    · have : ((fun p : Nat × Int => p.1) ∘ fun s : Nat => (s, ((m + 1 : Nat) : Int))) = id := rfl
      rw [this, List.map_id]
      exact List.Pairwise.filter _ List.nodup_range
    · intro a ha b hb hab
      obtain ⟨⟨s, n⟩, hp, rfl⟩ := List.mem_map.1 ha
      obtain ⟨t, ht, rfl⟩ := List.mem_map.1 hb
      obtain ⟨_, h1, _, h2⟩ := (pairs_mem l m s n).1 hp
      simp only [row, List.mem_filter, beq_iff_eq] at ht
      simp only [Function.comp] at hab
      subst hab
      omega
end Cn
end Go.Proofs.Ytnlbomijnldlmaa
