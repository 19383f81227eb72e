/- Canonical codes as lists of bits. -/
import Derived.Test.YtcagdnajapcmkaaBitsMath
namespace Go.Proofs.Ytcagdnajapcmkaa
open Go.RowKit
namespace Cn
/-- What is free of lengths in form. -/
def part (n : Int) : Nat := if n ≤ 0 then 0 else 65536 / 2 ^ n.toNat
def sum (l : List Int) : Nat := (l.map part).sum
def formB (l : List Int) : Bool := decide (l.length ≤ 512) && l.all fun n => decide (0 ≤ n ∧ n ≤ 16)
/-- What the document answers for what is free. -/
def freeN (l : List Int) : Int := if formB l then 65536 - (sum l : Int) else 0
def freeB (l : List Int) : Bool := formB l && decide (sum l ≤ 65536)
theorem form_bad (l : List Int) (k : Nat) (hk : k < l.length) (h : l.getD k 0 < 0 ∨ 16 < l.getD k 0) : formB l = false := by
  have hm : l.getD k 0 ∈ l := by simp [List.getD, List.getElem?_eq_getElem hk]
  unfold formB
  rw [Bool.and_eq_false_iff]
  right
  rw [List.all_eq_false]
  generalize l.getD k 0 = z at *
  exact ⟨z, hm, by simp; omega⟩
theorem form_good (l : List Int) (hl : l.length ≤ 512) (h : ∀ k, k < l.length → 0 ≤ l.getD k 0 ∧ l.getD k 0 ≤ 16) : formB l = true := by
  unfold formB
  rw [Bool.and_eq_true, List.all_eq_true]
  refine ⟨by simpa using hl, fun n hn => ?_⟩
  obtain ⟨k, hk, rfl⟩ := List.getElem_of_mem hn
  have := h k hk
  simpa [List.getD, List.getElem?_eq_getElem hk] using this
theorem form_big (l : List Int) (hl : 512 < l.length) : formB l = false := by unfold formB; simp; omega
theorem part_le (n : Int) : part n ≤ 65536 := by
  unfold part; split
  · omega
  · exact Nat.div_le_self _ _
theorem sum_snoc (l : List Int) (n : Int) : sum (l ++ [n]) = sum l + part n := by simp [sum]
theorem sum_le (l : List Int) : sum l ≤ 65536 * l.length := by
  induction l with
  | nil => simp [sum]
  | cons n l ih => have := part_le n; simp only [sum, List.map_cons, List.sum_cons, List.length_cons] at *; omega
/-- A code plus 1, the last bit first. -/
def incR : List Bool → List Bool
  | [] => []
  | false :: r => true :: r
  | true :: r => false :: incR r
def plus (l : List Bool) : List Bool := (incR l.reverse).reverse
theorem incR_length (l : List Bool) : (incR l).length = l.length := by
  induction l with
  | nil => rfl
  | cons b l ih => cases b <;> simp [incR, ih]
theorem plus_length (l : List Bool) : (plus l).length = l.length := by simp [plus, incR_length]
/-- Some bits more. -/
def pad (b : List Bool) (n : Int) : List Bool := b ++ List.replicate (n.toNat - b.length) false
/-- The next code behind these. -/
def nxt (prev : List (List Bool)) (n : Int) : List Bool := pad (match prev.getLast? with | none => [] | some b => plus b) n
def codes (sizes : List Int) : List (List Bool) := sizes.foldl (fun acc n => acc ++ [nxt acc n]) []
theorem codes_snoc (l : List Int) (n : Int) : codes (l ++ [n]) = codes l ++ [nxt (codes l) n] := by simp [codes]
theorem codes_length (l : List Int) : (codes l).length = l.length := by
  suffices ∀ (r : List Int), (codes r.reverse).length = r.length by simpa using this l.reverse
  intro r
  induction r with
  | nil => rfl
  | cons n r ih => rw [List.reverse_cons, codes_snoc, List.length_append, ih]; rfl
theorem codes_take (l : List Int) (k : Nat) (h : k < l.length) : codes (l.take (k + 1)) = codes (l.take k) ++ [nxt (codes (l.take k)) (l.getD k 0)] := by
  rw [List.take_succ_eq_append_getElem h, codes_snoc]; simp [List.getD, List.getElem?_eq_getElem h]
theorem getLast_len (l : List (List Bool)) (k : Nat) (h : l.length = k + 1) : l.getLast? = some (l.getD k []) := by
  rw [List.getLast?_eq_getElem?, h]; simp [List.getD, List.getElem?_eq_getElem (show k < l.length by omega)]
/-- What the next code is made of. -/
def from' (prev : List (List Bool)) : List Bool := match prev.getLast? with | none => [] | some b => plus b
theorem nxt_eq (prev : List (List Bool)) (n : Int) : nxt prev n = from' prev ++ List.replicate (n.toNat - (from' prev).length) false := rfl
theorem from_nil : from' [] = [] := rfl
theorem from_succ (l : List (List Bool)) (k : Nat) (h : l.length = k + 1) : from' l = plus (l.getD k []) := by unfold from'; rw [getLast_len l k h]
theorem nxt_length (prev : List (List Bool)) (n : Int) : (nxt prev n).length = max (from' prev).length n.toNat := by rw [nxt_eq]; simp; omega
theorem codes_len (zs : List Int) (hz : ∀ n ∈ zs, n ≤ 16) : ∀ b ∈ codes zs, b.length ≤ 16 := by
  suffices ∀ (r : List Int), (∀ n ∈ r, n ≤ 16) → ∀ b ∈ codes r.reverse, b.length ≤ 16 by
    have := this zs.reverse (fun n hn => hz n (by simpa using hn))
    simpa using this
  intro r
  induction r with
  | nil => intro _ b hb; simp [codes] at hb
  | cons n r ih =>
    intro hr b hb
    have ih' := ih (fun m hm => hr m (List.mem_cons_of_mem _ hm))
    rw [List.reverse_cons, codes_snoc, List.mem_append] at hb
    rcases hb with hb | hb
    · exact ih' b hb
    · simp only [List.mem_singleton] at hb
      subst hb
      rw [nxt_length]
      have h1 : n.toNat ≤ 16 := by have := hr n List.mem_cons_self; omega
      have h2 : (from' (codes r.reverse)).length ≤ 16 := by
        unfold from'
        cases hg : (codes r.reverse).getLast? with
        | none => simp
        | some c => simp only [plus_length]; exact ih' c (List.mem_of_getLast? hg)
      omega
theorem from_len (zs : List Int) (hz : ∀ n ∈ zs, n ≤ 16) : (from' (codes zs)).length ≤ 16 := by
  unfold from'
  cases hg : (codes zs).getLast? with
  | none => simp
  | some c => simp only [plus_length]; exact codes_len zs hz c (List.mem_of_getLast? hg)
/-- The symbols below s with codes of m + 1 bits. -/
def row (l : List Int) (m s : Nat) : List Nat := (List.range s).filter fun i => l.getD i 0 == ((m + 1 : Nat) : Int)
/-- The symbols with codes of at most m bits, in the order of their codes; and their lengths. -/
def symN (l : List Int) (m : Nat) : List Int := (List.range m).flatMap fun n => (row l n l.length).map fun (s : Nat) => (s : Int)
def sizN (l : List Int) (m : Nat) : List Int := (List.range m).flatMap fun n => (row l n l.length).map fun _ => ((n + 1 : Nat) : Int)
def syms (l : List Int) : List Int := symN l 16
def sizes (l : List Int) : List Int := sizN l 16
theorem row_succ (l : List Int) (m s : Nat) : row l m (s + 1) = row l m s ++ (if l.getD s 0 == ((m + 1 : Nat) : Int) then [s] else []) := by
  unfold row; rw [List.range_succ, List.filter_append]; congr 1
  by_cases h : (l.getD s 0 == ((m + 1 : Nat) : Int)) = true
  · rw [List.filter_cons_of_pos (by simpa using h), if_pos h]; rfl
  · rw [List.filter_cons_of_neg (by simpa using h), if_neg h]; rfl
theorem row_le (l : List Int) (m s : Nat) : (row l m s).length ≤ s := by
  have := List.length_filter_le (fun i => l.getD i 0 == ((m + 1 : Nat) : Int)) (List.range s)
  simpa [row] using this
theorem symN_succ (l : List Int) (m : Nat) : symN l (m + 1) = symN l m ++ (row l m l.length).map fun (s : Nat) => (s : Int) := by simp [symN, List.range_succ]
theorem sizN_succ (l : List Int) (m : Nat) : sizN l (m + 1) = sizN l m ++ (row l m l.length).map fun _ => ((m + 1 : Nat) : Int) := by simp [sizN, List.range_succ]
theorem sizN_length (l : List Int) (m : Nat) : (sizN l m).length = (symN l m).length := by
  induction m with
  | zero => rfl
  | succ m ih => rw [symN_succ, sizN_succ]; simp [ih]
theorem sizN_bound (l : List Int) (m : Nat) (hm : m ≤ 16) : ∀ x ∈ sizN l m, 0 ≤ x ∧ x ≤ 16 := by
  intro x hx
  simp only [sizN, List.mem_flatMap, List.mem_range, List.mem_map] at hx
  obtain ⟨n, hn, _, _, rfl⟩ := hx
  omega
end Cn
end Go.Proofs.Ytcagdnajapcmkaa
