/- Canonical codes as lists of bits. The document's codes as numbers: where each begins among 65536. The document's order of codes: sorted sizes, their sum, and which symbols. How bits are read by codes. A book of codes: its rows of symbols, where each length's codes begin, and what reading comes to. Books of codes: what reading comes to, and that no code begins another one. -/
import Derived.Test.YtjjbgdmalefdlaaGreatDoorZ4
set_option linter.unusedSimpArgs false
set_option linter.unusedVariables false
section
namespace Go.Proofs.YtjjbgdmalefdlaaGreatDoor
open Go.RowKit
namespace Cn
/-- What is free of lengths in form. -/
def part (n : Int) : Nat := if n ≤ 0 then 0 else 65536 / 2 ^ n.toNat
def sum (l : List Int) : Nat := (l.map part).sum
def formB (l : List Int) : Bool := decide (l.length ≤ 512) && l.all fun n => decide (0 ≤ n ∧ n ≤ 16)
/-- What the document answers for what is free. -/
def freeN (l : List Int) : Int := if formB l then 65536 - (sum l : Int) else 0
def freeB (l : List Int) : Bool := formB l && decide (sum l ≤ 65536)
theorem form_bad (l : List Int) (k : Nat) (hk : k < l.length) (h : l.getD k 0 < 0 ∨ 16 < l.getD k 0) : formB l = false := by
  have hm : l.getD k 0 ∈ l := by simp [List.getD, List.getElem?_eq_getElem hk]
  unfold formB
  rw [Bool.and_eq_false_iff]
  right
  rw [List.all_eq_false]
  generalize l.getD k 0 = z at *
  exact ⟨z, hm, by simp; omega⟩
theorem form_good (l : List Int) (hl : l.length ≤ 512) (h : ∀ k, k < l.length → 0 ≤ l.getD k 0 ∧ l.getD k 0 ≤ 16) : formB l = true := by
  unfold formB
  rw [Bool.and_eq_true, List.all_eq_true]
  refine ⟨by simpa using hl, fun n hn => ?_⟩
  obtain ⟨k, hk, rfl⟩ := List.getElem_of_mem hn
  have := h k hk
  simpa [List.getD, List.getElem?_eq_getElem hk] using this
theorem form_big (l : List Int) (hl : 512 < l.length) : formB l = false := by unfold formB; simp; omega
theorem part_le (n : Int) : part n ≤ 65536 := by
  unfold part; split
  · omega
  · exact Nat.div_le_self _ _
theorem sum_snoc (l : List Int) (n : Int) : sum (l ++ [n]) = sum l + part n := by simp [sum]
theorem sum_le (l : List Int) : sum l ≤ 65536 * l.length := by
  induction l with
  | nil => simp [sum]
  | cons n l ih => have := part_le n; simp only [sum, List.map_cons, List.sum_cons, List.length_cons] at *; omega
/-- A code plus 1, the last bit first. -/
def incR : List Bool → List Bool
  | [] => []
  | false :: r => true :: r
  | true :: r => false :: incR r
def plus (l : List Bool) : List Bool := (incR l.reverse).reverse
theorem incR_length (l : List Bool) : (incR l).length = l.length := by
  induction l with
  | nil => rfl
  | cons b l ih => cases b <;> simp [incR, ih]
theorem plus_length (l : List Bool) : (plus l).length = l.length := by simp [plus, incR_length]
/-- Some bits more. -/
def pad (b : List Bool) (n : Int) : List Bool := b ++ List.replicate (n.toNat - b.length) false
/-- The next code behind these. -/
def nxt (prev : List (List Bool)) (n : Int) : List Bool := pad (match prev.getLast? with | none => [] | some b => plus b) n
def codes (sizes : List Int) : List (List Bool) := sizes.foldl (fun acc n => acc ++ [nxt acc n]) []
theorem codes_snoc (l : List Int) (n : Int) : codes (l ++ [n]) = codes l ++ [nxt (codes l) n] := by simp [codes]
theorem codes_length (l : List Int) : (codes l).length = l.length := by
  suffices ∀ (r : List Int), (codes r.reverse).length = r.length by simpa using this l.reverse
  intro r
  induction r with
  | nil => rfl
  | cons n r ih => rw [List.reverse_cons, codes_snoc, List.length_append, ih]; rfl
theorem codes_take (l : List Int) (k : Nat) (h : k < l.length) : codes (l.take (k + 1)) = codes (l.take k) ++ [nxt (codes (l.take k)) (l.getD k 0)] := by
  rw [List.take_succ_eq_append_getElem h, codes_snoc]; simp [List.getD, List.getElem?_eq_getElem h]
theorem getLast_len (l : List (List Bool)) (k : Nat) (h : l.length = k + 1) : l.getLast? = some (l.getD k []) := by
  rw [List.getLast?_eq_getElem?, h]; simp [List.getD, List.getElem?_eq_getElem (show k < l.length by omega)]
/-- What the next code is made of. -/
def from' (prev : List (List Bool)) : List Bool := match prev.getLast? with | none => [] | some b => plus b
theorem nxt_eq (prev : List (List Bool)) (n : Int) : nxt prev n = from' prev ++ List.replicate (n.toNat - (from' prev).length) false := rfl
theorem from_nil : from' [] = [] := rfl
theorem from_succ (l : List (List Bool)) (k : Nat) (h : l.length = k + 1) : from' l = plus (l.getD k []) := by unfold from'; rw [getLast_len l k h]
theorem nxt_length (prev : List (List Bool)) (n : Int) : (nxt prev n).length = max (from' prev).length n.toNat := by rw [nxt_eq]; simp; omega
theorem codes_len (zs : List Int) (hz : ∀ n ∈ zs, n ≤ 16) : ∀ b ∈ codes zs, b.length ≤ 16 := by
  suffices ∀ (r : List Int), (∀ n ∈ r, n ≤ 16) → ∀ b ∈ codes r.reverse, b.length ≤ 16 by
    have := this zs.reverse (fun n hn => hz n (by simpa using hn))
    simpa using this
  intro r
  induction r with
  | nil => intro _ b hb; simp [codes] at hb
  | cons n r ih =>
    intro hr b hb
    have ih' := ih (fun m hm => hr m (List.mem_cons_of_mem _ hm))
    rw [List.reverse_cons, codes_snoc, List.mem_append] at hb
    rcases hb with hb | hb
    · exact ih' b hb
    · simp only [List.mem_singleton] at hb
      subst hb
      rw [nxt_length]
      have h1 : n.toNat ≤ 16 := by have := hr n List.mem_cons_self; omega
      have h2 : (from' (codes r.reverse)).length ≤ 16 := by
        unfold from'
        cases hg : (codes r.reverse).getLast? with
        | none => simp
        | some c => simp only [plus_length]; exact ih' c (List.mem_of_getLast? hg)
      omega
theorem from_len (zs : List Int) (hz : ∀ n ∈ zs, n ≤ 16) : (from' (codes zs)).length ≤ 16 := by
  unfold from'
  cases hg : (codes zs).getLast? with
  | none => simp
  | some c => simp only [plus_length]; exact codes_len zs hz c (List.mem_of_getLast? hg)
/-- The symbols below s with codes of m + 1 bits. -/
def row (l : List Int) (m s : Nat) : List Nat := (List.range s).filter fun i => l.getD i 0 == ((m + 1 : Nat) : Int)
/-- The symbols with codes of at most m bits, in the order of their codes; and their lengths. -/
def symN (l : List Int) (m : Nat) : List Int := (List.range m).flatMap fun n => (row l n l.length).map fun (s : Nat) => (s : Int)
def sizN (l : List Int) (m : Nat) : List Int := (List.range m).flatMap fun n => (row l n l.length).map fun _ => ((n + 1 : Nat) : Int)
def syms (l : List Int) : List Int := symN l 16
def sizes (l : List Int) : List Int := sizN l 16
theorem row_succ (l : List Int) (m s : Nat) : row l m (s + 1) = row l m s ++ (if l.getD s 0 == ((m + 1 : Nat) : Int) then [s] else []) := by
  unfold row; rw [List.range_succ, List.filter_append]; congr 1
  by_cases h : (l.getD s 0 == ((m + 1 : Nat) : Int)) = true
  · rw [List.filter_cons_of_pos (by simpa using h), if_pos h]; rfl
  · rw [List.filter_cons_of_neg (by simpa using h), if_neg h]; rfl
theorem row_le (l : List Int) (m s : Nat) : (row l m s).length ≤ s := by
  have := List.length_filter_le (fun i => l.getD i 0 == ((m + 1 : Nat) : Int)) (List.range s)
  simpa [row] using this
theorem symN_succ (l : List Int) (m : Nat) : symN l (m + 1) = symN l m ++ (row l m l.length).map fun (s : Nat) => (s : Int) := by simp [symN, List.range_succ]
theorem sizN_succ (l : List Int) (m : Nat) : sizN l (m + 1) = sizN l m ++ (row l m l.length).map fun _ => ((m + 1 : Nat) : Int) := by simp [sizN, List.range_succ]
theorem sizN_length (l : List Int) (m : Nat) : (sizN l m).length = (symN l m).length := by
  induction m with
  | zero => rfl
  | succ m ih => rw [symN_succ, sizN_succ]; simp [ih]
theorem sizN_bound (l : List Int) (m : Nat) (hm : m ≤ 16) : ∀ x ∈ sizN l m, 0 ≤ x ∧ x ≤ 16 := by
  intro x hx
  simp only [sizN, List.mem_flatMap, List.mem_range, List.mem_map] at hx
  obtain ⟨n, hn, _, _, rfl⟩ := hx
  omega
end Cn
end Go.Proofs.YtjjbgdmalefdlaaGreatDoor
end

section
namespace Go.Proofs.YtjjbgdmalefdlaaGreatDoor
open Go.RowKit

namespace Cn
theorem numH_pad (b : List Bool) (k : Nat) : Bt.numH (b ++ List.replicate k false) = Bt.numH b * 2 ^ k := by
  induction k with
  | zero => simp
  | succ k ih => rw [List.replicate_succ', ← List.append_assoc, Bt.numH_snoc, ih, Nat.pow_succ]; simp; rw [Nat.mul_comm, Nat.mul_assoc]
theorem numH_incR (r : List Bool) (h : Bt.numH r.reverse + 1 < 2 ^ r.length) : Bt.numH (incR r).reverse = Bt.numH r.reverse + 1 := by
  induction r with
  | nil => simp [Bt.numH] at h
  | cons x r ih =>
    rw [List.reverse_cons, Bt.numH_snoc, List.length_cons, Nat.pow_succ] at h
    cases x
    · have e : incR (false :: r) = true :: r := rfl
      rw [e, List.reverse_cons, List.reverse_cons, Bt.numH_snoc, Bt.numH_snoc]; simp
    · have e : incR (true :: r) = false :: incR r := rfl
      simp only [Bool.toNat_true] at h
      rw [e, List.reverse_cons, List.reverse_cons, Bt.numH_snoc, Bt.numH_snoc, ih (by omega)]; simp; omega
theorem numH_plus (b : List Bool) (h : Bt.numH b + 1 < 2 ^ b.length) : Bt.numH (plus b) = Bt.numH b + 1 := by
  have := numH_incR b.reverse (by simpa using h)
  simpa [plus] using this
theorem fold_pre (m : List Int) : ∀ acc : List (List Bool), ∃ t, m.foldl (fun acc n => acc ++ [nxt acc n]) acc = acc ++ t := by
  induction m with
  | nil => exact fun acc => ⟨[], by simp⟩
  | cons n m ih =>
    intro acc
    obtain ⟨t, ht⟩ := ih (acc ++ [nxt acc n])
    exact ⟨nxt acc n :: t, by rw [List.foldl_cons, ht, List.append_assoc]; rfl⟩
theorem codes_pre (l m : List Int) : ∃ t, codes (l ++ m) = codes l ++ t := by
  obtain ⟨t, ht⟩ := fold_pre m (codes l)
  exact ⟨t, by rw [← ht]; simp [codes]⟩
theorem codes_at (zs : List Int) (k : Nat) (hk : k < zs.length) : (codes zs).getD k [] = nxt (codes (zs.take k)) (zs.getD k 0) := by
  obtain ⟨t, ht⟩ := codes_pre (zs.take (k + 1)) (zs.drop (k + 1))
  rw [List.take_append_drop] at ht
  have hl : (codes (zs.take k)).length = k := by rw [codes_length, List.length_take]; omega
  rw [ht, codes_take zs k hk]
  simp [List.getD, hl]
theorem part_eq (n : Int) (h : 1 ≤ n ∧ n ≤ 16) : part n = 2 ^ (16 - n.toNat) := by
  unfold part
  rw [if_neg (by omega)]
  have e : (65536 : Nat) = 2 ^ (16 - n.toNat) * 2 ^ n.toNat := by rw [← Nat.pow_add, show 16 - n.toNat + n.toNat = 16 by omega]
  rw [e, Nat.mul_div_cancel _ (Nat.pow_pos (by omega))]
theorem sum_take_le (zs : List Int) (k : Nat) : sum (zs.take k) ≤ sum zs := by
  have : sum zs = sum (zs.take k) + sum (zs.drop k) := by
    unfold sum
    rw [← List.sum_append, ← List.map_append, List.take_append_drop]
  omega
theorem sum_take_succ (zs : List Int) (k : Nat) (hk : k < zs.length) : sum (zs.take (k + 1)) = sum (zs.take k) + part (zs.getD k 0) := by
  rw [List.take_succ_eq_append_getElem hk, sum_snoc]; simp [List.getD, List.getElem?_eq_getElem hk]
/-- A code's length is the one asked for, and its number, in 65536ths, is where the ones ahead of it end. -/
theorem codes_val (zs : List Int) (hz : ∀ i, i < zs.length → 1 ≤ zs.getD i 0 ∧ zs.getD i 0 ≤ 16) (hs : ∀ i, i + 1 < zs.length → zs.getD i 0 ≤ zs.getD (i + 1) 0) (hk : sum zs ≤ 65536) :
    ∀ i, i < zs.length → ((codes zs).getD i []).length = (zs.getD i 0).toNat ∧ Bt.numH ((codes zs).getD i []) * 2 ^ (16 - (zs.getD i 0).toNat) = sum (zs.take i) := by
  intro i
  induction i with
  | zero =>
    intro hi
    rw [codes_at zs 0 hi]
    have e : nxt (codes (zs.take 0)) (zs.getD 0 0) = [] ++ List.replicate (zs.getD 0 0).toNat false := by simp [codes, nxt, pad]
    rw [e]
    refine ⟨by simp, ?_⟩
    rw [numH_pad]; simp [Bt.numH, sum]
  | succ i ih =>
    intro hi
    obtain ⟨h1, h2⟩ := ih (by omega)
    have hb := hz i (by omega)
    have hc := hz (i + 1) hi
    have ho := hs i hi
    have hl : (codes (zs.take (i + 1))).length = i + 1 := by rw [codes_length, List.length_take]; omega
    have hp : (codes (zs.take (i + 1))).getD i [] = (codes zs).getD i [] := by
      obtain ⟨t, ht⟩ := codes_pre (zs.take (i + 1)) (zs.drop (i + 1))
      rw [List.take_append_drop] at ht
      rw [ht]; simp only [List.getD]; rw [List.getElem?_append_left (by omega)]
    rw [codes_at zs (i + 1) hi, nxt_eq, from_succ _ i hl, hp]
    have s1 := sum_take_succ zs i (by omega)
    have s2 := sum_take_succ zs (i + 1) hi
    have s3 := sum_take_le zs (i + 1 + 1)
    rw [part_eq _ hb] at s1
    rw [part_eq _ hc] at s2
    generalize (codes zs).getD i [] = b at *
    obtain ⟨x, hx⟩ := Int.eq_ofNat_of_zero_le (show 0 ≤ zs.getD i 0 by omega)
    obtain ⟨y, hy⟩ := Int.eq_ofNat_of_zero_le (show 0 ≤ zs.getD (i + 1) 0 by omega)
    rw [hx] at h1 h2 s1 hb ho
    rw [hy] at s2 hc ho ⊢
    simp only [Int.toNat_natCast] at h1 h2 s1 s2 ⊢
    have hxy : x ≤ y := by omega
    have hy16 : y ≤ 16 := by omega
    have p1 : 2 ^ (16 - x) * 2 ^ x = 65536 := by rw [← Nat.pow_add, show 16 - x + x = 16 by omega]
    have p2 : 2 ^ (y - x) * 2 ^ (16 - y) = 2 ^ (16 - x) := by rw [← Nat.pow_add, show y - x + (16 - y) = 16 - x by omega]
    have p3 : 0 < 2 ^ (16 - y) := Nat.pow_pos (by omega)
    have hn : Bt.numH b + 1 < 2 ^ b.length := by
      rw [h1]
      refine Nat.lt_of_mul_lt_mul_left (a := 2 ^ (16 - x)) ?_
      rw [p1, Nat.mul_comm, Nat.add_mul, h2]
      omega
    refine ⟨by rw [List.length_append, plus_length, List.length_replicate, h1]; omega, ?_⟩
    rw [numH_pad, numH_plus b hn, plus_length, h1, Nat.mul_assoc, p2, Nat.add_mul, h2, s1]
    omega
end Cn
end Go.Proofs.YtjjbgdmalefdlaaGreatDoor
end

section
namespace Go.Proofs.YtjjbgdmalefdlaaGreatDoor
open Go.RowKit

namespace Cn
theorem sizN_low (l : List Int) (m : Nat) : ∀ x ∈ sizN l m, 1 ≤ x ∧ x ≤ m := by
  intro x hx
  simp only [sizN, List.mem_flatMap, List.mem_range, List.mem_map] at hx
  obtain ⟨n, hn, _, _, rfl⟩ := hx
  omega
theorem sizN_sorted (l : List Int) (m : Nat) : (sizN l m).Pairwise (· ≤ ·) := by
  induction m with
  | zero => exact List.Pairwise.nil
  | succ m ih =>
    rw [sizN_succ, List.pairwise_append]
    refine ⟨ih, ?_, fun x hx y hy => ?_⟩
    · rw [List.pairwise_map]
      generalize row l m l.length = r
      induction r with
      | nil => exact List.Pairwise.nil
      | cons a r ih2 => exact List.Pairwise.cons (fun _ _ => Int.le_refl _) ih2
    · obtain ⟨_, _, rfl⟩ := List.mem_map.1 hy
      have := sizN_low l m x hx
      omega
theorem row_count (l : List Int) (m : Nat) : ∀ k, k ≤ l.length → (row l m k).length = (l.take k).countP (fun x => x == ((m + 1 : Nat) : Int)) := by
  intro k
  induction k with
  | zero => intro _; simp [row]
  | succ k ih =>
    intro hk
    have hg : l.getD k 0 = l[k] := by simp [List.getD, List.getElem?_eq_getElem (show k < l.length by omega)]
    rw [row_succ, List.length_append, ih (by omega), List.take_succ_eq_append_getElem (show k < l.length by omega), List.countP_append, hg]
    by_cases h : (l[k] == ((m + 1 : Nat) : Int)) = true
    · rw [if_pos h, List.countP_cons_of_pos (p := fun x => x == ((m + 1 : Nat) : Int)) h]; rfl
    · rw [if_neg h, List.countP_cons_of_neg (p := fun x => x == ((m + 1 : Nat) : Int)) h]; rfl
def sumTo (l : List Int) (m : Nat) : Nat := (l.map fun (n : Int) => if n ≤ (m : Int) then part n else 0).sum
theorem sumTo_succ (l : List Int) (m : Nat) : sumTo l (m + 1) = sumTo l m + l.countP (fun x => x == ((m + 1 : Nat) : Int)) * part ((m + 1 : Nat) : Int) := by
  induction l with
  | nil => simp [sumTo]
  | cons x l ih =>
    have e1 : sumTo (x :: l) (m + 1) = (if x ≤ ((m + 1 : Nat) : Int) then part x else 0) + sumTo l (m + 1) := rfl
    have e2 : sumTo (x :: l) m = (if x ≤ (m : Int) then part x else 0) + sumTo l m := rfl
    rw [e1, e2, ih]
    by_cases h : x = ((m + 1 : Nat) : Int)
    · rw [List.countP_cons_of_pos (by simpa using h), if_pos (by omega), if_neg (by omega), h, Nat.succ_mul]; omega
    · rw [List.countP_cons_of_neg (by simpa using h)]
      by_cases h2 : x ≤ (m : Int)
      · rw [if_pos (by omega), if_pos h2]; omega
      · rw [if_neg (by omega), if_neg h2]; omega
theorem sum_sizN (l : List Int) (m : Nat) (h0 : ∀ x ∈ l, 0 ≤ x) : sum (sizN l m) = sumTo l m := by
  induction m with
  | zero =>
    have : sumTo l 0 = 0 := by
      unfold sumTo
      induction l with
      | nil => rfl
      | cons x l ih =>
        rw [List.map_cons, List.sum_cons, ih (fun y hy => h0 y (List.mem_cons_of_mem _ hy))]
        have := h0 x (List.mem_cons_self ..)
        by_cases h : x ≤ ((0 : Nat) : Int)
        · rw [if_pos h]; unfold part; rw [if_pos (by omega)]
        · rw [if_neg h]
    rw [this]; rfl
  | succ m ih =>
    rw [sizN_succ, sumTo_succ, ← ih]
    have hr := row_count l m l.length (Nat.le_refl _)
    rw [List.take_length] at hr
    rw [← hr]
    unfold sum
    rw [List.map_append, List.sum_append, List.map_map]
    congr 1
    generalize row l m l.length = r
    induction r with
    | nil => simp
    | cons a r ih2 => rw [List.map_cons, List.sum_cons, ih2, List.length_cons, Nat.succ_mul, Nat.add_comm]; rfl
theorem form_mem (l : List Int) (h : formB l = true) : ∀ x ∈ l, 0 ≤ x ∧ x ≤ 16 := by
  intro x hx
  simp only [formB, Bool.and_eq_true, List.all_eq_true, decide_eq_true_eq] at h
  exact h.2 x hx
theorem sumTo_all (l : List Int) (m : Nat) (h : ∀ x ∈ l, x ≤ (m : Int)) : sumTo l m = sum l := by
  unfold sumTo sum
  congr 1
  exact List.map_congr_left (fun x hx => if_pos (h x hx))
theorem sum_sizes (l : List Int) (h : formB l = true) : sum (sizes l) = sum l := by
  unfold sizes
  rw [sum_sizN l 16 (fun x hx => (form_mem l h x hx).1), sumTo_all l 16 (fun x hx => (form_mem l h x hx).2)]
/-- The codes of lengths in form: each as long as asked for, and where it begins. -/
theorem sizes_val (l : List Int) (h : freeB l = true) (i : Nat) (hi : i < (sizes l).length) :
    ((codes (sizes l)).getD i []).length = ((sizes l).getD i 0).toNat ∧ Bt.numH ((codes (sizes l)).getD i []) * 2 ^ (16 - ((sizes l).getD i 0).toNat) = sum ((sizes l).take i) := by
  simp only [freeB, Bool.and_eq_true, decide_eq_true_eq] at h
  have hg : ∀ j (hj : j < (sizes l).length), (sizes l).getD j 0 = (sizes l)[j] := fun j hj => by simp [List.getD, List.getElem?_eq_getElem hj]
  refine codes_val (sizes l) (fun j hj => ?_) (fun j hj => ?_) (by rw [sum_sizes l h.1]; exact h.2) i hi
  · rw [hg j hj]; exact sizN_low l 16 _ (List.getElem_mem hj)
  · rw [hg j (by omega), hg (j + 1) hj]
    exact List.pairwise_iff_getElem.1 (sizN_sorted l 16) j (j + 1) (Nat.lt_of_succ_lt hj) hj (Nat.lt_succ_self _)
/-- Symbols and lengths, in the order of their codes. -/
def pairs (l : List Int) (m : Nat) : List (Nat × Int) := (List.range m).flatMap fun n => (row l n l.length).map fun s => (s, ((n + 1 : Nat) : Int))
theorem pairs_syms (l : List Int) : syms l = (pairs l 16).map fun p => (p.1 : Int) := by
  simp only [syms, symN, pairs, List.map_flatMap, List.map_map]; rfl
theorem pairs_sizes (l : List Int) : sizes l = (pairs l 16).map fun p => p.2 := by
  simp only [sizes, sizN, pairs, List.map_flatMap, List.map_map]; rfl
theorem pairs_mem (l : List Int) (m s : Nat) (n : Int) : (s, n) ∈ pairs l m ↔ s < l.length ∧ l.getD s 0 = n ∧ 1 ≤ n ∧ n ≤ m := by
  simp only [pairs, List.mem_flatMap, List.mem_range, List.mem_map, row, List.mem_filter, beq_iff_eq, Prod.mk.injEq]
  constructor
  · rintro ⟨k, hk, t, ⟨ht, he⟩, rfl, rfl⟩
    exact ⟨ht, he, by omega, by omega⟩
  · rintro ⟨hs, he, h1, h2⟩
    exact ⟨n.toNat - 1, by omega, s, ⟨hs, by omega⟩, rfl, by omega⟩
theorem pairs_nodup (l : List Int) (m : Nat) : ((pairs l m).map fun p => p.1).Nodup := by
  induction m with
  | zero => exact List.Pairwise.nil
  | succ m ih =>
    have e : pairs l (m + 1) = pairs l m ++ (row l m l.length).map fun s => (s, ((m + 1 : Nat) : Int)) := by simp [pairs, List.range_succ]
    rw [e, List.map_append, List.map_map, List.nodup_append]
    refine ⟨ih, ?_, ?_⟩
    · have : ((fun p : Nat × Int => p.1) ∘ fun s : Nat => (s, ((m + 1 : Nat) : Int))) = id := rfl
      rw [this, List.map_id]
      exact List.Pairwise.filter _ List.nodup_range
    · intro a ha b hb hab
      obtain ⟨⟨s, n⟩, hp, rfl⟩ := List.mem_map.1 ha
      obtain ⟨t, ht, rfl⟩ := List.mem_map.1 hb
      obtain ⟨_, h1, _, h2⟩ := (pairs_mem l m s n).1 hp
      simp only [row, List.mem_filter, beq_iff_eq] at ht
      simp only [Function.comp] at hab
      subst hab
      omega
end Cn
end Go.Proofs.YtjjbgdmalefdlaaGreatDoor
end

section
namespace Go.Proofs.YtjjbgdmalefdlaaGreatDoor
open Go.RowKit

namespace Cn
/-- Do b and u begin with the same n bits, up to b's end? -/
def same (u : List Bool) (n : Nat) (b : List Bool) : Bool := decide (b.take (min n b.length) = u.take (min n b.length))
def hit (u : List Bool) (n : Nat) (c : Int × List Bool) : Bool := same u n c.2 && decide (c.2.length = n)
def more (u : List Bool) (n : Nat) (c : Int × List Bool) : Bool := same u n c.2 && decide (n < c.2.length)
def rdAt (ks : List (Int × List Bool)) (u : List Bool) : Nat → Nat → Int × Nat × Int
  | 0, _ => (0, 16, 2)
  | f + 1, n => if u.length < n then (0, u.length, 8) else
    match ks.find? (hit u n) with
    | some c => (c.1, n, 0)
    | none => if ks.any (more u n) then rdAt ks u f (n + 1) else (0, n, 2)
/-- The symbol that bits begin with, how many bits are read, and an error's number. -/
def rd (ks : List (Int × List Bool)) (u : List Bool) : Int × Nat × Int := if ks = [] then (0, 0, 2) else rdAt ks u 16 1
theorem rdAt_step (ks : List (Int × List Bool)) (u : List Bool) (m : Nat) (hm : m ≤ 16) : rdAt ks u (17 - m) m = if u.length < m then (0, u.length, 8) else
    match ks.find? (hit u m) with
    | some c => (c.1, m, 0)
    | none => if ks.any (more u m) then rdAt ks u (17 - (m + 1)) (m + 1) else (0, m, 2) := by
  have e1 : 17 - m = (16 - m) + 1 := by omega
  have e2 : 17 - (m + 1) = 16 - m := by omega
  rw [e1, e2]; rfl
theorem same_step (u b : List Bool) (k : Nat) (hb : k < b.length) (hu : k < u.length) : decide (b.take (k + 1) = u.take (k + 1)) = (decide (b.take k = u.take k) && (b.getD k false == u.getD k false)) := by
  have t1 := List.take_succ_eq_append_getElem hb
  have t2 := List.take_succ_eq_append_getElem hu
  have l1 : (b.take k).length = (u.take k).length := by rw [List.length_take, List.length_take]; omega
  have e1 : b.getD k false = b[k] := by simp [List.getD, List.getElem?_eq_getElem hb]
  have e2 : u.getD k false = u[k] := by simp [List.getD, List.getElem?_eq_getElem hu]
  rw [t1, t2, e1, e2, Bool.eq_iff_iff]
  simp only [decide_eq_true_eq, Bool.and_eq_true, beq_iff_eq]
  exact ⟨fun e => ⟨(List.append_inj e l1).1, by have := (List.append_inj e l1).2; simpa only [List.cons.injEq, and_true] using this⟩, fun ⟨h1, h2⟩ => by rw [h1, h2]⟩
end Cn
end Go.Proofs.YtjjbgdmalefdlaaGreatDoor
end

section
namespace Go.Proofs.YtjjbgdmalefdlaaGreatDoor
open Go.RowKit

namespace Bk
/-- A symbol, its code, and how many bits it has. -/
structure It where
  s : Nat
  c : Nat
  n : Nat

instance : Inhabited It := ⟨⟨0, 0, 0⟩⟩
def It.bits (x : It) : List Bool := Bt.dg true x.c x.n
/-- The next code behind those of fewer than n bits. -/
def nx (R : Nat → List Nat) : Nat → Nat
  | 0 => 0
  | n + 1 => 2 * nx R n + (R n).length
/-- The first code of n bits. -/
def fst (R : Nat → List Nat) (n : Nat) : Nat := 2 * nx R n
def sumR (R : Nat → List Nat) : Nat → Nat
  | 0 => 0
  | n + 1 => sumR R n + (R n).length * 2 ^ (16 - n)
def it (R : Nat → List Nat) (n i : Nat) : It := ⟨(R n).getD i 0, fst R n + i, n⟩
def rowS (R : Nat → List Nat) (n i : Nat) : List It := (List.range i).map (it R n)
/-- The codes of fewer than m bits, in their order. -/
def seq (R : Nat → List Nat) (m : Nat) : List It := (List.range m).flatMap fun n => rowS R n (R n).length
def sizR (R : Nat → List Nat) (m : Nat) : List Int := (List.range m).flatMap fun n => List.replicate (R n).length (n : Int)
structure Good (R : Nat → List Nat) : Prop where
  r0 : R 0 = []
  le : sumR R 17 ≤ 65536
theorem nx_succ (R : Nat → List Nat) (n : Nat) : nx R (n + 1) = fst R n + (R n).length := rfl
theorem pow_split (n m : Nat) (h : n ≤ m) (hm : m ≤ 16) : 2 ^ (16 - n) = 2 ^ (m - n) * 2 ^ (16 - m) := by
  rw [← Nat.pow_add]; congr 1; omega
theorem nx_val (R : Nat → List Nat) : ∀ n, n ≤ 16 → nx R (n + 1) * 2 ^ (16 - n) = sumR R (n + 1) := by
  intro n
  induction n with
  | zero => intro _; simp [nx, sumR]
  | succ n ih =>
    intro h
    have h1 := ih (by omega)
    have h2 := pow_split n (n + 1) (by omega) h
    rw [show n + 1 - n = 1 by omega, Nat.pow_one] at h2
    rw [h2] at h1
    have e1 : nx R (n + 1 + 1) = 2 * nx R (n + 1) + (R (n + 1)).length := rfl
    have e2 : sumR R (n + 1 + 1) = sumR R (n + 1) + (R (n + 1)).length * 2 ^ (16 - (n + 1)) := rfl
    rw [e1, e2, ← h1, Nat.add_mul]
    congr 1
    rw [Nat.mul_comm 2, Nat.mul_assoc]
theorem fst_val (R : Nat → List Nat) (n : Nat) (h : n ≤ 16) : fst R n * 2 ^ (16 - n) = sumR R n := by
  cases n with
  | zero => simp [fst, nx, sumR]
  | succ n =>
    have h1 := nx_val R n (by omega)
    have h2 := pow_split n (n + 1) (by omega) h
    rw [show n + 1 - n = 1 by omega, Nat.pow_one] at h2
    rw [← h1, h2]
    unfold fst
    rw [Nat.mul_comm 2, Nat.mul_assoc]
theorem end_val (R : Nat → List Nat) : nx R 17 = sumR R 17 := by have := nx_val R 16 (Nat.le_refl _); simpa using this
theorem sumR_mono (R : Nat → List Nat) (m n : Nat) (h : m ≤ n) : sumR R m ≤ sumR R n := by
  induction n with
  | zero => obtain rfl : m = 0 := by omega
            exact Nat.le_refl _
  | succ n ih =>
    by_cases h2 : m ≤ n
    · have := ih h2; show _ ≤ sumR R n + _; omega
    · obtain rfl : m = n + 1 := by omega
      exact Nat.le_refl _
theorem two_pos (n : Nat) : 0 < 2 ^ n := Nat.pow_pos (by omega)
theorem code_lt (R : Nat → List Nat) (h : Good R) (n i : Nat) (hn : n ≤ 16) (hi : i ≤ (R n).length) : fst R n + i ≤ 2 ^ n := by
  have h1 := nx_val R n hn
  rw [nx_succ] at h1
  have h2 := sumR_mono R (n + 1) 17 (by omega)
  have h3 := h.le
  have h4 : (2 : Nat) ^ n * 2 ^ (16 - n) = 65536 := by rw [← Nat.pow_add, show n + (16 - n) = 16 by omega]
  have h5 : (fst R n + (R n).length) * 2 ^ (16 - n) ≤ 2 ^ n * 2 ^ (16 - n) := by omega
  have := Nat.le_of_mul_le_mul_right h5 (two_pos _)
  omega
theorem it_lt (R : Nat → List Nat) (h : Good R) (n i : Nat) (hn : n ≤ 16) (hi : i < (R n).length) : (it R n i).c < 2 ^ n := by
  have := code_lt R h n (i + 1) hn hi
  show fst R n + i < 2 ^ n
  omega
theorem mem_seq (R : Nat → List Nat) (m : Nat) (x : It) : x ∈ seq R m ↔ ∃ n i, n < m ∧ i < (R n).length ∧ x = it R n i := by
  simp only [seq, rowS, List.mem_flatMap, List.mem_range, List.mem_map]
  constructor
  · rintro ⟨n, hn, i, hi, rfl⟩; exact ⟨n, i, hn, hi, rfl⟩
  · rintro ⟨n, i, hn, hi, rfl⟩; exact ⟨n, hn, i, hi, rfl⟩
theorem seq_succ (R : Nat → List Nat) (m : Nat) : seq R (m + 1) = seq R m ++ rowS R m (R m).length := by simp [seq, List.range_succ]
theorem sizR_succ (R : Nat → List Nat) (m : Nat) : sizR R (m + 1) = sizR R m ++ List.replicate (R m).length (m : Int) := by simp [sizR, List.range_succ]
theorem rowS_succ (R : Nat → List Nat) (n i : Nat) : rowS R n (i + 1) = rowS R n i ++ [it R n i] := by simp [rowS, List.range_succ]
theorem rowS_length (R : Nat → List Nat) (n i : Nat) : (rowS R n i).length = i := by simp [rowS]
theorem seq_mono (R : Nat → List Nat) (m n : Nat) (h : m ≤ n) : ∃ t, seq R n = seq R m ++ t := by
  induction n with
  | zero => obtain rfl : m = 0 := by omega
            exact ⟨[], by simp⟩
  | succ n ih =>
    by_cases h2 : m ≤ n
    · obtain ⟨t, ht⟩ := ih h2
      exact ⟨t ++ rowS R n (R n).length, by rw [seq_succ, ht, List.append_assoc]⟩
    · obtain rfl : m = n + 1 := by omega
      exact ⟨[], by simp⟩
/-- Bits and numbers. -/
theorem dg_of_num (b : List Bool) (n : Nat) (h : b.length = n) : Bt.dg true (Bt.numH b) n = b := by
  subst h
  apply List.ext_getElem
  · simp [Bt.dg_length]
  · intro i h1 h2
    have e := Bt.dg_getD true (Bt.numH b) b.length i false h2
    rw [List.getD, List.getElem?_eq_getElem h1, Option.getD_some] at e
    rw [e, if_pos rfl, Bt.numH_testBit]
    have e2 : b.length - 1 - (b.length - 1 - i) = i := by omega
    rw [e2]
    have e3 : decide (b.length - 1 - i < b.length) = true := decide_eq_true (by omega)
    rw [e3]
    simp [List.getD, List.getElem?_eq_getElem h2]
theorem numH_dg (c n : Nat) (h : c < 2 ^ n) : Bt.numH (Bt.dg true c n) = c := Bt.num_dg true c n h
theorem dg_take (c m n : Nat) (h : n ≤ m) : (Bt.dg true c m).take n = Bt.dg true (c / 2 ^ (m - n)) n := by
  apply List.ext_getElem
  · simp [Bt.dg_length]; omega
  · intro i h1 h2
    rw [Bt.dg_length] at h2
    simp only [Bt.dg, List.getElem_take, List.getElem_map, List.getElem_range, if_true]
    rw [← Nat.shiftRight_eq_div_pow, Nat.testBit_shiftRight]
    congr 1; omega
theorem codes_eq_of (zs : List Int) (xs : List It) (hl : zs.length = xs.length) (hz : ∀ i, i < zs.length → 1 ≤ zs.getD i 0 ∧ zs.getD i 0 ≤ 16)
    (hs : ∀ i, i + 1 < zs.length → zs.getD i 0 ≤ zs.getD (i + 1) 0) (hk : Cn.sum zs ≤ 65536)
    (hx : ∀ i, i < zs.length → zs.getD i 0 = ((xs.getD i default).n : Nat) ∧ Cn.sum (zs.take i) = (xs.getD i default).c * 2 ^ (16 - (xs.getD i default).n)) :
    Cn.codes zs = xs.map It.bits := by
  apply List.ext_getElem
  · rw [Cn.codes_length, List.length_map, hl]
  · intro i h1 h2
    rw [Cn.codes_length] at h1
    obtain ⟨hv1, hv2⟩ := Cn.codes_val zs hz hs hk i h1
    obtain ⟨hx1, hx2⟩ := hx i h1
    have hxl : i < xs.length := by omega
    have e1 : (Cn.codes zs).getD i [] = (Cn.codes zs)[i]'(by rw [Cn.codes_length]; exact h1) := by simp [List.getD, List.getElem?_eq_getElem (show i < (Cn.codes zs).length by rw [Cn.codes_length]; exact h1)]
    have e2 : xs.getD i default = xs[i] := by simp [List.getD, List.getElem?_eq_getElem hxl]
    rw [e1] at hv1 hv2
    rw [e2] at hx1 hx2
    rw [List.getElem_map]
    rw [hx1] at hv1 hv2
    simp only [Int.toNat_natCast] at hv1 hv2
    rw [hx2] at hv2
    have := Nat.eq_of_mul_eq_mul_right (two_pos _) hv2
    rw [It.bits, ← this, dg_of_num _ _ hv1]
/-- How lengths and codes go together, up to somewhere. -/
structure Tog (zs : List Int) (xs : List It) : Prop where
  len : zs.length = xs.length
  one : ∀ i, i < zs.length → 1 ≤ zs.getD i 0 ∧ zs.getD i 0 ≤ 16 ∧ zs.getD i 0 = ((xs.getD i default).n : Nat) ∧ Cn.sum (zs.take i) = (xs.getD i default).c * 2 ^ (16 - (xs.getD i default).n)
theorem Tog.snoc {zs : List Int} {xs : List It} (h : Tog zs xs) (x : It) (hn : 1 ≤ x.n) (hn2 : x.n ≤ 16) (hs : Cn.sum zs = x.c * 2 ^ (16 - x.n)) : Tog (zs ++ [(x.n : Int)]) (xs ++ [x]) := by
  refine ⟨by simp [h.len], fun i hi => ?_⟩
  rw [List.length_append, List.length_cons, List.length_nil] at hi
  by_cases hil : i < zs.length
  · have := h.one i hil
    have e1 : (zs ++ [(x.n : Int)]).getD i 0 = zs.getD i 0 := by simp only [List.getD]; rw [List.getElem?_append_left hil]
    have e2 : (xs ++ [x]).getD i default = xs.getD i default := by simp only [List.getD]; rw [List.getElem?_append_left (by rw [← h.len]; exact hil)]
    have e3 : (zs ++ [(x.n : Int)]).take i = zs.take i := List.take_append_of_le_length (by omega)
    rw [e1, e2, e3]; exact this
  · have he : i = zs.length := by omega
    subst he
    have e1 : (zs ++ [(x.n : Int)]).getD zs.length 0 = x.n := by simp [List.getD]
    have e2 : (xs ++ [x]).getD zs.length default = x := by rw [h.len]; simp [List.getD]
    have e3 : (zs ++ [(x.n : Int)]).take zs.length = zs := by simp
    rw [e1, e2, e3]
    exact ⟨by omega, by omega, rfl, hs⟩
theorem tog_row (R : Nat → List Nat) (n : Nat) (hn : 1 ≤ n) (hn2 : n ≤ 16) (h : Tog (sizR R n) (seq R n)) (hs : Cn.sum (sizR R n) = sumR R n) : ∀ i, i ≤ (R n).length →
    Tog (sizR R n ++ List.replicate i (n : Int)) (seq R n ++ rowS R n i) ∧ Cn.sum (sizR R n ++ List.replicate i (n : Int)) = sumR R n + i * 2 ^ (16 - n) := by
  intro i
  induction i with
  | zero => intro _; simpa [rowS] using ⟨h, hs⟩
  | succ i ih =>
    intro hi
    obtain ⟨h1, h2⟩ := ih (by omega)
    have hp : Cn.part ((n : Nat) : Int) = 2 ^ (16 - n) := by have := Cn.part_eq (n : Int) ⟨by omega, by omega⟩; simpa using this
    rw [List.replicate_succ', ← List.append_assoc, rowS_succ, ← List.append_assoc]
    refine ⟨h1.snoc (it R n i) hn hn2 ?_, ?_⟩
    · rw [h2, ← fst_val R n hn2, ← Nat.add_mul]; rfl
    · rw [Cn.sum_snoc, h2, hp, Nat.add_mul, Nat.one_mul, Nat.add_assoc]
theorem tog_seq (R : Nat → List Nat) (h0 : R 0 = []) : ∀ m, m ≤ 17 → Tog (sizR R m) (seq R m) ∧ Cn.sum (sizR R m) = sumR R m := by
  intro m
  induction m with
  | zero => intro _; exact ⟨⟨rfl, fun i hi => by simp [sizR] at hi⟩, by simp [sizR, Cn.sum, sumR]⟩
  | succ m ih =>
    intro hm
    obtain ⟨h1, h2⟩ := ih (by omega)
    rw [sizR_succ, seq_succ]
    by_cases hm0 : m = 0
    · subst hm0
      rw [h0]
      refine ⟨by simpa [rowS] using h1, ?_⟩
      show _ = sumR R 0 + (R 0).length * _
      rw [h0]; simpa using h2
    · exact tog_row R m (by omega) (by omega) h1 h2 _ (Nat.le_refl _)
theorem sizR_sorted (R : Nat → List Nat) (m : Nat) : (sizR R m).Pairwise (· ≤ ·) ∧ ∀ x ∈ sizR R m, x < (m : Int) := by
  induction m with
  | zero => exact ⟨List.Pairwise.nil, fun x hx => by simp [sizR] at hx⟩
  | succ m ih =>
    rw [sizR_succ, List.pairwise_append]
    refine ⟨⟨ih.1, ?_, fun x hx y hy => ?_⟩, fun x hx => ?_⟩
    · exact List.pairwise_replicate.2 (.inr (Int.le_refl _))
    · have := ih.2 x hx
      rw [List.mem_replicate] at hy
      omega
    · rcases List.mem_append.1 hx with hx | hx
      · have := ih.2 x hx; omega
      · rw [List.mem_replicate] at hx; omega
/-- The document's codes are those of the rows. -/
theorem codes_seq (R : Nat → List Nat) (h : Good R) : Cn.codes (sizR R 17) = (seq R 17).map It.bits := by
  obtain ⟨h1, h2⟩ := tog_seq R h.r0 17 (Nat.le_refl _)
  have h3 := (sizR_sorted R 17).1
  refine codes_eq_of _ _ h1.len (fun i hi => ⟨(h1.one i hi).1, (h1.one i hi).2.1⟩) (fun i hi => ?_) (by rw [h2]; exact h.le) (fun i hi => (h1.one i hi).2.2)
  have hg : ∀ j (hj : j < (sizR R 17).length), (sizR R 17).getD j 0 = (sizR R 17)[j] := fun j hj => by simp [List.getD, List.getElem?_eq_getElem hj]
  rw [hg i (by omega), hg (i + 1) hi]
  exact List.pairwise_iff_getElem.1 h3 i (i + 1) (by omega) hi (Nat.lt_succ_self _)
end Bk
end Go.Proofs.YtjjbgdmalefdlaaGreatDoor
end

section
namespace Go.Proofs.YtjjbgdmalefdlaaGreatDoor
open Go.RowKit

namespace Bk
def ks (R : Nat → List Nat) : List (Int × List Bool) := (seq R 17).map fun x => ((x.s : Int), x.bits)
theorem same_iff (u : List Bool) (n : Nat) (x : It) (hx : x.c < 2 ^ x.n) (hn : n ≤ x.n) (hu : n ≤ u.length) : Cn.same u n x.bits = true ↔ x.c / 2 ^ (x.n - n) = Bt.numH (u.take n) := by
  have hl : x.bits.length = x.n := Bt.dg_length _ _ _
  unfold Cn.same
  rw [hl, Nat.min_eq_left hn, decide_eq_true_eq]
  unfold It.bits
  rw [dg_take _ _ _ hn]
  constructor
  · intro e
    have h1 : x.c / 2 ^ (x.n - n) < 2 ^ n := by
      rw [Nat.div_lt_iff_lt_mul (two_pos _), ← Nat.pow_add, show n + (x.n - n) = x.n by omega]; exact hx
    rw [← e, numH_dg _ _ h1]
  · intro e
    rw [e, dg_of_num _ _ (by rw [List.length_take]; omega)]
theorem mem_ks (R : Nat → List Nat) (k : Int × List Bool) : k ∈ ks R ↔ ∃ n i, n < 17 ∧ i < (R n).length ∧ k = (((it R n i).s : Int), (it R n i).bits) := by
  unfold ks
  rw [List.mem_map]
  constructor
  · rintro ⟨x, hx, rfl⟩
    obtain ⟨n, i, hn, hi, rfl⟩ := (mem_seq R 17 x).1 hx
    exact ⟨n, i, hn, hi, rfl⟩
  · rintro ⟨n, i, hn, hi, rfl⟩
    exact ⟨_, (mem_seq R 17 _).2 ⟨n, i, hn, hi, rfl⟩, rfl⟩
theorem hit_iff (R : Nat → List Nat) (h : Good R) (u : List Bool) (n m i : Nat) (hm : m < 17) (hi : i < (R m).length) (hu : n ≤ u.length) :
    Cn.hit u n (((it R m i).s : Int), (it R m i).bits) = true ↔ m = n ∧ fst R n + i = Bt.numH (u.take n) := by
  have hl : (it R m i).bits.length = m := Bt.dg_length _ _ _
  have hlt := it_lt R h m i (by omega) hi
  unfold Cn.hit
  simp only [Bool.and_eq_true, decide_eq_true_eq, hl]
  constructor
  · rintro ⟨h1, rfl⟩
    have := (same_iff u m (it R m i) hlt (Nat.le_refl _) hu).1 h1
    have e : (it R m i).n = m := rfl
    rw [e, Nat.sub_self, Nat.pow_zero, Nat.div_one] at this
    exact ⟨rfl, this⟩
  · rintro ⟨rfl, h1⟩
    refine ⟨(same_iff u m (it R m i) hlt (Nat.le_refl _) hu).2 ?_, rfl⟩
    have e : (it R m i).n = m := rfl
    rw [e, Nat.sub_self, Nat.pow_zero, Nat.div_one]
    exact h1
theorem rdAt_hit (R : Nat → List Nat) (h : Good R) (u : List Bool) (n i : Nat) (hn : n ≤ 16) (hi : i < (R n).length) (hu : n ≤ u.length) (hc : fst R n + i = Bt.numH (u.take n)) :
    Cn.rdAt (ks R) u (17 - n) n = ((((R n).getD i 0 : Nat) : Int), n, 0) := by
  rw [Cn.rdAt_step _ _ _ hn, if_neg (by omega)]
  have hex : ∃ k ∈ ks R, Cn.hit u n k = true := ⟨_, (mem_ks R _).2 ⟨n, i, by omega, hi, rfl⟩, (hit_iff R h u n n i (by omega) hi hu).2 ⟨rfl, hc⟩⟩
  cases hf : (ks R).find? (Cn.hit u n) with
  | none =>
    obtain ⟨k, hk, hh⟩ := hex
    have := List.find?_eq_none.1 hf k hk
    exact absurd hh this
  | some k =>
    have h1 := List.find?_some hf
    obtain ⟨m, j, hm, hj, rfl⟩ := (mem_ks R k).1 (List.mem_of_find?_eq_some hf)
    obtain ⟨rfl, h2⟩ := (hit_iff R h u n m j hm hj hu).1 h1
    obtain rfl : i = j := by omega
    rfl
theorem no_hit (R : Nat → List Nat) (h : Good R) (u : List Bool) (n : Nat) (hu : n ≤ u.length) (hc : fst R n + (R n).length ≤ Bt.numH (u.take n)) : (ks R).find? (Cn.hit u n) = none := by
  rw [List.find?_eq_none]
  intro k hk hh
  obtain ⟨m, j, hm, hj, rfl⟩ := (mem_ks R k).1 hk
  obtain ⟨rfl, h2⟩ := (hit_iff R h u n m j hm hj hu).1 hh
  omega
theorem more_iff (R : Nat → List Nat) (h : Good R) (u : List Bool) (n m i : Nat) (hm : m < 17) (hi : i < (R m).length) (hu : n ≤ u.length) :
    Cn.more u n (((it R m i).s : Int), (it R m i).bits) = true ↔ n < m ∧ (fst R m + i) / 2 ^ (m - n) = Bt.numH (u.take n) := by
  have hl : (it R m i).bits.length = m := Bt.dg_length _ _ _
  have hlt := it_lt R h m i (by omega) hi
  unfold Cn.more
  simp only [Bool.and_eq_true, decide_eq_true_eq, hl]
  constructor
  · rintro ⟨h1, h2⟩
    exact ⟨h2, (same_iff u n (it R m i) hlt (by show n ≤ m; omega) hu).1 h1⟩
  · rintro ⟨h2, h1⟩
    exact ⟨(same_iff u n (it R m i) hlt (by show n ≤ m; omega) hu).2 h1, h2⟩
theorem rdAt_bad (R : Nat → List Nat) (h : Good R) (u : List Bool) (n : Nat) (hn : n ≤ 16) (hu : n ≤ u.length) (hc : fst R n + (R n).length ≤ Bt.numH (u.take n)) (he : nx R 17 ≤ Bt.numH (u.take n) * 2 ^ (16 - n)) :
    Cn.rdAt (ks R) u (17 - n) n = (0, n, 2) := by
  rw [Cn.rdAt_step _ _ _ hn, if_neg (by omega), no_hit R h u n hu hc]
  have : (ks R).any (Cn.more u n) = false := by
    rw [List.any_eq_false]
    intro k hk hh
    obtain ⟨m, j, hm, hj, rfl⟩ := (mem_ks R k).1 hk
    obtain ⟨h1, h2⟩ := (more_iff R h u n m j hm hj hu).1 hh
    rw [← h2] at he
    have h3 := nx_val R m (by omega)
    have h4 := sumR_mono R (m + 1) 17 (by omega)
    rw [end_val] at he
    rw [nx_succ] at h3
    have h5 := pow_split n m (by omega) (by omega)
    rw [h5, ← Nat.mul_assoc] at he
    have h6 : (fst R m + j) / 2 ^ (m - n) * 2 ^ (m - n) ≤ fst R m + j := Nat.div_mul_le_self _ _
    have h7 := Nat.mul_le_mul_right (2 ^ (16 - m)) h6
    have h8 : (fst R m + j) * 2 ^ (16 - m) < (fst R m + (R m).length) * 2 ^ (16 - m) := Nat.mul_lt_mul_of_pos_right (by omega) (two_pos _)
    omega
  rw [this]; rfl
theorem exists_more (R : Nat → List Nat) (n c : Nat) (hn : n ≤ 16) (hc : fst R n + (R n).length ≤ c) (he : c * 2 ^ (16 - n) < nx R 17) : ∃ m i, n < m ∧ m < 17 ∧ i < (R m).length ∧ fst R m + i = c * 2 ^ (m - n) := by
  have h1 := nx_val R n hn
  rw [nx_succ] at h1
  have h2 : sumR R (n + 1) ≤ c * 2 ^ (16 - n) := by rw [← h1]; exact Nat.mul_le_mul_right _ hc
  rw [end_val] at he
  generalize hp : c * 2 ^ (16 - n) = p at *
  -- the least m above n with p < sumR (m + 1)
  have key : ∀ d, n + 1 + d ≤ 17 → p < sumR R (n + 1 + d) → ∃ m, n < m ∧ m < 17 ∧ sumR R m ≤ p ∧ p < sumR R (m + 1) := by
    intro d
    induction d with
    | zero => intro _ h; rw [Nat.add_zero] at h; omega
    | succ d ih =>
      intro hd h
      by_cases h' : p < sumR R (n + 1 + d)
      · exact ih (by omega) h'
      · exact ⟨n + 1 + d, by omega, by omega, by omega, h⟩
  obtain ⟨m, hm1, hm2, hm3, hm4⟩ := key (16 - n) (by omega) (by rw [show n + 1 + (16 - n) = 17 by omega]; exact he)
  have h3 := fst_val R m (by omega)
  have h4 := nx_val R m (by omega)
  rw [nx_succ] at h4
  have h5 := pow_split n m (by omega) (by omega)
  rw [h5, ← Nat.mul_assoc] at hp
  rw [← h3, ← hp] at hm3
  rw [← h4, ← hp] at hm4
  have h6 := Nat.le_of_mul_le_mul_right hm3 (two_pos _)
  have h7 := Nat.lt_of_mul_lt_mul_right hm4
  exact ⟨m, c * 2 ^ (m - n) - fst R m, hm1, hm2, by omega, by omega⟩
theorem rdAt_more (R : Nat → List Nat) (h : Good R) (u : List Bool) (n : Nat) (hn : n ≤ 16) (hu : n ≤ u.length) (hc : fst R n + (R n).length ≤ Bt.numH (u.take n)) (he : Bt.numH (u.take n) * 2 ^ (16 - n) < nx R 17) :
    n < 16 ∧ Cn.rdAt (ks R) u (17 - n) n = Cn.rdAt (ks R) u (17 - (n + 1)) (n + 1) := by
  obtain ⟨m, i, h1, h2, h3, h4⟩ := exists_more R n _ hn hc he
  refine ⟨by omega, ?_⟩
  rw [Cn.rdAt_step _ _ _ hn, if_neg (by omega), no_hit R h u n hu hc]
  have : (ks R).any (Cn.more u n) = true := by
    rw [List.any_eq_true]
    exact ⟨_, (mem_ks R _).2 ⟨m, i, h2, h3, rfl⟩, (more_iff R h u n m i h2 h3 hu).2 ⟨h1, by rw [h4, Nat.mul_div_cancel _ (two_pos _)]⟩⟩
  rw [this]; rfl
theorem rdAt_end (R : Nat → List Nat) (u : List Bool) (n : Nat) (hn : n ≤ 16) (hu : u.length < n) : Cn.rdAt (ks R) u (17 - n) n = (0, u.length, 8) := by
  rw [Cn.rdAt_step _ _ _ hn, if_pos hu]
theorem rows_nil (R : Nat → List Nat) (he : nx R 17 = 0) : ∀ n, n < 17 → R n = [] := by
  intro n hn
  rw [end_val] at he
  have h1 := sumR_mono R (n + 1) 17 (by omega)
  have h2 : sumR R (n + 1) = sumR R n + (R n).length * 2 ^ (16 - n) := rfl
  have h3 : (R n).length * 2 ^ (16 - n) = 0 := by omega
  rcases Nat.mul_eq_zero.1 h3 with h4 | h4
  · exact List.eq_nil_of_length_eq_zero h4
  · have := two_pos (16 - n); omega
theorem ks_nil (R : Nat → List Nat) (he : nx R 17 = 0) : ks R = [] := by
  cases hk : ks R with
  | nil => rfl
  | cons k t =>
    obtain ⟨n, i, hn, hi, _⟩ := (mem_ks R k).1 (by rw [hk]; exact List.mem_cons_self)
    rw [rows_nil R he n hn] at hi
    simp at hi
theorem rd_empty (R : Nat → List Nat) (u : List Bool) (he : nx R 17 = 0) : Cn.rd (ks R) u = (0, 0, 2) := by unfold Cn.rd; rw [if_pos (ks_nil R he)]
theorem rd_some (R : Nat → List Nat) (h : Good R) (u : List Bool) (he : 0 < nx R 17) : Cn.rd (ks R) u = Cn.rdAt (ks R) u (17 - 1) 1 := by
  have : ks R ≠ [] := by
    obtain ⟨m, i, h1, h2, h3, h4⟩ := exists_more R 0 0 (by omega) (by rw [h.r0]; simp [fst, nx]) (by simpa using he)
    intro e
    have := (mem_ks R _).2 ⟨m, i, h2, h3, rfl⟩
    rw [e] at this
    simp at this
  unfold Cn.rd
  rw [if_neg this]
/-- What is ahead of a code. -/
theorem ahead (R : Nat → List Nat) (n m i : Nat) (hnm : n < m) (hm : m < 17) (_hi : i < (R m).length) : fst R n + (R n).length ≤ (fst R m + i) / 2 ^ (m - n) := by
  rw [Nat.le_div_iff_mul_le (two_pos _)]
  have h1 := nx_val R n (by omega)
  rw [nx_succ] at h1
  have h2 := fst_val R m (by omega)
  have h3 := sumR_mono R (n + 1) m (by omega)
  have h4 := pow_split n m (by omega) (by omega)
  rw [h4, ← Nat.mul_assoc] at h1
  have h5 : (fst R n + (R n).length) * 2 ^ (m - n) * 2 ^ (16 - m) ≤ fst R m * 2 ^ (16 - m) := by omega
  have := Nat.le_of_mul_le_mul_right h5 (two_pos _)
  omega
theorem in_end (R : Nat → List Nat) (n m i : Nat) (hnm : n ≤ m) (hm : m < 17) (hi : i < (R m).length) : (fst R m + i) / 2 ^ (m - n) * 2 ^ (16 - n) < nx R 17 := by
  rw [end_val]
  have h1 := nx_val R m (by omega)
  rw [nx_succ] at h1
  have h3 := sumR_mono R (m + 1) 17 (by omega)
  have h4 := pow_split n m (by omega) (by omega)
  rw [h4, ← Nat.mul_assoc]
  have h6 := Nat.mul_le_mul_right (2 ^ (16 - m)) (Nat.div_mul_le_self (fst R m + i) (2 ^ (m - n)))
  have h8 : (fst R m + i) * 2 ^ (16 - m) < (fst R m + (R m).length) * 2 ^ (16 - m) := Nat.mul_lt_mul_of_pos_right (by omega) (two_pos _)
  omega
/-- A code that is written is read. -/
theorem rd_code (R : Nat → List Nat) (h : Good R) (m i : Nat) (hm : m < 17) (hi : i < (R m).length) (u : List Bool) (hu : u.take m = (it R m i).bits) (hul : m ≤ u.length) : Cn.rd (ks R) u = ((((R m).getD i 0 : Nat) : Int), m, 0) := by
  have hm0 : 1 ≤ m := by
    rcases Nat.eq_zero_or_pos m with rfl | hp
    · rw [h.r0] at hi; simp at hi
    · exact hp
  have hlt := it_lt R h m i (by omega) hi
  have hnum : ∀ n, n ≤ m → Bt.numH (u.take n) = (fst R m + i) / 2 ^ (m - n) := by
    intro n hn
    have e : u.take n = (u.take m).take n := by rw [List.take_take, Nat.min_eq_left hn]
    rw [e, hu]
    show Bt.numH ((Bt.dg true (fst R m + i) m).take n) = _
    rw [dg_take _ _ _ hn, numH_dg]
    rw [Nat.div_lt_iff_lt_mul (two_pos _), ← Nat.pow_add, show n + (m - n) = m by omega]
    exact hlt
  have he : 0 < nx R 17 := by have := in_end R m m i (Nat.le_refl _) hm hi; omega
  rw [rd_some R h u he]
  have step : ∀ n, 1 ≤ n → n ≤ m → Cn.rdAt (ks R) u (17 - 1) 1 = Cn.rdAt (ks R) u (17 - n) n := by
    intro n
    induction n with
    | zero => intro h0; omega
    | succ n ih =>
      intro _ hn
      by_cases h0 : n = 0
      · subst h0; rfl
      · rw [ih (by omega) (by omega)]
        have e := hnum n (by omega)
        exact (rdAt_more R h u n (by omega) (by omega) (by rw [e]; exact ahead R n m i (by omega) hm hi) (by rw [e]; exact in_end R n m i (by omega) hm hi)).2
  rw [step m hm0 (Nat.le_refl _)]
  exact rdAt_hit R h u m i (by omega) hi hul (by rw [hnum m (Nat.le_refl _)]; simp)
/-- The code of a symbol that a list of codes gives: the last one; none: of no bits. -/
def look (xs : List It) (s : Nat) : Nat × Nat := xs.foldl (fun a x => if x.s = s then (x.c, x.n) else a) (0, 0)
theorem look_snoc (xs : List It) (x : It) (s : Nat) : look (xs ++ [x]) s = if x.s = s then (x.c, x.n) else look xs s := by simp [look]
theorem look_mem (xs : List It) (s : Nat) : (look xs s = (0, 0) ∧ ∀ x ∈ xs, x.s ≠ s) ∨ ∃ x ∈ xs, x.s = s ∧ look xs s = (x.c, x.n) := by
  suffices ∀ r : List It, (look r.reverse s = (0, 0) ∧ ∀ x ∈ r.reverse, x.s ≠ s) ∨ ∃ x ∈ r.reverse, x.s = s ∧ look r.reverse s = (x.c, x.n) by simpa using this xs.reverse
  intro r
  induction r with
  | nil => exact .inl ⟨rfl, fun x hx => by simp at hx⟩
  | cons y r ih =>
    rw [List.reverse_cons, look_snoc]
    by_cases hy : y.s = s
    · rw [if_pos hy]; exact .inr ⟨y, by simp, hy, rfl⟩
    · rw [if_neg hy]
      rcases ih with ⟨h1, h2⟩ | ⟨x, hx, h1, h2⟩
      · refine .inl ⟨h1, fun x hx => ?_⟩
        rcases List.mem_append.1 hx with hx | hx
        · exact h2 x hx
        · simp only [List.mem_singleton] at hx; subst hx; exact hy
      · exact .inr ⟨x, List.mem_append_left _ hx, h1, h2⟩
end Bk
end Go.Proofs.YtjjbgdmalefdlaaGreatDoor
end
