/- Canonical codes as lists of bits. The document's codes as numbers: where each begins among 65536. The document's order of codes: sorted sizes, their sum, and which symbols. -/
import Derived.Test.YtpoilaappcjbeaaGreatDoorZ4
set_option linter.unusedSimpArgs false
set_option linter.unusedVariables false
section
namespace Go.Proofs.YtpoilaappcjbeaaGreatDoor
open Go.RowKit
namespace Cn
/-- What is free of lengths in form. -/
def part (n : Int) : Nat := if n ≤ 0 then 0 else 65536 / 2 ^ n.toNat
def sum (l : List Int) : Nat := (l.map part).sum
def formB (l : List Int) : Bool := decide (l.length ≤ 512) && l.all fun n => decide (0 ≤ n ∧ n ≤ 16)
/-- What the document answers for what is free. -/
def freeN (l : List Int) : Int := if formB l then 65536 - (sum l : Int) else 0
def freeB (l : List Int) : Bool := formB l && decide (sum l ≤ 65536)
theorem form_bad (l : List Int) (k : Nat) (hk : k < l.length) (h : l.getD k 0 < 0 ∨ 16 < l.getD k 0) : formB l = false := by
  have hm : l.getD k 0 ∈ l := by simp [List.getD, List.getElem?_eq_getElem hk]
  unfold formB
  rw [Bool.and_eq_false_iff]
  right
  rw [List.all_eq_false]
  generalize l.getD k 0 = z at *
  exact ⟨z, hm, by simp; omega⟩
theorem form_good (l : List Int) (hl : l.length ≤ 512) (h : ∀ k, k < l.length → 0 ≤ l.getD k 0 ∧ l.getD k 0 ≤ 16) : formB l = true := by
  unfold formB
  rw [Bool.and_eq_true, List.all_eq_true]
  refine ⟨by simpa using hl, fun n hn => ?_⟩
  obtain ⟨k, hk, rfl⟩ := List.getElem_of_mem hn
  have := h k hk
  simpa [List.getD, List.getElem?_eq_getElem hk] using this
theorem form_big (l : List Int) (hl : 512 < l.length) : formB l = false := by unfold formB; simp; omega
theorem part_le (n : Int) : part n ≤ 65536 := by
  unfold part; split
  · omega
  · exact Nat.div_le_self _ _
theorem sum_snoc (l : List Int) (n : Int) : sum (l ++ [n]) = sum l + part n := by simp [sum]
theorem sum_le (l : List Int) : sum l ≤ 65536 * l.length := by
  induction l with
  | nil => simp [sum]
  | cons n l ih => have := part_le n; simp only [sum, List.map_cons, List.sum_cons, List.length_cons] at *; omega
/-- A code plus 1, the last bit first. -/
def incR : List Bool → List Bool
  | [] => []
  | false :: r => true :: r
  | true :: r => false :: incR r
def plus (l : List Bool) : List Bool := (incR l.reverse).reverse
theorem incR_length (l : List Bool) : (incR l).length = l.length := by
  induction l with
  | nil => rfl
  | cons b l ih => cases b <;> simp [incR, ih]
theorem plus_length (l : List Bool) : (plus l).length = l.length := by simp [plus, incR_length]
/-- Some bits more. -/
def pad (b : List Bool) (n : Int) : List Bool := b ++ List.replicate (n.toNat - b.length) false
/-- The next code behind these. -/
def nxt (prev : List (List Bool)) (n : Int) : List Bool := pad (match prev.getLast? with | none => [] | some b => plus b) n
def codes (sizes : List Int) : List (List Bool) := sizes.foldl (fun acc n => acc ++ [nxt acc n]) []
theorem codes_snoc (l : List Int) (n : Int) : codes (l ++ [n]) = codes l ++ [nxt (codes l) n] := by simp [codes]
theorem codes_length (l : List Int) : (codes l).length = l.length := by
  suffices ∀ (r : List Int), (codes r.reverse).length = r.length by simpa using this l.reverse
  intro r
  induction r with
  | nil => rfl
  | cons n r ih => rw [List.reverse_cons, codes_snoc, List.length_append, ih]; rfl
theorem codes_take (l : List Int) (k : Nat) (h : k < l.length) : codes (l.take (k + 1)) = codes (l.take k) ++ [nxt (codes (l.take k)) (l.getD k 0)] := by
  rw [List.take_succ_eq_append_getElem h, codes_snoc]; simp [List.getD, List.getElem?_eq_getElem h]
theorem getLast_len (l : List (List Bool)) (k : Nat) (h : l.length = k + 1) : l.getLast? = some (l.getD k []) := by
  rw [List.getLast?_eq_getElem?, h]; simp [List.getD, List.getElem?_eq_getElem (show k < l.length by omega)]
/-- What the next code is made of. -/
def from' (prev : List (List Bool)) : List Bool := match prev.getLast? with | none => [] | some b => plus b
theorem nxt_eq (prev : List (List Bool)) (n : Int) : nxt prev n = from' prev ++ List.replicate (n.toNat - (from' prev).length) false := rfl
theorem from_nil : from' [] = [] := rfl
theorem from_succ (l : List (List Bool)) (k : Nat) (h : l.length = k + 1) : from' l = plus (l.getD k []) := by unfold from'; rw [getLast_len l k h]
theorem nxt_length (prev : List (List Bool)) (n : Int) : (nxt prev n).length = max (from' prev).length n.toNat := by rw [nxt_eq]; simp; omega
theorem codes_len (zs : List Int) (hz : ∀ n ∈ zs, n ≤ 16) : ∀ b ∈ codes zs, b.length ≤ 16 := by
  suffices ∀ (r : List Int), (∀ n ∈ r, n ≤ 16) → ∀ b ∈ codes r.reverse, b.length ≤ 16 by
    have := this zs.reverse (fun n hn => hz n (by simpa using hn))
    simpa using this
  intro r
  induction r with
  | nil => intro _ b hb; simp [codes] at hb
  | cons n r ih =>
    intro hr b hb
    have ih' := ih (fun m hm => hr m (List.mem_cons_of_mem _ hm))
    rw [List.reverse_cons, codes_snoc, List.mem_append] at hb
    rcases hb with hb | hb
    · exact ih' b hb
    · simp only [List.mem_singleton] at hb
      subst hb
      rw [nxt_length]
      have h1 : n.toNat ≤ 16 := by have := hr n List.mem_cons_self; omega
      have h2 : (from' (codes r.reverse)).length ≤ 16 := by
        unfold from'
        cases hg : (codes r.reverse).getLast? with
        | none => simp
        | some c => simp only [plus_length]; exact ih' c (List.mem_of_getLast? hg)
      omega
theorem from_len (zs : List Int) (hz : ∀ n ∈ zs, n ≤ 16) : (from' (codes zs)).length ≤ 16 := by
  unfold from'
  cases hg : (codes zs).getLast? with
  | none => simp
  | some c => simp only [plus_length]; exact codes_len zs hz c (List.mem_of_getLast? hg)
/-- The symbols below s with codes of m + 1 bits. -/
def row (l : List Int) (m s : Nat) : List Nat := (List.range s).filter fun i => l.getD i 0 == ((m + 1 : Nat) : Int)
/-- The symbols with codes of at most m bits, in the order of their codes; and their lengths. -/
def symN (l : List Int) (m : Nat) : List Int := (List.range m).flatMap fun n => (row l n l.length).map fun (s : Nat) => (s : Int)
def sizN (l : List Int) (m : Nat) : List Int := (List.range m).flatMap fun n => (row l n l.length).map fun _ => ((n + 1 : Nat) : Int)
def syms (l : List Int) : List Int := symN l 16
def sizes (l : List Int) : List Int := sizN l 16
theorem row_succ (l : List Int) (m s : Nat) : row l m (s + 1) = row l m s ++ (if l.getD s 0 == ((m + 1 : Nat) : Int) then [s] else []) := by
  unfold row; rw [List.range_succ, List.filter_append]; congr 1
  by_cases h : (l.getD s 0 == ((m + 1 : Nat) : Int)) = true
  · rw [List.filter_cons_of_pos (by simpa using h), if_pos h]; rfl
  · rw [List.filter_cons_of_neg (by simpa using h), if_neg h]; rfl
theorem row_le (l : List Int) (m s : Nat) : (row l m s).length ≤ s := by
  have := List.length_filter_le (fun i => l.getD i 0 == ((m + 1 : Nat) : Int)) (List.range s)
  simpa [row] using this
theorem symN_succ (l : List Int) (m : Nat) : symN l (m + 1) = symN l m ++ (row l m l.length).map fun (s : Nat) => (s : Int) := by simp [symN, List.range_succ]
theorem sizN_succ (l : List Int) (m : Nat) : sizN l (m + 1) = sizN l m ++ (row l m l.length).map fun _ => ((m + 1 : Nat) : Int) := by simp [sizN, List.range_succ]
theorem sizN_length (l : List Int) (m : Nat) : (sizN l m).length = (symN l m).length := by
  induction m with
  | zero => rfl
  | succ m ih => rw [symN_succ, sizN_succ]; simp [ih]
theorem sizN_bound (l : List Int) (m : Nat) (hm : m ≤ 16) : ∀ x ∈ sizN l m, 0 ≤ x ∧ x ≤ 16 := by
  intro x hx
  simp only [sizN, List.mem_flatMap, List.mem_range, List.mem_map] at hx
  obtain ⟨n, hn, _, _, rfl⟩ := hx
  omega
end Cn
end Go.Proofs.YtpoilaappcjbeaaGreatDoor
end

section
namespace Go.Proofs.YtpoilaappcjbeaaGreatDoor
open Go.RowKit

namespace Cn
theorem numH_pad (b : List Bool) (k : Nat) : Bt.numH (b ++ List.replicate k false) = Bt.numH b * 2 ^ k := by
  induction k with
  | zero => simp
  | succ k ih => rw [List.replicate_succ', ← List.append_assoc, Bt.numH_snoc, ih, Nat.pow_succ]; simp; rw [Nat.mul_comm, Nat.mul_assoc]
theorem numH_incR (r : List Bool) (h : Bt.numH r.reverse + 1 < 2 ^ r.length) : Bt.numH (incR r).reverse = Bt.numH r.reverse + 1 := by
  induction r with
  | nil => simp [Bt.numH] at h
  | cons x r ih =>
    rw [List.reverse_cons, Bt.numH_snoc, List.length_cons, Nat.pow_succ] at h
    cases x
    · have e : incR (false :: r) = true :: r := rfl
      rw [e, List.reverse_cons, List.reverse_cons, Bt.numH_snoc, Bt.numH_snoc]; simp
    · have e : incR (true :: r) = false :: incR r := rfl
      simp only [Bool.toNat_true] at h
      rw [e, List.reverse_cons, List.reverse_cons, Bt.numH_snoc, Bt.numH_snoc, ih (by omega)]; simp; omega
theorem numH_plus (b : List Bool) (h : Bt.numH b + 1 < 2 ^ b.length) : Bt.numH (plus b) = Bt.numH b + 1 := by
  have := numH_incR b.reverse (by simpa using h)
  simpa [plus] using this
theorem fold_pre (m : List Int) : ∀ acc : List (List Bool), ∃ t, m.foldl (fun acc n => acc ++ [nxt acc n]) acc = acc ++ t := by
  induction m with
  | nil => exact fun acc => ⟨[], by simp⟩
  | cons n m ih =>
    intro acc
    obtain ⟨t, ht⟩ := ih (acc ++ [nxt acc n])
    exact ⟨nxt acc n :: t, by rw [List.foldl_cons, ht, List.append_assoc]; rfl⟩
theorem codes_pre (l m : List Int) : ∃ t, codes (l ++ m) = codes l ++ t := by
  obtain ⟨t, ht⟩ := fold_pre m (codes l)
  exact ⟨t, by rw [← ht]; simp [codes]⟩
theorem codes_at (zs : List Int) (k : Nat) (hk : k < zs.length) : (codes zs).getD k [] = nxt (codes (zs.take k)) (zs.getD k 0) := by
  obtain ⟨t, ht⟩ := codes_pre (zs.take (k + 1)) (zs.drop (k + 1))
  rw [List.take_append_drop] at ht
  have hl : (codes (zs.take k)).length = k := by rw [codes_length, List.length_take]; omega
  rw [ht, codes_take zs k hk]
  simp [List.getD, hl]
theorem part_eq (n : Int) (h : 1 ≤ n ∧ n ≤ 16) : part n = 2 ^ (16 - n.toNat) := by
  unfold part
  rw [if_neg (by omega)]
  have e : (65536 : Nat) = 2 ^ (16 - n.toNat) * 2 ^ n.toNat := by rw [← Nat.pow_add, show 16 - n.toNat + n.toNat = 16 by omega]
  rw [e, Nat.mul_div_cancel _ (Nat.pow_pos (by omega))]
theorem sum_take_le (zs : List Int) (k : Nat) : sum (zs.take k) ≤ sum zs := by
  have : sum zs = sum (zs.take k) + sum (zs.drop k) := by
    unfold sum
    rw [← List.sum_append, ← List.map_append, List.take_append_drop]
  omega
theorem sum_take_succ (zs : List Int) (k : Nat) (hk : k < zs.length) : sum (zs.take (k + 1)) = sum (zs.take k) + part (zs.getD k 0) := by
  rw [List.take_succ_eq_append_getElem hk, sum_snoc]; simp [List.getD, List.getElem?_eq_getElem hk]
/-- A code's length is the one asked for, and its number, in 65536ths, is where the ones ahead of it end. -/
theorem codes_val (zs : List Int) (hz : ∀ i, i < zs.length → 1 ≤ zs.getD i 0 ∧ zs.getD i 0 ≤ 16) (hs : ∀ i, i + 1 < zs.length → zs.getD i 0 ≤ zs.getD (i + 1) 0) (hk : sum zs ≤ 65536) :
    ∀ i, i < zs.length → ((codes zs).getD i []).length = (zs.getD i 0).toNat ∧ Bt.numH ((codes zs).getD i []) * 2 ^ (16 - (zs.getD i 0).toNat) = sum (zs.take i) := by
  intro i
  induction i with
  | zero =>
    intro hi
    rw [codes_at zs 0 hi]
    have e : nxt (codes (zs.take 0)) (zs.getD 0 0) = [] ++ List.replicate (zs.getD 0 0).toNat false := by simp [codes, nxt, pad]
    rw [e]
    refine ⟨by simp, ?_⟩
    rw [numH_pad]; simp [Bt.numH, sum]
  | succ i ih =>
    intro hi
    obtain ⟨h1, h2⟩ := ih (by omega)
    have hb := hz i (by omega)
    have hc := hz (i + 1) hi
    have ho := hs i hi
    have hl : (codes (zs.take (i + 1))).length = i + 1 := by rw [codes_length, List.length_take]; omega
    have hp : (codes (zs.take (i + 1))).getD i [] = (codes zs).getD i [] := by
      obtain ⟨t, ht⟩ := codes_pre (zs.take (i + 1)) (zs.drop (i + 1))
      rw [List.take_append_drop] at ht
      rw [ht]; simp only [List.getD]; rw [List.getElem?_append_left (by omega)]
    rw [codes_at zs (i + 1) hi, nxt_eq, from_succ _ i hl, hp]
    have s1 := sum_take_succ zs i (by omega)
    have s2 := sum_take_succ zs (i + 1) hi
    have s3 := sum_take_le zs (i + 1 + 1)
    rw [part_eq _ hb] at s1
    rw [part_eq _ hc] at s2
    generalize (codes zs).getD i [] = b at *
    obtain ⟨x, hx⟩ := Int.eq_ofNat_of_zero_le (show 0 ≤ zs.getD i 0 by omega)
    obtain ⟨y, hy⟩ := Int.eq_ofNat_of_zero_le (show 0 ≤ zs.getD (i + 1) 0 by omega)
    rw [hx] at h1 h2 s1 hb ho
    rw [hy] at s2 hc ho ⊢
    simp only [Int.toNat_natCast] at h1 h2 s1 s2 ⊢
    have hxy : x ≤ y := by omega
    have hy16 : y ≤ 16 := by omega
    have p1 : 2 ^ (16 - x) * 2 ^ x = 65536 := by rw [← Nat.pow_add, show 16 - x + x = 16 by omega]
    have p2 : 2 ^ (y - x) * 2 ^ (16 - y) = 2 ^ (16 - x) := by rw [← Nat.pow_add, show y - x + (16 - y) = 16 - x by omega]
    have p3 : 0 < 2 ^ (16 - y) := Nat.pow_pos (by omega)
    have hn : Bt.numH b + 1 < 2 ^ b.length := by
      rw [h1]
      refine Nat.lt_of_mul_lt_mul_left (a := 2 ^ (16 - x)) ?_
      rw [p1, Nat.mul_comm, Nat.add_mul, h2]
      omega
    refine ⟨by rw [List.length_append, plus_length, List.length_replicate, h1]; omega, ?_⟩
    rw [numH_pad, numH_plus b hn, plus_length, h1, Nat.mul_assoc, p2, Nat.add_mul, h2, s1]
    omega
end Cn
end Go.Proofs.YtpoilaappcjbeaaGreatDoor
end

section
namespace Go.Proofs.YtpoilaappcjbeaaGreatDoor
open Go.RowKit

namespace Cn
theorem sizN_low (l : List Int) (m : Nat) : ∀ x ∈ sizN l m, 1 ≤ x ∧ x ≤ m := by
  intro x hx
  simp only [sizN, List.mem_flatMap, List.mem_range, List.mem_map] at hx
  obtain ⟨n, hn, _, _, rfl⟩ := hx
  omega
theorem sizN_sorted (l : List Int) (m : Nat) : (sizN l m).Pairwise (· ≤ ·) := by
  induction m with
  | zero => exact List.Pairwise.nil
  | succ m ih =>
    rw [sizN_succ, List.pairwise_append]
    refine ⟨ih, ?_, fun x hx y hy => ?_⟩
    · rw [List.pairwise_map]
      generalize row l m l.length = r
      induction r with
      | nil => exact List.Pairwise.nil
      | cons a r ih2 => exact List.Pairwise.cons (fun _ _ => Int.le_refl _) ih2
    · obtain ⟨_, _, rfl⟩ := List.mem_map.1 hy
      have := sizN_low l m x hx
      omega
theorem row_count (l : List Int) (m : Nat) : ∀ k, k ≤ l.length → (row l m k).length = (l.take k).countP (fun x => x == ((m + 1 : Nat) : Int)) := by
  intro k
  induction k with
  | zero => intro _; simp [row]
  | succ k ih =>
    intro hk
    have hg : l.getD k 0 = l[k] := by simp [List.getD, List.getElem?_eq_getElem (show k < l.length by omega)]
    rw [row_succ, List.length_append, ih (by omega), List.take_succ_eq_append_getElem (show k < l.length by omega), List.countP_append, hg]
    by_cases h : (l[k] == ((m + 1 : Nat) : Int)) = true
    · rw [if_pos h, List.countP_cons_of_pos (p := fun x => x == ((m + 1 : Nat) : Int)) h]; rfl
    · rw [if_neg h, List.countP_cons_of_neg (p := fun x => x == ((m + 1 : Nat) : Int)) h]; rfl
def sumTo (l : List Int) (m : Nat) : Nat := (l.map fun (n : Int) => if n ≤ (m : Int) then part n else 0).sum
theorem sumTo_succ (l : List Int) (m : Nat) : sumTo l (m + 1) = sumTo l m + l.countP (fun x => x == ((m + 1 : Nat) : Int)) * part ((m + 1 : Nat) : Int) := by
  induction l with
  | nil => simp [sumTo]
  | cons x l ih =>
    have e1 : sumTo (x :: l) (m + 1) = (if x ≤ ((m + 1 : Nat) : Int) then part x else 0) + sumTo l (m + 1) := rfl
    have e2 : sumTo (x :: l) m = (if x ≤ (m : Int) then part x else 0) + sumTo l m := rfl
    rw [e1, e2, ih]
    by_cases h : x = ((m + 1 : Nat) : Int)
    · rw [List.countP_cons_of_pos (by simpa using h), if_pos (by omega), if_neg (by omega), h, Nat.succ_mul]; omega
    · rw [List.countP_cons_of_neg (by simpa using h)]
      by_cases h2 : x ≤ (m : Int)
      · rw [if_pos (by omega), if_pos h2]; omega
      · rw [if_neg (by omega), if_neg h2]; omega
theorem sum_sizN (l : List Int) (m : Nat) (h0 : ∀ x ∈ l, 0 ≤ x) : sum (sizN l m) = sumTo l m := by
  induction m with
  | zero =>
    have : sumTo l 0 = 0 := by
      unfold sumTo
      induction l with
      | nil => rfl
      | cons x l ih =>
        rw [List.map_cons, List.sum_cons, ih (fun y hy => h0 y (List.mem_cons_of_mem _ hy))]
        have := h0 x (List.mem_cons_self ..)
        by_cases h : x ≤ ((0 : Nat) : Int)
        · rw [if_pos h]; unfold part; rw [if_pos (by omega)]
        · rw [if_neg h]
    rw [this]; rfl
  | succ m ih =>
    rw [sizN_succ, sumTo_succ, ← ih]
    have hr := row_count l m l.length (Nat.le_refl _)
    rw [List.take_length] at hr
    rw [← hr]
    unfold sum
    rw [List.map_append, List.sum_append, List.map_map]
    congr 1
    generalize row l m l.length = r
    induction r with
    | nil => simp
    | cons a r ih2 => rw [List.map_cons, List.sum_cons, ih2, List.length_cons, Nat.succ_mul, Nat.add_comm]; rfl
theorem form_mem (l : List Int) (h : formB l = true) : ∀ x ∈ l, 0 ≤ x ∧ x ≤ 16 := by
  intro x hx
  simp only [formB, Bool.and_eq_true, List.all_eq_true, decide_eq_true_eq] at h
  exact h.2 x hx
theorem sumTo_all (l : List Int) (m : Nat) (h : ∀ x ∈ l, x ≤ (m : Int)) : sumTo l m = sum l := by
  unfold sumTo sum
  congr 1
  exact List.map_congr_left (fun x hx => if_pos (h x hx))
theorem sum_sizes (l : List Int) (h : formB l = true) : sum (sizes l) = sum l := by
  unfold sizes
  rw [sum_sizN l 16 (fun x hx => (form_mem l h x hx).1), sumTo_all l 16 (fun x hx => (form_mem l h x hx).2)]
/-- The codes of lengths in form: each as long as asked for, and where it begins. -/
theorem sizes_val (l : List Int) (h : freeB l = true) (i : Nat) (hi : i < (sizes l).length) :
    ((codes (sizes l)).getD i []).length = ((sizes l).getD i 0).toNat ∧ Bt.numH ((codes (sizes l)).getD i []) * 2 ^ (16 - ((sizes l).getD i 0).toNat) = sum ((sizes l).take i) := by
  simp only [freeB, Bool.and_eq_true, decide_eq_true_eq] at h
  have hg : ∀ j (hj : j < (sizes l).length), (sizes l).getD j 0 = (sizes l)[j] := fun j hj => by simp [List.getD, List.getElem?_eq_getElem hj]
  refine codes_val (sizes l) (fun j hj => ?_) (fun j hj => ?_) (by rw [sum_sizes l h.1]; exact h.2) i hi
  · rw [hg j hj]; exact sizN_low l 16 _ (List.getElem_mem hj)
  · rw [hg j (by omega), hg (j + 1) hj]
    exact List.pairwise_iff_getElem.1 (sizN_sorted l 16) j (j + 1) (Nat.lt_of_succ_lt hj) hj (Nat.lt_succ_self _)
/-- Symbols and lengths, in the order of their codes. -/
def pairs (l : List Int) (m : Nat) : List (Nat × Int) := (List.range m).flatMap fun n => (row l n l.length).map fun s => (s, ((n + 1 : Nat) : Int))
theorem pairs_syms (l : List Int) : syms l = (pairs l 16).map fun p => (p.1 : Int) := by
  simp only [syms, symN, pairs, List.map_flatMap, List.map_map]; rfl
theorem pairs_sizes (l : List Int) : sizes l = (pairs l 16).map fun p => p.2 := by
  simp only [sizes, sizN, pairs, List.map_flatMap, List.map_map]; rfl
theorem pairs_mem (l : List Int) (m s : Nat) (n : Int) : (s, n) ∈ pairs l m ↔ s < l.length ∧ l.getD s 0 = n ∧ 1 ≤ n ∧ n ≤ m := by
  simp only [pairs, List.mem_flatMap, List.mem_range, List.mem_map, row, List.mem_filter, beq_iff_eq, Prod.mk.injEq]
  constructor
  · rintro ⟨k, hk, t, ⟨ht, he⟩, rfl, rfl⟩
    exact ⟨ht, he, by omega, by omega⟩
  · rintro ⟨hs, he, h1, h2⟩
    exact ⟨n.toNat - 1, by omega, s, ⟨hs, by omega⟩, rfl, by omega⟩
theorem pairs_nodup (l : List Int) (m : Nat) : ((pairs l m).map fun p => p.1).Nodup := by
  induction m with
  | zero => exact List.Pairwise.nil
  | succ m ih =>
    have e : pairs l (m + 1) = pairs l m ++ (row l m l.length).map fun s => (s, ((m + 1 : Nat) : Int)) := by simp [pairs, List.range_succ]
    rw [e, List.map_append, List.map_map, List.nodup_append]
    refine ⟨ih, ?_, ?_⟩
    · have : ((fun p : Nat × Int => p.1) ∘ fun s : Nat => (s, ((m + 1 : Nat) : Int))) = id := rfl
      rw [this, List.map_id]
      exact List.Pairwise.filter _ List.nodup_range
    · intro a ha b hb hab
      obtain ⟨⟨s, n⟩, hp, rfl⟩ := List.mem_map.1 ha
      obtain ⟨t, ht, rfl⟩ := List.mem_map.1 hb
      obtain ⟨_, h1, _, h2⟩ := (pairs_mem l m s n).1 hp
      simp only [row, List.mem_filter, beq_iff_eq] at ht
      simp only [Function.comp] at hab
      subst hab
      omega
end Cn
end Go.Proofs.YtpoilaappcjbeaaGreatDoor
end
