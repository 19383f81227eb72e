/- A book of codes: its rows of symbols, where each length's codes begin, and what reading comes to. -/
import Derived.Test.YtnlbomijnldlmaaCanonOrd
import Derived.Test.YtnlbomijnldlmaaRef04e
namespace Go.Proofs.Ytnlbomijnldlmaa
open Go.RowKit

namespace Bk
/-- A symbol, its code, and how many bits it has. -/
structure It where
  s : Nat
  c : Nat
  n : Nat

instance : Inhabited It := ⟨⟨0, 0, 0⟩⟩
def It.bits (x : It) : List Bool := Bt.dg true x.c x.n
/-- The next code behind those of fewer than n bits. -/
def nx (R : Nat → List Nat) : Nat → Nat
  | 0 => 0
  | n + 1 => 2 * nx R n + (R n).length
/-- The first code of n bits. -/
def fst (R : Nat → List Nat) (n : Nat) : Nat := 2 * nx R n
def sumR (R : Nat → List Nat) : Nat → Nat
  | 0 => 0
  | n + 1 => sumR R n + (R n).length * 2 ^ (16 - n)
def it (R : Nat → List Nat) (n i : Nat) : It := ⟨(R n).getD i 0, fst R n + i, n⟩
def rowS (R : Nat → List Nat) (n i : Nat) : List It := (List.range i).map (it R n)
/-- The codes of fewer than m bits, in their order. -/
def seq (R : Nat → List Nat) (m : Nat) : List It := (List.range m).flatMap fun n => rowS R n (R n).length
def sizR (R : Nat → List Nat) (m : Nat) : List Int := (List.range m).flatMap fun n => List.replicate (R n).length (n : Int)
structure Good (R : Nat → List Nat) : Prop where
  r0 : R 0 = []
  le : sumR R 17 ≤ 65536
theorem nx_succ (R : Nat → List Nat) (n : Nat) : nx R (n + 1) = fst R n + (R n).length := rfl
theorem pow_split (n m : Nat) (h : n ≤ m) (hm : m ≤ 16) : 2 ^ (16 - n) = 2 ^ (m - n) * 2 ^ (16 - m) := by
  rw [← Nat.pow_add]; congr 1; omega
theorem nx_val (R : Nat → List Nat) : ∀ n, n ≤ 16 → nx R (n + 1) * 2 ^ (16 - n) = sumR R (n + 1) := by
  intro n
  induction n with
  | zero => intro _; simp [nx, sumR]
  | succ n ih =>
    intro h
    have h1 := ih (by omega)
    have h2 := pow_split n (n + 1) (by omega) h
    rw [show n + 1 - n = 1 by omega, Nat.pow_one] at h2
    rw [h2] at h1
    have e1 : nx R (n + 1 + 1) = 2 * nx R (n + 1) + (R (n + 1)).length := rfl
    have e2 : sumR R (n + 1 + 1) = sumR R (n + 1) + (R (n + 1)).length * 2 ^ (16 - (n + 1)) := rfl
    rw [e1, e2, ← h1, Nat.add_mul]
    congr 1
    rw [Nat.mul_comm 2, Nat.mul_assoc]
theorem fst_val (R : Nat → List Nat) (n : Nat) (h : n ≤ 16) : fst R n * 2 ^ (16 - n) = sumR R n := by
  cases n with
  | zero => simp [fst, nx, sumR]
  | succ n =>
    have h1 := nx_val R n (by omega)
    have h2 := pow_split n (n + 1) (by omega) h
    rw [show n + 1 - n = 1 by omega, Nat.pow_one] at h2
    rw [← h1, h2]
    unfold fst
    rw [Nat.mul_comm 2, Nat.mul_assoc]
theorem end_val (R : Nat → List Nat) : nx R 17 = sumR R 17 := by have := nx_val R 16 (Nat.le_refl _); simpa using this
theorem sumR_mono (R : Nat → List Nat) (m n : Nat) (h : m ≤ n) : sumR R m ≤ sumR R n := by
  induction n with
  | zero => obtain rfl : m = 0 := by omega
            exact Nat.le_refl _
  | succ n ih =>
    by_cases h2 : m ≤ n
    · have := ih h2; show _ ≤ sumR R n + _; omega
    · obtain rfl : m = n + 1 := by omega
      exact Nat.le_refl _
theorem two_pos (n : Nat) : 0 < 2 ^ n := Nat.pow_pos (by omega)
theorem code_lt (R : Nat → List Nat) (h : Good R) (n i : Nat) (hn : n ≤ 16) (hi : i ≤ (R n).length) : fst R n + i ≤ 2 ^ n := by
  have h1 := nx_val R n hn
  rw [nx_succ] at h1
  have h2 := sumR_mono R (n + 1) 17 (by omega)
  have h3 := h.le
  have h4 : (2 : Nat) ^ n * 2 ^ (16 - n) = 65536 := by rw [← Nat.pow_add, show n + (16 - n) = 16 by omega]
  have h5 : (fst R n + (R n).length) * 2 ^ (16 - n) ≤ 2 ^ n * 2 ^ (16 - n) := by omega
  have := Nat.le_of_mul_le_mul_right h5 (two_pos _)
  omega
theorem it_lt (R : Nat → List Nat) (h : Good R) (n i : Nat) (hn : n ≤ 16) (hi : i < (R n).length) : (it R n i).c < 2 ^ n := by
  have := code_lt R h n (i + 1) hn hi
  show fst R n + i < 2 ^ n
  omega
theorem mem_seq (R : Nat → List Nat) (m : Nat) (x : It) : x ∈ seq R m ↔ ∃ n i, n < m ∧ i < (R n).length ∧ x = it R n i := by
  simp only [seq, rowS, List.mem_flatMap, List.mem_range, List.mem_map]
  constructor
  · rintro ⟨n, hn, i, hi, rfl⟩; exact ⟨n, i, hn, hi, rfl⟩
  · rintro ⟨n, i, hn, hi, rfl⟩; exact ⟨n, hn, i, hi, rfl⟩
theorem seq_succ (R : Nat → List Nat) (m : Nat) : seq R (m + 1) = seq R m ++ rowS R m (R m).length := by simp [seq, List.range_succ]
theorem sizR_succ (R : Nat → List Nat) (m : Nat) : sizR R (m + 1) = sizR R m ++ List.replicate (R m).length (m : Int) := by simp [sizR, List.range_succ]
theorem rowS_succ (R : Nat → List Nat) (n i : Nat) : rowS R n (i + 1) = rowS R n i ++ [it R n i] := by simp [rowS, List.range_succ]
theorem rowS_length (R : Nat → List Nat) (n i : Nat) : (rowS R n i).length = i := by simp [rowS]
theorem seq_mono (R : Nat → List Nat) (m n : Nat) (h : m ≤ n) : ∃ t, seq R n = seq R m ++ t := by
  induction n with
  | zero => obtain rfl : m = 0 := by omega
            exact ⟨[], by simp⟩
  | succ n ih =>
    by_cases h2 : m ≤ n
    · obtain ⟨t, ht⟩ := ih h2
      exact ⟨t ++ rowS R n (R n).length, by rw [seq_succ, ht, List.append_assoc]⟩
    · obtain rfl : m = n + 1 := by omega
      exact ⟨[], by simp⟩
/-- Bits and numbers. -/
theorem dg_of_num (b : List Bool) (n : Nat) (h : b.length = n) : Bt.dg true (Bt.numH b) n = b := by
  subst h
  apply List.ext_getElem
  · simp [Bt.dg_length]
  · intro i h1 h2
    have e := Bt.dg_getD true (Bt.numH b) b.length i false h2
    rw [List.getD, List.getElem?_eq_getElem h1, Option.getD_some] at e
    rw [e, if_pos rfl, Bt.numH_testBit]
    have e2 : b.length - 1 - (b.length - 1 - i) = i := by omega
    rw [e2]
    have e3 : decide (b.length - 1 - i < b.length) = true := decide_eq_true (by omega)
    rw [e3]
    simp [List.getD, List.getElem?_eq_getElem h2]
theorem numH_dg (c n : Nat) (h : c < 2 ^ n) : Bt.numH (Bt.dg true c n) = c := Bt.num_dg true c n h
theorem dg_take (c m n : Nat) (h : n ≤ m) : (Bt.dg true c m).take n = Bt.dg true (c / 2 ^ (m - n)) n := by
  apply List.ext_getElem
  · simp [Bt.dg_length]; omega
  · intro i h1 h2
    rw [Bt.dg_length] at h2
    simp only [Bt.dg, List.getElem_take, List.getElem_map, List.getElem_range, if_true]
    rw [← Nat.shiftRight_eq_div_pow, Nat.testBit_shiftRight]
    congr 1; omega
theorem codes_eq_of (zs : List Int) (xs : List It) (hl : zs.length = xs.length) (hz : ∀ i, i < zs.length → 1 ≤ zs.getD i 0 ∧ zs.getD i 0 ≤ 16)
    (hs : ∀ i, i + 1 < zs.length → zs.getD i 0 ≤ zs.getD (i + 1) 0) (hk : Cn.sum zs ≤ 65536)
    (hx : ∀ i, i < zs.length → zs.getD i 0 = ((xs.getD i default).n : Nat) ∧ Cn.sum (zs.take i) = (xs.getD i default).c * 2 ^ (16 - (xs.getD i default).n)) :
    Cn.codes zs = xs.map It.bits := by
  apply List.ext_getElem
  · rw [Cn.codes_length, List.length_map, hl]
  · intro i h1 h2
    rw [Cn.codes_length] at h1
    obtain ⟨hv1, hv2⟩ := Cn.codes_val zs hz hs hk i h1
    obtain ⟨hx1, hx2⟩ := hx i h1
    have hxl : i < xs.length := by omega
    have e1 : (Cn.codes zs).getD i [] = (Cn.codes zs)[i]'(by rw [Cn.codes_length]; exact h1) := by simp [List.getD, List.getElem?_eq_getElem (show i < (Cn.codes zs).length by rw [Cn.codes_length]; exact h1)]
    have e2 : xs.getD i default = xs[i] := by simp [List.getD, List.getElem?_eq_getElem hxl]
    rw [e1] at hv1 hv2
    rw [e2] at hx1 hx2
    rw [List.getElem_map]
    rw [hx1] at hv1 hv2
    simp only [Int.toNat_natCast] at hv1 hv2
    rw [hx2] at hv2
    have := Nat.eq_of_mul_eq_mul_right (two_pos _) hv2
    rw [It.bits, ← this, dg_of_num _ _ hv1]
/-- How lengths and codes go together, up to somewhere. -/
structure Tog (zs : List Int) (xs : List It) : Prop where
  len : zs.length = xs.length
  one : ∀ i, i < zs.length → 1 ≤ zs.getD i 0 ∧ zs.getD i 0 ≤ 16 ∧ zs.getD i 0 = ((xs.getD i default).n : Nat) ∧ Cn.sum (zs.take i) = (xs.getD i default).c * 2 ^ (16 - (xs.getD i default).n)
theorem Tog.snoc {zs : List Int} {xs : List It} (h : Tog zs xs) (x : It) (hn : 1 ≤ x.n) (hn2 : x.n ≤ 16) (hs : Cn.sum zs = x.c * 2 ^ (16 - x.n)) : Tog (zs ++ [(x.n : Int)]) (xs ++ [x]) := by
  refine ⟨by simp [h.len], fun i hi => ?_⟩
  rw [List.length_append, List.length_cons, List.length_nil] at hi
  by_cases hil : i < zs.length
  · have := h.one i hil
    have e1 : (zs ++ [(x.n : Int)]).getD i 0 = zs.getD i 0 := by simp only [List.getD]; rw [List.getElem?_append_left hil]
    have e2 : (xs ++ [x]).getD i default = xs.getD i default := by simp only [List.getD]; rw [List.getElem?_append_left (by rw [← h.len]; exact hil)]
    have e3 : (zs ++ [(x.n : Int)]).take i = zs.take i := List.take_append_of_le_length (by omega)
    rw [e1, e2, e3]; exact this
  · have he : i = zs.length := by omega
    subst he
    have e1 : (zs ++ [(x.n : Int)]).getD zs.length 0 = x.n := by simp [List.getD]
    have e2 : (xs ++ [x]).getD zs.length default = x := by rw [h.len]; simp [List.getD]
    have e3 : (zs ++ [(x.n : Int)]).take zs.length = zs := by simp
    rw [e1, e2, e3]
    exact ⟨by omega, by omega, rfl, hs⟩
theorem tog_row (R : Nat → List Nat) (n : Nat) (hn : 1 ≤ n) (hn2 : n ≤ 16) (h : Tog (sizR R n) (seq R n)) (hs : Cn.sum (sizR R n) = sumR R n) : ∀ i, i ≤ (R n).length →
    Tog (sizR R n ++ List.replicate i (n : Int)) (seq R n ++ rowS R n i) ∧ Cn.sum (sizR R n ++ List.replicate i (n : Int)) = sumR R n + i * 2 ^ (16 - n) := by
  intro i
  induction i with
  | zero => intro _; simpa [rowS] using ⟨h, hs⟩
  | succ i ih =>
    intro hi
    obtain ⟨h1, h2⟩ := ih (by omega)
    have hp : Cn.part ((n : Nat) : Int) = 2 ^ (16 - n) := by have := Cn.part_eq (n : Int) ⟨by omega, by omega⟩; simpa using this
    rw [List.replicate_succ', ← List.append_assoc, rowS_succ, ← List.append_assoc]
    refine ⟨h1.snoc (it R n i) hn hn2 ?_, ?_⟩
    · rw [h2, ← fst_val R n hn2, ← Nat.add_mul]; rfl
    · rw [Cn.sum_snoc, h2, hp, Nat.add_mul, Nat.one_mul, Nat.add_assoc]
theorem tog_seq (R : Nat → List Nat) (h0 : R 0 = []) : ∀ m, m ≤ 17 → Tog (sizR R m) (seq R m) ∧ Cn.sum (sizR R m) = sumR R m := by
  intro m
  induction m with
  | zero => intro _; exact ⟨⟨rfl, fun i hi => by simp [sizR] at hi⟩, by simp [sizR, Cn.sum, sumR]⟩
  | succ m ih =>
    intro hm
    obtain ⟨h1, h2⟩ := ih (by omega)
    rw [sizR_succ, seq_succ]
    by_cases hm0 : m = 0
    · subst hm0
      rw [h0]
      refine ⟨by simpa [rowS] using h1, ?_⟩
      show _ = sumR R 0 + (R 0).length * _
      rw [h0]; simpa using h2
    · exact tog_row R m (by omega) (by omega) h1 h2 _ (Nat.le_refl _)
theorem sizR_sorted (R : Nat → List Nat) (m : Nat) : (sizR R m).Pairwise (· ≤ ·) ∧ ∀ x ∈ sizR R m, x < (m : Int) := by
  induction m with
  | zero => exact ⟨List.Pairwise.nil, fun x hx => by simp [sizR] at hx⟩
  | succ m ih =>
    rw [sizR_succ, List.pairwise_append]
    refine ⟨⟨ih.1, ?_, fun x hx y hy => ?_⟩, fun x hx => ?_⟩
    · exact List.pairwise_replicate.2 (.inr (Int.le_refl _))
    · have := ih.2 x hx
      rw [List.mem_replicate] at hy
      omega
    · rcases List.mem_append.1 hx with hx | hx
      · have := ih.2 x hx; omega
      · rw [List.mem_replicate] at hx; omega
/-- The document's codes are those of the rows. -/
theorem codes_seq (R : Nat → List Nat) (h : Good R) : Cn.codes (sizR R 17) = (seq R 17).map It.bits := by
  obtain ⟨h1, h2⟩ := tog_seq R h.r0 17 (Nat.le_refl _)
  have h3 := (sizR_sorted R 17).1
  refine codes_eq_of _ _ h1.len (fun i hi => ⟨(h1.one i hi).1, (h1.one i hi).2.1⟩) (fun i hi => ?_) (by rw [h2]; exact h.le) (fun i hi => (h1.one i hi).2.2)
  have hg : ∀ j (hj : j < (sizR R 17).length), (sizR R 17).getD j 0 = (sizR R 17)[j] := fun j hj => by simp [List.getD, List.getElem?_eq_getElem hj]
  rw [hg i (by omega), hg (i + 1) hi]
  exact List.pairwise_iff_getElem.1 h3 i (i + 1) (by omega) hi (Nat.lt_succ_self _)
end Bk
end Go.Proofs.Ytnlbomijnldlmaa
