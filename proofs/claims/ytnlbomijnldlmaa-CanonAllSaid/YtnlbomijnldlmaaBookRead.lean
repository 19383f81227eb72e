/- Books of codes: what reading comes to, and that no code begins another one. -/
import Derived.Test.YtnlbomijnldlmaaBookMath
namespace Go.Proofs.Ytnlbomijnldlmaa
open Go.RowKit

namespace Bk
def ks (R : Nat → List Nat) : List (Int × List Bool) := (seq R 17).map fun x => ((x.s : Int), x.bits)
theorem same_iff (u : List Bool) (n : Nat) (x : It) (hx : x.c < 2 ^ x.n) (hn : n ≤ x.n) (hu : n ≤ u.length) : Cn.same u n x.bits = true ↔ x.c / 2 ^ (x.n - n) = Bt.numH (u.take n) := by
  have hl : x.bits.length = x.n := Bt.dg_length _ _ _
  unfold Cn.same
  rw [hl, Nat.min_eq_left hn, decide_eq_true_eq]
  unfold It.bits
  rw [dg_take _ _ _ hn]
  constructor
  · intro e
    have h1 : x.c / 2 ^ (x.n - n) < 2 ^ n := by
      rw [Nat.div_lt_iff_lt_mul (two_pos _), ← Nat.pow_add, show n + (x.n - n) = x.n by omega]; exact hx
    rw [← e, numH_dg _ _ h1]
  · intro e
    rw [e, dg_of_num _ _ (by rw [List.length_take]; omega)]
theorem mem_ks (R : Nat → List Nat) (k : Int × List Bool) : k ∈ ks R ↔ ∃ n i, n < 17 ∧ i < (R n).length ∧ k = (((it R n i).s : Int), (it R n i).bits) := by
  unfold ks
  rw [List.mem_map]
  constructor
  · rintro ⟨x, hx, rfl⟩
    obtain ⟨n, i, hn, hi, rfl⟩ := (mem_seq R 17 x).1 hx
    exact ⟨n, i, hn, hi, rfl⟩
  · rintro ⟨n, i, hn, hi, rfl⟩
    exact ⟨_, (mem_seq R 17 _).2 ⟨n, i, hn, hi, rfl⟩, rfl⟩
theorem hit_iff (R : Nat → List Nat) (h : Good R) (u : List Bool) (n m i : Nat) (hm : m < 17) (hi : i < (R m).length) (hu : n ≤ u.length) :
    Cn.hit u n (((it R m i).s : Int), (it R m i).bits) = true ↔ m = n ∧ fst R n + i = Bt.numH (u.take n) := by
  have hl : (it R m i).bits.length = m := Bt.dg_length _ _ _
  have hlt := it_lt R h m i (by omega) hi
  unfold Cn.hit
  simp only [Bool.and_eq_true, decide_eq_true_eq, hl]
  constructor
  · rintro ⟨h1, rfl⟩
    have := (same_iff u m (it R m i) hlt (Nat.le_refl _) hu).1 h1
    have e : (it R m i).n = m := rfl
    rw [e, Nat.sub_self, Nat.pow_zero, Nat.div_one] at this
    exact ⟨rfl, this⟩
  · rintro ⟨rfl, h1⟩
    refine ⟨(same_iff u m (it R m i) hlt (Nat.le_refl _) hu).2 ?_, rfl⟩
    have e : (it R m i).n = m := rfl
    rw [e, Nat.sub_self, Nat.pow_zero, Nat.div_one]
    exact h1
theorem rdAt_hit (R : Nat → List Nat) (h : Good R) (u : List Bool) (n i : Nat) (hn : n ≤ 16) (hi : i < (R n).length) (hu : n ≤ u.length) (hc : fst R n + i = Bt.numH (u.take n)) :
    Cn.rdAt (ks R) u (17 - n) n = ((((R n).getD i 0 : Nat) : Int), n, 0) := by
  rw [Cn.rdAt_step _ _ _ hn, if_neg (by omega)]
  have hex : ∃ k ∈ ks R, Cn.hit u n k = true := ⟨_, (mem_ks R _).2 ⟨n, i, by omega, hi, rfl⟩, (hit_iff R h u n n i (by omega) hi hu).2 ⟨rfl, hc⟩⟩
  cases hf : (ks R).find? (Cn.hit u n) with
  | none =>
    obtain ⟨k, hk, hh⟩ := hex
    have := List.find?_eq_none.1 hf k hk
    exact absurd hh this
  | some k =>
    have h1 := List.find?_some hf
    obtain ⟨m, j, hm, hj, rfl⟩ := (mem_ks R k).1 (List.mem_of_find?_eq_some hf)
    obtain ⟨rfl, h2⟩ := (hit_iff R h u n m j hm hj hu).1 h1
    obtain rfl : i = j := by omega
    rfl
theorem no_hit (R : Nat → List Nat) (h : Good R) (u : List Bool) (n : Nat) (hu : n ≤ u.length) (hc : fst R n + (R n).length ≤ Bt.numH (u.take n)) : (ks R).find? (Cn.hit u n) = none := by
  rw [List.find?_eq_none]
  intro k hk hh
  obtain ⟨m, j, hm, hj, rfl⟩ := (mem_ks R k).1 hk
  obtain ⟨rfl, h2⟩ := (hit_iff R h u n m j hm hj hu).1 hh
  omega
theorem more_iff (R : Nat → List Nat) (h : Good R) (u : List Bool) (n m i : Nat) (hm : m < 17) (hi : i < (R m).length) (hu : n ≤ u.length) :
    Cn.more u n (((it R m i).s : Int), (it R m i).bits) = true ↔ n < m ∧ (fst R m + i) / 2 ^ (m - n) = Bt.numH (u.take n) := by
  have hl : (it R m i).bits.length = m := Bt.dg_length _ _ _
  have hlt := it_lt R h m i (by omega) hi
  unfold Cn.more
  simp only [Bool.and_eq_true, decide_eq_true_eq, hl]
  constructor
  · rintro ⟨h1, h2⟩
    exact ⟨h2, (same_iff u n (it R m i) hlt (by show n ≤ m; omega) hu).1 h1⟩
  · rintro ⟨h2, h1⟩
    exact ⟨(same_iff u n (it R m i) hlt (by show n ≤ m; omega) hu).2 h1, h2⟩
theorem rdAt_bad (R : Nat → List Nat) (h : Good R) (u : List Bool) (n : Nat) (hn : n ≤ 16) (hu : n ≤ u.length) (hc : fst R n + (R n).length ≤ Bt.numH (u.take n)) (he : nx R 17 ≤ Bt.numH (u.take n) * 2 ^ (16 - n)) :
    Cn.rdAt (ks R) u (17 - n) n = (0, n, 2) := by
  rw [Cn.rdAt_step _ _ _ hn, if_neg (by omega), no_hit R h u n hu hc]
  have : (ks R).any (Cn.more u n) = false := by
    rw [List.any_eq_false]
    intro k hk hh
    obtain ⟨m, j, hm, hj, rfl⟩ := (mem_ks R k).1 hk
    obtain ⟨h1, h2⟩ := (more_iff R h u n m j hm hj hu).1 hh
    rw [← h2] at he
    have h3 := nx_val R m (by omega)
    have h4 := sumR_mono R (m + 1) 17 (by omega)
    rw [end_val] at he
    rw [nx_succ] at h3
    have h5 := pow_split n m (by omega) (by omega)
    rw [h5, ← Nat.mul_assoc] at he
    have h6 : (fst R m + j) / 2 ^ (m - n) * 2 ^ (m - n) ≤ fst R m + j := Nat.div_mul_le_self _ _
    have h7 := Nat.mul_le_mul_right (2 ^ (16 - m)) h6
    have h8 : (fst R m + j) * 2 ^ (16 - m) < (fst R m + (R m).length) * 2 ^ (16 - m) := Nat.mul_lt_mul_of_pos_right (by omega) (two_pos _)
    omega
  rw [this]; rfl
theorem exists_more (R : Nat → List Nat) (n c : Nat) (hn : n ≤ 16) (hc : fst R n + (R n).length ≤ c) (he : c * 2 ^ (16 - n) < nx R 17) : ∃ m i, n < m ∧ m < 17 ∧ i < (R m).length ∧ fst R m + i = c * 2 ^ (m - n) := by
  have h1 := nx_val R n hn
  rw [nx_succ] at h1
  have h2 : sumR R (n + 1) ≤ c * 2 ^ (16 - n) := by rw [← h1]; exact Nat.mul_le_mul_right _ hc
  rw [end_val] at he
  generalize hp : c * 2 ^ (16 - n) = p at *
  -- the least m above n with p < sumR (m + 1)
  have key : ∀ d, n + 1 + d ≤ 17 → p < sumR R (n + 1 + d) → ∃ m, n < m ∧ m < 17 ∧ sumR R m ≤ p ∧ p < sumR R (m + 1) := by
    intro d
    induction d with
    | zero => intro _ h; rw [Nat.add_zero] at h; omega
    | succ d ih =>
      intro hd h
      by_cases h' : p < sumR R (n + 1 + d)
      · exact ih (by omega) h'
      · exact ⟨n + 1 + d, by omega, by omega, by omega, h⟩
  obtain ⟨m, hm1, hm2, hm3, hm4⟩ := key (16 - n) (by omega) (by rw [show n + 1 + (16 - n) = 17 by omega]; exact he)
  have h3 := fst_val R m (by omega)
  have h4 := nx_val R m (by omega)
  rw [nx_succ] at h4
  have h5 := pow_split n m (by omega) (by omega)
  rw [h5, ← Nat.mul_assoc] at hp
  rw [← h3, ← hp] at hm3
  rw [← h4, ← hp] at hm4
  have h6 := Nat.le_of_mul_le_mul_right hm3 (two_pos _)
  have h7 := Nat.lt_of_mul_lt_mul_right hm4
  exact ⟨m, c * 2 ^ (m - n) - fst R m, hm1, hm2, by omega, by omega⟩
theorem rdAt_more (R : Nat → List Nat) (h : Good R) (u : List Bool) (n : Nat) (hn : n ≤ 16) (hu : n ≤ u.length) (hc : fst R n + (R n).length ≤ Bt.numH (u.take n)) (he : Bt.numH (u.take n) * 2 ^ (16 - n) < nx R 17) :
    n < 16 ∧ Cn.rdAt (ks R) u (17 - n) n = Cn.rdAt (ks R) u (17 - (n + 1)) (n + 1) := by
  obtain ⟨m, i, h1, h2, h3, h4⟩ := exists_more R n _ hn hc he
  refine ⟨by omega, ?_⟩
  rw [Cn.rdAt_step _ _ _ hn, if_neg (by omega), no_hit R h u n hu hc]
  have : (ks R).any (Cn.more u n) = true := by
    rw [List.any_eq_true]
    exact ⟨_, (mem_ks R _).2 ⟨m, i, h2, h3, rfl⟩, (more_iff R h u n m i h2 h3 hu).2 ⟨h1, by rw [h4, Nat.mul_div_cancel _ (two_pos _)]⟩⟩
  rw [this]; rfl
theorem rdAt_end (R : Nat → List Nat) (u : List Bool) (n : Nat) (hn : n ≤ 16) (hu : u.length < n) : Cn.rdAt (ks R) u (17 - n) n = (0, u.length, 8) := by
  rw [Cn.rdAt_step _ _ _ hn, if_pos hu]
theorem rows_nil (R : Nat → List Nat) (he : nx R 17 = 0) : ∀ n, n < 17 → R n = [] := by
  intro n hn
  rw [end_val] at he
  have h1 := sumR_mono R (n + 1) 17 (by omega)
  have h2 : sumR R (n + 1) = sumR R n + (R n).length * 2 ^ (16 - n) := rfl
  have h3 : (R n).length * 2 ^ (16 - n) = 0 := by omega
  rcases Nat.mul_eq_zero.1 h3 with h4 | h4
  · exact List.eq_nil_of_length_eq_zero h4
  · have := two_pos (16 - n); omega
theorem ks_nil (R : Nat → List Nat) (he : nx R 17 = 0) : ks R = [] := by
  cases hk : ks R with
  | nil => rfl
  | cons k t =>
    obtain ⟨n, i, hn, hi, _⟩ := (mem_ks R k).1 (by rw [hk]; exact List.mem_cons_self)
    rw [rows_nil R he n hn] at hi
    simp at hi
theorem rd_empty (R : Nat → List Nat) (u : List Bool) (he : nx R 17 = 0) : Cn.rd (ks R) u = (0, 0, 2) := by unfold Cn.rd; rw [if_pos (ks_nil R he)]
theorem rd_some (R : Nat → List Nat) (h : Good R) (u : List Bool) (he : 0 < nx R 17) : Cn.rd (ks R) u = Cn.rdAt (ks R) u (17 - 1) 1 := by
  have : ks R ≠ [] := by
    obtain ⟨m, i, h1, h2, h3, h4⟩ := exists_more R 0 0 (by omega) (by rw [h.r0]; simp [fst, nx]) (by simpa using he)
    intro e
    have := (mem_ks R _).2 ⟨m, i, h2, h3, rfl⟩
    rw [e] at this
    simp at this
  unfold Cn.rd
  rw [if_neg this]
/-- What is ahead of a code. -/
theorem ahead (R : Nat → List Nat) (n m i : Nat) (hnm : n < m) (hm : m < 17) (_hi : i < (R m).length) : fst R n + (R n).length ≤ (fst R m + i) / 2 ^ (m - n) := by
  rw [Nat.le_div_iff_mul_le (two_pos _)]
  have h1 := nx_val R n (by omega)
  rw [nx_succ] at h1
  have h2 := fst_val R m (by omega)
  have h3 := sumR_mono R (n + 1) m (by omega)
  have h4 := pow_split n m (by omega) (by omega)
  rw [h4, ← Nat.mul_assoc] at h1
  have h5 : (fst R n + (R n).length) * 2 ^ (m - n) * 2 ^ (16 - m) ≤ fst R m * 2 ^ (16 - m) := by omega
  have := Nat.le_of_mul_le_mul_right h5 (two_pos _)
  omega
theorem in_end (R : Nat → List Nat) (n m i : Nat) (hnm : n ≤ m) (hm : m < 17) (hi : i < (R m).length) : (fst R m + i) / 2 ^ (m - n) * 2 ^ (16 - n) < nx R 17 := by
  rw [end_val]
  have h1 := nx_val R m (by omega)
  rw [nx_succ] at h1
  have h3 := sumR_mono R (m + 1) 17 (by omega)
  have h4 := pow_split n m (by omega) (by omega)
  rw [h4, ← Nat.mul_assoc]
  have h6 := Nat.mul_le_mul_right (2 ^ (16 - m)) (Nat.div_mul_le_self (fst R m + i) (2 ^ (m - n)))
  have h8 : (fst R m + i) * 2 ^ (16 - m) < (fst R m + (R m).length) * 2 ^ (16 - m) := Nat.mul_lt_mul_of_pos_right (by omega) (two_pos _)
  omega
/-- A code that is written is read. -/
theorem rd_code (R : Nat → List Nat) (h : Good R) (m i : Nat) (hm : m < 17) (hi : i < (R m).length) (u : List Bool) (hu : u.take m = (it R m i).bits) (hul : m ≤ u.length) : Cn.rd (ks R) u = ((((R m).getD i 0 : Nat) : Int), m, 0) := by
  have hm0 : 1 ≤ m := by
    rcases Nat.eq_zero_or_pos m with rfl | hp
    · rw [h.r0] at hi; simp at hi
    · exact hp
  have hlt := it_lt R h m i (by omega) hi
  have hnum : ∀ n, n ≤ m → Bt.numH (u.take n) = (fst R m + i) / 2 ^ (m - n) := by
    intro n hn
    have e : u.take n = (u.take m).take n := by rw [List.take_take, Nat.min_eq_left hn]
    rw [e, hu]
    show Bt.numH ((Bt.dg true (fst R m + i) m).take n) = _
    rw [dg_take _ _ _ hn, numH_dg]
    rw [Nat.div_lt_iff_lt_mul (two_pos _), ← Nat.pow_add, show n + (m - n) = m by omega]
    exact hlt
  have he : 0 < nx R 17 := by have := in_end R m m i (Nat.le_refl _) hm hi; omega
  rw [rd_some R h u he]
  have step : ∀ n, 1 ≤ n → n ≤ m → Cn.rdAt (ks R) u (17 - 1) 1 = Cn.rdAt (ks R) u (17 - n) n := by
    intro n
    induction n with
    | zero => intro h0; omega
    | succ n ih =>
      intro _ hn
      by_cases h0 : n = 0
      · subst h0; rfl
      · rw [ih (by omega) (by omega)]
        have e := hnum n (by omega)
        exact (rdAt_more R h u n (by omega) (by omega) (by rw [e]; exact ahead R n m i (by omega) hm hi) (by rw [e]; exact in_end R n m i (by omega) hm hi)).2
  rw [step m hm0 (Nat.le_refl _)]
  exact rdAt_hit R h u m i (by omega) hi hul (by rw [hnum m (Nat.le_refl _)]; simp)
/-- The code of a symbol that a list of codes gives: the last one; none: of no bits. -/
def look (xs : List It) (s : Nat) : Nat × Nat := xs.foldl (fun a x => if x.s = s then (x.c, x.n) else a) (0, 0)
theorem look_snoc (xs : List It) (x : It) (s : Nat) : look (xs ++ [x]) s = if x.s = s then (x.c, x.n) else look xs s := by simp [look]
theorem look_mem (xs : List It) (s : Nat) : (look xs s = (0, 0) ∧ ∀ x ∈ xs, x.s ≠ s) ∨ ∃ x ∈ xs, x.s = s ∧ look xs s = (x.c, x.n) := by
  suffices ∀ r : List It, (look r.reverse s = (0, 0) ∧ ∀ x ∈ r.reverse, x.s ≠ s) ∨ ∃ x ∈ r.reverse, x.s = s ∧ look r.reverse s = (x.c, x.n) by simpa using this xs.reverse
  intro r
  induction r with
  | nil => exact .inl ⟨rfl, fun x hx => by simp at hx⟩
  | cons y r ih =>
    rw [List.reverse_cons, look_snoc]
    by_cases hy : y.s = s
    · rw [if_pos hy]; exact .inr ⟨y, by simp, hy, rfl⟩
    · rw [if_neg hy]
      rcases ih with ⟨h1, h2⟩ | ⟨x, hx, h1, h2⟩
      · refine .inl ⟨h1, fun x hx => ?_⟩
        rcases List.mem_append.1 hx with hx | hx
        · exact h2 x hx
        · simp only [List.mem_singleton] at hx; subst hx; exact hy
      · exact .inr ⟨x, List.mem_append_left _ hx, h1, h2⟩
end Bk
end Go.Proofs.Ytnlbomijnldlmaa
