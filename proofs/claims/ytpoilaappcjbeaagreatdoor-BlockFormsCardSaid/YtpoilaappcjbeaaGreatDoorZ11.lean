/- Books of codes: what reading comes to, and that no code begins another one. A book of codes in memory. A book; (*Book).word, Length: their contracts. Books of lengths: in form, and the document's codes. (*Book).inOrder: the iterator's contract. A function that ranges over functions more than once leaves with as many marks. -/
import Derived.Test.YtpoilaappcjbeaaGreatDoorZ10
import Derived.RangeFuncNested
import Derived.RangeFuncBound
import Derived.RangeFuncCalls
import Derived.RangeFuncLeaves
import Derived.RangeFuncFrom
import Derived.Shelf.Abstract
import Derived.Shelf.RegionOpen
import Derived.OwnWalkIn
import Derived.TacticsInMore
import Derived.LoopNIn
import Derived.LoopIn
import Derived.RegionIn
set_option linter.unusedSimpArgs false
set_option linter.unusedVariables false
section
namespace Go.Proofs.YtpoilaappcjbeaaGreatDoor
open Go.RowKit

namespace Bk
def ks (R : Nat → List Nat) : List (Int × List Bool) := (seq R 17).map fun x => ((x.s : Int), x.bits)
theorem same_iff (u : List Bool) (n : Nat) (x : It) (hx : x.c < 2 ^ x.n) (hn : n ≤ x.n) (hu : n ≤ u.length) : Cn.same u n x.bits = true ↔ x.c / 2 ^ (x.n - n) = Bt.numH (u.take n) := by
  have hl : x.bits.length = x.n := Bt.dg_length _ _ _
  unfold Cn.same
  rw [hl, Nat.min_eq_left hn, decide_eq_true_eq]
  unfold It.bits
  rw [dg_take _ _ _ hn]
  constructor
  · intro e
    have h1 : x.c / 2 ^ (x.n - n) < 2 ^ n := by
      rw [Nat.div_lt_iff_lt_mul (two_pos _), ← Nat.pow_add, show n + (x.n - n) = x.n by omega]; exact hx
    rw [← e, numH_dg _ _ h1]
  · intro e
    rw [e, dg_of_num _ _ (by rw [List.length_take]; omega)]
theorem mem_ks (R : Nat → List Nat) (k : Int × List Bool) : k ∈ ks R ↔ ∃ n i, n < 17 ∧ i < (R n).length ∧ k = (((it R n i).s : Int), (it R n i).bits) := by
  unfold ks
  rw [List.mem_map]
  constructor
  · rintro ⟨x, hx, rfl⟩
    obtain ⟨n, i, hn, hi, rfl⟩ := (mem_seq R 17 x).1 hx
    exact ⟨n, i, hn, hi, rfl⟩
  · rintro ⟨n, i, hn, hi, rfl⟩
    exact ⟨_, (mem_seq R 17 _).2 ⟨n, i, hn, hi, rfl⟩, rfl⟩
theorem hit_iff (R : Nat → List Nat) (h : Good R) (u : List Bool) (n m i : Nat) (hm : m < 17) (hi : i < (R m).length) (hu : n ≤ u.length) :
    Cn.hit u n (((it R m i).s : Int), (it R m i).bits) = true ↔ m = n ∧ fst R n + i = Bt.numH (u.take n) := by
  have hl : (it R m i).bits.length = m := Bt.dg_length _ _ _
  have hlt := it_lt R h m i (by omega) hi
  unfold Cn.hit
  simp only [Bool.and_eq_true, decide_eq_true_eq, hl]
  constructor
  · rintro ⟨h1, rfl⟩
    have := (same_iff u m (it R m i) hlt (Nat.le_refl _) hu).1 h1
    have e : (it R m i).n = m := rfl
    rw [e, Nat.sub_self, Nat.pow_zero, Nat.div_one] at this
    exact ⟨rfl, this⟩
  · rintro ⟨rfl, h1⟩
    refine ⟨(same_iff u m (it R m i) hlt (Nat.le_refl _) hu).2 ?_, rfl⟩
    have e : (it R m i).n = m := rfl
    rw [e, Nat.sub_self, Nat.pow_zero, Nat.div_one]
    exact h1
theorem rdAt_hit (R : Nat → List Nat) (h : Good R) (u : List Bool) (n i : Nat) (hn : n ≤ 16) (hi : i < (R n).length) (hu : n ≤ u.length) (hc : fst R n + i = Bt.numH (u.take n)) :
    Cn.rdAt (ks R) u (17 - n) n = ((((R n).getD i 0 : Nat) : Int), n, 0) := by
  rw [Cn.rdAt_step _ _ _ hn, if_neg (by omega)]
  have hex : ∃ k ∈ ks R, Cn.hit u n k = true := ⟨_, (mem_ks R _).2 ⟨n, i, by omega, hi, rfl⟩, (hit_iff R h u n n i (by omega) hi hu).2 ⟨rfl, hc⟩⟩
  cases hf : (ks R).find? (Cn.hit u n) with
  | none =>
    obtain ⟨k, hk, hh⟩ := hex
    have := List.find?_eq_none.1 hf k hk
    exact absurd hh this
  | some k =>
    have h1 := List.find?_some hf
    obtain ⟨m, j, hm, hj, rfl⟩ := (mem_ks R k).1 (List.mem_of_find?_eq_some hf)
    obtain ⟨rfl, h2⟩ := (hit_iff R h u n m j hm hj hu).1 h1
    obtain rfl : i = j := by omega
    rfl
theorem no_hit (R : Nat → List Nat) (h : Good R) (u : List Bool) (n : Nat) (hu : n ≤ u.length) (hc : fst R n + (R n).length ≤ Bt.numH (u.take n)) : (ks R).find? (Cn.hit u n) = none := by
  rw [List.find?_eq_none]
  intro k hk hh
  obtain ⟨m, j, hm, hj, rfl⟩ := (mem_ks R k).1 hk
  obtain ⟨rfl, h2⟩ := (hit_iff R h u n m j hm hj hu).1 hh
  omega
theorem more_iff (R : Nat → List Nat) (h : Good R) (u : List Bool) (n m i : Nat) (hm : m < 17) (hi : i < (R m).length) (hu : n ≤ u.length) :
    Cn.more u n (((it R m i).s : Int), (it R m i).bits) = true ↔ n < m ∧ (fst R m + i) / 2 ^ (m - n) = Bt.numH (u.take n) := by
  have hl : (it R m i).bits.length = m := Bt.dg_length _ _ _
  have hlt := it_lt R h m i (by omega) hi
  unfold Cn.more
  simp only [Bool.and_eq_true, decide_eq_true_eq, hl]
  constructor
  · rintro ⟨h1, h2⟩
    exact ⟨h2, (same_iff u n (it R m i) hlt (by show n ≤ m; omega) hu).1 h1⟩
  · rintro ⟨h2, h1⟩
    exact ⟨(same_iff u n (it R m i) hlt (by show n ≤ m; omega) hu).2 h1, h2⟩
theorem rdAt_bad (R : Nat → List Nat) (h : Good R) (u : List Bool) (n : Nat) (hn : n ≤ 16) (hu : n ≤ u.length) (hc : fst R n + (R n).length ≤ Bt.numH (u.take n)) (he : nx R 17 ≤ Bt.numH (u.take n) * 2 ^ (16 - n)) :
    Cn.rdAt (ks R) u (17 - n) n = (0, n, 2) := by
  rw [Cn.rdAt_step _ _ _ hn, if_neg (by omega), no_hit R h u n hu hc]
  have : (ks R).any (Cn.more u n) = false := by
    rw [List.any_eq_false]
    intro k hk hh
    obtain ⟨m, j, hm, hj, rfl⟩ := (mem_ks R k).1 hk
    obtain ⟨h1, h2⟩ := (more_iff R h u n m j hm hj hu).1 hh
    rw [← h2] at he
    have h3 := nx_val R m (by omega)
    have h4 := sumR_mono R (m + 1) 17 (by omega)
    rw [end_val] at he
    rw [nx_succ] at h3
    have h5 := pow_split n m (by omega) (by omega)
    rw [h5, ← Nat.mul_assoc] at he
    have h6 : (fst R m + j) / 2 ^ (m - n) * 2 ^ (m - n) ≤ fst R m + j := Nat.div_mul_le_self _ _
    have h7 := Nat.mul_le_mul_right (2 ^ (16 - m)) h6
    have h8 : (fst R m + j) * 2 ^ (16 - m) < (fst R m + (R m).length) * 2 ^ (16 - m) := Nat.mul_lt_mul_of_pos_right (by omega) (two_pos _)
    omega
  rw [this]; rfl
theorem exists_more (R : Nat → List Nat) (n c : Nat) (hn : n ≤ 16) (hc : fst R n + (R n).length ≤ c) (he : c * 2 ^ (16 - n) < nx R 17) : ∃ m i, n < m ∧ m < 17 ∧ i < (R m).length ∧ fst R m + i = c * 2 ^ (m - n) := by
  have h1 := nx_val R n hn
  rw [nx_succ] at h1
  have h2 : sumR R (n + 1) ≤ c * 2 ^ (16 - n) := by rw [← h1]; exact Nat.mul_le_mul_right _ hc
  rw [end_val] at he
  generalize hp : c * 2 ^ (16 - n) = p at *
  -- the least m above n with p < sumR (m + 1)
  have key : ∀ d, n + 1 + d ≤ 17 → p < sumR R (n + 1 + d) → ∃ m, n < m ∧ m < 17 ∧ sumR R m ≤ p ∧ p < sumR R (m + 1) := by
    intro d
    induction d with
    | zero => intro _ h; rw [Nat.add_zero] at h; omega
    | succ d ih =>
      intro hd h
      by_cases h' : p < sumR R (n + 1 + d)
      · exact ih (by omega) h'
      · exact ⟨n + 1 + d, by omega, by omega, by omega, h⟩
  obtain ⟨m, hm1, hm2, hm3, hm4⟩ := key (16 - n) (by omega) (by rw [show n + 1 + (16 - n) = 17 by omega]; exact he)
  have h3 := fst_val R m (by omega)
  have h4 := nx_val R m (by omega)
  rw [nx_succ] at h4
  have h5 := pow_split n m (by omega) (by omega)
  rw [h5, ← Nat.mul_assoc] at hp
  rw [← h3, ← hp] at hm3
  rw [← h4, ← hp] at hm4
  have h6 := Nat.le_of_mul_le_mul_right hm3 (two_pos _)
  have h7 := Nat.lt_of_mul_lt_mul_right hm4
  exact ⟨m, c * 2 ^ (m - n) - fst R m, hm1, hm2, by omega, by omega⟩
theorem rdAt_more (R : Nat → List Nat) (h : Good R) (u : List Bool) (n : Nat) (hn : n ≤ 16) (hu : n ≤ u.length) (hc : fst R n + (R n).length ≤ Bt.numH (u.take n)) (he : Bt.numH (u.take n) * 2 ^ (16 - n) < nx R 17) :
    n < 16 ∧ Cn.rdAt (ks R) u (17 - n) n = Cn.rdAt (ks R) u (17 - (n + 1)) (n + 1) := by
  obtain ⟨m, i, h1, h2, h3, h4⟩ := exists_more R n _ hn hc he
  refine ⟨by omega, ?_⟩
  rw [Cn.rdAt_step _ _ _ hn, if_neg (by omega), no_hit R h u n hu hc]
  have : (ks R).any (Cn.more u n) = true := by
    rw [List.any_eq_true]
    exact ⟨_, (mem_ks R _).2 ⟨m, i, h2, h3, rfl⟩, (more_iff R h u n m i h2 h3 hu).2 ⟨h1, by rw [h4, Nat.mul_div_cancel _ (two_pos _)]⟩⟩
  rw [this]; rfl
theorem rdAt_end (R : Nat → List Nat) (u : List Bool) (n : Nat) (hn : n ≤ 16) (hu : u.length < n) : Cn.rdAt (ks R) u (17 - n) n = (0, u.length, 8) := by
  rw [Cn.rdAt_step _ _ _ hn, if_pos hu]
theorem rows_nil (R : Nat → List Nat) (he : nx R 17 = 0) : ∀ n, n < 17 → R n = [] := by
  intro n hn
  rw [end_val] at he
  have h1 := sumR_mono R (n + 1) 17 (by omega)
  have h2 : sumR R (n + 1) = sumR R n + (R n).length * 2 ^ (16 - n) := rfl
  have h3 : (R n).length * 2 ^ (16 - n) = 0 := by omega
  rcases Nat.mul_eq_zero.1 h3 with h4 | h4
  · exact List.eq_nil_of_length_eq_zero h4
  · have := two_pos (16 - n); omega
theorem ks_nil (R : Nat → List Nat) (he : nx R 17 = 0) : ks R = [] := by
  cases hk : ks R with
  | nil => rfl
  | cons k t =>
    obtain ⟨n, i, hn, hi, _⟩ := (mem_ks R k).1 (by rw [hk]; exact List.mem_cons_self)
    rw [rows_nil R he n hn] at hi
    simp at hi
theorem rd_empty (R : Nat → List Nat) (u : List Bool) (he : nx R 17 = 0) : Cn.rd (ks R) u = (0, 0, 2) := by unfold Cn.rd; rw [if_pos (ks_nil R he)]
theorem rd_some (R : Nat → List Nat) (h : Good R) (u : List Bool) (he : 0 < nx R 17) : Cn.rd (ks R) u = Cn.rdAt (ks R) u (17 - 1) 1 := by
  have : ks R ≠ [] := by
    obtain ⟨m, i, h1, h2, h3, h4⟩ := exists_more R 0 0 (by omega) (by rw [h.r0]; simp [fst, nx]) (by simpa using he)
    intro e
    have := (mem_ks R _).2 ⟨m, i, h2, h3, rfl⟩
    rw [e] at this
    simp at this
  unfold Cn.rd
  rw [if_neg this]
/-- What is ahead of a code. -/
theorem ahead (R : Nat → List Nat) (n m i : Nat) (hnm : n < m) (hm : m < 17) (_hi : i < (R m).length) : fst R n + (R n).length ≤ (fst R m + i) / 2 ^ (m - n) := by
  rw [Nat.le_div_iff_mul_le (two_pos _)]
  have h1 := nx_val R n (by omega)
  rw [nx_succ] at h1
  have h2 := fst_val R m (by omega)
  have h3 := sumR_mono R (n + 1) m (by omega)
  have h4 := pow_split n m (by omega) (by omega)
  rw [h4, ← Nat.mul_assoc] at h1
  have h5 : (fst R n + (R n).length) * 2 ^ (m - n) * 2 ^ (16 - m) ≤ fst R m * 2 ^ (16 - m) := by omega
  have := Nat.le_of_mul_le_mul_right h5 (two_pos _)
  omega
theorem in_end (R : Nat → List Nat) (n m i : Nat) (hnm : n ≤ m) (hm : m < 17) (hi : i < (R m).length) : (fst R m + i) / 2 ^ (m - n) * 2 ^ (16 - n) < nx R 17 := by
  rw [end_val]
  have h1 := nx_val R m (by omega)
  rw [nx_succ] at h1
  have h3 := sumR_mono R (m + 1) 17 (by omega)
  have h4 := pow_split n m (by omega) (by omega)
  rw [h4, ← Nat.mul_assoc]
  have h6 := Nat.mul_le_mul_right (2 ^ (16 - m)) (Nat.div_mul_le_self (fst R m + i) (2 ^ (m - n)))
  have h8 : (fst R m + i) * 2 ^ (16 - m) < (fst R m + (R m).length) * 2 ^ (16 - m) := Nat.mul_lt_mul_of_pos_right (by omega) (two_pos _)
  omega
/-- A code that is written is read. -/
theorem rd_code (R : Nat → List Nat) (h : Good R) (m i : Nat) (hm : m < 17) (hi : i < (R m).length) (u : List Bool) (hu : u.take m = (it R m i).bits) (hul : m ≤ u.length) : Cn.rd (ks R) u = ((((R m).getD i 0 : Nat) : Int), m, 0) := by
  have hm0 : 1 ≤ m := by
    rcases Nat.eq_zero_or_pos m with rfl | hp
    · rw [h.r0] at hi; simp at hi
    · exact hp
  have hlt := it_lt R h m i (by omega) hi
  have hnum : ∀ n, n ≤ m → Bt.numH (u.take n) = (fst R m + i) / 2 ^ (m - n) := by
    intro n hn
    have e : u.take n = (u.take m).take n := by rw [List.take_take, Nat.min_eq_left hn]
    rw [e, hu]
    show Bt.numH ((Bt.dg true (fst R m + i) m).take n) = _
    rw [dg_take _ _ _ hn, numH_dg]
    rw [Nat.div_lt_iff_lt_mul (two_pos _), ← Nat.pow_add, show n + (m - n) = m by omega]
    exact hlt
  have he : 0 < nx R 17 := by have := in_end R m m i (Nat.le_refl _) hm hi; omega
  rw [rd_some R h u he]
  have step : ∀ n, 1 ≤ n → n ≤ m → Cn.rdAt (ks R) u (17 - 1) 1 = Cn.rdAt (ks R) u (17 - n) n := by
    intro n
    induction n with
    | zero => intro h0; omega
    | succ n ih =>
      intro _ hn
      by_cases h0 : n = 0
      · subst h0; rfl
      · rw [ih (by omega) (by omega)]
        have e := hnum n (by omega)
        exact (rdAt_more R h u n (by omega) (by omega) (by rw [e]; exact ahead R n m i (by omega) hm hi) (by rw [e]; exact in_end R n m i (by omega) hm hi)).2
  rw [step m hm0 (Nat.le_refl _)]
  exact rdAt_hit R h u m i (by omega) hi hul (by rw [hnum m (Nat.le_refl _)]; simp)
/-- The code of a symbol that a list of codes gives: the last one; none: of no bits. -/
def look (xs : List It) (s : Nat) : Nat × Nat := xs.foldl (fun a x => if x.s = s then (x.c, x.n) else a) (0, 0)
theorem look_snoc (xs : List It) (x : It) (s : Nat) : look (xs ++ [x]) s = if x.s = s then (x.c, x.n) else look xs s := by simp [look]
theorem look_mem (xs : List It) (s : Nat) : (look xs s = (0, 0) ∧ ∀ x ∈ xs, x.s ≠ s) ∨ ∃ x ∈ xs, x.s = s ∧ look xs s = (x.c, x.n) := by
  suffices ∀ r : List It, (look r.reverse s = (0, 0) ∧ ∀ x ∈ r.reverse, x.s ≠ s) ∨ ∃ x ∈ r.reverse, x.s = s ∧ look r.reverse s = (x.c, x.n) by simpa using this xs.reverse
  intro r
  induction r with
  | nil => exact .inl ⟨rfl, fun x hx => by simp at hx⟩
  | cons y r ih =>
    rw [List.reverse_cons, look_snoc]
    by_cases hy : y.s = s
    · rw [if_pos hy]; exact .inr ⟨y, by simp, hy, rfl⟩
    · rw [if_neg hy]
      rcases ih with ⟨h1, h2⟩ | ⟨x, hx, h1, h2⟩
      · refine .inl ⟨h1, fun x hx => ?_⟩
        rcases List.mem_append.1 hx with hx | hx
        · exact h2 x hx
        · simp only [List.mem_singleton] at hx; subst hx; exact hy
      · exact .inr ⟨x, List.mem_append_left _ hx, h1, h2⟩
end Bk
end Go.Proofs.YtpoilaappcjbeaaGreatDoor
end

section
namespace Go.Proofs.YtpoilaappcjbeaaGreatDoor
open Go.RowKit

namespace Bk
/-- A book that lies below S. -/
def Book (w : World) (S g : Nat) (R : Nat → List Nat) (ws : List (Nat × Nat)) : Prop :=
  ∃ (w0 : World) (B : Nat) (fs : Nat → Int) (vs : Nat → Value) (wv : Value), (∀ n, n < 17 → fs n = (fst R n : Nat)) ∧ NB w0 B g fs vs wv (nx R 17 : Nat) R ws ∧ S = w0.heap.size ∧ Below S w0 w
theorem Book.of {w : World} {B g : Nat} {fs : Nat → Int} {vs : Nat → Value} {wv : Value} {R : Nat → List Nat} {ws : List (Nat × Nat)} (h : NB w B g fs vs wv (nx R 17 : Nat) R ws) (hf : ∀ n, n < 17 → fs n = (fst R n : Nat)) : Book w w.heap.size g R ws :=
  ⟨w, B, fs, vs, wv, hf, h, rfl, Below.refl _ _⟩
theorem Book.below {w w' : World} {S g : Nat} {R : Nat → List Nat} {ws : List (Nat × Nat)} (h : Book w S g R ws) (hb : Below S w w') : Book w' S g R ws := by
  obtain ⟨w0, B, fs, vs, wv, h1, h2, h3, h4⟩ := h
  exact ⟨w0, B, fs, vs, wv, h1, h2, h3, h4.trans hb⟩
theorem Book.size {w : World} {S g : Nat} {R : Nat → List Nat} {ws : List (Nat × Nat)} (h : Book w S g R ws) : S ≤ w.heap.size := by
  obtain ⟨w0, B, fs, vs, wv, h1, h2, h3, h4⟩ := h
  rw [h3]; exact h4.size
theorem Book.mono {w w' : World} {S g : Nat} {R : Nat → List Nat} {ws : List (Nat × Nat)} (h : Book w S g R ws) (hb : Below w.heap.size w w') : Book w' S g R ws := h.below (hb.mono h.size)
theorem Book.nb {w : World} {S g : Nat} {R : Nat → List Nat} {ws : List (Nat × Nat)} (h : Book w S g R ws) : ∃ (B : Nat) (fs : Nat → Int) (vs : Nat → Value) (wv : Value), (∀ n, n < 17 → fs n = (fst R n : Nat)) ∧ NB w B g fs vs wv (nx R 17 : Nat) R ws := by
  obtain ⟨w0, B, fs, vs, wv, h1, h2, h3, h4⟩ := h
  exact ⟨B, fs, vs, wv, h1, h2.mono (by rw [← h3]; exact h4)⟩
end Bk
end Go.Proofs.YtpoilaappcjbeaaGreatDoor
end

section
namespace Go.Proofs.YtpoilaappcjbeaaGreatDoor
open Go.RowKit
namespace Bk
/-- The code and the length of whatever number. -/
def wAt (ws : List (Nat × Nat)) (s : Int) : Nat × Nat := if 0 ≤ s then ws.getD s.toNat (0, 0) else (0, 0)
theorem wvs_get (ws : List (Nat × Nat)) (i : Nat) (h : i < ws.length) : (wvs ws)[i * 2]? = some (.int .i64 ((ws.getD i (0, 0)).1 : Nat)) ∧ (wvs ws)[i * 2 + 1]? = some (.int .i64 ((ws.getD i (0, 0)).2 : Nat)) := by
  induction ws generalizing i with
  | nil => simp at h
  | cons p ws ih =>
    have e : wvs (p :: ws) = .int .i64 (p.1 : Nat) :: .int .i64 (p.2 : Nat) :: wvs ws := rfl
    cases i with
    | zero => rw [e]; exact ⟨rfl, rfl⟩
    | succ i =>
      rw [e, show (i + 1) * 2 = i * 2 + 2 by omega]
      have := ih i (by simpa using h)
      simpa [List.getD] using this
/-- What comes back of a cell of two numbers. -/
theorem res_word (fn : Func) (hf : fn.results = #[.cell 4 154]) (tmps : Array Value) (w : World) (g : Nat) (c n : Int) (fr : Nat × Nat) (hp : tmps.getD 4 undef = .pointer (some ⟨g, 0, none⟩)) (hg : w.heap[g]? = some (.cells #[.int .i64 c, .int .i64 n] 154 fr)) :
    (results fn tmps).run Tryz.prog w = .ok (.agg #[.int .i64 c, .int .i64 n]) w :=
  results_cell_row hf tmps w g _ _ fr _ hp hg Tryz.underlying154 rfl (by kernel_rfl)
theorem word_nil (w : World) (s : Int) : Calls Tryz.prog 108 #[.pointer none, .int .i64 s] w fun e w' => e = .returned (.agg #[.int .i64 0, .int .i64 0]) ∧ Below w.heap.size w w' := by
  go_enter Tryz.func108, Tryz.ntmps108
  go_wp2
  exact bodyPost_ret (res_word _ rfl _ _ _ 0 0 _ rfl (heap_alloc_last w _)) rfl ⟨rfl, below_alloc w _⟩
theorem word_any (w : World) (S g : Nat) (R : Nat → List Nat) (ws : List (Nat × Nat)) (h : Book w S g R ws) (hl : ws.length ≤ 1000000000) (s : Int) :
    Calls Tryz.prog 108 #[.pointer (some ⟨g, 0, none⟩), .int .i64 s] w fun e w' => e = .returned (.agg #[.int .i64 ((wAt ws s).1 : Nat), .int .i64 ((wAt ws s).2 : Nat)]) ∧ Below w.heap.size w w' := by
  obtain ⟨B, fs, vs, wv, hf, hn⟩ := h.nb
  have hcw := hn.cW
  obtain ⟨wa, wc, hwv⟩ : ∃ wa wc, wv = .slice wa ws.length wc := by
    rcases own_nil_or hn.words with ⟨h1, h2⟩ | ⟨wb, wc, h1, _⟩
    · exact ⟨none, 0, by rw [h1, h2]⟩
    · exact ⟨_, wc, h1⟩
  subst hwv
  by_cases hneg : s < 0
  · have d1 : decide (s < 0) = true := by simpa using hneg
    have e : wAt ws s = (0, 0) := by unfold wAt; rw [if_neg (by omega)]
    rw [e]
    clear hneg e hn h
    go_enter Tryz.func108, Tryz.ntmps108
    go_wp2
    exact bodyPost_ret (res_word _ rfl _ _ _ 0 0 _ rfl (heap_alloc_last w _)) rfl ⟨rfl, below_alloc w _⟩
  · obtain ⟨i, rfl⟩ := Int.eq_ofNat_of_zero_le (show 0 ≤ s by omega)
    have d0 : decide ((i : Int) < 0) = false := by simp
    have hcw2 : (w.alloc (.cells #[.int .i64 0, .int .i64 0] 154)).cell? ⟨g, 34, none⟩ = some (.slice wa ws.length wc) := by rw [(below_alloc w _).cell (p := ⟨g, 34, none⟩) hn.lt]; exact hcw
    by_cases hi : ws.length ≤ i
    · have d1 : decide (ws.length ≤ i) = true := by simpa using hi
      have e : wAt ws (i : Int) = (0, 0) := by
        unfold wAt
        rw [if_pos (by omega), Int.toNat_natCast, List.getD, List.getElem?_eq_none hi]; rfl
      rw [e]
      clear hneg e hn h hi
      go_enter Tryz.func108, Tryz.ntmps108
      go_wp2
      exact bodyPost_ret (res_word _ rfl _ _ _ 0 0 _ rfl (heap_alloc_last w _)) rfl ⟨rfl, below_alloc w _⟩
    · have d1 : decide (ws.length ≤ i) = false := by simpa using hi
      have e : wAt ws (i : Int) = ws.getD i (0, 0) := by unfold wAt; rw [if_pos (by omega), Int.toNat_natCast]
      rw [e]
      obtain ⟨wb, rfl⟩ : ∃ wb, wa = some ⟨wb, 0, none⟩ := by
        rcases own_nil_or hn.words with ⟨_, h2⟩ | ⟨wb, wc', h1, _⟩
        · omega
        · simp only [Value.slice.injEq] at h1; exact ⟨wb, h1.1⟩
      obtain ⟨g1, g2⟩ := wvs_get ws i (by omega)
      have hwc := hn.words.cells rfl
      have e0 : w.cell? ⟨wb, i * 2, none⟩ = some (.int .i64 ((ws.getD i (0, 0)).1 : Nat)) := by have := hwc _ _ g1; rwa [Addr.add_mid, Nat.zero_add] at this
      have e1 : w.cell? ⟨wb, i * 2 + 1, none⟩ = some (.int .i64 ((ws.getD i (0, 0)).2 : Nat)) := by have := hwc _ _ g2; rwa [Addr.add_mid, Nat.zero_add] at this
      have hlt := (hn.words.lt wb rfl).2
      have b0 : (w.alloc (.cells #[.int .i64 0, .int .i64 0] 154)).cell? ⟨wb, i * 2, none⟩ = some (.int .i64 ((ws.getD i (0, 0)).1 : Nat)) := by rw [(below_alloc w _).cell (p := ⟨wb, i * 2, none⟩) hlt]; exact e0
      have b1 : (w.alloc (.cells #[.int .i64 0, .int .i64 0] 154)).cell? ⟨wb, i * 2 + 1, none⟩ = some (.int .i64 ((ws.getD i (0, 0)).2 : Nat)) := by rw [(below_alloc w _).cell (p := ⟨wb, i * 2 + 1, none⟩) hlt]; exact e1
      clear hneg e hn h hwc g1 g2 hlt
      generalize (ws.getD i (0, 0)).1 = c at *
      generalize (ws.getD i (0, 0)).2 = n at *
      go_enter Tryz.func108, Tryz.ntmps108
      go_wp2
      exact bodyPost_ret (res_word _ rfl _ _ _ c n _ rfl (heap_alloc_last w _)) rfl ⟨rfl, below_alloc w _⟩
end Bk
end Go.Proofs.YtpoilaappcjbeaaGreatDoor
end

section
namespace Go.Proofs.YtpoilaappcjbeaaGreatDoor
open Go.RowKit

namespace Bk
def rowsL (l : List Int) : Nat → List Nat := rowsOf l (List.range l.length)
theorem rowsL_succ (l : List Int) (n : Nat) : rowsL l (n + 1) = Cn.row l n l.length := by
  unfold rowsL rowsOf Cn.row
  rw [if_neg (by omega)]
theorem rowsL_zero (l : List Int) : rowsL l 0 = [] := rfl
theorem range_flat {α : Type} (f : Nat → List α) (h : f 0 = []) (m : Nat) : (List.range (m + 1)).flatMap f = (List.range m).flatMap fun n => f (n + 1) := by
  rw [List.range_succ_eq_map, List.flatMap_cons, h, List.nil_append, List.flatMap_map]
theorem sizR_of (l : List Int) : sizR (rowsL l) 17 = Cn.sizes l := by
  unfold sizR Cn.sizes Cn.sizN
  rw [range_flat _ (by rw [rowsL_zero]; rfl)]
  congr 1
  funext n
  rw [rowsL_succ, List.map_const']
theorem good_of (l : List Int) (h : Cn.freeB l = true) : Good (rowsL l) := by
  refine ⟨rfl, ?_⟩
  have h1 := (tog_seq (rowsL l) rfl 17 (Nat.le_refl _)).2
  rw [sizR_of] at h1
  simp only [Cn.freeB, Bool.and_eq_true, decide_eq_true_eq] at h
  rw [← h1, Cn.sum_sizes l h.1]
  exact h.2
theorem syms_of (l : List Int) : Cn.syms l = (seq (rowsL l) 17).map fun x => (x.s : Int) := by
  unfold Cn.syms Cn.symN seq
  have e := range_flat (fun n => (rowS (rowsL l) n (rowsL l n).length).map fun (x : It) => (x.s : Int)) (by rw [rowsL_zero]; rfl) 16
  rw [List.map_flatMap, e]
  congr 1
  funext n
  rw [rowsL_succ]
  unfold rowS it
  rw [List.map_map]
  apply List.ext_getElem
  · simp
  · intro i h1 h2
    simp only [List.getElem_map, List.getElem_range, Function.comp, rowsL_succ]
    rw [List.length_map] at h1
    simp [List.getD, List.getElem?_eq_getElem h1]
theorem codes_of (l : List Int) (h : Cn.freeB l = true) : Cn.codes (Cn.sizes l) = (seq (rowsL l) 17).map It.bits := by rw [← sizR_of]; exact codes_seq _ (good_of l h)
theorem seq_len (l : List Int) (x : It) (hx : x ∈ seq (rowsL l) 17) : x.s < l.length ∧ l.getD x.s 0 = (x.n : Int) ∧ 0 < x.n := by
  obtain ⟨m, i, _, hi, rfl⟩ := (mem_seq _ _ _).1 hx
  have : (rowsL l m).getD i 0 ∈ rowsL l m := by simp [List.getD, List.getElem?_eq_getElem hi]
  obtain ⟨h1, h2, h3⟩ := rowsOf_mem l _ m _ this
  exact ⟨List.mem_range.1 h1, h2, h3⟩
theorem seq_has (l : List Int) (s : Nat) (hs : s < l.length) (h : 0 < l.getD s 0 ∧ l.getD s 0 ≤ 16) : ∃ x ∈ seq (rowsL l) 17, x.s = s := by
  obtain ⟨n, hn⟩ := Int.eq_ofNat_of_zero_le (show 0 ≤ l.getD s 0 by omega)
  have hm : s ∈ rowsL l n := by
    unfold rowsL rowsOf
    rw [if_neg (by omega), List.mem_filter]
    exact ⟨List.mem_range.2 hs, by rw [hn]; simp⟩
  obtain ⟨i, hi, e⟩ := List.getElem_of_mem hm
  exact ⟨it (rowsL l) n i, (mem_seq _ _ _).2 ⟨n, i, by omega, hi, rfl⟩, by simp [it, List.getD, List.getElem?_eq_getElem hi, e]⟩
theorem look_none (l : List Int) (s : Nat) (h : l.getD s 0 = 0 ∨ l.length ≤ s) : look (seq (rowsL l) 17) s = (0, 0) := by
  rcases look_mem (seq (rowsL l) 17) s with ⟨h1, _⟩ | ⟨x, hx, h1, _⟩
  · exact h1
  · obtain ⟨h2, h3, h4⟩ := seq_len l x hx
    rw [h1] at h2 h3
    rcases h with h | h <;> omega
theorem look_some (l : List Int) (s : Nat) (hs : s < l.length) (h : 0 < l.getD s 0 ∧ l.getD s 0 ≤ 16) : ∃ m i, m < 17 ∧ i < (rowsL l m).length ∧ (rowsL l m).getD i 0 = s ∧ l.getD s 0 = (m : Int) ∧ look (seq (rowsL l) 17) s = (fst (rowsL l) m + i, m) := by
  rcases look_mem (seq (rowsL l) 17) s with ⟨_, h2⟩ | ⟨x, hx, h1, h2⟩
  · obtain ⟨x, hx, h3⟩ := seq_has l s hs h
    exact absurd h3 (h2 x hx)
  · obtain ⟨_, h4, _⟩ := seq_len l x hx
    obtain ⟨m, i, hm, hi, rfl⟩ := (mem_seq _ _ _).1 hx
    refine ⟨m, i, hm, hi, h1, ?_, h2⟩
    rw [← h1]; exact h4
end Bk
end Go.Proofs.YtpoilaappcjbeaaGreatDoor
end

section
namespace Go.Proofs.YtpoilaappcjbeaaGreatDoor
open Go.RowKit Go.Shelf
attribute [local go_sem] Oper.semAt_some
namespace Bk
/-- A code that is handed over. -/
structure Em (R : Nat → List Nat) where
  x : It
  mem : x ∈ seq R 17
def Em.encs {R : Nat → List Nat} (x : Em R) : Array Value := #[.int .i64 (x.x.s : Nat), .agg #[.int .i64 (x.x.c : Nat), .int .i64 (x.x.n : Nat)]]
set_option maxRecDepth 100000 in
set_option maxHeartbeats 2000000 in
theorem inOrder1_in (F : Fence) (n : Nat) (h7 : F.fn 130) (hro : F.round = none) (hn : 1 ≤ n) (y X g B : Nat) (U : Nat → Prop) (fs : Nat → Int) (vs : Nat → Value) (wv : Value) (ev : Int) (R : Nat → List Nat)
    (hfs : ∀ n, n < 17 → fs n = (fst R n : Nat)) (hsm : ∀ n, n < 17 → fst R n + (R n).length ≤ 1000000) (hT : ∀ k, Tr vs k → ¬ U k)
    (J Jx : List (Em R) → World → Prop)
    (hY : ∀ pre x W, J pre W → pre.length < (seq R 17).length → YieldAt F (n - 1) Tryz.prog y x.encs W fun e W' =>
      (e = .returned (.bool true) ∧ J (pre ++ [x]) W' ∧ Kc U W W') ∨ (e = .returned (.bool false) ∧ Jx (pre ++ [x]) W'))
    (W : World) (hx : W.cell? ⟨X, 0, none⟩ = some (.pointer (some ⟨g, 0, none⟩))) (hg : W.heap[g]? = some (.cells (bkCells fs vs wv ev) 170 (0, 0))) (hrows : Rows W B vs R) (h0 : J [] W)
    (hU : ∀ k, U k → k < W.heap.size) (hJn : ∀ xs A B, J xs A → A.grownBy B none → J xs B) :
    CallsIn F n Tryz.prog 130 #[.func (.yield y) #[] #[], .pointer (some ⟨X, 0, none⟩)] W fun e W' => (∃ v, e = .returned v) ∧
      ((∃ ys, ys.map Em.x = seq R 17 ∧ J ys W') ∨ (∃ pre, (∃ t, seq R 17 = pre.map Em.x ++ t) ∧ Jx pre W')) := by
  refine callsIn_of_wp Tryz.func130 rfl h7 ?_ hro
  simp only [Tryz.ntmps130, List.size_toArray, List.length_cons, List.length_nil, Nat.reduceAdd, Nat.reduceSub, Array.replicate_succ, Array.replicate_zero, List.push_toArray, List.append_toArray, List.nil_append, List.cons_append]
  have HG := Lib.hid (load_sqs W g fs vs wv ev hg)
  gi_wp2_with (refine wplIn_load rfl 167 _ rfl ⟨g, 0, none⟩ rfl _ HG.out ?_)
  clear HG hg hx
  have H0 := Lib.hid hrows
  have HFS := Lib.hid hfs
  have HSM := Lib.hid hsm
  have HT := Lib.hid hT
  have HU := Lib.hid hU
  have HJ := Lib.hid hJn
  have HY := Lib.hid hY
  have hb0 := Below.refl W.heap.size W
  clear hrows hfs hsm hT hU hJn hY
  gi_loopw [13] (fun i wr => ∃ (m : Nat) (ys : List (Em R)), m ≤ 17 ∧ i = .int .i64 m ∧ W.heap.size ≤ wr.heap.size ∧ Hid (ys.map Em.x = seq R m) ∧ Hid (J ys wr) ∧ Hid (Rows wr B vs R))
    (fun i _ => 17 - (intOf i).toNat)
  case atStart => exact ⟨0, [], by omega, rfl, Nat.le_refl _, Lib.hid rfl, Lib.hid h0, H0⟩
  case round =>
    obtain ⟨m, ys, hm, rfl, hz, HM, HJs, HR⟩ := hrel
    by_cases hlt : m < 17
    · have hix := fun w => idx_sqs w fs vs m hlt
      have hown := HR.out m hlt
      rw [HFS.out m hlt] at hix
      obtain ⟨ra, rc, hv, hat⟩ : ∃ ra rc, vs m = .slice ra (R m).length rc ∧ ∀ i, i < (R m).length → ∃ rb, ra = some ⟨rb, 0, none⟩ := by
        rcases own_nil_or hown with ⟨h1, h2⟩ | ⟨rb, rc, h1, _⟩
        · exact ⟨none, 0, by rw [h1, h2], fun i hi => by omega⟩
        · exact ⟨_, rc, h1, fun i _ => ⟨rb, rfl⟩⟩
      rw [hv] at hix
      have hle := HSM.out m hlt
      have HV := Lib.hid hv
      have HAT := Lib.hid hat
      clear hown hv hat
      gi_wp2
      have hgr : wr.grownBy (wr.alloc (.cells #[.int .i64 (fst R m : Nat), .slice ra (R m).length rc] 166)) none := World.grownBy_alloc wr _ none
      have HB2 := Lib.hid (World.alloc_heap_new wr (.cells #[.int .i64 (fst R m : Nat), .slice ra (R m).length rc] 166))
      have HJ2 := Lib.hid (HJ.out ys _ _ HJs.out hgr)
      have HR2 := Lib.hid (HR.out.mono (below_alloc wr (.cells #[.int .i64 (fst R m : Nat), .slice ra (R m).length rc] 166)))
      have hz2 : W.heap.size ≤ (wr.alloc (.cells #[.int .i64 (fst R m : Nat), .slice ra (R m).length rc] 166)).heap.size := by simp; omega
      have HNU := Lib.hid (show ¬ U wr.heap.size from fun h => by have := HU.out _ h; omega)
      clear hgr hix HJs HR
      revert HB2 HJ2 HR2 hz2
      generalize wr.alloc (.cells #[.int .i64 (fst R m : Nat), .slice ra (R m).length rc] 166) = wr2
      intro HB2 HJ2 HR2 hz2
      generalize wr.heap.size = sx at *
      generalize Value.bool (decide ((m : Int) < 17)) = tb
      gi_loopw [20] (fun i wx => ∃ (j : Nat) (ys : List (Em R)), j ≤ (R m).length ∧ i = .int .i64 j ∧ W.heap.size ≤ wx.heap.size ∧ Hid (ys.map Em.x = seq R m ++ rowS R m j) ∧ Hid (J ys wx) ∧ Hid (Rows wx B vs R) ∧ Hid (wx.heap[sx]? = some (.cells #[.int .i64 (fst R m : Nat), .slice ra (R m).length rc] 166)))
        (fun i _ => (R m).length - (intOf i).toNat)
      case atStart => exact ⟨0, ys, by omega, rfl, hz2, Lib.hid (by rw [HM.out]; simp [rowS]), HJ2, HR2, HB2⟩
      case round =>
        obtain ⟨j, zs, hj, rfl, hzx, HMx, HJx, HRx, HBx⟩ := hrel
        by_cases hjl : j < (R m).length
        · obtain ⟨rb, rfl⟩ := HAT.out j hjl
          have hcell : wr.cell? ⟨rb, j, none⟩ = some (.int .i64 ((R m).getD j 0 : Nat)) := by
            have h1 := HRx.out m hlt
            rw [HV.out] at h1
            rw [h1.cellAt j (by omega), ivs_get _ _ (by rw [sy_length]; exact hjl), sy_getD]
          have hc0 : wr.cell? ⟨sx, 0, none⟩ = some (.int .i64 (fst R m : Nat)) := by rw [cell_of_row _ _ _ _ _ (0, 0) HBx.out]; rfl
          have hmem : it R m j ∈ seq R 17 := (mem_seq R 17 _).2 ⟨m, j, hlt, hjl, rfl⟩
          have hlen : zs.length < (seq R 17).length := by
            obtain ⟨t, ht⟩ := seq_mono R (m + 1) 17 (by omega)
            have h1 : zs.length = (seq R m ++ rowS R m j).length := by rw [← HMx.out, List.length_map]
            rw [ht, seq_succ, h1]
            simp only [List.length_append, rowS_length]
            omega
          obtain ⟨fn, tmps, assign, body, hy, hRd⟩ := HY.out zs ⟨it R m j, hmem⟩ wr HJx.out hlen
          have hMn : Hid ((zs ++ [(⟨it R m j, hmem⟩ : Em R)]).map Em.x = seq R m ++ rowS R m (j + 1)) := Lib.hid (by rw [List.map_append, HMx.out, rowS_succ, List.append_assoc]; rfl)
          have henc : (⟨it R m j, hmem⟩ : Em R).encs = #[.int .i64 ((R m).getD j 0 : Nat), .agg #[.int .i64 ((fst R m : Nat) + (j : Nat)), .int .i64 (m : Nat)]] := by
            show #[Value.int .i64 ((R m).getD j 0 : Nat), .agg #[.int .i64 ((fst R m + j : Nat) : Int), .int .i64 (m : Nat)]] = _
            rw [Int.natCast_add]
          rw [henc] at hy
          clear henc hlen
          generalize (⟨it R m j, hmem⟩ : Em R) = x at *
          clear hmem
          generalize (R m).getD j 0 = s at *
          gi_wp2
          refine hRd.mono ?_
          rintro e W3 (⟨rfl, hJ3, hk3⟩ | ⟨rfl, hJx3⟩)
          · have hz3 : W.heap.size ≤ W3.heap.size := by
              have := (Array.getElem?_eq_some_iff.1 (hk3 sx _ HBx.out rfl HNU.out)).1
              omega
            have HJ3 := Lib.hid hJ3
            have HR3 := Lib.hid (HRx.out.kept hk3 HT.out)
            have HB3 := Lib.hid (hk3 sx _ HBx.out rfl HNU.out)
            clear hJ3 hk3 hRd hy hc0 hcell
            gi_wp2
            go_roundw
            case rel => exact ⟨j + 1, zs ++ [x], by omega, by go_num, hz3, hMn, HJ3, HR3, HB3⟩
            case measure => simp [intOf]; omega
          · have HX3 := Lib.hid hJx3
            have HP : Hid (∃ t, seq R 17 = (zs ++ [x]).map Em.x ++ t) := Lib.hid (by
              obtain ⟨t, ht⟩ := seq_mono R (m + 1) 17 (by omega)
              refine ⟨((List.range ((R m).length - (j + 1))).map fun i => it R m (j + 1 + i)) ++ t, ?_⟩
              rw [hMn.out, ht, seq_succ]
              simp only [List.append_assoc]
              congr 1
              rw [← List.append_assoc]
              congr 1
              unfold rowS
              conv => lhs; rw [show (R m).length = (j + 1) + ((R m).length - (j + 1)) by omega, List.range_add, List.map_append, List.map_map]
              rfl)
            clear hJx3 hRd hy hc0 hcell
            gi_wp2
            refine bodyPost_ret (results_none rfl _ _ _) rfl ?_
            exact ⟨⟨_, rfl⟩, .inr ⟨_, HP.out, HX3.out⟩⟩
        · obtain rfl : (R m).length = j := by omega
          gi_wp2
          go_roundw
          case rel => exact ⟨m + 1, zs, by omega, by go_num, hzx, Lib.hid (by rw [HMx.out, seq_succ]), HJx, HRx⟩
          case measure => simp [intOf]; omega
    · obtain rfl : m = 17 := by omega
      gi_wp2
      go_end0
      exact ⟨⟨_, rfl⟩, .inl ⟨ys, HM.out, HJs.out⟩⟩
theorem inOrder_stops (F : Fence) (n : Nat) (h7 : F.fn 130) (hro : F.round = none) (hn : 1 ≤ n) (X g B : Nat) (U : Nat → Prop) (fs : Nat → Int) (vs : Nat → Value) (wv : Value) (ev : Int) (R : Nat → List Nat)
    (hfs : ∀ n, n < 17 → fs n = (fst R n : Nat)) (hsm : ∀ n, n < 17 → fst R n + (R n).length ≤ 1000000) (hT : ∀ k, Tr vs k → ¬ U k)
    (w : World) (hx : w.cell? ⟨X, 0, none⟩ = some (.pointer (some ⟨g, 0, none⟩))) (hXl : X < w.heap.size) (hg : w.heap[g]? = some (.cells (bkCells fs vs wv ev) 170 (0, 0))) (hrows : Rows w B vs R) (hU : ∀ k, U k → k < w.heap.size) :
    SeqStopsK F n Tryz.prog 130 #[.pointer (some ⟨X, 0, none⟩)] (Em.encs (R := R)) (Kc U) (fun ys => ys.map Em.x = seq R 17) (fun pre => ∃ t, seq R 17 = pre.map Em.x ++ t) (seq R 17).length w := fun y J Jx W hW hJ _ hY h0 => by
  refine inOrder1_in F n h7 hro hn y X g B U fs vs wv ev R hfs hsm hT J Jx hY W ?_ ?_ (hrows.mono hW) h0 (fun k hk => Nat.lt_of_lt_of_le (hU k hk) hW.size) (fun xs A C h g' => hJ xs A C none h g' (fun r e => by cases e))
  · exact (hW.cell (p := ⟨X, 0, none⟩) hXl).trans hx
  · exact (hW.block g (Array.getElem?_eq_some_iff.1 hg).1).trans hg
set_option maxRecDepth 100000 in
theorem inOrder1_nil (F : Fence) (n : Nat) (h7 : F.fn 130) (hro : F.round = none) (y X : Nat) (J : Prop) (W : World) (hx : W.cell? ⟨X, 0, none⟩ = some (.pointer none)) (h0 : J) :
    CallsIn F n Tryz.prog 130 #[.func (.yield y) #[] #[], .pointer (some ⟨X, 0, none⟩)] W fun e W' => (∃ v, e = .returned v) ∧ J ∧ W = W' := by
  have H0 := Lib.hid h0
  clear h0
  refine callsIn_of_wp Tryz.func130 rfl h7 ?_ hro
  simp only [Tryz.ntmps130, List.size_toArray, List.length_cons, List.length_nil, Nat.reduceAdd, Nat.reduceSub, Array.replicate_succ, Array.replicate_zero, List.push_toArray, List.append_toArray, List.nil_append, List.cons_append]
  gi_wp2
  refine bodyPost_ret (results_none rfl _ _ _) rfl ?_
  exact ⟨⟨_, rfl⟩, H0.out, rfl⟩
def noRows : Nat → List Nat := fun _ => []
theorem inOrder_stops_nil (F : Fence) (n : Nat) (h7 : F.fn 130) (hro : F.round = none) (X : Nat) (U : Nat → Prop) (w : World) (hx : w.cell? ⟨X, 0, none⟩ = some (.pointer none)) (hXl : X < w.heap.size) :
    SeqStopsK F n Tryz.prog 130 #[.pointer (some ⟨X, 0, none⟩)] (Em.encs (R := noRows)) (Kc U) (fun ys => ys = []) (fun _ => True) 0 w := fun y J Jx W hW hJ _ hY h0 => by
  refine (inOrder1_nil F n h7 hro y X (J [] W) W ((hW.cell (p := ⟨X, 0, none⟩) hXl).trans hx) h0).mono ?_
  rintro e W' ⟨he, hj, rfl⟩
  exact ⟨he, .inl ⟨[], rfl, hj⟩⟩
theorem inOrder_in (F : Fence) (n : Nat) (h5 : F.fn 125) (hro : F.round = none) (p : Value) (w : World) (hp : p = .pointer none ∨ ∃ g, p = .pointer (some ⟨g, 0, none⟩)) :
    CallsIn F n Tryz.prog 125 #[p] w fun e w' => e = .returned (.func (.func 130) #[] #[.pointer (some ⟨w.heap.size, 0, none⟩)]) ∧ w' = w.alloc (.cells #[p] 81) := by
  refine callsIn_of_wp Tryz.func125 rfl h5 ?_ hro
  simp only [Tryz.ntmps125, List.size_toArray, List.length_cons, List.length_nil, Nat.reduceAdd, Nat.reduceSub, Array.replicate_succ, Array.replicate_zero, List.push_toArray, List.append_toArray, List.nil_append, List.cons_append]
  rcases hp with rfl | ⟨g, rfl⟩
  · gi_wp2
    go_ret
    exact ⟨rfl, rfl⟩
  · gi_wp2
    go_ret
    exact ⟨rfl, rfl⟩
end Bk
end Go.Proofs.YtpoilaappcjbeaaGreatDoor
end

section
namespace Go.Proofs.YtpoilaappcjbeaaGreatDoor
open Go.RowKit

def mkD (D : Nat) : Deferred := { target := .collected D, args := #[] }
/-- The marks' blocks. -/
def Marks (B : Nat) (Ds : List Nat) (W : World) : Prop := Ds.Nodup ∧ ∀ D ∈ Ds, B ≤ D ∧ W.heap[D]? = some (.deferred (some []))
theorem Marks.lt {B : Nat} {Ds : List Nat} {W : World} (h : Marks B Ds W) : ∀ D ∈ Ds, D < W.heap.size := fun D hD => (Array.getElem?_eq_some_iff.1 (h.2 D hD).2).1
theorem Marks.cons {B D : Nat} {Ds : List Nat} {W W' : World} (h : Marks B Ds W) (hb : ∀ k ∈ Ds, W'.heap[k]? = W.heap[k]?) (hD : W.heap.size ≤ D) (hB : B ≤ D) (hd : W'.heap[D]? = some (.deferred (some []))) : Marks B (D :: Ds) W' := by
  refine ⟨List.nodup_cons.2 ⟨fun hm => by have := h.lt D hm; omega, h.1⟩, fun k hk => ?_⟩
  rcases List.mem_cons.1 hk with rfl | hk
  · exact ⟨hB, hd⟩
  · exact ⟨(h.2 k hk).1, (hb k hk).trans (h.2 k hk).2⟩
theorem leaves_marks {F : Fence} {n : Nat} {P : Program} {fn : Func} {tmps : Array Value} {R : Ending → World → Prop} {B : Nat} (Q : World → Prop)
    (hQ : ∀ W D, Q W → B ≤ D → W.heap[D]? = some (.deferred (some [])) → Q (W.putObj D (.deferred none)))
    (hR : ∀ W, Q W → ∃ v, (results fn tmps).run P W = .ok v W ∧ R (.returned v) W) :
    ∀ (Ds : List Nat) (W : World), Marks B Ds W → Q W → LeavesInM F n P fn tmps R (Ds.map mkD) .returning W
  | [], W, _, hq => hR W hq
  | D :: Ds, W, hm, hq => by
    have hD := hm.2 D (by simp)
    refine ⟨by simp, .inl ⟨D, _, rfl, run_takeDeferred hD.2, ?_⟩⟩
    refine leaves_marks Q hQ hR Ds _ ⟨(List.nodup_cons.1 hm.1).2, fun k hk => ⟨(hm.2 k (List.mem_cons_of_mem _ hk)).1, ?_⟩⟩ (hQ W D hq hD.1 hD.2)
    rw [World.putObj_heap_other (fun e => (List.nodup_cons.1 hm.1).1 (by rw [← e]; exact hk))]
    exact (hm.2 k (List.mem_cons_of_mem _ hk)).2
end Go.Proofs.YtpoilaappcjbeaaGreatDoor
end
