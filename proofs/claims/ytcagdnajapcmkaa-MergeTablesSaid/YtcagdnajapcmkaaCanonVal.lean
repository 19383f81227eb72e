/- The document's codes as numbers: where each begins among 65536. -/
import Derived.Test.YtcagdnajapcmkaaCanonMath
import Derived.Test.YtcagdnajapcmkaaBitsMath
namespace Go.Proofs.Ytcagdnajapcmkaa
open Go.RowKit

namespace Cn
theorem numH_pad (b : List Bool) (k : Nat) : Bt.numH (b ++ List.replicate k false) = Bt.numH b * 2 ^ k := by
  induction k with
  | zero => simp
  | succ k ih => rw [List.replicate_succ', ← List.append_assoc, Bt.numH_snoc, ih, Nat.pow_succ]; simp; rw [Nat.mul_comm, Nat.mul_assoc]
theorem numH_incR (r : List Bool) (h : Bt.numH r.reverse + 1 < 2 ^ r.length) : Bt.numH (incR r).reverse = Bt.numH r.reverse + 1 := by
  induction r with
  | nil => simp [Bt.numH] at h
  | cons x r ih =>
    rw [List.reverse_cons, Bt.numH_snoc, List.length_cons, Nat.pow_succ] at h
    cases x
    · have e : incR (false :: r) = true :: r := rfl
      rw [e, List.reverse_cons, List.reverse_cons, Bt.numH_snoc, Bt.numH_snoc]; simp
    · have e : incR (true :: r) = false :: incR r := rfl
      simp only [Bool.toNat_true] at h
      rw [e, List.reverse_cons, List.reverse_cons, Bt.numH_snoc, Bt.numH_snoc, ih (by omega)]; simp; omega
theorem numH_plus (b : List Bool) (h : Bt.numH b + 1 < 2 ^ b.length) : Bt.numH (plus b) = Bt.numH b + 1 := by
  have := numH_incR b.reverse (by simpa using h)
  simpa [plus] using this
theorem fold_pre (m : List Int) : ∀ acc : List (List Bool), ∃ t, m.foldl (fun acc n => acc ++ [nxt acc n]) acc = acc ++ t := by
  induction m with
  | nil => exact fun acc => ⟨[], by simp⟩
  | cons n m ih =>
    intro acc
    obtain ⟨t, ht⟩ := ih (acc ++ [nxt acc n])
    exact ⟨nxt acc n :: t, by rw [List.foldl_cons, ht, List.append_assoc]; rfl⟩
theorem codes_pre (l m : List Int) : ∃ t, codes (l ++ m) = codes l ++ t := by
  obtain ⟨t, ht⟩ := fold_pre m (codes l)
  exact ⟨t, by rw [← ht]; simp [codes]⟩
theorem codes_at (zs : List Int) (k : Nat) (hk : k < zs.length) : (codes zs).getD k [] = nxt (codes (zs.take k)) (zs.getD k 0) := by
  obtain ⟨t, ht⟩ := codes_pre (zs.take (k + 1)) (zs.drop (k + 1))
  rw [List.take_append_drop] at ht
  have hl : (codes (zs.take k)).length = k := by rw [codes_length, List.length_take]; omega
  rw [ht, codes_take zs k hk]
  simp [List.getD, hl]
theorem part_eq (n : Int) (h : 1 ≤ n ∧ n ≤ 16) : part n = 2 ^ (16 - n.toNat) := by
  unfold part
  rw [if_neg (by omega)]
  have e : (65536 : Nat) = 2 ^ (16 - n.toNat) * 2 ^ n.toNat := by rw [← Nat.pow_add, show 16 - n.toNat + n.toNat = 16 by omega]
  rw [e, Nat.mul_div_cancel _ (Nat.pow_pos (by omega))]
theorem sum_take_le (zs : List Int) (k : Nat) : sum (zs.take k) ≤ sum zs := by
  have : sum zs = sum (zs.take k) + sum (zs.drop k) := by
    unfold sum
    rw [← List.sum_append, ← List.map_append, List.take_append_drop]
  omega
theorem sum_take_succ (zs : List Int) (k : Nat) (hk : k < zs.length) : sum (zs.take (k + 1)) = sum (zs.take k) + part (zs.getD k 0) := by
  rw [List.take_succ_eq_append_getElem hk, sum_snoc]; simp [List.getD, List.getElem?_eq_getElem hk]
/-- A code's length is the one asked for, and its number, in 65536ths, is where the ones ahead of it end. -/
theorem codes_val (zs : List Int) (hz : ∀ i, i < zs.length → 1 ≤ zs.getD i 0 ∧ zs.getD i 0 ≤ 16) (hs : ∀ i, i + 1 < zs.length → zs.getD i 0 ≤ zs.getD (i + 1) 0) (hk : sum zs ≤ 65536) :
    ∀ i, i < zs.length → ((codes zs).getD i []).length = (zs.getD i 0).toNat ∧ Bt.numH ((codes zs).getD i []) * 2 ^ (16 - (zs.getD i 0).toNat) = sum (zs.take i) := by
  intro i
  induction i with
  | zero =>
    intro hi
    rw [codes_at zs 0 hi]
    have e : nxt (codes (zs.take 0)) (zs.getD 0 0) = [] ++ List.replicate (zs.getD 0 0).toNat false := by simp [codes, nxt, pad]
    rw [e]
    refine ⟨by simp, ?_⟩
    rw [numH_pad]; simp [Bt.numH, sum]
  | succ i ih =>
    intro hi
    obtain ⟨h1, h2⟩ := ih (by omega)
    have hb := hz i (by omega)
    have hc := hz (i + 1) hi
    have ho := hs i hi
    have hl : (codes (zs.take (i + 1))).length = i + 1 := by rw [codes_length, List.length_take]; omega
    have hp : (codes (zs.take (i + 1))).getD i [] = (codes zs).getD i [] := by
      obtain ⟨t, ht⟩ := codes_pre (zs.take (i + 1)) (zs.drop (i + 1))
      rw [List.take_append_drop] at ht
      rw [ht]; simp only [List.getD]; rw [List.getElem?_append_left (by omega)]
    rw [codes_at zs (i + 1) hi, nxt_eq, from_succ _ i hl, hp]
    have s1 := sum_take_succ zs i (by omega)
    have s2 := sum_take_succ zs (i + 1) hi
    have s3 := sum_take_le zs (i + 1 + 1)
    rw [part_eq _ hb] at s1
    rw [part_eq _ hc] at s2
    generalize (codes zs).getD i [] = b at *
    obtain ⟨x, hx⟩ := Int.eq_ofNat_of_zero_le (show 0 ≤ zs.getD i 0 by omega)
    obtain ⟨y, hy⟩ := Int.eq_ofNat_of_zero_le (show 0 ≤ zs.getD (i + 1) 0 by omega)
    rw [hx] at h1 h2 s1 hb ho
    rw [hy] at s2 hc ho ⊢
    simp only [Int.toNat_natCast] at h1 h2 s1 s2 ⊢
    have hxy : x ≤ y := by omega
    have hy16 : y ≤ 16 := by omega
    have p1 : 2 ^ (16 - x) * 2 ^ x = 65536 := by rw [← Nat.pow_add, show 16 - x + x = 16 by omega]
    have p2 : 2 ^ (y - x) * 2 ^ (16 - y) = 2 ^ (16 - x) := by rw [← Nat.pow_add, show y - x + (16 - y) = 16 - x by omega]
    have p3 : 0 < 2 ^ (16 - y) := Nat.pow_pos (by omega)
    have hn : Bt.numH b + 1 < 2 ^ b.length := by
      rw [h1]
      refine Nat.lt_of_mul_lt_mul_left (a := 2 ^ (16 - x)) ?_
      rw [p1, Nat.mul_comm, Nat.add_mul, h2]
      omega
    refine ⟨by rw [List.length_append, plus_length, List.length_replicate, h1]; omega, ?_⟩
    rw [numH_pad, numH_plus b hn, plus_length, h1, Nat.mul_assoc, p2, Nat.add_mul, h2, s1]
    omega
end Cn
end Go.Proofs.Ytcagdnajapcmkaa
