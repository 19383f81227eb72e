/- Package sample's mathematics: depths, numbers in rows of bytes, numbers widened and narrowed. -/
import Derived.Test.YtkjdekaipphlpaaInts
import Derived.Test.YtkjdekaipphlpaaBitsMath
namespace Go.Proofs.Ytkjdekaipphlpaa
open Go.RowKit

namespace Sm
theorem w_small {x : Int} (h : 0 ≤ x) (h2 : x ≤ 1000000000000) : wrap64 x = x := IntWalk.wrap64_in _ ⟨by omega, by omega⟩
/-- There is such a depth. -/
def deep (d : Int) : Bool := decide (d = 1) || decide (d = 2) || decide (d = 4) || decide (d = 8) || decide (d = 16)
/-- One of the five depths. -/
def Dp (d : Nat) : Prop := d = 1 ∨ d = 2 ∨ d = 4 ∨ d = 8 ∨ d = 16
theorem deep_dp {d : Int} (h : deep d = true) : ∃ n : Nat, d = n ∧ Dp n := by
  simp only [deep, Bool.or_eq_true, decide_eq_true_eq] at h
  refine ⟨d.toNat, by omega, ?_⟩
  unfold Dp
  omega
theorem dp_deep {d : Nat} (h : Dp d) : deep d = true := by
  simp only [deep, Bool.or_eq_true, decide_eq_true_eq]
  unfold Dp at h
  omega
theorem deep_no {d : Int} (h : deep d = false) : d ≠ 1 ∧ d ≠ 2 ∧ d ≠ 4 ∧ d ≠ 8 ∧ d ≠ 16 := by
  simp only [deep, Bool.or_eq_false_iff, decide_eq_false_iff_not] at h
  omega
/-- The greatest number of a depth. -/
def top (d : Nat) : Nat := 2 ^ d - 1
/-- What a number is multiplied by. -/
def fac (d : Nat) : Nat := 65535 / top d
theorem dp_five {d : Nat} (h : Dp d) : (d = 1 ∧ top d = 1 ∧ fac d = 65535) ∨ (d = 2 ∧ top d = 3 ∧ fac d = 21845) ∨ (d = 4 ∧ top d = 15 ∧ fac d = 4369) ∨ (d = 8 ∧ top d = 255 ∧ fac d = 257) ∨ (d = 16 ∧ top d = 65535 ∧ fac d = 1) := by
  rcases h with rfl | rfl | rfl | rfl | rfl
  · exact .inl ⟨rfl, rfl, rfl⟩
  · exact .inr (.inl ⟨rfl, rfl, rfl⟩)
  · exact .inr (.inr (.inl ⟨rfl, rfl, rfl⟩))
  · exact .inr (.inr (.inr (.inl ⟨rfl, rfl, rfl⟩)))
  · exact .inr (.inr (.inr (.inr ⟨rfl, rfl, rfl⟩)))
theorem fac_top {d : Nat} (h : Dp d) : fac d * top d = 65535 := by
  rcases dp_five h with ⟨_, h1, h2⟩ | ⟨_, h1, h2⟩ | ⟨_, h1, h2⟩ | ⟨_, h1, h2⟩ | ⟨_, h1, h2⟩ <;> rw [h1, h2]
theorem fac_pos {d : Nat} (h : Dp d) : 1 ≤ fac d ∧ fac d ≤ 65535 := by
  rcases dp_five h with ⟨_, h1, h2⟩ | ⟨_, h1, h2⟩ | ⟨_, h1, h2⟩ | ⟨_, h1, h2⟩ | ⟨_, h1, h2⟩ <;> omega
theorem top_pos {d : Nat} (h : Dp d) : 1 ≤ top d ∧ top d ≤ 65535 ∧ top d + 1 = 2 ^ d := by
  rcases dp_five h with ⟨rfl, h1, h2⟩ | ⟨rfl, h1, h2⟩ | ⟨rfl, h1, h2⟩ | ⟨rfl, h1, h2⟩ | ⟨rfl, h1, h2⟩ <;> (rw [h1]; decide)
theorem dp_le {d : Nat} (h : Dp d) : 1 ≤ d ∧ d ≤ 16 := by unfold Dp at h; omega
/-- A number of 16 bits that one of the depth is widened to. -/
def fits (n : Int) (d : Nat) : Bool := decide (0 ≤ n) && decide (n ≤ 65535) && decide (n % fac d = 0)
/-- The number that is widened to it, -1: there is none. -/
def nar (n : Int) (d : Int) : Int := if deep d = true ∧ fits n d.toNat = true then n / fac d.toNat else -1
theorem fits_iff {n : Int} {d : Nat} (h : Dp d) : fits n d = true ↔ ∃ k : Nat, k ≤ top d ∧ n = k * fac d := by
  have hf := fac_pos h
  have ht := fac_top h
  simp only [fits, Bool.and_eq_true, decide_eq_true_eq]
  constructor
  · rintro ⟨⟨h0, h1⟩, h2⟩
    obtain ⟨q, hq⟩ := Int.dvd_of_emod_eq_zero h2
    have hq0 : 0 ≤ q := by
      apply Decidable.byContradiction
      intro hn
      have : (fac d : Int) * q ≤ (fac d : Int) * (-1) := Int.mul_le_mul_of_nonneg_left (by omega) (by omega)
      omega
    obtain ⟨k, rfl⟩ := Int.eq_ofNat_of_zero_le hq0
    refine ⟨k, ?_, by rw [hq, Int.mul_comm]⟩
    apply Decidable.byContradiction
    intro hn
    have h3 : fac d * (top d + 1) ≤ fac d * k := Nat.mul_le_mul_left _ (by omega)
    rw [Nat.mul_add, ht] at h3
    have h4 : ((fac d * k : Nat) : Int) = n := by rw [hq]; simp
    omega
  · rintro ⟨k, hk, rfl⟩
    have h3 : k * fac d ≤ top d * fac d := Nat.mul_le_mul_right _ hk
    rw [Nat.mul_comm (top d), ht] at h3
    have h4 : ((k * fac d : Nat) : Int) = (k : Int) * (fac d : Int) := by simp
    refine ⟨⟨by omega, by omega⟩, Int.mul_emod_left _ _⟩
theorem fits_mul {d k : Nat} (h : Dp d) (hk : k ≤ top d) : fits (k * fac d : Nat) d = true ∧ ((k * fac d : Nat) : Int) / fac d = k := by
  have hf := fac_pos h
  refine ⟨(fits_iff h).2 ⟨k, hk, by simp⟩, ?_⟩
  have : ((k * fac d : Nat) : Int) = (k : Int) * (fac d : Int) := by simp
  rw [this, Int.mul_ediv_cancel _ (by omega)]
/-- All of them can be narrowed. -/
def holds (l : List Int) (d : Nat) : Bool := l.all fun n => fits n d
/-- The least depth. -/
def dep (l : List Int) : Nat := if holds l 1 then 1 else if holds l 2 then 2 else if holds l 4 then 4 else if holds l 8 then 8 else 16
/-- A number of the depth. -/
def inD (d : Nat) (n : Int) : Bool := decide (0 ≤ n) && decide (n ≤ top d)
/-- Numbers as bits. -/
def enc (d : Nat) (l : List Int) : List Bool := l.flatMap fun n => Bt.dg true n.toNat d
theorem enc_append (d : Nat) (l m : List Int) : enc d (l ++ m) = enc d l ++ enc d m := by simp [enc]
theorem enc_length (d : Nat) (l : List Int) : (enc d l).length = l.length * d := by
  induction l with
  | nil => simp [enc]
  | cons n l ih =>
    have e : enc d (n :: l) = Bt.dg true n.toNat d ++ enc d l := rfl
    rw [e, List.length_append, Bt.dg_length, ih, List.length_cons, Nat.add_mul]
    omega
/-- How many bits the last byte misses. -/
def mis (n : Nat) : Nat := (8 - n % 8) % 8
/-- What bits with clear ones behind them are packed to. -/
theorem packs_pad (h f : Bool) (l : List Bool) : Bt.packs h f (l ++ List.replicate (mis l.length) false) = Bt.packs h false l := by
  have hm : mis l.length = (8 - l.length % 8) % 8 := rfl
  generalize mis l.length = m at *
  have hl : (l ++ List.replicate m false).length = l.length + m := by simp
  apply List.ext_getElem?
  intro k
  by_cases hk : k < (l.length + 7) / 8
  · rw [Bt.packs_get _ _ _ _ (by rw [hl]; omega), Bt.packs_get _ _ _ _ hk]
    congr 2
    unfold Bt.pk
    congr 1
    apply List.map_congr_left
    intro i hi
    have hi8 : i < 8 := List.mem_range.1 hi
    by_cases hin : 8 * k + i < l.length
    · rw [Bt.getD_app_left _ _ _ _ hin]
      simp only [List.getD]
      rw [List.getElem?_eq_getElem hin]; rfl
    · rw [Bt.getD_app_right _ _ _ _ (by omega), Bt.getD_out l _ _ (by omega)]
      simp only [List.getD]
      rw [List.getElem?_eq_getElem (by simp; omega)]
      simp
  · rw [List.getElem?_eq_none (by rw [Bt.packs_length, hl]; omega), List.getElem?_eq_none (by rw [Bt.packs_length]; omega)]
/-- A row's numbers. -/
def vals (d : Nat) (r : List Bool) (n : Nat) : List Int := (List.range n).map fun i => ((Bt.num true ((r.drop (i * d)).take d) : Nat) : Int)
theorem vals_length (d : Nat) (r : List Bool) (n : Nat) : (vals d r n).length = n := by simp [vals]
theorem vals_succ (d : Nat) (r : List Bool) (n : Nat) : vals d r (n + 1) = vals d r n ++ [((Bt.num true ((r.drop (n * d)).take d) : Nat) : Int)] := by
  simp [vals, List.range_succ]
theorem vals_set (d : Nat) (r : List Bool) (n k : Nat) (h : k < n) :
    (vals d r k ++ List.replicate (n - k) 0).set k ((Bt.num true ((r.drop (k * d)).take d) : Nat) : Int) = vals d r (k + 1) ++ List.replicate (n - (k + 1)) 0 := by
  obtain ⟨m, hm⟩ : ∃ m, n - k = m + 1 := ⟨n - k - 1, by omega⟩
  have hm2 : n - (k + 1) = m := by omega
  rw [hm, hm2, vals_succ, List.replicate_succ, List.set_append_right _ _ (by rw [vals_length]; exact Nat.le_refl _), vals_length, Nat.sub_self, List.set_cons_zero, List.append_assoc]
  rfl
/-- What is read behind the numbers' bits are the numbers. -/
theorem vals_enc (d : Nat) (l : List Int) (r : List Bool) (h : ∀ n ∈ l, inD d n = true) : vals d (enc d l ++ r) l.length = l := by
  suffices ∀ (m : List Int) (r : List Bool), (∀ n ∈ m, inD d n = true) → vals d (enc d m.reverse ++ r) m.length = m.reverse by
    have := this l.reverse r (fun n hn => h n (List.mem_reverse.1 hn))
    rwa [List.reverse_reverse, List.length_reverse] at this
  intro m
  induction m with
  | nil => intro r _; rfl
  | cons n m ih =>
    intro r h
    have hn := h n (by simp)
    simp only [inD, Bool.and_eq_true, decide_eq_true_eq] at hn
    rw [List.length_cons, vals_succ, List.reverse_cons, enc_append, List.append_assoc, ih _ (fun k hk => h k (List.mem_cons_of_mem _ hk))]
    congr 1
    have e0 : (enc d m.reverse).length = m.length * d := by rw [enc_length, List.length_reverse]
    rw [List.drop_left' e0]
    have e : enc d [n] = Bt.dg true n.toNat d := by simp [enc]
    rw [e, List.take_left' (Bt.dg_length _ _ _), Bt.num_dg _ _ _ (by have : 0 < 2 ^ d := Nat.pow_pos (by omega); unfold top at hn; omega)]
    congr 1
    omega
/-- What is read hangs on the numbers' bits alone. -/
theorem vals_take (d : Nat) (r s : List Bool) (n : Nat) (h : r.take (n * d) = s.take (n * d)) : vals d r n = vals d s n := by
  unfold vals
  apply List.map_congr_left
  intro i hi
  have hin : i < n := List.mem_range.1 hi
  have hm : (i + 1) * d ≤ n * d := Nat.mul_le_mul_right _ hin
  have e : ∀ t : List Bool, (t.drop (i * d)).take d = ((t.take (n * d)).drop (i * d)).take d := by
    intro t
    rw [List.drop_take, List.take_take]
    congr 1
    rw [Nat.add_mul] at hm
    omega
  rw [e r, e s, h]
theorem vals_wf (d : Nat) (hd : d ≤ 32) (r : List Bool) (n : Nat) : Wf (vals d r n) := by
  intro x hx
  simp only [vals, List.mem_map] at hx
  obtain ⟨i, _, rfl⟩ := hx
  have h1 := Bt.num_lt true ((r.drop (i * d)).take d)
  have h2 : ((r.drop (i * d)).take d).length ≤ 32 := by rw [List.length_take]; omega
  have h3 := Bt.pow_le _ _ h2
  simp only [Nat.reducePow] at h3
  simp [Lit.wf, IntKind.min, IntKind.max, IntKind.signed, IntKind.bits]
  omega
end Sm
end Go.Proofs.Ytkjdekaipphlpaa
