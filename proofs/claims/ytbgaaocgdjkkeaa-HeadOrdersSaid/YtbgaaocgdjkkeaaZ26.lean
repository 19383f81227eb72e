/- Heads as data: the pure functions. -/
import Derived.Test.YtbgaaocgdjkkeaaZ3
import Derived.Test.YtbgaaocgdjkkeaaZ18
set_option linter.unusedSimpArgs false
set_option linter.unusedVariables false
section
namespace Go.Proofs.Ytbgaaocgdjkkeaa
open Go.RowKit

namespace Hd
def sz (k : Nat) : Nat := if k < 2 then 4 else 1
def pos (k : Nat) : Nat := if k ≤ 2 then 4 * k else k + 6
theorem pos_succ (k : Nat) : pos (k + 1) = pos k + sz k := by unfold pos sz; repeat' split
                                                              all_goals omega
theorem pos_le {k : Nat} (h : k ≤ 7) : pos k ≤ 13 := by unfold pos; split <;> omega
theorem sz_pos (k : Nat) : 1 ≤ sz k ∧ sz k ≤ 4 := by unfold sz; split <;> omega
/-- Field k of data. -/
def fv (l : List UInt8) (k : Nat) : Nat := Pt.num ((l.drop (pos k)).take (sz k))
def dec (l : List UInt8) : H := ⟨fv l 0, fv l 1, fv l 2, fv l 3, fv l 6⟩
/-- The head of data. -/
def take (l : List UInt8) : Nat × H := if l.length ≠ 13 ∨ fv l 4 ≠ 0 ∨ fv l 5 ≠ 0 then (2, zero) else if bad (dec l) ≠ 0 then (bad (dec l), zero) else (0, dec l)
theorem take_len {l : List UInt8} (h : l.length ≠ 13) : take l = (2, zero) := by unfold take; rw [if_pos (.inl h)]
theorem take_two {l : List UInt8} (h : fv l 4 ≠ 0 ∨ fv l 5 ≠ 0) : take l = (2, zero) := by unfold take; rw [if_pos (.inr h)]
theorem take_bad {l : List UInt8} (h : l.length = 13) (h1 : fv l 4 = 0) (h2 : fv l 5 = 0) (h3 : bad (dec l) ≠ 0) : take l = (bad (dec l), zero) := by
  unfold take; rw [if_neg (by omega), if_pos h3]
theorem take_fine {l : List UInt8} (h : l.length = 13) (h1 : fv l 4 = 0) (h2 : fv l 5 = 0) (h3 : bad (dec l) = 0) : take l = (0, dec l) := by
  unfold take; rw [if_neg (by omega), if_neg (by omega)]
/-- Field k of a head. -/
def fw (x : H) (k : Nat) : Nat := if k = 0 then x.w.toNat else if k = 1 then x.h.toNat else if k = 2 then x.d.toNat else if k = 3 then x.c.toNat else if k = 6 then x.l.toNat else 0
def encN (x : H) : Nat → List UInt8
  | 0 => []
  | k + 1 => encN x k ++ Pt.dig (sz k) (fw x k)
def enc (x : H) : List UInt8 := encN x 7
theorem encN_length (x : H) : ∀ k, (encN x k).length = pos k
  | 0 => rfl
  | k + 1 => by rw [encN, List.length_append, encN_length x k, Pt.dig_length, pos_succ]
theorem enc_length (x : H) : (enc x).length = 13 := encN_length x 7
theorem num_dig1 {n : Nat} (h : n < 256) : Pt.num (Pt.dig 1 n) = n := by
  have e : Pt.dig 1 n = [UInt8.ofNat n] := by simp [Pt.dig]
  rw [e]
  simp [Pt.num, UInt8.toNat_ofNat']
  omega
theorem num_dig4 {n : Nat} (h : n < 4294967296) : Pt.num (Pt.dig 4 n) = n := by
  have e : Pt.dig 4 n = [UInt8.ofNat (n / 16777216), UInt8.ofNat (n / 65536), UInt8.ofNat (n / 256), UInt8.ofNat n] := by simp [Pt.dig]
  rw [e]
  simp [Pt.num, UInt8.toNat_ofNat']
  omega
theorem enc_split (x : H) : ∀ j k, k ≤ j → ∃ r, encN x j = encN x k ++ r
  | 0, k, h => ⟨[], by obtain rfl : k = 0 := by omega
                       simp⟩
  | j + 1, k, h => by
    by_cases e : k = j + 1
    · exact ⟨[], by rw [e]; simp⟩
    · obtain ⟨r, hr⟩ := enc_split x j k (by omega)
      exact ⟨r ++ Pt.dig (sz j) (fw x j), by rw [encN, hr, List.append_assoc]⟩
theorem enc_field (x : H) (k : Nat) (hk : k < 7) : ((enc x).drop (pos k)).take (sz k) = Pt.dig (sz k) (fw x k) := by
  obtain ⟨r, hr⟩ := enc_split x 7 (k + 1) (by omega)
  unfold enc
  rw [hr, encN, List.append_assoc, List.drop_append_of_le_length (by rw [encN_length]; exact Nat.le_refl _), List.drop_of_length_le (by rw [encN_length]; exact Nat.le_refl _), List.nil_append]
  rw [List.take_append_of_le_length (by rw [Pt.dig_length]; exact Nat.le_refl _), List.take_of_length_le (by rw [Pt.dig_length]; exact Nat.le_refl _)]
/-- The numbers of a good head. -/
theorem good_nat {x : H} (h : bad x = 0) : x.w = (x.w.toNat : Nat) ∧ x.h = (x.h.toNat : Nat) ∧ x.d = (x.d.toNat : Nat) ∧ x.c = (x.c.toNat : Nat) ∧ x.l = (x.l.toNat : Nat) ∧ x.w.toNat ≤ 65535 ∧ x.h.toNat ≤ 65535 ∧ x.d.toNat ≤ 16 ∧ x.c.toNat ≤ 6 ∧ x.l.toNat ≤ 1 := by
  obtain ⟨h1, h2, h3, h4, _, h6, h7⟩ := good_all h
  obtain ⟨d1, d2, d3⟩ := dep_small h6
  omega
theorem fw_small {x : H} (h : bad x = 0) (k : Nat) : fw x k < 256 ^ sz k := by
  have := good_nat h
  unfold fw sz
  by_cases h0 : k = 0
  · subst h0; simp; omega
  by_cases h1 : k = 1
  · subst h1; simp; omega
  rw [if_neg h0, if_neg h1, if_neg (by omega : ¬ k < 2)]
  repeat' split
  all_goals omega
theorem num_digs {s n : Nat} (hs : s = 1 ∨ s = 4) (h : n < 256 ^ s) : Pt.num (Pt.dig s n) = n := by
  rcases hs with rfl | rfl
  · exact num_dig1 (by simpa using h)
  · exact num_dig4 (by simpa using h)
theorem sz_two (k : Nat) : sz k = 1 ∨ sz k = 4 := by unfold sz; split <;> omega
theorem fv_enc {x : H} (h : bad x = 0) (k : Nat) (hk : k < 7) : fv (enc x) k = fw x k := by
  unfold fv; rw [enc_field x k hk, num_digs (sz_two k) (fw_small h k)]
/-- What is written is read. -/
theorem take_enc {x : H} (h : bad x = 0) : take (enc x) = (0, x) := by
  have hn := good_nat h
  have hd : dec (enc x) = x := by
    unfold dec
    rw [fv_enc h 0 (by omega), fv_enc h 1 (by omega), fv_enc h 2 (by omega), fv_enc h 3 (by omega), fv_enc h 6 (by omega)]
    obtain ⟨a, b, c, d, e⟩ := x
    simp only at hn
    simp only [fw, if_true, H.mk.injEq]
    simp
    omega
  rw [take_fine (enc_length x) (by rw [fv_enc h 4 (by omega)]; rfl) (by rw [fv_enc h 5 (by omega)]; rfl) (by rw [hd]; exact h), hd]
/-- What is read comes of what is written. -/
theorem enc_dec {l : List UInt8} (h : l.length = 13) (h4 : fv l 4 = 0) (h5 : fv l 5 = 0) : enc (dec l) = l := by
  have hf : ∀ k, k < 7 → fw (dec l) k = fv l k := by
    intro k hk
    have : k = 0 ∨ k = 1 ∨ k = 2 ∨ k = 3 ∨ k = 4 ∨ k = 5 ∨ k = 6 := by omega
    rcases this with rfl | rfl | rfl | rfl | rfl | rfl | rfl
    all_goals simp [fw, dec, h4, h5]
  have hk : ∀ k, k ≤ 7 → encN (dec l) k = l.take (pos k) := by
    intro k
    induction k with
    | zero => intro _; simp [encN, pos]
    | succ k ih =>
      intro hk
      have hp := pos_le (k := k + 1) hk
      rw [pos_succ] at hp
      rw [encN, ih (by omega), pos_succ, List.take_add, hf k (by omega)]
      congr 1
      have hl : ((l.drop (pos k)).take (sz k)).length = sz k := by rw [List.length_take, List.length_drop]; omega
      have := Pt.dig_num ((l.drop (pos k)).take (sz k))
      rw [hl] at this
      exact this
  unfold enc
  rw [hk 7 (by omega)]
  exact List.take_of_length_le (by rw [h]; decide)
theorem take_back {l : List UInt8} {x : H} (h : take l = (0, x)) : bad x = 0 ∧ enc x = l := by
  unfold take at h
  by_cases h1 : l.length ≠ 13 ∨ fv l 4 ≠ 0 ∨ fv l 5 ≠ 0
  · rw [if_pos h1] at h; simp at h
  · rw [if_neg h1] at h
    by_cases h2 : bad (dec l) ≠ 0
    · rw [if_pos h2] at h; simp at h; omega
    · rw [if_neg h2] at h
      simp only [Prod.mk.injEq, true_and] at h
      subst h
      exact ⟨by omega, enc_dec (by omega) (by omega) (by omega)⟩
theorem take_bad0 {l : List UInt8} (h : (take l).1 ≠ 0) : (take l).2 = zero := by
  unfold take at h ⊢
  by_cases h1 : l.length ≠ 13 ∨ fv l 4 ≠ 0 ∨ fv l 5 ≠ 0
  · rw [if_pos h1]
  · rw [if_neg h1] at h ⊢
    by_cases h2 : bad (dec l) ≠ 0
    · rw [if_pos h2]
    · rw [if_neg h2] at h; simp at h
end Hd
end Go.Proofs.Ytbgaaocgdjkkeaa
end
