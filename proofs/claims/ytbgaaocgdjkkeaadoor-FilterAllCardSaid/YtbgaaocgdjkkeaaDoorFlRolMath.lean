/- Rows that are filtered, one behind the other: the pure functions. -/
import Derived.Test.YtbgaaocgdjkkeaaDoorFlRoll
namespace Go.Proofs.YtbgaaocgdjkkeaaDoor
open Go.RowKit

namespace Fi
def rowI (r : List UInt8) (s i : Nat) : List UInt8 := (r.drop (i * s)).take s
def ahI (r : List UInt8) (s : Nat) : Nat → List UInt8
  | 0 => []
  | i + 1 => rowI r s i
/-- Row i's kind. -/
def kdI (r : List UInt8) (s p : Nat) (ks : List Int) (i : Nat) : Int := if ks.getD i 0 = -1 then (light (rowI r s i) (ahI r s i) p : Nat) else ks.getD i 0
def rolN (r : List UInt8) (s p : Nat) (ks : List Int) : Nat → List UInt8
  | 0 => []
  | i + 1 => rolN r s p ks i ++ [UInt8.ofNat (kdI r s p ks i).toNat] ++ flt (kdI r s p ks i) (rowI r s i) (ahI r s i) p
def goodK (ks : List Int) : Bool := ks.all fun k => decide (-1 ≤ k) && decide (k ≤ 4)
theorem goodK_at {ks : List Int} (h : goodK ks = true) (i : Nat) (hi : i < ks.length) : -1 ≤ ks.getD i 0 ∧ ks.getD i 0 ≤ 4 := by
  unfold goodK at h
  rw [List.all_eq_true] at h
  have := h ks[i] (List.getElem_mem hi)
  simp [List.getD, List.getElem?_eq_getElem hi] at this ⊢
  exact this
theorem goodK_of {ks : List Int} (h : ∀ i, i < ks.length → -1 ≤ ks.getD i 0 ∧ ks.getD i 0 ≤ 4) : goodK ks = true := by
  unfold goodK
  rw [List.all_eq_true]
  intro k hk
  obtain ⟨i, hi, rfl⟩ := List.getElem_of_mem hk
  have := h i hi
  simp [List.getD, List.getElem?_eq_getElem hi] at this ⊢
  exact this
theorem goodK_no {ks : List Int} {i : Nat} (hi : i < ks.length) (h : ¬ (-1 ≤ ks.getD i 0 ∧ ks.getD i 0 ≤ 4)) : goodK ks = false := by
  cases e : goodK ks
  · rfl
  · exact absurd (goodK_at e i hi) h
theorem kdI_le {r : List UInt8} {s p : Nat} {ks : List Int} {i : Nat} (h : goodK ks = true) (hi : i < ks.length) : 0 ≤ kdI r s p ks i ∧ kdI r s p ks i ≤ 4 := by
  have h1 := goodK_at h i hi
  have h2 := lightN_le (rowI r s i) (ahI r s i) p 4
  unfold kdI light
  split
  · omega
  · omega
theorem rowI_length {r : List UInt8} {s i : Nat} (h : (i + 1) * s ≤ r.length) : (rowI r s i).length = s := by
  rw [Nat.succ_mul] at h
  simp [rowI]; omega
theorem ahI_length {r : List UInt8} {s : Nat} (i : Nat) (h : i * s ≤ r.length) : (ahI r s i).length = 0 ∨ (ahI r s i).length = s := by
  cases i with
  | zero => exact .inl rfl
  | succ i => exact .inr (rowI_length h)
theorem rolN_length {r : List UInt8} {s p : Nat} {ks : List Int} : ∀ i, i * s ≤ r.length → (rolN r s p ks i).length = i * (s + 1)
  | 0, _ => by simp [rolN]
  | i + 1, h => by
    have h1 : i * s ≤ r.length := by rw [Nat.succ_mul] at h; omega
    rw [rolN, List.length_append, List.length_append, rolN_length i h1, flt_length, rowI_length h, Nat.succ_mul]
    simp only [List.length_cons, List.length_nil]; omega
theorem rolN_pre {r : List UInt8} {s p : Nat} {ks : List Int} (j : Nat) : ∀ n, j ≤ n → ∃ t, rolN r s p ks n = rolN r s p ks j ++ t
  | 0, h => ⟨[], by obtain rfl : j = 0 := by omega
                    simp⟩
  | n + 1, h => by
    by_cases e : j = n + 1
    · exact ⟨[], by rw [e]; simp⟩
    · obtain ⟨t, ht⟩ := rolN_pre j n (by omega)
      refine ⟨t ++ [UInt8.ofNat (kdI r s p ks n).toNat] ++ flt (kdI r s p ks n) (rowI r s n) (ahI r s n) p, ?_⟩
      rw [rolN, ht]
      simp only [List.append_assoc]
/-- Row j of filtered rows: its kind and its bytes. -/
theorem rolN_row {r : List UInt8} {s p : Nat} {ks : List Int} {n j : Nat} (hj : j < n) (hn : n * s ≤ r.length) (hk : goodK ks = true) (hl : n ≤ ks.length) :
    (gb (rolN r s p ks n) (j * (s + 1)) : Int) = kdI r s p ks j ∧ dat (rolN r s p ks n) s j = flt (kdI r s p ks j) (rowI r s j) (ahI r s j) p := by
  obtain ⟨t, ht⟩ := rolN_pre (r := r) (s := s) (p := p) (ks := ks) (j + 1) n hj
  have hj1 : (j + 1) * s ≤ n * s := Nat.mul_le_mul_right s hj
  have hjl : (rolN r s p ks j).length = j * (s + 1) := rolN_length j (by rw [Nat.succ_mul] at hj1; omega)
  have hkd := kdI_le (r := r) (s := s) (p := p) hk (show j < ks.length by omega)
  have hrl : (rowI r s j).length = s := rowI_length (by omega)
  rw [ht, rolN]
  generalize kdI r s p ks j = k at *
  generalize hF : flt k (rowI r s j) (ahI r s j) p = F
  have hFl : F.length = s := by rw [← hF, flt_length, hrl]
  constructor
  · rw [List.append_assoc, List.append_assoc, Fi.gb_append_right (by rw [hjl]; exact Nat.le_refl _), hjl, Nat.sub_self]
    simp [gb]
    omega
  · unfold dat
    rw [List.append_assoc, List.append_assoc, ← List.append_assoc (rolN r s p ks j), List.drop_append_of_le_length (by simp [hjl]), List.drop_of_length_le (by simp [hjl]), List.nil_append, List.take_append_of_le_length (by omega), List.take_of_length_le (by omega)]
theorem rol_prv {r : List UInt8} {s p : Nat} {ks : List Int} {n : Nat} (hp : 0 < p) (hn : n * s ≤ r.length) (hk : goodK ks = true) (hl : n ≤ ks.length) : ∀ j, j ≤ n → prv (rolN r s p ks n) s p j = ahI r s j
  | 0, _ => rfl
  | j + 1, h => by
    obtain ⟨h1, h2⟩ := rolN_row (p := p) (show j < n from h) hn hk hl
    rw [prv, h1, h2, rol_prv hp hn hk hl j (by omega), back _ _ _ _ hp]
    rfl
theorem rol_out {r : List UInt8} {s p : Nat} {ks : List Int} {n : Nat} (hp : 0 < p) (hn : n * s ≤ r.length) (hk : goodK ks = true) (hl : n ≤ ks.length) : ∀ j, j ≤ n → outN (rolN r s p ks n) s p j = r.take (j * s)
  | 0, _ => by simp [outN]
  | j + 1, h => by
    have e : rwI (rolN r s p ks n) s p j = rowI r s j := (prv_succ _ _ _ _).symm.trans (rol_prv hp hn hk hl (j + 1) h)
    rw [outN, rol_out hp hn hk hl j (by omega), e, Nat.succ_mul, rowI, List.take_add]
theorem rol_chk {r : List UInt8} {s p : Nat} {ks : List Int} {n : Nat} (hn : n * s ≤ r.length) (hk : goodK ks = true) (hl : n ≤ ks.length) : ∀ c i, i + c = n → chkN (rolN r s p ks n) s c i = 0
  | 0, i, h => by
    obtain rfl : i = n := by omega
    unfold chkN
    rw [rolN_length i hn, if_neg (by omega)]
  | c + 1, i, h => by
    have hlen := rolN_length (p := p) (ks := ks) n hn
    have h1 : (i + 1) * (s + 1) ≤ n * (s + 1) := Nat.mul_le_mul_right _ (by omega)
    rw [Nat.succ_mul] at h1
    obtain ⟨h2, _⟩ := rolN_row (p := p) (show i < n by omega) hn hk hl
    have h3 := kdI_le (r := r) (s := s) (p := p) hk (show i < ks.length by omega)
    unfold chkN
    rw [hlen, if_neg (by omega), if_neg (by omega)]
    exact rol_chk hn hk hl c (i + 1) (by omega)
end Fi
end Go.Proofs.YtbgaaocgdjkkeaaDoor
