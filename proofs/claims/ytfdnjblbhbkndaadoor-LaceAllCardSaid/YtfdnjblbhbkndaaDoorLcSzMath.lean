/- The reference's count of columns and rows. -/
import Derived.Test.YtfdnjblbhbkndaaDoorLcMath
namespace Go.Proofs.YtfdnjblbhbkndaaDoor
namespace Lc
/-- Columns of the pass in row y, below n. -/
def cn (p y : Nat) : Nat → Nat
  | 0 => 0
  | n + 1 => cn p y n + (if pt n y = p then 1 else 0)
theorem cn_eq (p y : Nat) (hp : p < 7) : ∀ n, cn p y n = if y % pdy p = py p then stp (px p) (pdx p) n else 0
  | 0 => by simp [cn, stp_zero]
  | n + 1 => by
    obtain ⟨_, _, d1, d2, l1, l2⟩ := dx_dvd p hp
    unfold cn
    rw [cn_eq p y hp n]
    by_cases h : y % pdy p = py p
    · rw [if_pos h, if_pos h, stp_succ _ _ _ d1 l1]
      congr 1
      by_cases hx : n % pdx p = px p
      · rw [if_pos hx, if_pos ((pt_iff n y p hp).2 ⟨hx, h⟩)]
      · rw [if_neg hx, if_neg (fun e => hx ((pt_iff n y p hp).1 e).1)]
    · rw [if_neg h, if_neg h, if_neg (fun e => h ((pt_iff n y p hp).1 e).2)]
theorem cn_le (p y : Nat) : ∀ n, cn p y n ≤ n
  | 0 => Nat.le_refl _
  | n + 1 => by have := cn_le p y n; unfold cn; split <;> omega
def wv (p wd ht : Nat) : Nat → Nat
  | 0 => 0
  | m + 1 => if 0 < cn p m wd ∧ wv p wd ht m = 0 ∧ m < ht then cn p m wd else wv p wd ht m
def rj (p wd ht m : Nat) : Nat := if 0 < cn p m wd then stp m 8 ht else 0
def hv (p wd ht : Nat) : Nat → Nat
  | 0 => 0
  | m + 1 => hv p wd ht m + rj p wd ht m
theorem rj_lt (p wd ht m j : Nat) : j < rj p wd ht m ↔ 0 < cn p m wd ∧ m + 8 * j < ht := by
  unfold rj stp
  split
  · split <;> omega
  · omega
theorem stp_le'' (a d n : Nat) : stp a d n ≤ n := by
  unfold stp
  split
  · have := Nat.div_le_self (n - a - 1) d; omega
  · omega
theorem rj_le (p wd ht m : Nat) : rj p wd ht m ≤ ht := by
  unfold rj
  split
  · exact stp_le'' _ _ _
  · omega
theorem wv_le (p wd ht : Nat) : ∀ m, wv p wd ht m ≤ wd
  | 0 => Nat.zero_le _
  | m + 1 => by
    have := wv_le p wd ht m
    have := cn_le p m wd
    unfold wv
    split <;> omega
theorem hv_le (p wd ht : Nat) : ∀ m, hv p wd ht m ≤ m * ht
  | 0 => Nat.zero_le _
  | m + 1 => by
    have := hv_le p wd ht m
    have := rj_le p wd ht m
    have e : (m + 1) * ht = m * ht + ht := Nat.succ_mul m ht
    unfold hv
    omega
theorem wv_eq (p wd ht : Nat) (hp : p < 7) : ∀ m, wv p wd ht m = if 0 < stp (px p) (pdx p) wd ∧ py p < m ∧ py p < ht then stp (px p) (pdx p) wd else 0
  | 0 => by rw [if_neg (by omega)]; rfl
  | m + 1 => by
    obtain ⟨_, _, d1, d2, l1, l2⟩ := dx_dvd p hp
    have hm := Nat.mod_le m (pdy p)
    unfold wv
    rw [cn_eq p m hp wd, wv_eq p wd ht hp m]
    by_cases h : m % pdy p = py p
    · rw [if_pos h]
      generalize stp (px p) (pdx p) wd = A
      generalize py p = b at *
      by_cases k1 : 0 < A ∧ b < m ∧ b < ht
      · rw [if_pos k1, if_neg (by omega), if_pos (by omega)]
      · rw [if_neg k1]
        by_cases k2 : 0 < A ∧ m < ht
        · rw [if_pos (by omega), if_pos (by omega)]
        · rw [if_neg (by omega), if_neg (by omega)]
    · rw [if_neg h, if_neg (by omega)]
      have : py p ≠ m := fun e => h (by rw [← e, Nat.mod_eq_of_lt l2])
      congr 1
      apply propext
      omega
theorem hv_eq (p wd ht : Nat) (hp : p < 7) (hA : 0 < stp (px p) (pdx p) wd) : hv p wd ht 8 = stp (py p) (pdy p) ht := by
  obtain ⟨_, _, d1, d2, l1, l2⟩ := dx_dvd p hp
  have e : ∀ m, rj p wd ht m = if m % pdy p = py p then stp m 8 ht else 0 := fun m => by
    unfold rj
    rw [cn_eq p m hp wd]
    by_cases h : m % pdy p = py p
    · rw [if_pos h, if_pos h, if_pos hA]
    · rw [if_neg h, if_neg h, if_neg (by omega)]
  have h0 : hv p wd ht 8 = 0 + rj p wd ht 0 + rj p wd ht 1 + rj p wd ht 2 + rj p wd ht 3 + rj p wd ht 4 + rj p wd ht 5 + rj p wd ht 6 + rj p wd ht 7 := rfl
  rw [h0]
  simp only [e]
  clear e h0 hA d1 l1
  have hc : p = 0 ∨ p = 1 ∨ p = 2 ∨ p = 3 ∨ p = 4 ∨ p = 5 ∨ p = 6 := by omega
  have s8 : ∀ a, stp a 8 ht = if a < ht then (ht - a - 1) / 8 + 1 else 0 := fun a => rfl
  have s4 : ∀ a, stp a 4 ht = if a < ht then (ht - a - 1) / 4 + 1 else 0 := fun a => rfl
  have s2 : ∀ a, stp a 2 ht = if a < ht then (ht - a - 1) / 2 + 1 else 0 := fun a => rfl
  rcases hc with rfl | rfl | rfl | rfl | rfl | rfl | rfl
  · simp [pdy, py]
  · simp [pdy, py]
  · simp [pdy, py]
  · simp [pdy, py, s8, s4]
    split <;> split <;> omega
  · simp [pdy, py, s8, s4]
    split <;> split <;> omega
  · simp [pdy, py, s8, s2]
    repeat' split
    all_goals omega
  · simp [pdy, py, s8, s2]
    repeat' split
    all_goals omega
/-- What the reference answers is what a picture has of the pass. -/
theorem ref_of (p wd ht : Nat) (hp : p < 7) : (if wv p wd ht 8 = 0 ∨ hv p wd ht 8 = 0 then (0, 0) else (wv p wd ht 8, hv p wd ht 8)) = ((of p wd ht).c, (of p wd ht).r) := by
  have l8 : py p < 8 := by obtain ⟨_, d8, _, _, _, l2⟩ := dx_dvd p hp; exact Nat.lt_of_lt_of_le l2 (Nat.le_of_dvd (by omega) d8)
  have hw := wv_eq p wd ht hp 8
  unfold of
  by_cases hA : stp (px p) (pdx p) wd = 0
  · rw [hA] at hw
    rw [if_pos (show wv p wd ht 8 = 0 ∨ hv p wd ht 8 = 0 from .inl (by rw [hw]; simp)), if_pos (.inl hA)]
  · rw [hv_eq p wd ht hp (by omega)]
    by_cases hB : stp (py p) (pdy p) ht = 0
    · rw [if_pos (.inr hB), if_pos (.inr hB)]
    · have hlt : py p < ht := by
        unfold stp at hB
        split at hB
        · assumption
        · omega
      rw [if_pos ⟨by omega, l8, hlt⟩] at hw
      rw [hw, if_neg (by omega), if_neg (by omega)]
end Lc
end Go.Proofs.YtfdnjblbhbkndaaDoor
