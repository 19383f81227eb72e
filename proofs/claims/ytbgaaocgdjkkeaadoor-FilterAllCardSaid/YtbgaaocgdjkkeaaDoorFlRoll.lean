/- Filtered rows, one behind the other: the pure functions. -/
import Derived.Test.YtbgaaocgdjkkeaaDoorFlMath
namespace Go.Proofs.YtbgaaocgdjkkeaaDoor
open Go.RowKit

namespace Fi
/-- What goes wrong from row i on, c rows being left. -/
def chkN (l : List UInt8) (s : Nat) : Nat → Nat → Nat
  | 0, i => if i * (s + 1) < l.length then 2 else 0
  | c + 1, i => if l.length ≤ i * (s + 1) + s then 8 else if 4 < gb l (i * (s + 1)) then 2 else chkN l s c (i + 1)
theorem chkN_le (l : List UInt8) (s : Nat) : ∀ c i, chkN l s c i = 0 ∨ chkN l s c i = 2 ∨ chkN l s c i = 8
  | 0, i => by unfold chkN; split <;> omega
  | c + 1, i => by
    unfold chkN
    have := chkN_le l s c (i + 1)
    split
    · omega
    · split <;> omega
theorem chkN_zero (l : List UInt8) (s : Nat) : ∀ c i, chkN l s c i = 0 → i * (s + 1) ≤ l.length → (i + c) * (s + 1) = l.length ∧ ∀ j, i ≤ j → j < i + c → (j + 1) * (s + 1) ≤ l.length ∧ gb l (j * (s + 1)) ≤ 4
  | 0, i, h, hi => by
    unfold chkN at h
    split at h
    · omega
    · exact ⟨by rw [Nat.add_zero]; omega, fun j h1 h2 => by omega⟩
  | c + 1, i, h, hi => by
    unfold chkN at h
    split at h
    · omega
    · rename_i h1
      split at h
      · omega
      · rename_i h2
        have e : (i + 1) * (s + 1) = i * (s + 1) + (s + 1) := Nat.succ_mul i (s + 1)
        obtain ⟨q1, q2⟩ := chkN_zero l s c (i + 1) h (by omega)
        refine ⟨by rw [← q1, show i + (c + 1) = i + 1 + c by omega], fun j h3 h4 => ?_⟩
        by_cases e2 : j = i
        · subst e2; exact ⟨by omega, by omega⟩
        · exact q2 j (by omega) (by omega)
/-- Row i's filtered bytes. -/
def dat (l : List UInt8) (s i : Nat) : List UInt8 := (l.drop (i * (s + 1) + 1)).take s
/-- The row ahead of row i. -/
def prv (l : List UInt8) (s p : Nat) : Nat → List UInt8
  | 0 => []
  | i + 1 => unf (gb l (i * (s + 1)) : Nat) (dat l s i) (prv l s p i) p
def rwI (l : List UInt8) (s p i : Nat) : List UInt8 := unf (gb l (i * (s + 1)) : Nat) (dat l s i) (prv l s p i) p
theorem prv_succ (l : List UInt8) (s p i : Nat) : prv l s p (i + 1) = rwI l s p i := rfl
def outN (l : List UInt8) (s p : Nat) : Nat → List UInt8
  | 0 => []
  | i + 1 => outN l s p i ++ rwI l s p i
theorem dat_length {l : List UInt8} {s i : Nat} (h : (i + 1) * (s + 1) ≤ l.length) : (dat l s i).length = s := by
  have e : (i + 1) * (s + 1) = i * (s + 1) + (s + 1) := Nat.succ_mul i (s + 1)
  simp [dat]; omega
theorem rwI_length {l : List UInt8} {s p i : Nat} (h : (i + 1) * (s + 1) ≤ l.length) : (rwI l s p i).length = s := by
  unfold rwI; rw [unf_length, dat_length h]
theorem outN_length {l : List UInt8} {s p : Nat} : ∀ i, (∀ j, j < i → (j + 1) * (s + 1) ≤ l.length) → (outN l s p i).length = i * s
  | 0, _ => by simp [outN]
  | i + 1, h => by
    rw [outN, List.length_append, outN_length i (fun j hj => h j (by omega)), rwI_length (h i (by omega)), Nat.succ_mul]
theorem prv_length {l : List UInt8} {s p : Nat} (i : Nat) (h : ∀ j, j < i → (j + 1) * (s + 1) ≤ l.length) : (prv l s p i).length = if i = 0 then 0 else s := by
  cases i with
  | zero => rfl
  | succ i => rw [prv_succ, rwI_length (h i (by omega))]; rfl
/-- Where the arguments aren't good. -/
def frm (s c p : Int) : Bool := decide (s < 1) || decide (c < 1) || decide (p < 1) || decide (8 < p) || decide (1048576 < s) || decide (1048576 < c)
theorem frm_true {s c p : Int} : frm s c p = true ↔ (s < 1 ∨ c < 1 ∨ p < 1 ∨ 8 < p ∨ 1048576 < s ∨ 1048576 < c) := by
  simp [frm, or_assoc]
theorem frm_false {s c p : Int} (h : frm s c p = false) : 1 ≤ s ∧ 1 ≤ c ∧ 1 ≤ p ∧ p ≤ 8 ∧ s ≤ 1048576 ∧ c ≤ 1048576 := by
  have : ¬ (s < 1 ∨ c < 1 ∨ p < 1 ∨ 8 < p ∨ 1048576 < s ∨ 1048576 < c) := by rw [← frm_true, h]; simp
  omega
/-- The error's number. -/
def ubad (l : List UInt8) (s c p : Int) : Nat := if frm s c p then 6 else chkN l s.toNat c.toNat 0
def uout (l : List UInt8) (s c p : Int) : List UInt8 := if ubad l s c p = 0 then outN l s.toNat p.toNat c.toNat else []
end Fi
end Go.Proofs.YtbgaaocgdjkkeaaDoor
