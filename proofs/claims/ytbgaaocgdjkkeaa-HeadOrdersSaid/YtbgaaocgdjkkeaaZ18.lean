/- Numbers as bytes. -/
import Derived.Test.YtbgaaocgdjkkeaaZ1
set_option linter.unusedSimpArgs false
set_option linter.unusedVariables false
section
namespace Go.Proofs.Ytbgaaocgdjkkeaa.Pt
/-- The bytes of a number, the highest first. -/
def dig : Nat → Nat → List UInt8
  | 0, _ => []
  | s + 1, n => UInt8.ofNat (n / 256 ^ s) :: dig s n
theorem dig_length (n : Nat) : ∀ s, (dig s n).length = s
  | 0 => rfl
  | s + 1 => by simp [dig, dig_length n s]
/-- The first i of them. -/
def top (s n : Nat) : Nat → List UInt8
  | 0 => []
  | i + 1 => top s n i ++ [UInt8.ofNat (n / 256 ^ (s - 1 - i))]
theorem top_length (s n : Nat) : ∀ i, (top s n i).length = i
  | 0 => rfl
  | i + 1 => by simp [top, top_length s n i]
theorem top_dig (s n : Nat) : ∀ i, i ≤ s → top s n i ++ dig (s - i) n = dig s n
  | 0, _ => by simp [top]
  | i + 1, h => by
    rw [← top_dig s n i (by omega), top, List.append_assoc]
    congr 1
    rw [show s - i = (s - (i + 1)) + 1 by omega]
    simp only [dig, List.cons_append, List.nil_append]
    rw [show s - 1 - i = s - (i + 1) by omega]
theorem top_full (s n : Nat) : top s n s = dig s n := by
  have := top_dig s n s (Nat.le_refl _)
  simpa [dig] using this
/-- The number that bytes say. -/
def num (l : List UInt8) : Nat := l.foldl (fun n x => n * 256 + x.toNat) 0
theorem num_snoc (l : List UInt8) (x : UInt8) : num (l ++ [x]) = num l * 256 + x.toNat := by simp [num]
theorem num_lt (l : List UInt8) : num l < 256 ^ l.length := by
  suffices ∀ (l : List UInt8) (m k : Nat), m < 256 ^ k → l.foldl (fun n x => n * 256 + x.toNat) m < 256 ^ (k + l.length) from by
    have := this l 0 0 (by omega); rwa [Nat.zero_add] at this
  intro l
  induction l with
  | nil => intro m k h; exact h
  | cons x l ih =>
    intro m k h
    have hx := x.toNat_lt
    have := ih (m * 256 + x.toNat) (k + 1) (by rw [Nat.pow_succ]; omega)
    simp only [List.foldl_cons, List.length_cons]
    rwa [show k + (l.length + 1) = k + 1 + l.length by omega]
theorem dig_num (l : List UInt8) : dig l.length (num l) = l := by
  suffices ∀ (l : List UInt8) (m : Nat), dig l.length (l.foldl (fun n x => n * 256 + x.toNat) m) = l from this l 0
  intro l
  induction l with
  | nil => intro m; rfl
  | cons x l ih =>
    intro m
    simp only [List.length_cons, List.foldl_cons, dig]
    congr 1
    · have key : ∀ (l : List UInt8) (m : Nat), l.foldl (fun n x => n * 256 + x.toNat) m / 256 ^ l.length = m := by
        intro l
        induction l with
        | nil => intro m; simp
        | cons y l ih2 =>
          intro m
          have hy := y.toNat_lt
          simp only [List.foldl_cons, List.length_cons]
          rw [Nat.pow_succ, ← Nat.div_div_eq_div_mul, ih2]
          omega
      rw [key]
      apply UInt8.toNat_inj.1
      have := x.toNat_lt
      simp only [UInt8.toNat_ofNat']
      omega
    · exact ih _
end Go.Proofs.Ytbgaaocgdjkkeaa.Pt
namespace Go.Proofs.Ytbgaaocgdjkkeaa
theorem num_small (l : List UInt8) (k : Nat) (h : k ≤ 4) : Pt.num (l.take k) < 4294967296 := by
  have h1 := Pt.num_lt (l.take k)
  have h2 : 256 ^ (l.take k).length ≤ 256 ^ 4 := Nat.pow_le_pow_right (by omega) (by simp; omega)
  omega
theorem num_take (l : List UInt8) (k : Nat) (h : k < l.length) : Pt.num (l.take (k + 1)) = Pt.num (l.take k) * 256 + gb l k := by
  rw [take_succ_getD l k h, Pt.num_snoc]; rfl
end Go.Proofs.Ytbgaaocgdjkkeaa
end
