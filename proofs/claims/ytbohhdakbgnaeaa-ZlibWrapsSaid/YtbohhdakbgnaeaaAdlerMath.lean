/- Adler's sum, in numbers. -/
import Derived.Test.YtbohhdakbgnaeaaBase
namespace Go.Proofs.Ytbohhdakbgnaeaa.Ad

/-- The sum of the bytes. -/
def s (l : List UInt8) : Nat := (l.map UInt8.toNat).sum
/-- The sum of the sums of all beginnings but the empty one. -/
def t : List UInt8 → Nat
  | [] => 0
  | x :: l => (l.length + 1) * x.toNat + t l
theorem s_append (l m : List UInt8) : s (l ++ m) = s l + s m := by simp [s]
theorem t_append (l m : List UInt8) : t (l ++ m) = t l + m.length * s l + t m := by
  induction l with
  | nil => simp [t, s]
  | cons x l ih =>
    have e : s (x :: l) = x.toNat + s l := by simp [s]
    simp only [List.cons_append, t, ih, e, List.length_append, Nat.mul_add, Nat.add_mul]
    omega
theorem s_snoc (l : List UInt8) (k : Nat) (h : k < l.length) : s (l.take (k + 1)) = s (l.take k) + gb l k := by
  rw [take_succ_getD l k h, s_append]; simp [s, gb]
theorem t_snoc (l : List UInt8) (k : Nat) (h : k < l.length) : t (l.take (k + 1)) = t (l.take k) + s (l.take k) + gb l k := by
  rw [take_succ_getD l k h, t_append]; simp [t, gb]
def A (l : List UInt8) (k : Nat) : Nat := (1 + s (l.take k)) % 65521
def B (l : List UInt8) (k : Nat) : Nat := (k + t (l.take k)) % 65521
def adler (l : List UInt8) : Nat := 65536 * ((l.length + t l) % 65521) + (1 + s l) % 65521
theorem A_zero (l : List UInt8) : A l 0 = 1 := by simp [A, s]
theorem B_zero (l : List UInt8) : B l 0 = 0 := by simp [B, t]
theorem A_lt (l : List UInt8) (k : Nat) : A l k < 65521 := Nat.mod_lt _ (by omega)
theorem B_lt (l : List UInt8) (k : Nat) : B l k < 65521 := Nat.mod_lt _ (by omega)
theorem A_succ (l : List UInt8) (k : Nat) (h : k < l.length) : A l (k + 1) = (A l k + gb l k) % 65521 := by
  unfold A; rw [s_snoc l k h]; omega
theorem B_succ (l : List UInt8) (k : Nat) (h : k < l.length) : B l (k + 1) = (B l k + A l (k + 1)) % 65521 := by
  unfold A B; rw [t_snoc l k h, s_snoc l k h]; omega
theorem adler_of (l : List UInt8) (k : Nat) (h : k = l.length) : 65536 * B l k + A l k = adler l := by
  subst h; unfold A B adler; rw [List.take_length]
theorem adler_hi (l : List UInt8) : adler l / 65536 = (l.length + t l) % 65521 := by unfold adler; omega
theorem adler_lo (l : List UInt8) : adler l % 65536 = (1 + s l) % 65521 := by unfold adler; omega
theorem adler_lt (l : List UInt8) : adler l < 4294967296 := by unfold adler; omega

theorem s_le (l : List UInt8) : s l ≤ 255 * l.length := by
  induction l with
  | nil => simp [s]
  | cons x l ih =>
    have e : s (x :: l) = x.toNat + s l := by simp [s]
    have := x.toNat_lt
    rw [e, List.length_cons]; omega
theorem t_le (l : List UInt8) (n : Nat) (h : l.length ≤ n) : t l ≤ 255 * n * l.length := by
  induction l with
  | nil => simp [t]
  | cons x l ih =>
    have h1 := x.toNat_lt
    have h2 : (l.length + 1) * x.toNat ≤ n * 255 := Nat.mul_le_mul h (by omega)
    have h3 := ih (by simp at h; omega)
    simp only [t, List.length_cons, Nat.mul_add, Nat.mul_one]
    omega
/-- Behind one piece more. -/
theorem s_next (T x : List UInt8) : ((1 + s T) % 65521 + s x) % 65521 = (1 + s (T ++ x)) % 65521 := by rw [s_append]; omega
theorem t_next (T x : List UInt8) : ((T.length + t T) % 65521 + x.length * ((1 + s T) % 65521) + t x) % 65521 = ((T ++ x).length + t (T ++ x)) % 65521 := by
  rw [t_append, List.length_append]
  have h : (x.length * ((1 + s T) % 65521)) % 65521 = (x.length * (1 + s T)) % 65521 := by rw [Nat.mul_mod, Nat.mod_mod, ← Nat.mul_mod]
  have e : x.length * (1 + s T) = x.length + x.length * s T := by rw [Nat.mul_add, Nat.mul_one]
  rw [e] at h
  generalize x.length * ((1 + s T) % 65521) = X at *
  generalize x.length * s T = Y at *
  omega
/-- What Join comes to. -/
def lowOf (a b : Int) : Int := (a % 65536 - 1 + b % 65536) % 65521
def highOf (a b n : Int) : Int := (a / 65536 + b / 65536 + n % 65521 * (a % 65536 - 1)) % 65521
def join (a b n : Int) : Int := highOf a b n * 65536 + lowOf a b
theorem join_adler (l m : List UInt8) : join (adler l) (adler m) m.length = adler (l ++ m) := by
  have e1 : ((adler l : Int)) % 65536 = (1 + (s l : Int)) % 65521 := by have := adler_lo l; omega
  have e2 : ((adler m : Int)) % 65536 = (1 + (s m : Int)) % 65521 := by have := adler_lo m; omega
  have e3 : ((adler l : Int)) / 65536 = ((l.length : Int) + t l) % 65521 := by have := adler_hi l; omega
  have e4 : ((adler m : Int)) / 65536 = ((m.length : Int) + t m) % 65521 := by have := adler_hi m; omega
  have hlow : lowOf (adler l) (adler m) = ((1 + s (l ++ m)) % 65521 : Nat) := by
    unfold lowOf; rw [e1, e2, s_append]; omega
  have hp : ((m.length : Int) % 65521 * ((1 + (s l : Int)) % 65521 - 1)) % 65521 = ((m.length : Int) * (s l : Int)) % 65521 := by
    rw [Int.mul_emod, Int.mul_emod (m.length : Int) (s l : Int)]
    have h1 : ((1 + (s l : Int)) % 65521 - 1) % 65521 = (s l : Int) % 65521 := by omega
    rw [h1, Int.emod_emod_of_dvd _ (Int.dvd_refl _)]
  have hhigh : highOf (adler l) (adler m) m.length = (((l ++ m).length + t (l ++ m)) % 65521 : Nat) := by
    unfold highOf; rw [e1, e3, e4, t_append, List.length_append]
    have ec : ((l.length + m.length + (t l + m.length * s l + t m) : Nat) : Int) = (l.length : Int) + m.length + (t l + (m.length : Int) * (s l : Int) + t m) := by
      simp only [Int.natCast_add, Int.natCast_mul]
    rw [Int.natCast_emod, ec]
    generalize (m.length : Int) * (s l : Int) = X at *
    generalize (m.length : Int) % 65521 * ((1 + (s l : Int)) % 65521 - 1) = Y at *
    omega
  unfold join; rw [hlow, hhigh]; unfold adler; omega
end Go.Proofs.Ytbohhdakbgnaeaa.Ad
