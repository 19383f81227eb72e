/- Rows as differences: the pure functions. -/
import Derived.Test.YtbgaaocgdjkkeaaDoorBase
namespace Go.Proofs.YtbgaaocgdjkkeaaDoor
open Go.RowKit

namespace Fi
def far (x y : Int) : Int := if x < y then y - x else x - y
/-- The nearer one to p, of equally near ones the first. -/
def nb (p : Int) (x y : Nat) : Nat := if far p y < far p x then y else x
def near (a b c : Nat) : Nat := nb ((a : Int) + b - c) (nb ((a : Int) + b - c) a b) c
def fo (k : Int) (a b c : Nat) : Nat := if k = 1 then a else if k = 2 then b else if k = 3 then (a + b) / 2 else if k = 4 then near a b c else 0
theorem nb_lt {p : Int} {x y : Nat} (hx : x < 256) (hy : y < 256) : nb p x y < 256 := by unfold nb; split <;> assumption
theorem near_lt {a b c : Nat} (ha : a < 256) (hb : b < 256) (hc : c < 256) : near a b c < 256 := nb_lt (nb_lt ha hb) hc
theorem fo_lt {k : Int} {a b c : Nat} (ha : a < 256) (hb : b < 256) (hc : c < 256) : fo k a b c < 256 := by
  unfold fo; repeat' split
  all_goals first | omega | exact near_lt ha hb hc
/-- A row's byte, 0 where there is none. -/
def ba (l : List UInt8) (i : Int) : Nat := if i < 0 then 0 else gb l i.toNat
theorem ba_lt (l : List UInt8) (i : Int) : ba l i < 256 := by unfold ba; split; omega; exact gb_lt _ _
theorem ba_neg (l : List UInt8) {i : Int} (h : i < 0) : ba l i = 0 := if_pos h
theorem ba_nat (l : List UInt8) (i : Nat) : ba l i = gb l i := by unfold ba; rw [if_neg (by omega)]; rfl
theorem gb_out {l : List UInt8} {i : Nat} (h : l.length ≤ i) : gb l i = 0 := by simp [gb, List.getD, List.getElem?_eq_none h]
theorem ba_out {l : List UInt8} {i : Int} (h : (l.length : Int) ≤ i) : ba l i = 0 := by
  unfold ba; split
  · rfl
  · exact gb_out (by omega)
/-- What is foretold of byte i of row l behind row m. -/
def pre (k : Int) (l m : List UInt8) (p i : Nat) : Nat := fo k (ba l ((i : Int) - p)) (gb m i) (ba m ((i : Int) - p))
theorem pre_lt (k : Int) (l m : List UInt8) (p i : Nat) : pre k l m p i < 256 := fo_lt (ba_lt _ _) (gb_lt _ _) (ba_lt _ _)
theorem ba_congr {l l' : List UInt8} {i : Nat} {j : Int} (h : ∀ k, k < i → gb l k = gb l' k) (hj : j < i) : ba l j = ba l' j := by
  unfold ba; split
  · rfl
  · exact h _ (by omega)
theorem pre_congr {k : Int} {l l' m : List UInt8} {p i : Nat} (hp : 0 < p) (h : ∀ k, k < i → gb l k = gb l' k) : pre k l m p i = pre k l' m p i := by
  unfold pre; rw [ba_congr h (by omega)]
/-- Byte i filtered. -/
def fb (k : Int) (l m : List UInt8) (p i : Nat) : UInt8 := UInt8.ofNat (gb l i + 256 - pre k l m p i)
def flt (k : Int) (l m : List UInt8) (p : Nat) : List UInt8 := (List.range l.length).map (fb k l m p)
theorem flt_length (k : Int) (l m : List UInt8) (p : Nat) : (flt k l m p).length = l.length := by simp [flt]
theorem flt_take (k : Int) (l m : List UInt8) (p j : Nat) (h : j < l.length) : (flt k l m p).take (j + 1) = (flt k l m p).take j ++ [fb k l m p j] := by
  rw [List.take_succ_eq_append_getElem (by rw [flt_length]; exact h)]; simp [flt]
theorem fb_toNat (k : Int) (l m : List UInt8) (p i : Nat) : ((fb k l m p i).toNat : Int) = ((gb l i : Int) - (pre k l m p i : Nat)) % 256 := by
  have h1 := gb_lt l i
  have h2 := pre_lt k l m p i
  unfold fb
  generalize gb l i = x at *
  generalize pre k l m p i = y at *
  simp only [UInt8.toNat_ofNat']
  omega
/-- The first n bytes of the row that filtered to l. -/
def unN (k : Int) (l m : List UInt8) (p : Nat) : Nat → List UInt8
  | 0 => []
  | n + 1 => unN k l m p n ++ [UInt8.ofNat (gb l n + pre k (unN k l m p n) m p n)]
def unf (k : Int) (l m : List UInt8) (p : Nat) : List UInt8 := unN k l m p l.length
theorem unN_length (k : Int) (l m : List UInt8) (p : Nat) : ∀ n, (unN k l m p n).length = n
  | 0 => rfl
  | n + 1 => by rw [unN, List.length_append, unN_length k l m p n]; rfl
theorem unf_length (k : Int) (l m : List UInt8) (p : Nat) : (unf k l m p).length = l.length := unN_length _ _ _ _ _
theorem gb_append_left {l m : List UInt8} {i : Nat} (h : i < l.length) : gb (l ++ m) i = gb l i := by simp [gb, List.getD, List.getElem?_append_left h]
theorem gb_append_right {l m : List UInt8} {i : Nat} (h : l.length ≤ i) : gb (l ++ m) i = gb m (i - l.length) := by simp [gb, List.getD, List.getElem?_append_right h]
theorem unN_get (k : Int) (l m : List UInt8) (p : Nat) : ∀ n j i, i < n → n ≤ j → gb (unN k l m p j) i = gb (unN k l m p n) i
  | n, 0, i, hi, hj => by omega
  | n, j + 1, i, hi, hj => by
    by_cases e : n = j + 1
    · rw [e]
    · rw [unN, gb_append_left (by rw [unN_length]; omega), unN_get k l m p n j i hi (by omega)]
theorem ext_gb {l m : List UInt8} (h : l.length = m.length) (hg : ∀ i, i < l.length → gb l i = gb m i) : l = m := by
  apply List.ext_getElem h
  intro i h1 h2
  have := hg i h1
  simp only [gb, List.getD, List.getElem?_eq_getElem h1, List.getElem?_eq_getElem h2, Option.getD_some] at this
  exact UInt8.toNat_inj.1 this
theorem flt_get (k : Int) (l m : List UInt8) (p i : Nat) (h : i < l.length) : gb (flt k l m p) i = (gb l i + 256 - pre k l m p i) % 256 := by
  simp [gb, flt, fb, List.getD, List.getElem?_range h]
theorem unf_get (k : Int) (l m : List UInt8) (p i : Nat) (hp : 0 < p) (h : i < l.length) : gb (unf k l m p) i = (gb l i + pre k (unf k l m p) m p i) % 256 := by
  have e1 : pre k (unf k l m p) m p i = pre k (unN k l m p i) m p i := pre_congr hp (fun j hj => unN_get k l m p i l.length j hj (by omega))
  rw [e1]
  unfold unf
  rw [unN_get k l m p (i + 1) l.length i (by omega) (by omega), unN, gb_append_right (by rw [unN_length]; exact Nat.le_refl _), unN_length, Nat.sub_self]
  simp [gb, UInt8.toNat_ofNat']
/-- There and back. -/
theorem back (k : Int) (l m : List UInt8) (p : Nat) (hp : 0 < p) : unf k (flt k l m p) m p = l := by
  have hl : (unf k (flt k l m p) m p).length = l.length := by rw [unf_length, flt_length]
  have key : ∀ n i, i < n → i < l.length → gb (unf k (flt k l m p) m p) i = gb l i := by
    intro n
    induction n with
    | zero => intro i h; omega
    | succ n ih =>
      intro i hi hil
      by_cases e : i < n
      · exact ih i e hil
      · obtain rfl : i = n := by omega
        have h1 := unf_get k (flt k l m p) m p i hp (by rw [flt_length]; exact hil)
        rw [flt_get k l m p i hil, pre_congr (l' := l) hp (fun j hj => ih j hj (by omega))] at h1
        have h2 := pre_lt k l m p i
        have h3 := gb_lt l i
        rw [h1]; omega
  exact ext_gb hl (fun i hi => key (i + 1) i (by omega) (by rw [hl] at hi; exact hi))
theorem back2 (k : Int) (l m : List UInt8) (p : Nat) (hp : 0 < p) : flt k (unf k l m p) m p = l := by
  have hl : (flt k (unf k l m p) m p).length = l.length := by rw [flt_length, unf_length]
  refine ext_gb hl (fun i hi => ?_)
  rw [hl] at hi
  rw [flt_get _ _ _ _ _ (by rw [unf_length]; exact hi), unf_get k l m p i hp hi]
  have h2 := pre_lt k (unf k l m p) m p i
  have h3 := gb_lt l i
  omega
/-- Without a sign. -/
def wt (x : Nat) : Nat := if 127 < x then 256 - x else x
def weight (l : List UInt8) : Nat := (l.map fun x => wt x.toNat).sum
theorem wt_le (x : Nat) (h : x < 256) : wt x ≤ 128 := by unfold wt; split <;> omega
theorem weight_take (l : List UInt8) (j : Nat) (h : j < l.length) : weight (l.take (j + 1)) = weight (l.take j) + wt (gb l j) := by
  rw [take_succ_getD l j h]; simp [weight, gb]
theorem weight_le (l : List UInt8) : weight l ≤ 128 * l.length := by
  induction l with
  | nil => simp [weight]
  | cons x l ih =>
    have e : weight (x :: l) = wt x.toNat + weight l := by simp [weight]
    have := wt_le x.toNat x.toNat_lt
    rw [e, List.length_cons]; omega
/-- The kind of the least weight among the first n + 1 kinds. -/
def lightN (l m : List UInt8) (p : Nat) : Nat → Nat
  | 0 => 0
  | n + 1 => if weight (flt (n + 1 : Nat) l m p) < weight (flt (lightN l m p n : Nat) l m p) then n + 1 else lightN l m p n
def light (l m : List UInt8) (p : Nat) : Nat := lightN l m p 4
theorem lightN_le (l m : List UInt8) (p : Nat) : ∀ n, lightN l m p n ≤ n
  | 0 => Nat.le_refl _
  | n + 1 => by have := lightN_le l m p n; rw [lightN]; split <;> omega
def good (k : Int) (n m : Nat) (p : Int) : Bool := decide (0 ≤ k) && decide (k ≤ 4) && decide (1 ≤ p) && decide (p ≤ 8) && (m == 0 || m == n)
end Fi
end Go.Proofs.YtbgaaocgdjkkeaaDoor
