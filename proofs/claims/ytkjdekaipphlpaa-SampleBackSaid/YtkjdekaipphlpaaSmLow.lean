/- The bits of a row's last byte that no number has. -/
import Derived.Test.YtkjdekaipphlpaaSmPackBits
namespace Go.Proofs.Ytkjdekaipphlpaa
open Go.RowKit
namespace Sm
theorem gb_set (r : List UInt8) (j i v : Nat) (hj : j < r.length) (hv : v < 256) : gb (r.set j (UInt8.ofNat v)) i = if i = j then v else gb r i := by
  unfold gb
  simp only [List.getD, List.getElem?_set]
  by_cases h : i = j
  · subst h
    rw [if_pos rfl, if_pos rfl, if_pos hj]
    simp
    omega
  · rw [if_neg h, if_neg (fun e => h e.symm)]
theorem or_low (r : List UInt8) (n x : Nat) (hk : 0 < n % 8) (hx : x < 2 ^ (8 - n % 8)) (hn : n ≤ 8 * r.length) :
    (Bt.rbits true (r.set (n / 8) (UInt8.ofNat (gb r (n / 8) ||| x)))).take n = (Bt.rbits true r).take n := by
  have hg := gb_lt r (n / 8)
  have hx8 : x < 256 := by
    have := Bt.pow_le (8 - n % 8) 8 (by omega)
    simp only [Nat.reducePow] at this
    omega
  have hv : gb r (n / 8) ||| x < 256 := Nat.or_lt_two_pow (n := 8) hg hx8
  have hj : n / 8 < r.length := by omega
  apply List.ext_getElem?
  intro i
  by_cases hi : i < n
  · rw [List.getElem?_take, List.getElem?_take, if_pos hi, if_pos hi]
    have h1 := Bt.rbits_getD true false (r.set (n / 8) (UInt8.ofNat (gb r (n / 8) ||| x))) i (by rw [List.length_set]; omega)
    have h2 := Bt.rbits_getD true false r i (by omega)
    have e : (Bt.rbits true (r.set (n / 8) (UInt8.ofNat (gb r (n / 8) ||| x)))).getD i false = (Bt.rbits true r).getD i false := by
      rw [h1, h2, gb_set _ _ _ _ hj hv]
      simp only [if_true]
      by_cases hin : i / 8 = n / 8
      · rw [if_pos hin, Nat.testBit_or, hin, Nat.testBit_lt_two_pow (x := x) (i := 7 - i % 8) (Nat.lt_of_lt_of_le hx (Bt.pow_le _ _ (by omega))), Bool.or_false]
      · rw [if_neg hin]
    have l1 : i < (Bt.rbits true (r.set (n / 8) (UInt8.ofNat (gb r (n / 8) ||| x)))).length := by rw [Bt.rbits_length, List.length_set]; omega
    have l2 : i < (Bt.rbits true r).length := by rw [Bt.rbits_length]; omega
    simp only [List.getD, List.getElem?_eq_getElem l1, List.getElem?_eq_getElem l2, Option.getD_some] at e
    rw [List.getElem?_eq_getElem l1, List.getElem?_eq_getElem l2, e]
  · rw [List.getElem?_eq_none (by rw [List.length_take]; omega), List.getElem?_eq_none (by rw [List.length_take]; omega)]
/-- What is read of a row are its numbers, whatever the left bits are. -/
theorem back_low (d : Nat) (l : List Int) (h : allIn d l = true) (x : Nat) (hk : 0 < (l.length * d) % 8) (hx : x < 2 ^ (8 - (l.length * d) % 8)) :
    vals d (Bt.rbits true ((row d l).set (l.length * d / 8) (UInt8.ofNat (gb (row d l) (l.length * d / 8) ||| x)))) l.length = l := by
  have hrl := row_length d l
  rw [vals_take d _ (Bt.rbits true (row d l)) l.length (or_low _ _ _ hk hx (by omega)), row_bits, vals_enc]
  intro n hn
  exact List.all_eq_true.1 h n hn
theorem back_row (d : Nat) (l : List Int) (h : allIn d l = true) : vals d (Bt.rbits true (row d l)) l.length = l := by
  rw [row_bits, vals_enc]
  intro n hn
  exact List.all_eq_true.1 h n hn
theorem low_val (x F k : Nat) (hx : x < 256) (hF : F < 256) (hk : k ≤ 7) :
    bits .or .u8 (x : Int) (bits .and .u8 (F : Int) ((2 ^ k - 1) % 256)) = ((x ||| (F &&& (2 ^ k - 1)) : Nat) : Int) := by
  have h1 := Bt.pow_le k 7 hk
  have h0 : 0 < 2 ^ k := Nat.pow_pos (by omega)
  simp only [Nat.reducePow] at h1
  have e : ((2 : Int) ^ k - 1) % 256 = ((2 ^ k - 1 : Nat) : Int) := by
    rw [Bt.pow_cast]
    generalize 2 ^ k = p at *
    omega
  rw [e]
  have hm : F &&& (2 ^ k - 1) < 256 := Nat.lt_of_le_of_lt Nat.and_le_left hF
  have e2 : bits .and .u8 (F : Int) ((2 ^ k - 1 : Nat) : Int) = ((F &&& (2 ^ k - 1) : Nat) : Int) := by
    generalize 2 ^ k - 1 = m at *
    have hm2 : m < 256 := by omega
    show IntKind.u8.wrap ((BitVec.ofInt 8 (F : Int) &&& BitVec.ofInt 8 (m : Int)).toNat : Int) = _
    rw [BitVec.toNat_and, BitVec.ofInt_natCast, BitVec.ofInt_natCast, BitVec.toNat_ofNat, BitVec.toNat_ofNat, Nat.mod_eq_of_lt (by omega), Nat.mod_eq_of_lt (by omega)]
    exact IntWalk.u8_in _ ⟨by omega, by omega⟩
  rw [e2]
  exact u8_or_nat x _ hx hm
theorem and_low (F k : Nat) : F &&& (2 ^ k - 1) < 2 ^ k := by
  have h0 : 0 < 2 ^ k := Nat.pow_pos (by omega)
  exact Nat.lt_of_le_of_lt Nat.and_le_right (by omega)
end Sm
end Go.Proofs.Ytkjdekaipphlpaa
