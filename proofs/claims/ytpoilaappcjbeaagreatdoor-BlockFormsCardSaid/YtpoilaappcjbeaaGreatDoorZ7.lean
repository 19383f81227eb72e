/- Bits in bytes, as lists. Canonical codes as lists of bits. The best lengths are in form: whole, in order, and what they cost. -/
import Derived.Test.YtpoilaappcjbeaaGreatDoorZ6
set_option linter.unusedSimpArgs false
set_option linter.unusedVariables false
section
namespace Go.Proofs.YtpoilaappcjbeaaGreatDoor
open Go.RowKit

theorem i64_wrap_small (n : Nat) (h : n < 9223372036854775808) : IntKind.i64.wrap (n : Int) = n := IntWalk.i64_in _ ⟨by omega, by omega⟩
theorem ofInt_64 (a : Nat) (ha : a < 9223372036854775808) : (BitVec.ofInt 64 (a : Int)).toNat = a := by
  rw [BitVec.ofInt_natCast, BitVec.toNat_ofNat]; exact Nat.mod_eq_of_lt (by omega)
theorem i64_and_nat (a b : Nat) (ha : a < 9223372036854775808) (hb : b < 9223372036854775808) : bits .and .i64 (a : Int) (b : Int) = ((a &&& b : Nat) : Int) := by
  have hx : a &&& b < 2 ^ 63 := Nat.and_lt_two_pow _ (by omega)
  show IntKind.i64.wrap ((BitVec.ofInt 64 (a : Int) &&& BitVec.ofInt 64 (b : Int)).toNat : Int) = _
  rw [BitVec.toNat_and, ofInt_64 a ha, ofInt_64 b hb, i64_wrap_small _ (by omega)]
theorem i64_or_nat (a b : Nat) (ha : a < 9223372036854775808) (hb : b < 9223372036854775808) : bits .or .i64 (a : Int) (b : Int) = ((a ||| b : Nat) : Int) := by
  have hx : a ||| b < 2 ^ 63 := Nat.or_lt_two_pow (by omega) (by omega)
  show IntKind.i64.wrap ((BitVec.ofInt 64 (a : Int) ||| BitVec.ofInt 64 (b : Int)).toNat : Int) = _
  rw [BitVec.toNat_or, ofInt_64 a ha, ofInt_64 b hb, i64_wrap_small _ (by omega)]
theorem i64_and_neg7 (n : Nat) (h : n < 9223372036854775808) : bits .and .i64 (-(n : Int)) 7 = (((8 - n % 8) % 8 : Nat) : Int) := by
  show IntKind.i64.wrap ((BitVec.ofInt 64 (-(n : Int)) &&& BitVec.ofInt 64 ((7 : Nat) : Int)).toNat : Int) = _
  rw [BitVec.toNat_and, ofInt_64 7 (by omega)]
  have e : (BitVec.ofInt 64 (-(n : Int))).toNat % 8 = (8 - n % 8) % 8 := by
    rw [BitVec.toNat_ofInt]; omega
  have e2 := Nat.and_two_pow_sub_one_eq_mod ((BitVec.ofInt 64 (-(n : Int))).toNat) 3
  simp only [Nat.reducePow, Nat.reduceSub] at e2
  rw [e2, e, i64_wrap_small _ (by omega)]

namespace Bt
theorem pow_cast (n : Nat) : (2 : Int) ^ n = ((2 ^ n : Nat) : Int) := by simp
theorem pow_le (n m : Nat) (h : n ≤ m) : 2 ^ n ≤ 2 ^ m := Nat.pow_le_pow_right (by omega) h
theorem mask_wrap (n : Nat) (h : n ≤ 32) : wrap64 (wrap64 (2 ^ n) - 1) = ((2 ^ n - 1 : Nat) : Int) := by
  have h1 := pow_le n 32 h
  have h2 : 0 < 2 ^ n := Nat.pow_pos (by omega)
  rw [pow_cast]
  generalize 2 ^ n = x at *
  simp only [Nat.reducePow] at h1
  unfold wrap64
  omega
theorem wrapEq (x : Int) : IntKind.i64.wrap x = wrap64 x := by unfold wrap64; exact IntKind.wrap_i64 x
theorem part_val (n sh s : Nat) (hn : n < 4294967296) (hsh : sh ≤ 64) (hs : s ≤ 32) :
    bits .and .i64 ((n : Int) / 2 ^ min sh 64) (IntKind.i64.wrap (IntKind.i64.wrap (2 ^ s) - 1)) = ((n >>> sh &&& (2 ^ s - 1) : Nat) : Int) := by
  rw [wrapEq, wrapEq, mask_wrap s hs, show min sh 64 = sh by omega]
  have e : (n : Int) / 2 ^ sh = ((n >>> sh : Nat) : Int) := by
    rw [Nat.shiftRight_eq_div_pow, pow_cast]; omega
  have h1 : n >>> sh ≤ n := by rw [Nat.shiftRight_eq_div_pow]; exact Nat.div_le_self _ _
  have h2 := pow_le s 32 hs
  rw [e]
  generalize 2 ^ s = x at *
  simp only [Nat.reducePow] at h2
  exact i64_and_nat _ _ (by omega) (by omega)
theorem shl_lt (p s sh m : Nat) (hp : p < 2 ^ s) (hs : sh + s ≤ m) : p <<< sh < 2 ^ m := by
  rw [Nat.shiftLeft_eq]
  have h1 : p * 2 ^ sh < 2 ^ s * 2 ^ sh := Nat.mul_lt_mul_of_pos_right hp (Nat.pow_pos (by omega))
  rw [← Nat.pow_add] at h1
  exact Nat.lt_of_lt_of_le h1 (pow_le _ _ (by omega))
theorem or_val (x p s sh : Nat) (hx : x < 256) (hp : p < 2 ^ s) (hs : sh + s ≤ 8) :
    bits .or .u8 (x : Int) (IntKind.u8.wrap (IntKind.i64.wrap ((p : Int) * 2 ^ min sh 64))) = ((x ||| p <<< sh : Nat) : Int) ∧ x ||| p <<< sh < 256 := by
  have h1 := shl_lt p s sh 8 hp hs
  rw [show min sh 64 = sh by omega, pow_cast, show (p : Int) * ((2 ^ sh : Nat) : Int) = ((p <<< sh : Nat) : Int) by rw [Nat.shiftLeft_eq]; simp]
  generalize p <<< sh = y at *
  simp only [Nat.reducePow] at h1
  rw [IntWalk.i64_in _ ⟨by omega, by omega⟩, IntWalk.u8_in _ ⟨by omega, by omega⟩]
  exact ⟨u8_or_nat x y hx h1, Nat.or_lt_two_pow (n := 8) hx h1⟩
/-- A number's bits in an order. -/
def dg (h : Bool) (n c : Nat) : List Bool := (List.range c).map fun i => n.testBit (if h then c - 1 - i else i)
/-- The number of bits, the first one the highest. -/
def numH (l : List Bool) : Nat := l.foldl (fun a b => 2 * a + b.toNat) 0
/-- The number of bits in an order. -/
def num (h : Bool) (l : List Bool) : Nat := numH (if h then l else l.reverse)
/-- Byte k of bits, what is left filled. -/
def pk (h f : Bool) (l : List Bool) (k : Nat) : Nat := num h ((List.range 8).map fun i => l.getD (8 * k + i) f)
/-- Bits as bytes, what is left filled. -/
def packs (h f : Bool) (l : List Bool) : List UInt8 := (List.range ((l.length + 7) / 8)).map fun k => UInt8.ofNat (pk h f l k)
/-- Bytes as bits. -/
def rbits (h : Bool) (l : List UInt8) : List Bool := l.flatMap fun x => dg h x.toNat 8

theorem dg_length (h : Bool) (n c : Nat) : (dg h n c).length = c := by simp [dg]
theorem dg_getD (h : Bool) (n c i : Nat) (f : Bool) (hi : i < c) : (dg h n c).getD i f = n.testBit (if h then c - 1 - i else i) := by
  simp [dg, List.getD, List.getElem?_range hi]
theorem numH_snoc (l : List Bool) (b : Bool) : numH (l ++ [b]) = 2 * numH l + b.toNat := by simp [numH]
theorem testBit_double (a : Nat) (b : Bool) (i : Nat) : (2 * a + b.toNat).testBit i = if i = 0 then b else a.testBit (i - 1) := by
  cases i with
  | zero => cases b <;> simp [Nat.testBit_zero] <;> omega
  | succ i =>
    rw [Nat.testBit_succ]
    have : (2 * a + b.toNat) / 2 = a := by cases b <;> simp <;> omega
    rw [this]; simp
theorem numH_testBit (l : List Bool) : ∀ i, (numH l).testBit i = (decide (i < l.length) && l.getD (l.length - 1 - i) false) := by
  suffices ∀ (r : List Bool) (i : Nat), (numH r.reverse).testBit i = (decide (i < r.reverse.length) && r.reverse.getD (r.reverse.length - 1 - i) false) by
    intro i
    have := this l.reverse i
    rwa [List.reverse_reverse] at this
  intro r
  induction r with
  | nil => intro i; simp [numH]
  | cons b r ih =>
    intro i
    rw [List.reverse_cons, numH_snoc, testBit_double]
    cases i with
    | zero => simp [List.getD]
    | succ i =>
      rw [if_neg (by omega), Nat.add_sub_cancel, ih i]
      simp only [List.length_append, List.length_reverse, List.length_cons, List.length_nil]
      by_cases hi : i < r.length
      · have e : r.length + (0 + 1) - 1 - (i + 1) = r.length - 1 - i := by omega
        rw [e]
        simp only [List.getD]
        rw [List.getElem?_append_left (by simp; omega)]
        simp [hi]
      · simp [hi]
theorem num_testBit (h : Bool) (l : List Bool) (i : Nat) : (num h l).testBit i = (decide (i < l.length) && l.getD (if h then l.length - 1 - i else i) false) := by
  cases h
  · simp only [num]
    rw [numH_testBit]
    by_cases hi : i < l.length
    · simp only [Bool.false_eq_true, if_false, List.length_reverse, hi, decide_true, Bool.true_and, List.getD]
      rw [List.getElem?_reverse (by omega)]
      congr 2
      omega
    · simp [hi]
  · simp only [num]
    rw [numH_testBit]
    simp
theorem num_lt (h : Bool) (l : List Bool) : num h l < 2 ^ l.length := by
  apply Nat.lt_pow_two_of_testBit
  intro i hi
  rw [num_testBit]
  simp; omega
theorem num_dg (h : Bool) (n c : Nat) (hn : n < 2 ^ c) : num h (dg h n c) = n := by
  apply Nat.eq_of_testBit_eq
  intro i
  rw [num_testBit, dg_length]
  by_cases hi : i < c
  · have e : (dg h n c).getD (if h then c - 1 - i else i) false = n.testBit i := by
      cases h
      · simp only [Bool.false_eq_true, if_false]; rw [dg_getD _ _ _ _ _ hi]; simp
      · simp only [if_true]; rw [dg_getD _ _ _ _ _ (by omega)]; simp only [if_true]; congr 1; omega
    rw [e]; simp [hi]
  · rw [Nat.testBit_lt_two_pow (Nat.lt_of_lt_of_le hn (Nat.pow_le_pow_right (by omega) (by omega)))]
    simp [hi]
theorem pk_lt (h f : Bool) (l : List Bool) (k : Nat) : pk h f l k < 256 := by
  have := num_lt h ((List.range 8).map fun i => l.getD (8 * k + i) f)
  simpa [pk] using this
theorem pk_testBit (h f : Bool) (l : List Bool) (k j : Nat) : (pk h f l k).testBit j = (decide (j < 8) && l.getD (8 * k + (if h then 7 - j else j)) f) := by
  unfold pk
  rw [num_testBit]
  simp only [List.length_map, List.length_range]
  by_cases hj : j < 8
  · have e : (if h = true then 8 - 1 - j else j) < 8 := by split <;> omega
    simp only [hj, decide_true, Bool.true_and, List.getD]
    rw [List.getElem?_map, List.getElem?_range e]
    simp
  · simp [hj]
theorem packs_length (h f : Bool) (l : List Bool) : (packs h f l).length = (l.length + 7) / 8 := by simp [packs]
theorem packs_get (h f : Bool) (l : List Bool) (k : Nat) (hk : k < (l.length + 7) / 8) : (packs h f l)[k]? = some (UInt8.ofNat (pk h f l k)) := by
  simp [packs, List.getElem?_range hk]
theorem gb_packs (h f : Bool) (l : List Bool) (k : Nat) (hk : k < (l.length + 7) / 8) : gb (packs h f l) k = pk h f l k := by
  have := pk_lt h f l k
  simp only [gb, List.getD, packs_get h f l k hk, Option.getD_some]
  simp; omega
theorem getD_app_left (l m : List Bool) (i : Nat) (f : Bool) (h : i < l.length) : (l ++ m).getD i f = l.getD i f := by
  simp only [List.getD]; rw [List.getElem?_append_left h]
theorem getD_app_right (l m : List Bool) (i : Nat) (f : Bool) (h : l.length ≤ i) : (l ++ m).getD i f = m.getD (i - l.length) f := by
  simp only [List.getD]; rw [List.getElem?_append_right h]
theorem getD_out (l : List Bool) (i : Nat) (f : Bool) (h : l.length ≤ i) : l.getD i f = f := by
  simp only [List.getD]; rw [List.getElem?_eq_none h]; rfl
/-- What a byte is added to. -/
def base (h : Bool) (m : List Bool) : List UInt8 := if m.length % 8 = 0 then packs h false m ++ [0] else packs h false m
theorem base_length (h : Bool) (m : List Bool) : (base h m).length = m.length / 8 + 1 := by
  unfold base; split <;> simp [packs_length] <;> omega
def shf (h : Bool) (size fro some : Nat) : Nat := if h then size - fro - some else fro
theorem pk_same (h : Bool) (m cs : List Bool) (k : Nat) (hk : 8 * k + 8 ≤ m.length) : pk h false (m ++ cs) k = pk h false m k := by
  apply Nat.eq_of_testBit_eq
  intro j
  rw [pk_testBit, pk_testBit]
  by_cases hj : j < 8
  · rw [getD_app_left _ _ _ _ (by split <;> omega)]
  · simp [hj]
theorem gb_base_last (h : Bool) (m : List Bool) : gb (base h m) (m.length / 8) = pk h false m (m.length / 8) := by
  unfold base
  split
  · rename_i h0
    have e : pk h false m (m.length / 8) = 0 := by
      apply Nat.eq_of_testBit_eq
      intro j
      rw [pk_testBit, getD_out _ _ _ (by omega)]; simp
    rw [e]
    simp only [gb, List.getD]
    rw [List.getElem?_append_right (by simp [packs_length]; omega)]
    have : m.length / 8 - (packs h false m).length = 0 := by simp [packs_length]; omega
    rw [this]; rfl
  · rw [gb_packs _ _ _ _ (by omega)]
theorem packs_step (h : Bool) (m cs : List Bool) (s : Nat) (hs : cs.length = s) (h1 : 1 ≤ s) (h8 : m.length % 8 + s ≤ 8) :
    packs h false (m ++ cs) = (base h m).set (m.length / 8) (UInt8.ofNat (gb (base h m) (m.length / 8) ||| num h cs <<< shf h 8 (m.length % 8) s)) := by
  have hlen : (m ++ cs).length = m.length + s := by simp [hs]
  apply List.ext_getElem?
  intro k
  rw [List.getElem?_set]
  by_cases hk : k < m.length / 8 + 1
  · rw [packs_get _ _ _ _ (by rw [hlen]; omega)]
    by_cases he : m.length / 8 = k
    · subst he
      rw [if_pos rfl, if_pos (by rw [base_length]; omega), gb_base_last]
      congr 2
      apply Nat.eq_of_testBit_eq
      intro j
      rw [Nat.testBit_or, pk_testBit, pk_testBit, Nat.testBit_shiftLeft, num_testBit, hs]
      by_cases hj : j < 8
      · cases h
        · simp only [Bool.false_eq_true, if_false, shf, hj, decide_true, Bool.true_and]
          by_cases ha : j < m.length % 8
          · rw [getD_app_left _ _ _ _ (by omega)]
            have : ¬ m.length % 8 ≤ j := by omega
            simp [this]
          · rw [getD_app_right _ _ _ _ (by omega), getD_out m _ _ (by omega)]
            have e : 8 * (m.length / 8) + j - m.length = j - m.length % 8 := by omega
            have : m.length % 8 ≤ j := by omega
            rw [e]
            by_cases hb : j - m.length % 8 < s
            · simp [this, hb]
            · rw [getD_out cs _ _ (by omega)]; simp
        · simp only [if_true, shf, hj, decide_true, Bool.true_and]
          by_cases ha : 7 - j < m.length % 8
          · rw [getD_app_left _ _ _ _ (by omega)]
            have : ¬ j - (8 - m.length % 8 - s) < s := by omega
            simp [this]
          · rw [getD_app_right _ _ _ _ (by omega), getD_out m _ _ (by omega)]
            have e : 8 * (m.length / 8) + (7 - j) - m.length = 7 - j - m.length % 8 := by omega
            rw [e]
            by_cases hb : 8 - m.length % 8 - s ≤ j
            · have hb2 : j - (8 - m.length % 8 - s) < s := by omega
              have e2 : s - 1 - (j - (8 - m.length % 8 - s)) = 7 - j - m.length % 8 := by omega
              rw [e2]; simp [hb, hb2]
            · rw [getD_out cs _ _ (by omega)]; simp [hb]
      · have e3 : ¬ (j - shf h 8 (m.length % 8) s < s) := by cases h <;> simp [shf] <;> omega
        simp [hj, e3]
    · rw [if_neg he]
      unfold base
      split
      · rw [List.getElem?_append_left (by rw [packs_length]; omega), packs_get _ _ _ _ (by omega), pk_same _ _ _ _ (by omega)]
      · rw [packs_get _ _ _ _ (by omega), pk_same _ _ _ _ (by omega)]
  · rw [if_neg (by omega), List.getElem?_eq_none (by rw [packs_length, hlen]; omega), List.getElem?_eq_none (by rw [base_length]; omega)]
/-- Some bits of a number. -/
theorem part_num (h : Bool) (n c d s : Nat) (hd : d + s ≤ c) : (n >>> shf h c d s) &&& (2 ^ s - 1) = num h (((dg h n c).drop d).take s) := by
  apply Nat.eq_of_testBit_eq
  intro i
  rw [Nat.testBit_and, Nat.testBit_shiftRight, Nat.testBit_two_pow_sub_one, num_testBit]
  have hl : (((dg h n c).drop d).take s).length = s := by simp [dg_length]; omega
  rw [hl]
  by_cases hi : i < s
  · have e : (((dg h n c).drop d).take s).getD (if h then s - 1 - i else i) false = n.testBit (shf h c d s + i) := by
      have hx : (if h then s - 1 - i else i) < s := by split <;> omega
      simp only [List.getD]
      rw [List.getElem?_take, if_pos hx, List.getElem?_drop]
      have := dg_getD h n c (d + (if h then s - 1 - i else i)) false (by omega)
      simp only [List.getD] at this
      rw [this]
      congr 1
      cases h <;> simp [shf] <;> omega
    rw [e]; simp [hi]
  · simp [hi]
theorem take_add (l : List Bool) (d s : Nat) : l.take (d + s) = l.take d ++ (l.drop d).take s := List.take_add
theorem fi_dg (h : Bool) (c : Nat) : dg h (if h then 2 ^ c - 1 else 0) c = List.replicate c h := by
  apply List.ext_getElem?
  intro i
  by_cases hi : i < c
  · have := dg_getD h (if h then 2 ^ c - 1 else 0) c i false hi
    simp only [dg, List.getElem?_map, List.getElem?_range hi, List.getElem?_replicate, hi, if_true, Option.map_some]
    cases h
    · simp
    · simp only [if_true]; rw [Nat.testBit_two_pow_sub_one]; simp; omega
  · rw [List.getElem?_eq_none (by rw [dg_length]; omega), List.getElem?_eq_none (by simp; omega)]
/-- The last byte is completed. -/
theorem packs_fill (h : Bool) (l : List Bool) (hl : 0 < l.length) :
    packs h h l = (packs h false l).set ((packs h false l).length - 1) (UInt8.ofNat (gb (packs h false l) ((packs h false l).length - 1) ||| (if h then 2 ^ ((8 - l.length % 8) % 8) - 1 else 0))) := by
  rw [packs_length]
  apply List.ext_getElem?
  intro k
  rw [List.getElem?_set, packs_length]
  by_cases hk : k < (l.length + 7) / 8
  · rw [packs_get _ _ _ _ hk, packs_get _ _ _ _ hk]
    by_cases he : (l.length + 7) / 8 - 1 = k
    · rw [if_pos he, if_pos (by omega), gb_packs _ _ _ _ (by omega), he]
      congr 2
      apply Nat.eq_of_testBit_eq
      intro j
      rw [Nat.testBit_or, pk_testBit, pk_testBit]
      cases h
      · simp
      · simp only [if_true, Nat.testBit_two_pow_sub_one]
        by_cases hj : j < 8
        · simp only [hj, decide_true, Bool.true_and]
          by_cases ha : 8 * k + (7 - j) < l.length
          · have e : ¬ j < (8 - l.length % 8) % 8 := by omega
            simp only [e, decide_false, Bool.or_false, List.getD]
            rw [List.getElem?_eq_getElem ha]; rfl
          · rw [getD_out _ _ _ (by omega)]
            have e : j < (8 - l.length % 8) % 8 := by omega
            simp [e]
        · have e : ¬ j < (8 - l.length % 8) % 8 := by omega
          simp [hj, e]
    · rw [if_neg he]
      congr 2
      apply Nat.eq_of_testBit_eq
      intro j
      rw [pk_testBit, pk_testBit]
      by_cases hj : j < 8
      · have ha : 8 * k + (if h then 7 - j else j) < l.length := by split <;> omega
        simp only [List.getD]
        rw [List.getElem?_eq_getElem ha]; rfl
      · simp [hj]
  · rw [List.getElem?_eq_none (by rw [packs_length]; omega)]
    split
    · rw [if_neg (by omega)]
    · rw [List.getElem?_eq_none (by rw [packs_length]; omega)]

theorem rbits_length (h : Bool) (l : List UInt8) : (rbits h l).length = 8 * l.length := by
  induction l with
  | nil => rfl
  | cons x l ih => simp only [rbits, List.flatMap_cons, List.length_append, dg_length, List.length_cons] at *; omega
theorem rbits_getD (h f : Bool) (l : List UInt8) : ∀ i, i < 8 * l.length → (rbits h l).getD i f = (gb l (i / 8)).testBit (if h then 7 - i % 8 else i % 8) := by
  induction l with
  | nil => intro i hi; simp at hi
  | cons x l ih =>
    intro i hi
    have e : rbits h (x :: l) = dg h x.toNat 8 ++ rbits h l := rfl
    rw [e]
    by_cases h8 : i < 8
    · rw [getD_app_left _ _ _ _ (by rw [dg_length]; omega), dg_getD _ _ _ _ _ h8]
      have e1 : i / 8 = 0 := by omega
      have e2 : i % 8 = i := by omega
      rw [e1, e2]; rfl
    · rw [getD_app_right _ _ _ _ (by rw [dg_length]; omega), dg_length, ih (i - 8) (by simp at hi; omega)]
      have e1 : i / 8 = (i - 8) / 8 + 1 := by omega
      have e2 : (i - 8) % 8 = i % 8 := by omega
      rw [e1, e2]; rfl
/-- Some bits of a byte. -/
theorem part_byte (h : Bool) (l : List UInt8) (p s : Nat) (hp : p % 8 + s ≤ 8) (hl : p + s ≤ 8 * l.length) (h1 : 1 ≤ s) :
    (gb l (p / 8) >>> shf h 8 (p % 8) s) &&& (2 ^ s - 1) = num h (((rbits h l).drop p).take s) := by
  apply Nat.eq_of_testBit_eq
  intro i
  rw [Nat.testBit_and, Nat.testBit_shiftRight, Nat.testBit_two_pow_sub_one, num_testBit]
  have hlen : (((rbits h l).drop p).take s).length = s := by simp [rbits_length]; omega
  rw [hlen]
  by_cases hi : i < s
  · have hx : (if h then s - 1 - i else i) < s := by split <;> omega
    have e : (((rbits h l).drop p).take s).getD (if h then s - 1 - i else i) false = (gb l (p / 8)).testBit (shf h 8 (p % 8) s + i) := by
      simp only [List.getD]
      rw [List.getElem?_take, if_pos hx, List.getElem?_drop]
      have := rbits_getD h false l (p + (if h then s - 1 - i else i)) (by omega)
      simp only [List.getD] at this
      rw [this]
      have e1 : (p + (if h then s - 1 - i else i)) / 8 = p / 8 := by omega
      have e2 : (p + (if h then s - 1 - i else i)) % 8 = p % 8 + (if h then s - 1 - i else i) := by omega
      rw [e1, e2]
      congr 1
      cases h <;> simp [shf] <;> omega
    rw [e]; simp [hi]
  · simp [hi]
/-- What is read of c bits behind d of them. -/
def tk (h : Bool) (l : List Bool) (c d : Nat) : Nat := num h (l.take d ++ List.replicate (c - d) false)
theorem tk_zero (h : Bool) (l : List Bool) (c : Nat) : tk h l c 0 = 0 := by
  apply Nat.eq_of_testBit_eq
  intro i
  rw [tk, num_testBit]
  have rep : ∀ k j, (List.replicate k false).getD j false = false := by
    intro k j; simp [List.getD, List.getElem?_replicate]; split <;> rfl
  simp only [List.take_zero, List.nil_append, rep]; simp
theorem tk_full (h : Bool) (l : List Bool) (c : Nat) : tk h l c c = num h (l.take c) := by simp [tk]
theorem tk_lt (h : Bool) (l : List Bool) (c d : Nat) (hd : d ≤ c) : tk h l c d < 2 ^ c := by
  refine Nat.lt_of_lt_of_le (num_lt h _) (Nat.pow_le_pow_right (by omega) ?_)
  simp; omega
theorem tk_step (h : Bool) (l : List Bool) (c d s : Nat) (hd : d + s ≤ c) (hl : c ≤ l.length) (h1 : 1 ≤ s) :
    tk h l c (d + s) = tk h l c d ||| num h ((l.drop d).take s) <<< shf h c d s := by
  apply Nat.eq_of_testBit_eq
  intro i
  rw [Nat.testBit_or, Nat.testBit_shiftLeft, tk, tk, num_testBit, num_testBit, num_testBit]
  have e1 : (l.take (d + s) ++ List.replicate (c - (d + s)) false).length = c := by simp; omega
  have e2 : (l.take d ++ List.replicate (c - d) false).length = c := by simp; omega
  have e3 : ((l.drop d).take s).length = s := by simp; omega
  have rep : ∀ k j, (List.replicate k false).getD j false = false := by
    intro k j; simp [List.getD, List.getElem?_replicate]; split <;> rfl
  have tg : ∀ m j, m ≤ l.length → (l.take m ++ List.replicate (c - m) false).getD j false = (decide (j < m) && l.getD j false) := by
    intro m j hm
    by_cases hj : j < m
    · rw [getD_app_left _ _ _ _ (by simp; omega)]
      simp [List.getD, List.getElem?_take, hj]
    · rw [getD_app_right _ _ _ _ (by simp; omega), rep]; simp [hj]
  have cg : ∀ j, ((l.drop d).take s).getD j false = (decide (j < s) && l.getD (d + j) false) := by
    intro j
    by_cases hj : j < s
    · simp [List.getD, List.getElem?_take, hj, List.getElem?_drop]
    · rw [getD_out _ _ _ (by simp; omega)]; simp [hj]
  rw [e1, e2, e3, tg _ _ (by omega), tg _ _ (by omega), cg]
  by_cases hi : i < c
  · cases h
    · simp only [Bool.false_eq_true, if_false, shf, hi, decide_true, Bool.true_and]
      by_cases a : i < d
      · have : ¬ d ≤ i := by omega
        have a2 : i < d + s := by omega
        simp [a, a2, this]
      · have a3 : d ≤ i := by omega
        by_cases b : i < d + s
        · have : i - d < s := by omega
          have e : d + (i - d) = i := by omega
          simp [a, b, a3, this, e]
        · have : ¬ i - d < s := by omega
          simp [a, b, this]
    · simp only [if_true, shf, hi, decide_true, Bool.true_and]
      by_cases a : c - 1 - i < d
      · have : ¬ i - (c - d - s) < s := by omega
        have a2 : c - 1 - i < d + s := by omega
        simp [a, a2, this]
      · by_cases b : c - 1 - i < d + s
        · have a3 : c - d - s ≤ i := by omega
          have a4 : i - (c - d - s) < s := by omega
          have a5 : s - 1 - (i - (c - d - s)) < s := by omega
          have e : d + (s - 1 - (i - (c - d - s))) = c - 1 - i := by omega
          simp [a, b, a3, a4, a5, e]
        · have : ¬ c - d - s ≤ i := by omega
          simp [a, b, this]
  · have e4 : ¬ (i - shf h c d s < s) := by cases h <;> simp [shf] <;> omega
    simp [hi, e4]
/-- What was written is there to be read, the last byte completed. -/
theorem rbits_packs (h f : Bool) (l : List Bool) : rbits h (packs h f l) = l ++ List.replicate ((8 - l.length % 8) % 8) f := by
  have hlen : (rbits h (packs h f l)).length = (l ++ List.replicate ((8 - l.length % 8) % 8) f).length := by
    rw [rbits_length, packs_length]; simp; omega
  apply List.ext_getElem?
  intro i
  by_cases hi : i < (rbits h (packs h f l)).length
  · have h1 : (rbits h (packs h f l)).getD i f = (l ++ List.replicate ((8 - l.length % 8) % 8) f).getD i f := by
      rw [rbits_length] at hi
      rw [rbits_getD _ _ _ _ hi]
      rw [packs_length] at hi
      rw [gb_packs _ _ _ _ (by omega), pk_testBit]
      have e : (if h then 7 - i % 8 else i % 8) < 8 := by split <;> omega
      have e2 : 8 * (i / 8) + (if h then 7 - (if h then 7 - i % 8 else i % 8) else (if h then 7 - i % 8 else i % 8)) = i := by cases h <;> simp <;> omega
      rw [e2]
      simp only [e, decide_true, Bool.true_and]
      by_cases hil : i < l.length
      · rw [getD_app_left _ _ _ _ hil]
      · rw [getD_app_right _ _ _ _ (by omega), getD_out _ _ _ (by omega)]
        simp only [List.getD, List.getElem?_replicate]
        split <;> rfl
    simp only [List.getD] at h1
    rw [List.getElem?_eq_getElem hi, List.getElem?_eq_getElem (by omega)] at h1 ⊢
    simpa using h1
  · rw [List.getElem?_eq_none (by omega), List.getElem?_eq_none (by omega)]
end Bt
end Go.Proofs.YtpoilaappcjbeaaGreatDoor
end

section
namespace Go.Proofs.YtpoilaappcjbeaaGreatDoor
open Go.RowKit
namespace Cn
/-- What is free of lengths in form. -/
def part (n : Int) : Nat := if n ≤ 0 then 0 else 65536 / 2 ^ n.toNat
def sum (l : List Int) : Nat := (l.map part).sum
def formB (l : List Int) : Bool := decide (l.length ≤ 512) && l.all fun n => decide (0 ≤ n ∧ n ≤ 16)
/-- What the document answers for what is free. -/
def freeN (l : List Int) : Int := if formB l then 65536 - (sum l : Int) else 0
def freeB (l : List Int) : Bool := formB l && decide (sum l ≤ 65536)
theorem form_bad (l : List Int) (k : Nat) (hk : k < l.length) (h : l.getD k 0 < 0 ∨ 16 < l.getD k 0) : formB l = false := by
  have hm : l.getD k 0 ∈ l := by simp [List.getD, List.getElem?_eq_getElem hk]
  unfold formB
  rw [Bool.and_eq_false_iff]
  right
  rw [List.all_eq_false]
  generalize l.getD k 0 = z at *
  exact ⟨z, hm, by simp; omega⟩
theorem form_good (l : List Int) (hl : l.length ≤ 512) (h : ∀ k, k < l.length → 0 ≤ l.getD k 0 ∧ l.getD k 0 ≤ 16) : formB l = true := by
  unfold formB
  rw [Bool.and_eq_true, List.all_eq_true]
  refine ⟨by simpa using hl, fun n hn => ?_⟩
  obtain ⟨k, hk, rfl⟩ := List.getElem_of_mem hn
  have := h k hk
  simpa [List.getD, List.getElem?_eq_getElem hk] using this
theorem form_big (l : List Int) (hl : 512 < l.length) : formB l = false := by unfold formB; simp; omega
theorem part_le (n : Int) : part n ≤ 65536 := by
  unfold part; split
  · omega
  · exact Nat.div_le_self _ _
theorem sum_snoc (l : List Int) (n : Int) : sum (l ++ [n]) = sum l + part n := by simp [sum]
theorem sum_le (l : List Int) : sum l ≤ 65536 * l.length := by
  induction l with
  | nil => simp [sum]
  | cons n l ih => have := part_le n; simp only [sum, List.map_cons, List.sum_cons, List.length_cons] at *; omega
/-- A code plus 1, the last bit first. -/
def incR : List Bool → List Bool
  | [] => []
  | false :: r => true :: r
  | true :: r => false :: incR r
def plus (l : List Bool) : List Bool := (incR l.reverse).reverse
theorem incR_length (l : List Bool) : (incR l).length = l.length := by
  induction l with
  | nil => rfl
  | cons b l ih => cases b <;> simp [incR, ih]
theorem plus_length (l : List Bool) : (plus l).length = l.length := by simp [plus, incR_length]
/-- Some bits more. -/
def pad (b : List Bool) (n : Int) : List Bool := b ++ List.replicate (n.toNat - b.length) false
/-- The next code behind these. -/
def nxt (prev : List (List Bool)) (n : Int) : List Bool := pad (match prev.getLast? with | none => [] | some b => plus b) n
def codes (sizes : List Int) : List (List Bool) := sizes.foldl (fun acc n => acc ++ [nxt acc n]) []
theorem codes_snoc (l : List Int) (n : Int) : codes (l ++ [n]) = codes l ++ [nxt (codes l) n] := by simp [codes]
theorem codes_length (l : List Int) : (codes l).length = l.length := by
  suffices ∀ (r : List Int), (codes r.reverse).length = r.length by simpa using this l.reverse
  intro r
  induction r with
  | nil => rfl
  | cons n r ih => rw [List.reverse_cons, codes_snoc, List.length_append, ih]; rfl
theorem codes_take (l : List Int) (k : Nat) (h : k < l.length) : codes (l.take (k + 1)) = codes (l.take k) ++ [nxt (codes (l.take k)) (l.getD k 0)] := by
  rw [List.take_succ_eq_append_getElem h, codes_snoc]; simp [List.getD, List.getElem?_eq_getElem h]
theorem getLast_len (l : List (List Bool)) (k : Nat) (h : l.length = k + 1) : l.getLast? = some (l.getD k []) := by
  rw [List.getLast?_eq_getElem?, h]; simp [List.getD, List.getElem?_eq_getElem (show k < l.length by omega)]
/-- What the next code is made of. -/
def from' (prev : List (List Bool)) : List Bool := match prev.getLast? with | none => [] | some b => plus b
theorem nxt_eq (prev : List (List Bool)) (n : Int) : nxt prev n = from' prev ++ List.replicate (n.toNat - (from' prev).length) false := rfl
theorem from_nil : from' [] = [] := rfl
theorem from_succ (l : List (List Bool)) (k : Nat) (h : l.length = k + 1) : from' l = plus (l.getD k []) := by unfold from'; rw [getLast_len l k h]
theorem nxt_length (prev : List (List Bool)) (n : Int) : (nxt prev n).length = max (from' prev).length n.toNat := by rw [nxt_eq]; simp; omega
theorem codes_len (zs : List Int) (hz : ∀ n ∈ zs, n ≤ 16) : ∀ b ∈ codes zs, b.length ≤ 16 := by
  suffices ∀ (r : List Int), (∀ n ∈ r, n ≤ 16) → ∀ b ∈ codes r.reverse, b.length ≤ 16 by
    have := this zs.reverse (fun n hn => hz n (by simpa using hn))
    simpa using this
  intro r
  induction r with
  | nil => intro _ b hb; simp [codes] at hb
  | cons n r ih =>
    intro hr b hb
    have ih' := ih (fun m hm => hr m (List.mem_cons_of_mem _ hm))
    rw [List.reverse_cons, codes_snoc, List.mem_append] at hb
    rcases hb with hb | hb
    · exact ih' b hb
    · simp only [List.mem_singleton] at hb
      subst hb
      rw [nxt_length]
      have h1 : n.toNat ≤ 16 := by have := hr n List.mem_cons_self; omega
      have h2 : (from' (codes r.reverse)).length ≤ 16 := by
        unfold from'
        cases hg : (codes r.reverse).getLast? with
        | none => simp
        | some c => simp only [plus_length]; exact ih' c (List.mem_of_getLast? hg)
      omega
theorem from_len (zs : List Int) (hz : ∀ n ∈ zs, n ≤ 16) : (from' (codes zs)).length ≤ 16 := by
  unfold from'
  cases hg : (codes zs).getLast? with
  | none => simp
  | some c => simp only [plus_length]; exact codes_len zs hz c (List.mem_of_getLast? hg)
/-- The symbols below s with codes of m + 1 bits. -/
def row (l : List Int) (m s : Nat) : List Nat := (List.range s).filter fun i => l.getD i 0 == ((m + 1 : Nat) : Int)
/-- The symbols with codes of at most m bits, in the order of their codes; and their lengths. -/
def symN (l : List Int) (m : Nat) : List Int := (List.range m).flatMap fun n => (row l n l.length).map fun (s : Nat) => (s : Int)
def sizN (l : List Int) (m : Nat) : List Int := (List.range m).flatMap fun n => (row l n l.length).map fun _ => ((n + 1 : Nat) : Int)
def syms (l : List Int) : List Int := symN l 16
def sizes (l : List Int) : List Int := sizN l 16
theorem row_succ (l : List Int) (m s : Nat) : row l m (s + 1) = row l m s ++ (if l.getD s 0 == ((m + 1 : Nat) : Int) then [s] else []) := by
  unfold row; rw [List.range_succ, List.filter_append]; congr 1
  by_cases h : (l.getD s 0 == ((m + 1 : Nat) : Int)) = true
  · rw [List.filter_cons_of_pos (by simpa using h), if_pos h]; rfl
  · rw [List.filter_cons_of_neg (by simpa using h), if_neg h]; rfl
theorem row_le (l : List Int) (m s : Nat) : (row l m s).length ≤ s := by
  have := List.length_filter_le (fun i => l.getD i 0 == ((m + 1 : Nat) : Int)) (List.range s)
  simpa [row] using this
theorem symN_succ (l : List Int) (m : Nat) : symN l (m + 1) = symN l m ++ (row l m l.length).map fun (s : Nat) => (s : Int) := by simp [symN, List.range_succ]
theorem sizN_succ (l : List Int) (m : Nat) : sizN l (m + 1) = sizN l m ++ (row l m l.length).map fun _ => ((m + 1 : Nat) : Int) := by simp [sizN, List.range_succ]
theorem sizN_length (l : List Int) (m : Nat) : (sizN l m).length = (symN l m).length := by
  induction m with
  | zero => rfl
  | succ m ih => rw [symN_succ, sizN_succ]; simp [ih]
theorem sizN_bound (l : List Int) (m : Nat) (hm : m ≤ 16) : ∀ x ∈ sizN l m, 0 ≤ x ∧ x ≤ 16 := by
  intro x hx
  simp only [sizN, List.mem_flatMap, List.mem_range, List.mem_map] at hx
  obtain ⟨n, hn, _, _, rfl⟩ := hx
  omega
end Cn
end Go.Proofs.YtpoilaappcjbeaaGreatDoor
end

section
namespace Go.Proofs.YtpoilaappcjbeaaGreatDoor

namespace Mg
def S (f : Nat → Nat) : Nat → Nat
  | 0 => 0
  | n + 1 => S f n + f n
theorem S_congr {f g : Nat → Nat} : ∀ n, (∀ i, i < n → f i = g i) → S f n = S g n
  | 0, _ => rfl
  | n + 1, h => by rw [S, S, S_congr n (fun i hi => h i (by omega)), h n (by omega)]
theorem S_add (f g : Nat → Nat) : ∀ n, S (fun i => f i + g i) n = S f n + S g n
  | 0 => rfl
  | n + 1 => by rw [S, S, S, S_add f g n]; omega
theorem S_const (c : Nat) : ∀ n, S (fun _ => c) n = n * c
  | 0 => by simp [S]
  | n + 1 => by rw [S, S_const c n, Nat.succ_mul]
theorem S_mul (c : Nat) (f : Nat → Nat) : ∀ n, S (fun i => c * f i) n = c * S f n
  | 0 => by simp [S]
  | n + 1 => by rw [S, S, S_mul c f n, Nat.mul_add]
theorem S_from (k c : Nat) : ∀ n, S (fun i => if i < k then 0 else c) n = (n - k) * c
  | 0 => by simp [S]
  | n + 1 => by
    rw [S, S_from k c n]
    by_cases h : n < k
    · rw [if_pos h, show n + 1 - k = 0 by omega, show n - k = 0 by omega]; omega
    · rw [if_neg h, show n + 1 - k = n - k + 1 by omega, Nat.succ_mul]
def SI (f : Nat → Int) : Nat → Int
  | 0 => 0
  | n + 1 => SI f n + f n
theorem SI_congr {f g : Nat → Int} : ∀ n, (∀ i, i < n → f i = g i) → SI f n = SI g n
  | 0, _ => rfl
  | n + 1, h => by rw [SI, SI, SI_congr n (fun i hi => h i (by omega)), h n (by omega)]
theorem SI_add (f g : Nat → Int) : ∀ n, SI (fun i => f i + g i) n = SI f n + SI g n
  | 0 => rfl
  | n + 1 => by rw [SI, SI, SI, SI_add f g n]; omega
theorem SI_zero : ∀ n, SI (fun _ => 0) n = 0
  | 0 => rfl
  | n + 1 => by rw [SI, SI_zero n]; rfl
theorem range_sum (f : Nat → Int) : ∀ n, ((List.range n).map f).sum = SI f n
  | 0 => rfl
  | n + 1 => by rw [List.range_succ, List.map_append, List.sum_append, range_sum f n, SI]; simp
theorem SI_nat (f : Nat → Nat) : ∀ n, SI (fun i => ((f i : Nat) : Int)) n = ((S f n : Nat) : Int)
  | 0 => rfl
  | n + 1 => by rw [SI, S, SI_nat f n]; omega
/-- How often place i is taken. -/
def cnt (ks : List Nat) (i : Nat) : Nat := (ks.filter fun c => decide (i < c)).length
theorem cnt_cons (k : Nat) (ks : List Nat) (i : Nat) : cnt (k :: ks) i = (if i < k then 1 else 0) + cnt ks i := by
  unfold cnt
  rw [List.filter_cons]
  by_cases h : i < k
  · rw [if_pos (decide_eq_true h), if_pos h, List.length_cons]; omega
  · rw [if_neg (by rw [decide_eq_false h]; simp), if_neg h]; omega
theorem cnt_le (ks : List Nat) (i : Nat) : cnt ks i ≤ ks.length := List.length_filter_le _ _
theorem cnt_zero (ks : List Nat) (i : Nat) (h : ∀ c ∈ ks, c ≤ i) : cnt ks i = 0 := by
  unfold cnt
  rw [List.filter_eq_nil_iff.2 (fun c hc => by have := h c hc; simp; omega)]; rfl
theorem cnt_anti (ks : List Nat) {i j : Nat} (h : i ≤ j) : cnt ks j ≤ cnt ks i := by
  induction ks with
  | nil => exact Nat.le_refl _
  | cons k ks ih =>
    rw [cnt_cons, cnt_cons]
    by_cases h1 : j < k
    · rw [if_pos h1, if_pos (by omega)]; omega
    · rw [if_neg h1]; omega
theorem tim_cnt (R : List Int) (L t i : Nat) : tim R L t L i = cnt (back R L t) i := by
  unfold tim cnt; rw [← back_eq]
def Ev : List Nat → Prop
  | [] => True
  | _ :: ks => T ks % 2 = 0 ∧ Ev ks
theorem back_ev (R : List Int) : ∀ (r t : Nat), t ≤ (rnd R r).length → Ev (back R r t)
  | 0, _, _ => trivial
  | r + 1, t, h => by
    obtain ⟨_, h2, _⟩ := rnd_split R r t h
    exact ⟨by rw [back_T R r _ h2]; omega, back_ev R r _ h2⟩
def K (ks : List Nat) (n : Nat) : Nat := S (fun i => 2 ^ (ks.length - cnt ks i)) n
theorem kraft (n : Nat) : ∀ ks : List Nat, ks.Pairwise (fun a b => b ≤ a) → (∀ k ∈ ks, k ≤ n) → Ev ks → 2 * K ks n + 2 ^ ks.length * T ks = 2 * (n * 2 ^ ks.length)
  | [], _, _, _ => by
    have : K [] n = n * 1 := by unfold K; rw [← S_const 1 n]; exact S_congr n (fun i _ => rfl)
    rw [this]; simp [T]
  | k :: ks, hp, hk, he => by
    have hp1 := List.pairwise_cons.1 hp
    have ih := kraft n ks hp1.2 (fun c hc => hk c (by simp [hc])) he.2
    have hkn := hk k (by simp)
    have e : K (k :: ks) n = K ks n + (n - k) * 2 ^ ks.length := by
      unfold K
      rw [← S_from k (2 ^ ks.length) n, ← S_add]
      refine S_congr n (fun i _ => ?_)
      rw [cnt_cons, List.length_cons]
      by_cases h : i < k
      · rw [if_pos h, if_pos h, show ks.length + 1 - (1 + cnt ks i) = ks.length - cnt ks i by omega]; omega
      · rw [if_neg h, if_neg h, cnt_zero ks i (fun c hc => by have := hp1.1 c hc; omega)]
        rw [show ks.length + 1 - (0 + 0) = ks.length + 1 by omega, show ks.length - 0 = ks.length by omega, Nat.pow_succ]; omega
    obtain ⟨u, hu⟩ : ∃ u, T ks = 2 * u := ⟨T ks / 2, by have := he.1; omega⟩
    obtain ⟨d, hd⟩ : ∃ d, n = k + d := ⟨n - k, by omega⟩
    rw [e, List.length_cons, Nat.pow_succ, T, hu, show 2 * u / 2 = u by omega]
    rw [hu] at ih
    rw [show n - k = d by omega]
    generalize 2 ^ ks.length = p at *
    generalize K ks n = q at *
    have e1 : n * p = k * p + d * p := by rw [hd, Nat.add_mul]
    have e2 : p * 2 * (k + u) = 2 * (k * p) + 2 * (u * p) := by
      rw [Nat.mul_add, Nat.mul_comm p 2, Nat.mul_assoc, Nat.mul_assoc, Nat.mul_comm p k, Nat.mul_comm p u]
    have e3 : p * (2 * u) = 2 * (u * p) := by rw [← Nat.mul_assoc, Nat.mul_comm p 2, Nat.mul_assoc, Nat.mul_comm p u]
    have e4 : n * (p * 2) = 2 * (n * p) := by rw [← Nat.mul_assoc, Nat.mul_comm]
    rw [e2, e4, e1]
    rw [e3, e1] at ih
    omega
theorem pre_SI (R : List Int) : ∀ k, k ≤ R.length → pre R k = SI (fun i => R.getD i 0) k
  | 0, _ => pre_zero R
  | k + 1, h => by
    rw [pre_succ R k (by omega), pre_SI R k (by omega), SI]
    simp [List.getD, List.getElem?_eq_getElem (show k < R.length by omega)]
theorem SI_cut (f : Nat → Int) (k : Nat) : ∀ n, k ≤ n → SI (fun i => if i < k then f i else 0) n = SI f k
  | 0, h => by obtain rfl : k = 0 := by omega
               rfl
  | n + 1, h => by
    by_cases hk : k = n + 1
    · subst hk; exact SI_congr _ (fun i hi => if_pos hi)
    · rw [SI, SI_cut f k n (by omega), if_neg (by omega)]; omega
/-- What is taken costs what the symbols cost. -/
theorem val_cnt (R : List Int) : ∀ ks : List Nat, (∀ k ∈ ks, k ≤ R.length) → val R ks = SI (fun i => R.getD i 0 * ((cnt ks i : Nat) : Int)) R.length
  | [], _ => by
    have : SI (fun i => R.getD i 0 * ((cnt [] i : Nat) : Int)) R.length = SI (fun _ => 0) R.length := SI_congr _ (fun i _ => by simp [cnt])
    rw [this, SI_zero]; rfl
  | k :: ks, h => by
    have e : val R (k :: ks) = pre R k + val R ks := by simp [val]
    rw [e, val_cnt R ks (fun c hc => h c (by simp [hc])), pre_SI R k (h k (by simp)), ← SI_cut _ k R.length (h k (by simp)), ← SI_add]
    refine SI_congr _ (fun i _ => ?_)
    rw [cnt_cons]
    by_cases hi : i < k
    · rw [if_pos hi, if_pos hi, Int.natCast_add, Int.mul_add]; simp
    · rw [if_neg hi, if_neg hi]; simp
section
variable {R : List Int} {L : Nat}
theorem lens_big (hn : 2 ≤ R.length) (i : Nat) (hi : i < R.length) : (lens R L).getD i 0 = ((cnt (back R L (2 * R.length - 2)) i : Nat) : Int) := by
  unfold lens
  rw [if_neg (by omega)]
  rw [← tim_cnt]
  simp [List.getD, List.getElem?_range hi]
theorem lens_one (hn : R.length < 2) (i : Nat) (hi : i < R.length) : (lens R L).getD i 0 = 1 := by
  unfold lens
  rw [if_pos hn]
  simp [List.getD, List.getElem?_replicate, hi]
theorem back_head (hU : Up R) (hP : Pos R) (hn : 2 ≤ R.length) (hL : 0 < L) (hr : 2 * R.length - 2 ≤ (rnd R L).length) : ∃ ks, back R L (2 * R.length - 2) = R.length :: ks := by
  obtain ⟨r, rfl⟩ : ∃ r, L = r + 1 := ⟨L - 1, by omega⟩
  exact ⟨_, by rw [back, rnd_all hU hP hn _ hr]⟩
theorem lens_range (hU : Up R) (hP : Pos R) (hL : 0 < L) (hL2 : R.length ≤ 2 ^ L) (i : Nat) (hi : i < R.length) : 1 ≤ (lens R L).getD i 0 ∧ (lens R L).getD i 0 ≤ L ∧ (R.length = 1 → (lens R L).getD i 0 = 1) := by
  by_cases hn : 2 ≤ R.length
  · rw [lens_big hn i hi]
    obtain ⟨ks, hk⟩ := back_head hU hP hn hL (rnd_room R (by omega) L hL hL2)
    have h1 := cnt_le (back R L (2 * R.length - 2)) i
    rw [back_length] at h1
    have h2 : 1 ≤ cnt (back R L (2 * R.length - 2)) i := by rw [hk, cnt_cons, if_pos hi]; omega
    omega
  · rw [lens_one (by omega) i hi]; omega
theorem lens_anti (i j : Nat) (h : i ≤ j) (hj : j < R.length) : (lens R L).getD j 0 ≤ (lens R L).getD i 0 := by
  by_cases hn : 2 ≤ R.length
  · rw [lens_big hn i (by omega), lens_big hn j hj]
    have := cnt_anti (back R L (2 * R.length - 2)) h
    omega
  · rw [lens_one (by omega) i (by omega), lens_one (by omega) j hj]; omega
theorem part_nat (t : Nat) (h1 : 1 ≤ t) (h2 : t ≤ 16) : Cn.part (t : Int) = 2 ^ (16 - t) := by
  unfold Cn.part
  rw [if_neg (by omega), Int.toNat_natCast, show (65536 : Nat) = 2 ^ 16 from rfl, Nat.pow_div h2 (by omega)]
/-- The lengths are whole. -/
theorem lens_whole (hU : Up R) (hP : Pos R) (hL : 0 < L) (hL16 : L ≤ 16) (hL2 : R.length ≤ 2 ^ L) (hn : 2 ≤ R.length) : S (fun i => Cn.part ((lens R L).getD i 0)) R.length = 65536 := by
  have hr := rnd_room R (by omega) L hL hL2
  have e : S (fun i => Cn.part ((lens R L).getD i 0)) R.length = S (fun i => 2 ^ (16 - L) * 2 ^ (L - cnt (back R L (2 * R.length - 2)) i)) R.length := by
    refine S_congr _ (fun i hi => ?_)
    have h1 := (lens_range hU hP hL hL2 i hi)
    rw [lens_big hn i hi] at h1 ⊢
    rw [part_nat _ (by omega) (by omega), ← Nat.pow_add, show 16 - L + (L - cnt (back R L (2 * R.length - 2)) i) = 16 - cnt (back R L (2 * R.length - 2)) i by omega]
  rw [e, S_mul]
  have hk := kraft R.length (back R L (2 * R.length - 2)) (back_anti hU hP L _ hr) (back_le R L _ hr) (back_ev R L _ hr)
  rw [back_length, back_T R L _ hr] at hk
  have e2 : K (back R L (2 * R.length - 2)) R.length = S (fun i => 2 ^ (L - cnt (back R L (2 * R.length - 2)) i)) R.length := by unfold K; rw [back_length]
  rw [e2] at hk
  generalize S (fun i => 2 ^ (L - cnt (back R L (2 * R.length - 2)) i)) R.length = q at *
  have hq : q = 2 ^ L := by
    obtain ⟨m, hm⟩ : ∃ m, R.length = m + 1 := ⟨R.length - 1, by omega⟩
    rw [hm, show 2 * (m + 1) - 2 = 2 * m by omega] at hk
    generalize 2 ^ L = p at *
    have e1 : p * (2 * m) = 2 * (m * p) := by rw [← Nat.mul_assoc, Nat.mul_comm p 2, Nat.mul_assoc, Nat.mul_comm p m]
    have e3 : (m + 1) * p = m * p + p := Nat.succ_mul m p
    rw [e1, e3] at hk
    omega
  rw [hq, ← Nat.pow_add, show 16 - L + L = 16 by omega]
end
end Mg
end Go.Proofs.YtpoilaappcjbeaaGreatDoor
end
