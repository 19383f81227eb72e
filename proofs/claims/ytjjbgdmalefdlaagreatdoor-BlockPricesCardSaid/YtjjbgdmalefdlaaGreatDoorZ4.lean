/- Bits in bytes, as lists. Lists of bytes in memory of the call's own, each in a block of its own: what a store and an append do to them. -/
import Derived.Test.YtjjbgdmalefdlaaGreatDoorZ1
set_option linter.unusedSimpArgs false
set_option linter.unusedVariables false
section
namespace Go.Proofs.YtjjbgdmalefdlaaGreatDoor
open Go.RowKit

theorem i64_wrap_small (n : Nat) (h : n < 9223372036854775808) : IntKind.i64.wrap (n : Int) = n := IntWalk.i64_in _ ⟨by omega, by omega⟩
theorem ofInt_64 (a : Nat) (ha : a < 9223372036854775808) : (BitVec.ofInt 64 (a : Int)).toNat = a := by
  rw [BitVec.ofInt_natCast, BitVec.toNat_ofNat]; exact Nat.mod_eq_of_lt (by omega)
theorem i64_and_nat (a b : Nat) (ha : a < 9223372036854775808) (hb : b < 9223372036854775808) : bits .and .i64 (a : Int) (b : Int) = ((a &&& b : Nat) : Int) := by
  have hx : a &&& b < 2 ^ 63 := Nat.and_lt_two_pow _ (by omega)
  show IntKind.i64.wrap ((BitVec.ofInt 64 (a : Int) &&& BitVec.ofInt 64 (b : Int)).toNat : Int) = _
  rw [BitVec.toNat_and, ofInt_64 a ha, ofInt_64 b hb, i64_wrap_small _ (by omega)]
theorem i64_or_nat (a b : Nat) (ha : a < 9223372036854775808) (hb : b < 9223372036854775808) : bits .or .i64 (a : Int) (b : Int) = ((a ||| b : Nat) : Int) := by
  have hx : a ||| b < 2 ^ 63 := Nat.or_lt_two_pow (by omega) (by omega)
  show IntKind.i64.wrap ((BitVec.ofInt 64 (a : Int) ||| BitVec.ofInt 64 (b : Int)).toNat : Int) = _
  rw [BitVec.toNat_or, ofInt_64 a ha, ofInt_64 b hb, i64_wrap_small _ (by omega)]
theorem i64_and_neg7 (n : Nat) (h : n < 9223372036854775808) : bits .and .i64 (-(n : Int)) 7 = (((8 - n % 8) % 8 : Nat) : Int) := by
  show IntKind.i64.wrap ((BitVec.ofInt 64 (-(n : Int)) &&& BitVec.ofInt 64 ((7 : Nat) : Int)).toNat : Int) = _
  rw [BitVec.toNat_and, ofInt_64 7 (by omega)]
  have e : (BitVec.ofInt 64 (-(n : Int))).toNat % 8 = (8 - n % 8) % 8 := by
    rw [BitVec.toNat_ofInt]; omega
  have e2 := Nat.and_two_pow_sub_one_eq_mod ((BitVec.ofInt 64 (-(n : Int))).toNat) 3
  simp only [Nat.reducePow, Nat.reduceSub] at e2
  rw [e2, e, i64_wrap_small _ (by omega)]

namespace Bt
theorem pow_cast (n : Nat) : (2 : Int) ^ n = ((2 ^ n : Nat) : Int) := by simp
theorem pow_le (n m : Nat) (h : n ≤ m) : 2 ^ n ≤ 2 ^ m := Nat.pow_le_pow_right (by omega) h
theorem mask_wrap (n : Nat) (h : n ≤ 32) : wrap64 (wrap64 (2 ^ n) - 1) = ((2 ^ n - 1 : Nat) : Int) := by
  have h1 := pow_le n 32 h
  have h2 : 0 < 2 ^ n := Nat.pow_pos (by omega)
  rw [pow_cast]
  generalize 2 ^ n = x at *
  simp only [Nat.reducePow] at h1
  unfold wrap64
  omega
theorem wrapEq (x : Int) : IntKind.i64.wrap x = wrap64 x := by unfold wrap64; exact IntKind.wrap_i64 x
theorem part_val (n sh s : Nat) (hn : n < 4294967296) (hsh : sh ≤ 64) (hs : s ≤ 32) :
    bits .and .i64 ((n : Int) / 2 ^ min sh 64) (IntKind.i64.wrap (IntKind.i64.wrap (2 ^ s) - 1)) = ((n >>> sh &&& (2 ^ s - 1) : Nat) : Int) := by
  rw [wrapEq, wrapEq, mask_wrap s hs, show min sh 64 = sh by omega]
  have e : (n : Int) / 2 ^ sh = ((n >>> sh : Nat) : Int) := by
    rw [Nat.shiftRight_eq_div_pow, pow_cast]; omega
  have h1 : n >>> sh ≤ n := by rw [Nat.shiftRight_eq_div_pow]; exact Nat.div_le_self _ _
  have h2 := pow_le s 32 hs
  rw [e]
  generalize 2 ^ s = x at *
  simp only [Nat.reducePow] at h2
  exact i64_and_nat _ _ (by omega) (by omega)
theorem shl_lt (p s sh m : Nat) (hp : p < 2 ^ s) (hs : sh + s ≤ m) : p <<< sh < 2 ^ m := by
  rw [Nat.shiftLeft_eq]
  have h1 : p * 2 ^ sh < 2 ^ s * 2 ^ sh := Nat.mul_lt_mul_of_pos_right hp (Nat.pow_pos (by omega))
  rw [← Nat.pow_add] at h1
  exact Nat.lt_of_lt_of_le h1 (pow_le _ _ (by omega))
theorem or_val (x p s sh : Nat) (hx : x < 256) (hp : p < 2 ^ s) (hs : sh + s ≤ 8) :
    bits .or .u8 (x : Int) (IntKind.u8.wrap (IntKind.i64.wrap ((p : Int) * 2 ^ min sh 64))) = ((x ||| p <<< sh : Nat) : Int) ∧ x ||| p <<< sh < 256 := by
  have h1 := shl_lt p s sh 8 hp hs
  rw [show min sh 64 = sh by omega, pow_cast, show (p : Int) * ((2 ^ sh : Nat) : Int) = ((p <<< sh : Nat) : Int) by rw [Nat.shiftLeft_eq]; simp]
  generalize p <<< sh = y at *
  simp only [Nat.reducePow] at h1
  rw [IntWalk.i64_in _ ⟨by omega, by omega⟩, IntWalk.u8_in _ ⟨by omega, by omega⟩]
  exact ⟨u8_or_nat x y hx h1, Nat.or_lt_two_pow (n := 8) hx h1⟩
/-- A number's bits in an order. -/
def dg (h : Bool) (n c : Nat) : List Bool := (List.range c).map fun i => n.testBit (if h then c - 1 - i else i)
/-- The number of bits, the first one the highest. -/
def numH (l : List Bool) : Nat := l.foldl (fun a b => 2 * a + b.toNat) 0
/-- The number of bits in an order. -/
def num (h : Bool) (l : List Bool) : Nat := numH (if h then l else l.reverse)
/-- Byte k of bits, what is left filled. -/
def pk (h f : Bool) (l : List Bool) (k : Nat) : Nat := num h ((List.range 8).map fun i => l.getD (8 * k + i) f)
/-- Bits as bytes, what is left filled. -/
def packs (h f : Bool) (l : List Bool) : List UInt8 := (List.range ((l.length + 7) / 8)).map fun k => UInt8.ofNat (pk h f l k)
/-- Bytes as bits. -/
def rbits (h : Bool) (l : List UInt8) : List Bool := l.flatMap fun x => dg h x.toNat 8

theorem dg_length (h : Bool) (n c : Nat) : (dg h n c).length = c := by simp [dg]
theorem dg_getD (h : Bool) (n c i : Nat) (f : Bool) (hi : i < c) : (dg h n c).getD i f = n.testBit (if h then c - 1 - i else i) := by
  simp [dg, List.getD, List.getElem?_range hi]
theorem numH_snoc (l : List Bool) (b : Bool) : numH (l ++ [b]) = 2 * numH l + b.toNat := by simp [numH]
theorem testBit_double (a : Nat) (b : Bool) (i : Nat) : (2 * a + b.toNat).testBit i = if i = 0 then b else a.testBit (i - 1) := by
  cases i with
  | zero => cases b <;> simp [Nat.testBit_zero] <;> omega
  | succ i =>
    rw [Nat.testBit_succ]
    have : (2 * a + b.toNat) / 2 = a := by cases b <;> simp <;> omega
    rw [this]; simp
theorem numH_testBit (l : List Bool) : ∀ i, (numH l).testBit i = (decide (i < l.length) && l.getD (l.length - 1 - i) false) := by
  suffices ∀ (r : List Bool) (i : Nat), (numH r.reverse).testBit i = (decide (i < r.reverse.length) && r.reverse.getD (r.reverse.length - 1 - i) false) by
    intro i
    have := this l.reverse i
    rwa [List.reverse_reverse] at this
  intro r
  induction r with
  | nil => intro i; simp [numH]
  | cons b r ih =>
    intro i
    rw [List.reverse_cons, numH_snoc, testBit_double]
    cases i with
    | zero => simp [List.getD]
    | succ i =>
      rw [if_neg (by omega), Nat.add_sub_cancel, ih i]
      simp only [List.length_append, List.length_reverse, List.length_cons, List.length_nil]
      by_cases hi : i < r.length
      · have e : r.length + (0 + 1) - 1 - (i + 1) = r.length - 1 - i := by omega
        rw [e]
        simp only [List.getD]
        rw [List.getElem?_append_left (by simp; omega)]
        simp [hi]
      · simp [hi]
theorem num_testBit (h : Bool) (l : List Bool) (i : Nat) : (num h l).testBit i = (decide (i < l.length) && l.getD (if h then l.length - 1 - i else i) false) := by
  cases h
  · simp only [num]
    rw [numH_testBit]
    by_cases hi : i < l.length
    · simp only [Bool.false_eq_true, if_false, List.length_reverse, hi, decide_true, Bool.true_and, List.getD]
      rw [List.getElem?_reverse (by omega)]
      congr 2
      omega
    · simp [hi]
  · simp only [num]
    rw [numH_testBit]
    simp
theorem num_lt (h : Bool) (l : List Bool) : num h l < 2 ^ l.length := by
  apply Nat.lt_pow_two_of_testBit
  intro i hi
  rw [num_testBit]
  simp; omega
theorem num_dg (h : Bool) (n c : Nat) (hn : n < 2 ^ c) : num h (dg h n c) = n := by
  apply Nat.eq_of_testBit_eq
  intro i
  rw [num_testBit, dg_length]
  by_cases hi : i < c
  · have e : (dg h n c).getD (if h then c - 1 - i else i) false = n.testBit i := by
      cases h
      · simp only [Bool.false_eq_true, if_false]; rw [dg_getD _ _ _ _ _ hi]; simp
      · simp only [if_true]; rw [dg_getD _ _ _ _ _ (by omega)]; simp only [if_true]; congr 1; omega
    rw [e]; simp [hi]
  · rw [Nat.testBit_lt_two_pow (Nat.lt_of_lt_of_le hn (Nat.pow_le_pow_right (by omega) (by omega)))]
    simp [hi]
theorem pk_lt (h f : Bool) (l : List Bool) (k : Nat) : pk h f l k < 256 := by
  have := num_lt h ((List.range 8).map fun i => l.getD (8 * k + i) f)
  simpa [pk] using this
theorem pk_testBit (h f : Bool) (l : List Bool) (k j : Nat) : (pk h f l k).testBit j = (decide (j < 8) && l.getD (8 * k + (if h then 7 - j else j)) f) := by
  unfold pk
  rw [num_testBit]
  simp only [List.length_map, List.length_range]
  by_cases hj : j < 8
  · have e : (if h = true then 8 - 1 - j else j) < 8 := by split <;> omega
    simp only [hj, decide_true, Bool.true_and, List.getD]
    rw [List.getElem?_map, List.getElem?_range e]
    simp
  · simp [hj]
theorem packs_length (h f : Bool) (l : List Bool) : (packs h f l).length = (l.length + 7) / 8 := by simp [packs]
theorem packs_get (h f : Bool) (l : List Bool) (k : Nat) (hk : k < (l.length + 7) / 8) : (packs h f l)[k]? = some (UInt8.ofNat (pk h f l k)) := by
  simp [packs, List.getElem?_range hk]
theorem gb_packs (h f : Bool) (l : List Bool) (k : Nat) (hk : k < (l.length + 7) / 8) : gb (packs h f l) k = pk h f l k := by
  have := pk_lt h f l k
  simp only [gb, List.getD, packs_get h f l k hk, Option.getD_some]
  simp; omega
theorem getD_app_left (l m : List Bool) (i : Nat) (f : Bool) (h : i < l.length) : (l ++ m).getD i f = l.getD i f := by
  simp only [List.getD]; rw [List.getElem?_append_left h]
theorem getD_app_right (l m : List Bool) (i : Nat) (f : Bool) (h : l.length ≤ i) : (l ++ m).getD i f = m.getD (i - l.length) f := by
  simp only [List.getD]; rw [List.getElem?_append_right h]
theorem getD_out (l : List Bool) (i : Nat) (f : Bool) (h : l.length ≤ i) : l.getD i f = f := by
  simp only [List.getD]; rw [List.getElem?_eq_none h]; rfl
/-- What a byte is added to. -/
def base (h : Bool) (m : List Bool) : List UInt8 := if m.length % 8 = 0 then packs h false m ++ [0] else packs h false m
theorem base_length (h : Bool) (m : List Bool) : (base h m).length = m.length / 8 + 1 := by
  unfold base; split <;> simp [packs_length] <;> omega
def shf (h : Bool) (size fro some : Nat) : Nat := if h then size - fro - some else fro
theorem pk_same (h : Bool) (m cs : List Bool) (k : Nat) (hk : 8 * k + 8 ≤ m.length) : pk h false (m ++ cs) k = pk h false m k := by
  apply Nat.eq_of_testBit_eq
  intro j
  rw [pk_testBit, pk_testBit]
  by_cases hj : j < 8
  · rw [getD_app_left _ _ _ _ (by split <;> omega)]
  · simp [hj]
theorem gb_base_last (h : Bool) (m : List Bool) : gb (base h m) (m.length / 8) = pk h false m (m.length / 8) := by
  unfold base
  split
  · rename_i h0
    have e : pk h false m (m.length / 8) = 0 := by
      apply Nat.eq_of_testBit_eq
      intro j
      rw [pk_testBit, getD_out _ _ _ (by omega)]; simp
    rw [e]
    simp only [gb, List.getD]
    rw [List.getElem?_append_right (by simp [packs_length]; omega)]
    have : m.length / 8 - (packs h false m).length = 0 := by simp [packs_length]; omega
    rw [this]; rfl
  · rw [gb_packs _ _ _ _ (by omega)]
theorem packs_step (h : Bool) (m cs : List Bool) (s : Nat) (hs : cs.length = s) (h1 : 1 ≤ s) (h8 : m.length % 8 + s ≤ 8) :
    packs h false (m ++ cs) = (base h m).set (m.length / 8) (UInt8.ofNat (gb (base h m) (m.length / 8) ||| num h cs <<< shf h 8 (m.length % 8) s)) := by
  have hlen : (m ++ cs).length = m.length + s := by simp [hs]
  apply List.ext_getElem?
  intro k
  rw [List.getElem?_set]
  by_cases hk : k < m.length / 8 + 1
  · rw [packs_get _ _ _ _ (by rw [hlen]; omega)]
    by_cases he : m.length / 8 = k
    · subst he
      rw [if_pos rfl, if_pos (by rw [base_length]; omega), gb_base_last]
      congr 2
      apply Nat.eq_of_testBit_eq
      intro j
      rw [Nat.testBit_or, pk_testBit, pk_testBit, Nat.testBit_shiftLeft, num_testBit, hs]
      by_cases hj : j < 8
      · cases h
        · simp only [Bool.false_eq_true, if_false, shf, hj, decide_true, Bool.true_and]
          by_cases ha : j < m.length % 8
          · rw [getD_app_left _ _ _ _ (by omega)]
            have : ¬ m.length % 8 ≤ j := by omega
            simp [this]
          · rw [getD_app_right _ _ _ _ (by omega), getD_out m _ _ (by omega)]
            have e : 8 * (m.length / 8) + j - m.length = j - m.length % 8 := by omega
            have : m.length % 8 ≤ j := by omega
            rw [e]
            by_cases hb : j - m.length % 8 < s
            · simp [this, hb]
            · rw [getD_out cs _ _ (by omega)]; simp
        · simp only [if_true, shf, hj, decide_true, Bool.true_and]
          by_cases ha : 7 - j < m.length % 8
          · rw [getD_app_left _ _ _ _ (by omega)]
            have : ¬ j - (8 - m.length % 8 - s) < s := by omega
            simp [this]
          · rw [getD_app_right _ _ _ _ (by omega), getD_out m _ _ (by omega)]
            have e : 8 * (m.length / 8) + (7 - j) - m.length = 7 - j - m.length % 8 := by omega
            rw [e]
            by_cases hb : 8 - m.length % 8 - s ≤ j
            · have hb2 : j - (8 - m.length % 8 - s) < s := by omega
              have e2 : s - 1 - (j - (8 - m.length % 8 - s)) = 7 - j - m.length % 8 := by omega
              rw [e2]; simp [hb, hb2]
            · rw [getD_out cs _ _ (by omega)]; simp [hb]
      · have e3 : ¬ (j - shf h 8 (m.length % 8) s < s) := by cases h <;> simp [shf] <;> omega
        simp [hj, e3]
    · rw [if_neg he]
      unfold base
      split
      · rw [List.getElem?_append_left (by rw [packs_length]; omega), packs_get _ _ _ _ (by omega), pk_same _ _ _ _ (by omega)]
      · rw [packs_get _ _ _ _ (by omega), pk_same _ _ _ _ (by omega)]
  · rw [if_neg (by omega), List.getElem?_eq_none (by rw [packs_length, hlen]; omega), List.getElem?_eq_none (by rw [base_length]; omega)]
/-- Some bits of a number. -/
theorem part_num (h : Bool) (n c d s : Nat) (hd : d + s ≤ c) : (n >>> shf h c d s) &&& (2 ^ s - 1) = num h (((dg h n c).drop d).take s) := by
  apply Nat.eq_of_testBit_eq
  intro i
  rw [Nat.testBit_and, Nat.testBit_shiftRight, Nat.testBit_two_pow_sub_one, num_testBit]
  have hl : (((dg h n c).drop d).take s).length = s := by simp [dg_length]; omega
  rw [hl]
  by_cases hi : i < s
  · have e : (((dg h n c).drop d).take s).getD (if h then s - 1 - i else i) false = n.testBit (shf h c d s + i) := by
      have hx : (if h then s - 1 - i else i) < s := by split <;> omega
      simp only [List.getD]
      rw [List.getElem?_take, if_pos hx, List.getElem?_drop]
      have := dg_getD h n c (d + (if h then s - 1 - i else i)) false (by omega)
      simp only [List.getD] at this
      rw [this]
      congr 1
      cases h <;> simp [shf] <;> omega
    rw [e]; simp [hi]
  · simp [hi]
theorem take_add (l : List Bool) (d s : Nat) : l.take (d + s) = l.take d ++ (l.drop d).take s := List.take_add
theorem fi_dg (h : Bool) (c : Nat) : dg h (if h then 2 ^ c - 1 else 0) c = List.replicate c h := by
  apply List.ext_getElem?
  intro i
  by_cases hi : i < c
  · have := dg_getD h (if h then 2 ^ c - 1 else 0) c i false hi
    simp only [dg, List.getElem?_map, List.getElem?_range hi, List.getElem?_replicate, hi, if_true, Option.map_some]
    cases h
    · simp
    · simp only [if_true]; rw [Nat.testBit_two_pow_sub_one]; simp; omega
  · rw [List.getElem?_eq_none (by rw [dg_length]; omega), List.getElem?_eq_none (by simp; omega)]
/-- The last byte is completed. -/
theorem packs_fill (h : Bool) (l : List Bool) (hl : 0 < l.length) :
    packs h h l = (packs h false l).set ((packs h false l).length - 1) (UInt8.ofNat (gb (packs h false l) ((packs h false l).length - 1) ||| (if h then 2 ^ ((8 - l.length % 8) % 8) - 1 else 0))) := by
  rw [packs_length]
  apply List.ext_getElem?
  intro k
  rw [List.getElem?_set, packs_length]
  by_cases hk : k < (l.length + 7) / 8
  · rw [packs_get _ _ _ _ hk, packs_get _ _ _ _ hk]
    by_cases he : (l.length + 7) / 8 - 1 = k
    · rw [if_pos he, if_pos (by omega), gb_packs _ _ _ _ (by omega), he]
      congr 2
      apply Nat.eq_of_testBit_eq
      intro j
      rw [Nat.testBit_or, pk_testBit, pk_testBit]
      cases h
      · simp
      · simp only [if_true, Nat.testBit_two_pow_sub_one]
        by_cases hj : j < 8
        · simp only [hj, decide_true, Bool.true_and]
          by_cases ha : 8 * k + (7 - j) < l.length
          · have e : ¬ j < (8 - l.length % 8) % 8 := by omega
            simp only [e, decide_false, Bool.or_false, List.getD]
            rw [List.getElem?_eq_getElem ha]; rfl
          · rw [getD_out _ _ _ (by omega)]
            have e : j < (8 - l.length % 8) % 8 := by omega
            simp [e]
        · have e : ¬ j < (8 - l.length % 8) % 8 := by omega
          simp [hj, e]
    · rw [if_neg he]
      congr 2
      apply Nat.eq_of_testBit_eq
      intro j
      rw [pk_testBit, pk_testBit]
      by_cases hj : j < 8
      · have ha : 8 * k + (if h then 7 - j else j) < l.length := by split <;> omega
        simp only [List.getD]
        rw [List.getElem?_eq_getElem ha]; rfl
      · simp [hj]
  · rw [List.getElem?_eq_none (by rw [packs_length]; omega)]
    split
    · rw [if_neg (by omega)]
    · rw [List.getElem?_eq_none (by rw [packs_length]; omega)]

theorem rbits_length (h : Bool) (l : List UInt8) : (rbits h l).length = 8 * l.length := by
  induction l with
  | nil => rfl
  | cons x l ih => simp only [rbits, List.flatMap_cons, List.length_append, dg_length, List.length_cons] at *; omega
theorem rbits_getD (h f : Bool) (l : List UInt8) : ∀ i, i < 8 * l.length → (rbits h l).getD i f = (gb l (i / 8)).testBit (if h then 7 - i % 8 else i % 8) := by
  induction l with
  | nil => intro i hi; simp at hi
  | cons x l ih =>
    intro i hi
    have e : rbits h (x :: l) = dg h x.toNat 8 ++ rbits h l := rfl
    rw [e]
    by_cases h8 : i < 8
    · rw [getD_app_left _ _ _ _ (by rw [dg_length]; omega), dg_getD _ _ _ _ _ h8]
      have e1 : i / 8 = 0 := by omega
      have e2 : i % 8 = i := by omega
      rw [e1, e2]; rfl
    · rw [getD_app_right _ _ _ _ (by rw [dg_length]; omega), dg_length, ih (i - 8) (by simp at hi; omega)]
      have e1 : i / 8 = (i - 8) / 8 + 1 := by omega
      have e2 : (i - 8) % 8 = i % 8 := by omega
      rw [e1, e2]; rfl
/-- Some bits of a byte. -/
theorem part_byte (h : Bool) (l : List UInt8) (p s : Nat) (hp : p % 8 + s ≤ 8) (hl : p + s ≤ 8 * l.length) (h1 : 1 ≤ s) :
    (gb l (p / 8) >>> shf h 8 (p % 8) s) &&& (2 ^ s - 1) = num h (((rbits h l).drop p).take s) := by
  apply Nat.eq_of_testBit_eq
  intro i
  rw [Nat.testBit_and, Nat.testBit_shiftRight, Nat.testBit_two_pow_sub_one, num_testBit]
  have hlen : (((rbits h l).drop p).take s).length = s := by simp [rbits_length]; omega
  rw [hlen]
  by_cases hi : i < s
  · have hx : (if h then s - 1 - i else i) < s := by split <;> omega
    have e : (((rbits h l).drop p).take s).getD (if h then s - 1 - i else i) false = (gb l (p / 8)).testBit (shf h 8 (p % 8) s + i) := by
      simp only [List.getD]
      rw [List.getElem?_take, if_pos hx, List.getElem?_drop]
      have := rbits_getD h false l (p + (if h then s - 1 - i else i)) (by omega)
      simp only [List.getD] at this
      rw [this]
      have e1 : (p + (if h then s - 1 - i else i)) / 8 = p / 8 := by omega
      have e2 : (p + (if h then s - 1 - i else i)) % 8 = p % 8 + (if h then s - 1 - i else i) := by omega
      rw [e1, e2]
      congr 1
      cases h <;> simp [shf] <;> omega
    rw [e]; simp [hi]
  · simp [hi]
/-- What is read of c bits behind d of them. -/
def tk (h : Bool) (l : List Bool) (c d : Nat) : Nat := num h (l.take d ++ List.replicate (c - d) false)
theorem tk_zero (h : Bool) (l : List Bool) (c : Nat) : tk h l c 0 = 0 := by
  apply Nat.eq_of_testBit_eq
  intro i
  rw [tk, num_testBit]
  have rep : ∀ k j, (List.replicate k false).getD j false = false := by
    intro k j; simp [List.getD, List.getElem?_replicate]; split <;> rfl
  simp only [List.take_zero, List.nil_append, rep]; simp
theorem tk_full (h : Bool) (l : List Bool) (c : Nat) : tk h l c c = num h (l.take c) := by simp [tk]
theorem tk_lt (h : Bool) (l : List Bool) (c d : Nat) (hd : d ≤ c) : tk h l c d < 2 ^ c := by
  refine Nat.lt_of_lt_of_le (num_lt h _) (Nat.pow_le_pow_right (by omega) ?_)
  simp; omega
theorem tk_step (h : Bool) (l : List Bool) (c d s : Nat) (hd : d + s ≤ c) (hl : c ≤ l.length) (h1 : 1 ≤ s) :
    tk h l c (d + s) = tk h l c d ||| num h ((l.drop d).take s) <<< shf h c d s := by
  apply Nat.eq_of_testBit_eq
  intro i
  rw [Nat.testBit_or, Nat.testBit_shiftLeft, tk, tk, num_testBit, num_testBit, num_testBit]
  have e1 : (l.take (d + s) ++ List.replicate (c - (d + s)) false).length = c := by simp; omega
  have e2 : (l.take d ++ List.replicate (c - d) false).length = c := by simp; omega
  have e3 : ((l.drop d).take s).length = s := by simp; omega
  have rep : ∀ k j, (List.replicate k false).getD j false = false := by
    intro k j; simp [List.getD, List.getElem?_replicate]; split <;> rfl
  have tg : ∀ m j, m ≤ l.length → (l.take m ++ List.replicate (c - m) false).getD j false = (decide (j < m) && l.getD j false) := by
    intro m j hm
    by_cases hj : j < m
    · rw [getD_app_left _ _ _ _ (by simp; omega)]
      simp [List.getD, List.getElem?_take, hj]
    · rw [getD_app_right _ _ _ _ (by simp; omega), rep]; simp [hj]
  have cg : ∀ j, ((l.drop d).take s).getD j false = (decide (j < s) && l.getD (d + j) false) := by
    intro j
    by_cases hj : j < s
    · simp [List.getD, List.getElem?_take, hj, List.getElem?_drop]
    · rw [getD_out _ _ _ (by simp; omega)]; simp [hj]
  rw [e1, e2, e3, tg _ _ (by omega), tg _ _ (by omega), cg]
  by_cases hi : i < c
  · cases h
    · simp only [Bool.false_eq_true, if_false, shf, hi, decide_true, Bool.true_and]
      by_cases a : i < d
      · have : ¬ d ≤ i := by omega
        have a2 : i < d + s := by omega
        simp [a, a2, this]
      · have a3 : d ≤ i := by omega
        by_cases b : i < d + s
        · have : i - d < s := by omega
          have e : d + (i - d) = i := by omega
          simp [a, b, a3, this, e]
        · have : ¬ i - d < s := by omega
          simp [a, b, this]
    · simp only [if_true, shf, hi, decide_true, Bool.true_and]
      by_cases a : c - 1 - i < d
      · have : ¬ i - (c - d - s) < s := by omega
        have a2 : c - 1 - i < d + s := by omega
        simp [a, a2, this]
      · by_cases b : c - 1 - i < d + s
        · have a3 : c - d - s ≤ i := by omega
          have a4 : i - (c - d - s) < s := by omega
          have a5 : s - 1 - (i - (c - d - s)) < s := by omega
          have e : d + (s - 1 - (i - (c - d - s))) = c - 1 - i := by omega
          simp [a, b, a3, a4, a5, e]
        · have : ¬ c - d - s ≤ i := by omega
          simp [a, b, this]
  · have e4 : ¬ (i - shf h c d s < s) := by cases h <;> simp [shf] <;> omega
    simp [hi, e4]
/-- What was written is there to be read, the last byte completed. -/
theorem rbits_packs (h f : Bool) (l : List Bool) : rbits h (packs h f l) = l ++ List.replicate ((8 - l.length % 8) % 8) f := by
  have hlen : (rbits h (packs h f l)).length = (l ++ List.replicate ((8 - l.length % 8) % 8) f).length := by
    rw [rbits_length, packs_length]; simp; omega
  apply List.ext_getElem?
  intro i
  by_cases hi : i < (rbits h (packs h f l)).length
  · have h1 : (rbits h (packs h f l)).getD i f = (l ++ List.replicate ((8 - l.length % 8) % 8) f).getD i f := by
      rw [rbits_length] at hi
      rw [rbits_getD _ _ _ _ hi]
      rw [packs_length] at hi
      rw [gb_packs _ _ _ _ (by omega), pk_testBit]
      have e : (if h then 7 - i % 8 else i % 8) < 8 := by split <;> omega
      have e2 : 8 * (i / 8) + (if h then 7 - (if h then 7 - i % 8 else i % 8) else (if h then 7 - i % 8 else i % 8)) = i := by cases h <;> simp <;> omega
      rw [e2]
      simp only [e, decide_true, Bool.true_and]
      by_cases hil : i < l.length
      · rw [getD_app_left _ _ _ _ hil]
      · rw [getD_app_right _ _ _ _ (by omega), getD_out _ _ _ (by omega)]
        simp only [List.getD, List.getElem?_replicate]
        split <;> rfl
    simp only [List.getD] at h1
    rw [List.getElem?_eq_getElem hi, List.getElem?_eq_getElem (by omega)] at h1 ⊢
    simpa using h1
  · rw [List.getElem?_eq_none (by omega), List.getElem?_eq_none (by omega)]
end Bt
end Go.Proofs.YtjjbgdmalefdlaaGreatDoor
end

section
namespace Go.Proofs.YtjjbgdmalefdlaaGreatDoor
open Go.RowKit

theorem own_nil_or {w : World} {base : Nat} {e : TypeId} {size : Nat} {v : Value} {n : Nat} {xs : List Value} (h : w.ownsRow base e size v n xs) :
    (v = .slice none 0 0 ∧ n = 0) ∨ ∃ g cap, v = .slice (some ⟨g, 0, none⟩) n cap ∧ n ≤ cap ∧ base ≤ g ∧ g < w.heap.size ∧ cap ≤ 9223372036854775807 := by
  rcases h.2 with h' | ⟨g, cap, cur, rfl, hb, hg, hnc, hm, _⟩
  · exact .inl h'
  · exact .inr ⟨g, cap, rfl, hnc, hb, (Array.getElem?_eq_some_iff.1 hg).1, by unfold maxLen at hm; omega⟩
/-- A row that the call owns, as a slice whose cells can be read. -/
theorem own_slice {w : World} {base : Nat} {e : TypeId} {v : Value} {n : Nat} {xs : List Value} (h : w.ownsRow base e 1 v n xs) :
    ∃ a cap, v = .slice a n cap ∧ ∀ j, j < n → ∃ g, a = some ⟨g, 0, none⟩ ∧ w.cell? ⟨g, j, none⟩ = xs[j]? := by
  rcases own_nil_or h with ⟨rfl, rfl⟩ | ⟨g, cap, rfl, _⟩
  · exact ⟨none, 0, rfl, fun j hj => absurd hj (by omega)⟩
  · exact ⟨_, cap, rfl, fun j hj => ⟨g, rfl, h.cellAt j (by omega)⟩⟩
/-- A shorter slice of the same row. -/
theorem own_prefix {w : World} {base : Nat} {e : TypeId} {g n cap : Nat} {xs : List Value} (h : w.ownsRow base e 1 (.slice (some ⟨g, 0, none⟩) n cap) n xs) (k : Nat) (hk : k ≤ n) :
    w.ownsRow base e 1 (.slice (some ⟨g, 0, none⟩) k cap) k (xs.take k) := by
  have hl := h.1
  rcases h.2 with ⟨h', _⟩ | ⟨g', cap', cur, h', hb, hg, hnc, hm, hs, ht⟩
  · simp at h'
  · simp only [Value.slice.injEq, Option.some.injEq, Addr.mk.injEq, and_true, true_and] at h'
    obtain ⟨rfl, rfl⟩ := h'
    refine ⟨by simp; omega, .inr ⟨g, cap, cur, rfl, hb, hg, by omega, hm, hs, ?_⟩⟩
    rw [← ht, List.take_take]
    congr 1; omega
theorem own_base {w : World} {base base' : Nat} {e : TypeId} {size : Nat} {v : Value} {n : Nat} {xs : List Value} (h : w.ownsRow base e size v n xs) (hb : ∀ g, v.ownBlock = some g → base' ≤ g) : w.ownsRow base' e size v n xs := by
  obtain ⟨h1, h2⟩ := h
  refine ⟨h1, ?_⟩
  rcases h2 with h2 | ⟨g, cap, cur, rfl, hg, r⟩
  · exact .inl h2
  · exact .inr ⟨g, cap, cur, rfl, hb g rfl, r⟩

theorem cell_set_other {w : World} {g j : Nat} {u : Value} {b o : Nat} (h : b ≠ g) : (w.setCell ⟨g, j, none⟩ u).cell? ⟨b, o, none⟩ = w.cell? ⟨b, o, none⟩ :=
  World.cell?_of_block (w := w) (heap_setCell_other w ⟨g, j, none⟩ b u h)
/-- What an append leaves: written in place, or a new row. -/
def Step (w w' : World) (v v' : Value) : Prop :=
  (∃ g k cap k', v = .slice (some ⟨g, 0, none⟩) k cap ∧ v' = .slice (some ⟨g, 0, none⟩) k' cap ∧ w.grownBy w' (some g)) ∨
  ((∃ g, v'.ownBlock = some g ∧ w.heap.size ≤ g) ∧ w.grownBy w' none)
theorem Step.below {w0 w w' : World} {B : Nat} {v v' : Value} (h : Step w w' v v') (hb : Below B w0 w) (hB : B ≤ w.heap.size) (hv : ∀ g, v.ownBlock = some g → B ≤ g) : Below B w0 w' := by
  rcases h with ⟨g, k, cap, k', rfl, _, hg⟩ | ⟨_, hg⟩
  · exact hb.grown hg hB (fun k hk => by cases hk; exact hv g rfl)
  · exact hb.grown hg hB (by simp)
theorem Step.size {w w' : World} {v v' : Value} (h : Step w w' v v') : w.heap.size ≤ w'.heap.size := by
  rcases h with ⟨_, _, _, _, _, _, hg⟩ | ⟨_, hg⟩ <;> exact hg.size
/-- Another row stays. -/
theorem Step.other {w w' : World} {v v' u : Value} {base : Nat} {e : TypeId} {size n : Nat} {xs : List Value} (h : Step w w' v v') (hu : w.ownsRow base e size u n xs) (hne : ∀ g, u.ownBlock = some g → v.ownBlock ≠ some g) : w'.ownsRow base e size u n xs := by
  rcases h with ⟨g, k, cap, k', rfl, _, hg⟩ | ⟨_, hg⟩
  · refine hu.kept hg ?_
    cases hub : u.ownBlock with
    | none => exact .inl rfl
    | some x => right; intro he; cases he; exact hne g hub rfl
  · exact hu.kept hg (by cases u.ownBlock <;> simp)
/-- The new value's block is none of the old blocks but its own. -/
theorem Step.block {w w' : World} {v v' : Value} (h : Step w w' v v') : ∀ g, v'.ownBlock = some g → v.ownBlock = some g ∨ w.heap.size ≤ g := by
  intro g hg
  rcases h with ⟨g', k, cap, k', rfl, rfl, _⟩ | ⟨⟨g', h1, h2⟩, _⟩
  · exact .inl hg
  · rw [h1] at hg; cases hg; exact .inr h2
theorem Step.cell {w w' : World} {v v' : Value} (h : Step w w' v v') {a : Addr} {u : Value} (hc : w.cell? a = some u) (hne : v.ownBlock ≠ some a.block) : w'.cell? a = some u := by
  rcases h with ⟨g, k, cap, k', rfl, _, hg⟩ | ⟨_, hg⟩
  · exact hg.cell hc (fun e => hne e.symm)
  · exact hg.cell hc (by simp)

section
variable {P : Program} {w : World} {ops : Array Oper} {rest : List Oper} {o : Oper} {a : Act} {Q : Exit → Act → World → Prop}
variable {t e : TypeId} {z : Value} {size by' : Nat}
theorem wpl_append2 (R : RowTy P t e z size by') (hg : o.guard = none) (s x : Operand) (hop : o.op = Op.call { callee := Callee.builtin Builtin.append, args := #[s, x], argTypes := #[t, t] })
    {base n : Nat} {v : Value} {xs : List Value} (hown : w.ownsRow base e size v n xs) {ad : Addr} {m c : Nat} {news : List Value} (hsrc : SrcRow w (some ad) m c news size)
    (hs : a.eval s = v) (hx : a.eval x = .slice (some ad) m c) (hm : 0 < m) (h63 : n + m ≤ 9223372036854775807) (hbytes : (n + m) * by' ≤ 140737488355328) (hbase : base ≤ w.heap.size)
    (hK : ∀ v' w', w'.ownsRow base e size v' (n + m) (xs ++ news) → Step w w' v v' → wpList P ops Q rest (a.put o.dst v') w') :
    wpList P ops Q (o :: rest) a w := by
  obtain ⟨i0, hi, hz0, hz1, hz2⟩ := info_parts R.info
  have hnc := hsrc.hc ad rfl
  have hml : n + m ≤ maxLen := by unfold maxLen; omega
  have fin : ∀ (v' : Value) (w' : World), (Builtin.append_ #[t, t] o.type #[v, .slice (some ad) m c]).run P w = .ok v' w' → w'.ownsRow base e size v' (n + m) (xs ++ news) → Step w w' v v' → wpList P ops Q (o :: rest) a w := by
    intro v' w' hrun h1 h2
    refine wpList_plain hg fun K hK' => ?_
    unfold Oper.wp
    simp [execOp, hop, resolve, invoke, builtin, hs, hx, hrun, Result.andThen]
    exact hK' _ _ (hK v' w' h1 h2)
  rcases own_nil_or hown with ⟨rfl, rfl⟩ | ⟨g, cap, rfl, hle, hbg, hgl, hcap⟩
  · have hx0 : xs = [] := List.eq_nil_of_length_eq_zero (by have := hown.1; simpa using this)
    subst hx0
    have hown0 := World.ownsRow_nil w w.heap.size e size
    obtain ⟨v', w', hrun, r1, r2, _⟩ := run_append_own (P := P) w w.heap.size t o.type e i0 z size by' R.ht hi hz0 hz1 hz2 R.hzs R.hsz _ 0 [] hown0 ad m c news hsrc.hl hnc hsrc.h1 hml hbytes (Nat.le_refl _)
    have hb : ∃ g, v'.ownBlock = some g ∧ w.heap.size ≤ g := by
      rcases own_nil_or r1 with ⟨_, h⟩ | ⟨g, cap, rfl, _, h, _⟩
      · omega
      · exact ⟨g, rfl, h⟩
    exact fin v' w' hrun (own_base r1 (fun g hg => Nat.le_trans hbase ((r1.lt g hg).1))) (.inr ⟨hb, r2⟩)
  · by_cases hroom : n + m ≤ cap
    · obtain ⟨w', hrun, r1, r2⟩ := run_append_fits (P := P) w base t o.type e i0 size R.ht hi hz1 g n cap xs hown ad m c news hsrc.hl hnc hsrc.h1 hroom
      exact fin _ w' hrun r1 (.inl ⟨g, n, cap, n + m, rfl, rfl, r2⟩)
    · obtain ⟨v', w', hrun, r1, r2⟩ := run_append_arg_grows (P := P) w t o.type e i0 z size by' R.ht hi hz0 hz1 hz2 R.hzs R.hsz ⟨g, 0, none⟩ n cap xs hown.1 (hown.cells rfl) ad m c news hsrc.hl hnc (by omega) hml hbytes
      have hb : ∃ g, v'.ownBlock = some g ∧ w.heap.size ≤ g := by
        rcases own_nil_or r1 with ⟨_, h⟩ | ⟨g, cap, rfl, _, h, _⟩
        · omega
        · exact ⟨g, rfl, h⟩
      exact fin v' w' hrun (own_base r1 (fun g hg => Nat.le_trans hbase ((r1.lt g hg).1))) (.inr ⟨hb, r2⟩)
end

namespace Ap
/-- What list k is marked with at place j; up to n. -/
def pby (k j : Nat) : UInt8 := UInt8.ofNat (29 * k + 5 * j + 3)
def pat (k n : Nat) : List UInt8 := (List.range n).map fun j => pby k j
theorem pat_length (k n : Nat) : (pat k n).length = n := by simp [pat]
theorem gb_pat (k n j : Nat) (h : j < n) : gb (pat k n) j = (29 * k + 5 * j + 3) % 256 := by
  simp [gb, pat, pby, List.getD, List.getElem?_map, List.getElem?_range h]
theorem pat_succ (k n : Nat) : pat k (n + 1) = pat k n ++ [pby k n] := by simp [pat, List.range_succ]
theorem pat_take (k n m : Nat) (h : m ≤ n) : (pat k n).take m = pat k m := by
  simp [pat, ← List.map_take, List.take_range, Nat.min_eq_left h]
/-- List k while it is marked. -/
def half (k j : Nat) (l : List UInt8) : List UInt8 := pat k j ++ l.drop j
theorem half_zero (k : Nat) (l : List UInt8) : half k 0 l = l := by simp [half, pat]
theorem half_full (k : Nat) (l : List UInt8) : half k l.length l = pat k l.length := by simp [half]
theorem half_set (k j : Nat) (l : List UInt8) (h : j < l.length) : (half k j l).set j (pby k j) = half k (j + 1) l := by
  unfold half
  rw [List.set_append_right _ _ (by simp [pat_length]), pat_length, Nat.sub_self, pat_succ, List.append_assoc]
  congr 1
  rw [List.drop_eq_getElem_cons h, List.set_cons_zero]
  rfl
end Ap
theorem bvs_set (l : List UInt8) (j n : Nat) : (bvs l).set j (.int .u8 ((n % 256 : Nat) : Int)) = bvs (l.set j (UInt8.ofNat n)) := by
  simp [bvs, List.map_set]

/-- All lists, each with what it reads as. -/
def Ls (w : World) (B : Nat) (e : TypeId) (ss : List Sl) (c : Nat → List UInt8) : Prop :=
  ∀ i, i < ss.length → w.ownsRow B e 1 (nth ss i).val (nth ss i).len (bvs (c i))
/-- Each in a block of its own. -/
def Dj (ss : List Sl) : Prop := ∀ i j, i < ss.length → j < ss.length → i ≠ j → ∀ g, (nth ss i).val.ownBlock = some g → (nth ss j).val.ownBlock ≠ some g
theorem Ls.congr {w : World} {B : Nat} {e : TypeId} {ss : List Sl} {c c' : Nat → List UInt8} (h : Ls w B e ss c) (hc : ∀ i, i < ss.length → c i = c' i) : Ls w B e ss c' :=
  fun i hi => by rw [← hc i hi]; exact h i hi
theorem Ls.store {w : World} {B : Nat} {e : TypeId} {ss : List Sl} {c : Nat → List UInt8} (h : Ls w B e ss c) (hd : Dj ss) (k : Nat) (hk : k < ss.length) (g len cap : Nat) (hs : (nth ss k).val = .slice (some ⟨g, 0, none⟩) len cap) (hl : (nth ss k).len = len) (j n : Nat) (y : UInt8) (hy : y = UInt8.ofNat n) :
    Ls (w.setCell ⟨g, j, none⟩ (.int .u8 ((n % 256 : Nat) : Int))) B e ss (fun i => if i = k then (c k).set j y else c i) := by
  subst hy
  intro i hi
  by_cases e : i = k
  · subst e
    simp only [if_true]
    have h1 := h i hi
    rw [hs, hl] at h1 ⊢
    rw [← bvs_set]
    exact (h1.stored j _).1
  · simp only [if_neg e]
    have h1 := h k hk
    rw [hs, hl] at h1
    refine (h i hi).kept (h1.stored j _).2 ?_
    cases hub : (nth ss i).val.ownBlock with
    | none => exact .inl rfl
    | some x =>
      right; intro he; cases he
      exact hd i k hi hk e g hub (by rw [hs]; rfl)

/-- The outer slice's cells. -/
def Outer (w : World) (ob off : Nat) (ss : List Sl) : Prop := ∀ i, i < ss.length → w.cell? ⟨ob, off + i, none⟩ = some (.slice (nth ss i).a (nth ss i).len (nth ss i).cap)
/-- What does not change while the lists are grown. -/
structure Cst (B ob S0 : Nat) (ss : List Sl) : Prop where
  dj : Dj ss
  ne : ∀ i, i < ss.length → (nth ss i).val.ownBlock ≠ some ob
  old : ∀ i, i < ss.length → ∀ g, (nth ss i).val.ownBlock = some g → B ≤ g ∧ g < S0
  obl : ob < S0
  bs : B ≤ S0
/-- Some lists are grown. -/
structure St (w wr : World) (B ob off S0 : Nat) (e ts : TypeId) (ss gs : List Sl) (gv : Value) (k : Nat) : Prop where
  bel : Below B w wr
  size : S0 ≤ wr.heap.size
  out : Outer wr ob off ss
  ls : Ls wr B e ss (fun i => Ap.pat i (nth ss i).len)
  glen : gs.length = k
  gown : wr.ownsRow S0 ts 1 gv k (gs.map Sl.val)
  geach : ∀ i, i < k → wr.ownsRow B e 1 (nth gs i).val ((nth ss i).len + 10) (bvs (Ap.pat i ((nth ss i).len + 10))) ∧ (nth gs i).len = (nth ss i).len + 10
  gblk : ∀ i, i < k → ∀ g, (nth gs i).val.ownBlock = some g → ((nth ss i).val.ownBlock = some g ∨ S0 ≤ g) ∧ gv.ownBlock ≠ some g
/-- List k is being grown. -/
structure Vg (wr : World) (B S0 : Nat) (e : TypeId) (ss gs : List Sl) (gv v : Value) (k t : Nat) : Prop where
  own : wr.ownsRow B e 1 v ((nth ss k).len + t) (bvs (Ap.pat k ((nth ss k).len + t)))
  from' : v = .slice (nth ss k).a ((nth ss k).len + t) (nth ss k).cap ∨ ∃ g, v.ownBlock = some g ∧ S0 ≤ g ∧ gv.ownBlock ≠ some g ∧ ∀ i, i < k → (nth gs i).val.ownBlock ≠ some g
theorem Sl.val_block (s : Sl) : s.val.ownBlock = s.a.map (·.block) := by cases h : s.a <;> simp [Sl.val, Value.ownBlock, h]
section
variable {w wr w' : World} {B ob off S0 : Nat} {e ts : TypeId} {ss gs : List Sl} {gv v v' : Value} {k t : Nat}
theorem St.mono (h : St w wr B ob off S0 e ts ss gs gv k) (c : Cst B ob S0 ss) (hb : Below wr.heap.size wr w') (hob : ob < wr.heap.size) : St w w' B ob off S0 e ts ss gs gv k :=
  ⟨h.bel.trans (hb.mono (Nat.le_trans c.bs h.size)), Nat.le_trans h.size hb.size, fun i hi => by rw [hb.cell (p := ⟨ob, off + i, none⟩) hob]; exact h.out i hi,
   fun i hi => own_below (h.ls i hi) hb, h.glen, own_below h.gown hb, fun i hi => ⟨own_below (h.geach i hi).1 hb, (h.geach i hi).2⟩, h.gblk⟩
theorem Vg.mono (h : Vg wr B S0 e ss gs gv v k t) (hb : Below wr.heap.size wr w') : Vg w' B S0 e ss gs gv v k t := ⟨own_below h.own hb, h.from'⟩
/-- v's block, told apart. -/
theorem Vg.apart (h : Vg wr B S0 e ss gs gv v k t) (c : Cst B ob S0 ss) (s : St w wr B ob off S0 e ts ss gs gv k) (hk : k < ss.length) :
    (∀ i, i < ss.length → i ≠ k → ∀ g, (nth ss i).val.ownBlock = some g → v.ownBlock ≠ some g) ∧ (∀ i, i < k → ∀ g, (nth gs i).val.ownBlock = some g → v.ownBlock ≠ some g) ∧
    v.ownBlock ≠ some ob ∧ (∀ g, gv.ownBlock = some g → v.ownBlock ≠ some g) := by
  rcases h.from' with hv | ⟨g, hg, h1, h2, h3⟩
  · have hvb : v.ownBlock = (nth ss k).val.ownBlock := by rw [hv, Sl.val_block]; cases (nth ss k).a <;> rfl
    rw [hvb]
    refine ⟨fun i hi hne g hg => c.dj i k hi hk hne g hg, fun i hi g hg he => ?_, c.ne k hk, fun g hg he => ?_⟩
    · rcases (s.gblk i hi g hg).1 with h1 | h1
      · exact c.dj i k (by omega) hk (by omega) g h1 he
      · have := (c.old k hk g he).2; omega
    · have h1 := (s.gown.lt g hg).1
      have := (c.old k hk g he).2; omega
  · rw [hg]
    refine ⟨fun i hi hne g' hg' he => ?_, fun i hi g' hg' he => ?_, fun he => ?_, fun g' hg' he => ?_⟩
    · cases he; have := (c.old i hi g hg').2; omega
    · cases he; exact h3 i hi hg'
    · cases he; have := c.obl; omega
    · cases he; exact h2 hg'
/-- A step of growing list k. -/
theorem ap_step (h : Vg wr B S0 e ss gs gv v k t) (c : Cst B ob S0 ss) (s : St w wr B ob off S0 e ts ss gs gv k) (hk : k < ss.length) (hst : Step wr w' v v')
    (hown : w'.ownsRow B e 1 v' ((nth ss k).len + t + 1) (bvs (Ap.pat k ((nth ss k).len + t) ++ [Ap.pby k ((nth ss k).len + t)]))) :
    St w w' B ob off S0 e ts ss gs gv k ∧ Vg w' B S0 e ss gs gv v' k (t + 1) := by
  obtain ⟨a1, a2, a3, a4⟩ := h.apart c s hk
  rw [← Ap.pat_succ] at hown
  refine ⟨⟨hst.below s.bel (Nat.le_trans c.bs s.size) (fun g hg => (h.own.lt g hg).1), Nat.le_trans s.size hst.size, fun i hi => hst.cell (s.out i hi) a3, fun i hi => ?_, s.glen, hst.other s.gown a4, fun i hi => ⟨hst.other (s.geach i hi).1 (a2 i hi), (s.geach i hi).2⟩, s.gblk⟩, ⟨hown, ?_⟩⟩
  · by_cases e1 : i = k
    · subst e1
      rcases h.from' with hv | ⟨g, hg, h1, h2, h3⟩
      · rcases hst with ⟨g, n, cap, n', e2, e3, hg⟩ | ⟨_, hg⟩
        · rw [hv] at e2
          simp only [Value.slice.injEq] at e2
          obtain ⟨e4, e5, e6⟩ := e2
          rcases own_nil_or hown with ⟨e7, _⟩ | ⟨g2, cap2, e7, hle, _⟩
          · rw [e3] at e7; simp at e7
          · rw [e3] at e7
            simp only [Value.slice.injEq, Option.some.injEq, Addr.mk.injEq, and_true, true_and] at e7
            obtain ⟨rfl, rfl, rfl⟩ := e7
            rw [e3] at hown
            have := own_prefix hown (nth ss i).len (by omega)
            rw [show (nth ss i).val = .slice (some ⟨g, 0, none⟩) (nth ss i).len cap by unfold Sl.val; rw [e4, e6]]
            have ep : (bvs (Ap.pat i ((nth ss i).len + t + 1))).take (nth ss i).len = bvs (Ap.pat i (nth ss i).len) := by
              rw [← Ap.pat_take i ((nth ss i).len + t + 1) (nth ss i).len (by omega)]; simp [bvs, List.map_take]
            rw [ep] at this
            exact this
        · exact (s.ls i hi).kept hg (by cases (nth ss i).val.ownBlock <;> simp)
      · exact hst.other (s.ls i hi) (fun g' hg' he => by rw [hg] at he; cases he; have := (c.old i hi g hg').2; omega)
    · exact hst.other (s.ls i hi) (a1 i hi e1)
  · rcases hst with ⟨g, n, cap, n', e2, e3, hg⟩ | ⟨⟨g, hg, hge⟩, _⟩
    · rcases own_nil_or hown with ⟨e7, _⟩ | ⟨g2, cap2, e7, hle, _⟩
      · rw [e3] at e7; simp at e7
      · rw [e3] at e7
        simp only [Value.slice.injEq, Option.some.injEq, Addr.mk.injEq, and_true, true_and] at e7
        obtain ⟨rfl, rfl, rfl⟩ := e7
        rcases h.from' with hv | ⟨g', hg', h1, h2, h3⟩
        · rw [e2] at hv
          simp only [Value.slice.injEq] at hv
          left; rw [e3, hv.1, hv.2.2]; rfl
        · right; refine ⟨g', ?_, h1, h2, h3⟩
          rw [e3]; rw [e2] at hg'; exact hg'
    · right
      refine ⟨g, hg, Nat.le_trans s.size hge, fun he => ?_, fun i hi he => ?_⟩
      · have := (s.gown.lt g he).2; omega
      · have := ((s.geach i hi).1.lt g he).2; omega
/-- List k has been grown and goes to the others. -/
theorem ap_grow (x : Sl) (hx : x.val = v) (hxl : x.len = (nth ss k).len + 10) (h : Vg wr B S0 e ss gs gv v k 10) (c : Cst B ob S0 ss) (s : St w wr B ob off S0 e ts ss gs gv k) (hk : k < ss.length)
    {gv' : Value} (hst : Step wr w' gv gv') (hown : w'.ownsRow S0 ts 1 gv' (k + 1) (gs.map Sl.val ++ [v])) :
    St w w' B ob off S0 e ts ss (gs ++ [x]) gv' (k + 1) := by
  have gbl : ∀ g, gv.ownBlock = some g → S0 ≤ g := fun g hg => (s.gown.lt g hg).1
  have hgl : gs.length = k := s.glen
  have en : ∀ i, i < k → nth (gs ++ [x]) i = nth gs i := fun i hi => by
    rw [nth_get _ i (by simp; omega), nth_get _ i (by omega), List.getElem_append_left]
  have ek : nth (gs ++ [x]) k = x := by rw [nth_get _ k (by simp; omega)]; simp [hgl]
  obtain ⟨a1, a2, a3, a4⟩ := h.apart c s hk
  have nov : ∀ g, v.ownBlock = some g → gv.ownBlock ≠ some g := fun g hg he => a4 g he hg
  refine ⟨hst.below s.bel (Nat.le_trans c.bs s.size) (fun g hg => Nat.le_trans c.bs (gbl g hg)), Nat.le_trans s.size hst.size, fun i hi => hst.cell (s.out i hi) (fun he => by have := gbl _ he; have := c.obl; simp at *; omega),
    fun i hi => hst.other (s.ls i hi) (fun g hg he => by have := gbl _ he; have := (c.old i hi g hg).2; omega), by simp [hgl], by rw [List.map_append, List.map_cons, List.map_nil, hx]; exact hown, fun i hi => ?_, fun i hi g hg => ?_⟩
  · by_cases e1 : i < k
    · rw [en i e1]
      exact ⟨hst.other (s.geach i e1).1 (fun g hg => (s.gblk i e1 g hg).2), (s.geach i e1).2⟩
    · obtain rfl : i = k := by omega
      rw [ek, hx]
      exact ⟨hst.other h.own nov, hxl⟩
  · have hbl : ∀ g, gv'.ownBlock = some g → gv.ownBlock = some g ∨ wr.heap.size ≤ g := hst.block
    by_cases e1 : i < k
    · rw [en i e1] at hg
      refine ⟨(s.gblk i e1 g hg).1, fun he => ?_⟩
      rcases hbl g he with h1 | h1
      · exact (s.gblk i e1 g hg).2 h1
      · have := ((s.geach i e1).1.lt g hg).2; omega
    · obtain rfl : i = k := by omega
      rw [ek, hx] at hg
      refine ⟨?_, fun he => ?_⟩
      · rcases h.from' with hv | ⟨g', hg', h1, _⟩
        · left; rw [hv] at hg; rw [Sl.val_block]; cases ha : (nth ss i).a with
          | none => rw [ha] at hg; simp [Value.ownBlock] at hg
          | some ad => rw [ha] at hg; exact hg
        · rw [hg'] at hg; cases hg; exact .inr h1
      · rcases hbl g he with h1 | h1
        · exact nov g hg h1
        · have := (h.own.lt g hg).2; omega
end
end Go.Proofs.YtjjbgdmalefdlaaGreatDoor
end
