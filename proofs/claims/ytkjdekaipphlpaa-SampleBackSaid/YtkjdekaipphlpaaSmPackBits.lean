/- A writer's bits with clear ones behind them, as a row. -/
import Derived.Test.YtkjdekaipphlpaaSmMath
import Derived.Test.YtkjdekaipphlpaaIntsGet
namespace Go.Proofs.Ytkjdekaipphlpaa
open Go.RowKit
namespace Sm
theorem dg_zero (h : Bool) (c : Nat) : Bt.dg h 0 c = List.replicate c false := by
  apply List.ext_getElem?
  intro i
  by_cases hi : i < c
  · simp [Bt.dg, List.getElem?_range hi, List.getElem?_replicate, hi]
  · rw [List.getElem?_eq_none (by rw [Bt.dg_length]; omega), List.getElem?_eq_none (by simp; omega)]
/-- The row of numbers. -/
def row (d : Nat) (l : List Int) : List UInt8 := Bt.packs true false (enc d l)
theorem row_length (d : Nat) (l : List Int) : (row d l).length = (l.length * d + 7) / 8 := by unfold row; rw [Bt.packs_length, enc_length]
theorem row_bits (d : Nat) (l : List Int) : Bt.rbits true (row d l) = enc d l ++ List.replicate (mis (l.length * d)) false := by
  unfold row mis
  rw [Bt.rbits_packs, enc_length]
theorem enc_snoc (d : Nat) (l : List Int) (n : Int) : enc d (l ++ [n]) = enc d l ++ Bt.dg true n.toNat d := by rw [enc_append]; simp [enc]
/-- All are numbers of the depth. -/
def allIn (d : Nat) (l : List Int) : Bool := l.all fun n => inD d n
theorem allIn_snoc (d : Nat) (l : List Int) (k : Nat) (h : k < l.length) : allIn d (l.take (k + 1)) = (allIn d (l.take k) && inD d (l.getD k 0)) := by
  unfold allIn
  rw [ints_snoc l k h, List.all_append]; simp
theorem allIn_no (d : Nat) (l : List Int) (k : Nat) (h : k < l.length) (hn : inD d (l.getD k 0) = false) : allIn d l = false := by
  have hm : l.getD k 0 ∈ l := by
    simp only [List.getD, List.getElem?_eq_getElem h]
    exact List.getElem_mem h
  unfold allIn
  rw [List.all_eq_false]
  exact ⟨_, hm, by rw [hn]; simp⟩
end Sm
end Go.Proofs.Ytkjdekaipphlpaa
