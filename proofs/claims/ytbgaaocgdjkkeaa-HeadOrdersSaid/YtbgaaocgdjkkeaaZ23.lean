/- Chunks as the document has them: what is in form, how long they are. -/
import Derived.Test.YtbgaaocgdjkkeaaZ6
import Derived.Test.YtbgaaocgdjkkeaaZ18
set_option linter.unusedSimpArgs false
set_option linter.unusedVariables false
section
namespace Go.Proofs.Ytbgaaocgdjkkeaa
open Go.RowKit

namespace Ck
/-- A chunk: its name, its data. -/
abbrev C := List UInt8 × List UInt8
def small (x : UInt8) : Bool := decide (97 ≤ x.toNat ∧ x.toNat ≤ 122)
def upper (x : UInt8) : Bool := decide (65 ≤ x.toNat ∧ x.toNat ≤ 90)
def letter (x : UInt8) : Bool := small x || upper x
/-- Four letters. -/
def named (n : List UInt8) : Bool := n.length == 4 && n.all letter
def iend : List UInt8 := [73, 69, 78, 68]
def sign : List UInt8 := [137, 80, 78, 71, 13, 10, 26, 10]
def nth (l : List C) (i : Nat) : C := l.getD i ([], [])
/-- May this one stand at this place? -/
def okAt (l : List C) (i : Nat) : Bool := named (nth l i).1 && (((nth l i).1 == iend) == decide (i + 1 = l.length)) && !(decide (i + 1 = l.length) && decide (0 < (nth l i).2.length))
def good (l : List C) : Bool := decide (0 < l.length) && (List.range l.length).all (okAt l)
/-- A chunk's bytes. -/
def enc (c : C) : List UInt8 := Pt.dig 4 c.2.length ++ (c.1 ++ c.2) ++ Pt.dig 4 (Crc.crc (c.1 ++ c.2))
def encs (l : List C) : List UInt8 := l.flatMap enc
def wr (l : List C) : List UInt8 := sign ++ encs l
/-- So many bytes. -/
def size (l : List C) : Nat := (l.map fun c => 12 + c.2.length).sum
def lg (l : List C) : Nat := (l.map fun c => 20 + c.2.length + c.1.length).sum
theorem good_not (l : List C) (k : Nat) (hk : k < l.length) (h : okAt l k = false) : good l = false := by
  have : (List.range l.length).all (okAt l) = false := by
    rw [List.all_eq_false]
    exact ⟨k, by simpa using hk, by simp [h]⟩
  simp [good, this]
theorem good_of (l : List C) (h : ∀ i, i < l.length → okAt l i = true) : good l = decide (0 < l.length) := by
  have : (List.range l.length).all (okAt l) = true := by
    rw [List.all_eq_true]
    exact fun i hi => h i (by simpa using hi)
  simp [good, this]
theorem good_all {l : List C} (h : good l = true) : 0 < l.length ∧ ∀ i, i < l.length → okAt l i = true := by
  simp only [good, Bool.and_eq_true, decide_eq_true_eq, List.all_eq_true, List.mem_range] at h
  exact h
theorem take_succ (l : List C) (k : Nat) (h : k < l.length) : l.take (k + 1) = l.take k ++ [nth l k] := by
  rw [List.take_succ_eq_append_getElem h]; simp [nth, List.getD, List.getElem?_eq_getElem h]
theorem size_snoc (l : List C) (k : Nat) (h : k < l.length) : size (l.take (k + 1)) = size (l.take k) + (12 + (nth l k).2.length) := by
  rw [take_succ l k h]; simp [size]
theorem lg_snoc (l : List C) (k : Nat) (h : k < l.length) : lg (l.take (k + 1)) = lg (l.take k) + (20 + (nth l k).2.length + (nth l k).1.length) := by
  rw [take_succ l k h]; simp [lg]
theorem sum_take_le (l : List C) (f : C → Nat) (k : Nat) : ((l.take k).map f).sum ≤ (l.map f).sum := by
  conv => rhs; rw [← List.take_append_drop k l]
  rw [List.map_append, List.sum_append]; omega
theorem size_take_le (l : List C) (k : Nat) : size (l.take k) ≤ size l := sum_take_le l _ k
theorem lg_take_le (l : List C) (k : Nat) : lg (l.take k) ≤ lg l := sum_take_le l _ k
theorem encs_snoc (l : List C) (k : Nat) (h : k < l.length) : encs (l.take (k + 1)) = encs (l.take k) ++ enc (nth l k) := by
  rw [take_succ l k h]; simp [encs]
end Ck
/-- A chunk in memory as the document has it. -/
def Ckm.c (c : Ckm) : Ck.C := (c.n, c.s.l)
def cps (l : List Ckm) : List Ck.C := l.map Ckm.c
theorem cps_length (l : List Ckm) : (cps l).length = l.length := by simp [cps]
theorem cps_nth (l : List Ckm) (i : Nat) (h : i < l.length) : Ck.nth (cps l) i = (nck l i).c := by
  simp [Ck.nth, cps, nck, List.getD, List.getElem?_eq_getElem h]
end Go.Proofs.Ytbgaaocgdjkkeaa
end
