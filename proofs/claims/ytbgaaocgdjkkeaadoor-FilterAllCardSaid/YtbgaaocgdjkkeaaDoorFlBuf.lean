/- A bytes.Buffer that was made with room for all that is written: its contracts. -/
import Derived.Test.YtbgaaocgdjkkeaaDoorFlBk
import Derived.Test.YtbgaaocgdjkkeaaDoorTyB
import Derived.Laws.CopyOwn
namespace Go.Proofs.YtbgaaocgdjkkeaaDoor
open Go.RowKit

/-- A buffer in block b: its bytes lie in block q, n of them so far. -/
structure Bf (w : World) (b q cap : Nat) (F : List UInt8) (n : Nat) : Prop where
  row : w.heap[b]? = some (.cells #[.slice (some ⟨q, 0, none⟩) n cap, .int .i64 0, .int .i8 0] 61 (0, 0))
  ne : b ≠ q
  bk : Bk w q F
  len : F.length = cap
  le : n ≤ cap
  max : cap ≤ 140737488355328
theorem Bf.cells {w : World} {b q cap : Nat} {F : List UInt8} {n : Nat} (h : Bf w b q cap F n) : w.cell? ⟨b, 0, none⟩ = some (.slice (some ⟨q, 0, none⟩) n cap) ∧ w.cell? ⟨b, 1, none⟩ = some (.int .i64 0) ∧ w.cell? ⟨b, 2, none⟩ = some (.int .i8 0) :=
  ⟨(cell_of_row _ _ 0 _ _ (0, 0) h.row).trans rfl, (cell_of_row _ _ 1 _ _ (0, 0) h.row).trans rfl, (cell_of_row _ _ 2 _ _ (0, 0) h.row).trans rfl⟩
theorem Bf.fz {w : World} {b q cap : Nat} {F : List UInt8} {n : Nat} (h : Bf w b q cap F n) (i : Nat) : w.frozen? ⟨b, i, none⟩ = false := frozen_of_row w b i _ _ h.row
theorem Bf.below {w w' : World} {b q cap : Nat} {F : List UInt8} {n : Nat} (h : Bf w b q cap F n) (hb : Below w.heap.size w w') : Bf w' b q cap F n :=
  ⟨(hb.block b (Array.getElem?_eq_some_iff.1 h.row).1).trans h.row, h.ne, (hb.block q h.bk.lt).trans h.bk, h.len, h.le, h.max⟩
/-- What a buffer's call may change. -/
def Bfc (b q : Nat) (k : Nat) : Prop := k = b ∨ k = q
theorem Bf.last {w : World} {b q cap : Nat} {F : List UInt8} {n : Nat} (h : Bf w b q cap F n) : Bf (w.setCell ⟨b, 2, none⟩ (.int .i8 0)) b q cap F n := by
  refine ⟨?_, h.ne, ?_, h.len, h.le, h.max⟩
  · rw [heap_setCell_same w b _ _ _ _ h.row]; rfl
  · unfold Bk; rw [Below.heap_setCell w ⟨b, 2, none⟩ _ q (fun e => h.ne e.symm)]; exact h.bk
theorem Bf.grow {w : World} {b q cap : Nat} {F : List UInt8} {n : Nat} (h : Bf w b q cap F n) (d : Nat) (hd : n + d ≤ cap) : Bf (w.setCell ⟨b, 0, none⟩ (.slice (some ⟨q, 0, none⟩) (n + d) cap)) b q cap F (n + d) := by
  refine ⟨?_, h.ne, ?_, h.len, hd, h.max⟩
  · rw [heap_setCell_same w b _ _ _ _ h.row]; rfl
  · unfold Bk; rw [Below.heap_setCell w ⟨b, 0, none⟩ _ q (fun e => h.ne e.symm)]; exact h.bk
theorem Bf.put {w : World} {b q cap : Nat} {F : List UInt8} {n : Nat} (h : Bf w b q cap F n) (j x : Nat) (hx : x < 256) : Bf (w.setCell ⟨q, j, none⟩ (.int .u8 (x : Int))) b q cap (F.set j (UInt8.ofNat x)) n := by
  have h1 := h.bk.set j x
  rw [Nat.mod_eq_of_lt hx] at h1
  exact ⟨by rw [Below.heap_setCell w ⟨q, j, none⟩ _ b h.ne]; exact h.row, h.ne, h1, by rw [List.length_set]; exact h.len, h.le, h.max⟩
theorem tryGrow_any (b q cap d : Nat) (F : List UInt8) (n : Nat) (w : World) (h : Bf w b q cap F n) (hd : n + d ≤ cap) :
    Calls Tryd.prog 33 #[.pointer (some ⟨b, 0, none⟩), .int .i64 d] w fun e w' => e = .returned (.tuple #[.int .i64 n, .bool true]) ∧ w' = w.setCell ⟨b, 0, none⟩ (.slice (some ⟨q, 0, none⟩) (n + d) cap) := by
  obtain ⟨c0, _, _⟩ := h.cells
  have f0 := h.fz 0
  have hm := h.max
  have hI1 : (d : Int) ≤ (cap : Int) - (n : Int) := by omega
  have dI1 : decide ((d : Int) ≤ (cap : Int) - (n : Int)) = true := by simpa using hI1
  clear h
  go_enter Tryd.func33, Tryd.ntmps33
  go_wp2
  go_ret2
  exact ⟨rfl, rfl⟩
end Go.Proofs.YtbgaaocgdjkkeaaDoor
