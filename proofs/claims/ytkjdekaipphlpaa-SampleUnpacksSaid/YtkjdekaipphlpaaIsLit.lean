/- Numbers as a literal. -/
import Derived.Test.YtkjdekaipphlpaaInts
namespace Go.Proofs.Ytkjdekaipphlpaa
open Go.RowKit

theorem is_lit (w : World) (l : List Int) (n : Nat) (t : TypeId) (cs : Array Value) (hcs : (ivs l).toArray = cs) (hn : l.length = n) (hw : Wf l) : Is .i64 (w.alloc (.cells cs t)) (some ⟨w.heap.size, 0, none⟩) n n l := by
  subst hcs
  refine ⟨hn, Nat.le_refl _, fun h => by simp at h, fun i hi => ⟨w.heap.size, 0, rfl, by simp, ?_⟩, hw⟩
  rw [cell_of_row _ _ _ _ t (0, 0) (heap_alloc_last w _), Nat.zero_add, List.getElem?_toArray]
  exact ivs_get l i (by omega)
/-- The same, at an address that is spelled otherwise (w.heap.size + 1 behind one alloc: Array.size_push). -/
theorem is_lit_at (w : World) (g : Nat) (hg : w.heap.size = g) (l : List Int) (n : Nat) (t : TypeId) (cs : Array Value) (hcs : (ivs l).toArray = cs) (hn : l.length = n) (hw : Wf l) : Is .i64 (w.alloc (.cells cs t)) (some ⟨g, 0, none⟩) n n l := by
  subst hg; exact is_lit w l n t cs hcs hn hw
end Go.Proofs.Ytkjdekaipphlpaa
