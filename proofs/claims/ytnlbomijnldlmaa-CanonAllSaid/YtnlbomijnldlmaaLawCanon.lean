/- What layer 4's laws share: the example, numbers as a literal. -/
import Derived.Test.YtnlbomijnldlmaaCanonCodesOf
import Derived.Test.YtnlbomijnldlmaaLaw04a
namespace Go.Proofs.Ytnlbomijnldlmaa
open Go.RowKit

theorem is_lit (w : World) (l : List Int) (n : Nat) (t : TypeId) (cs : Array Value) (hcs : (ivs l).toArray = cs) (hn : l.length = n) (hw : Wf l) : Is .i64 (w.alloc (.cells cs t)) (some ⟨w.heap.size, 0, none⟩) n n l := by
  subst hcs
  refine ⟨hn, Nat.le_refl _, fun h => by simp at h, fun i hi => ⟨w.heap.size, 0, rfl, by simp, ?_⟩, hw⟩
  rw [cell_of_row _ _ _ _ t (0, 0) (heap_alloc_last w _), Nat.zero_add, List.getElem?_toArray]
  exact ivs_get l i (by omega)
namespace Bk
theorem ex_free : Cn.freeB Cn.ex = true := by decide
theorem ex_codes : csOf (seq (rowsL Cn.ex) 17) 8 = [2, 3, 4, 5, 6, 0, 14, 15] := by decide
theorem look_small (R : Nat → List Nat) (h : Good R) (s : Nat) : (look (seq R 17) s).1 < 65536 ∧ (look (seq R 17) s).2 ≤ 16 := by
  rcases look_mem (seq R 17) s with ⟨e, _⟩ | ⟨x, hx, _, e⟩
  · rw [e]; exact ⟨by show 0 < 65536; omega, by show 0 ≤ 16; omega⟩
  · rw [e]
    obtain ⟨n, i, hn, hi, rfl⟩ := (mem_seq _ _ _).1 hx
    have h1 := it_lt R h n i (by omega) hi
    have h2 := Bt.pow_le n 16 (by omega)
    simp only [Nat.reducePow] at h2
    exact ⟨by show (it R n i).c < 65536; omega, by show n ≤ 16; omega⟩
theorem csOf_wf (xs : List It) (n : Nat) (h : ∀ s, (look xs s).1 < 65536) : Wf (csOf xs n) := wf_small (fun x hx => by
  simp only [csOf, List.mem_map] at hx
  obtain ⟨s, _, rfl⟩ := hx
  have := h s
  omega)
end Bk
end Go.Proofs.Ytnlbomijnldlmaa
