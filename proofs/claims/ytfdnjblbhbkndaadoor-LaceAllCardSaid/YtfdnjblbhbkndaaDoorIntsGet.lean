/- Small words on slices of numbers. -/
import Derived.Test.YtfdnjblbhbkndaaDoorInts
namespace Go.Proofs.YtfdnjblbhbkndaaDoor
open Go.RowKit

theorem Is.getW {k : IntKind} {w : World} {a : Option Addr} {len cap : Nat} {l : List Int} (h : Is k w a len cap l) (i : Nat) (hi : i < len) : (Lit.int k (l.getD i 0)).wf = true := by
  have hil : i < l.length := by rw [h.hlen]; exact hi
  exact h.wf _ (by simp [List.getD, List.getElem?_eq_getElem hil])
theorem ints_snoc (l : List Int) (k : Nat) (h : k < l.length) : l.take (k + 1) = l.take k ++ [l.getD k 0] := by
  rw [List.take_succ_eq_append_getElem h]; simp [List.getD, List.getElem?_eq_getElem h]
theorem own_set {w : World} {base n cap g : Nat} {l : List Int} (h : w.ownsRow base 3 1 (.slice (some ⟨g, 0, none⟩) n cap) n (ivs l)) (j : Nat) (z : Int) :
    (w.setCell ⟨g, j, none⟩ (.int .i64 z)).ownsRow base 3 1 (.slice (some ⟨g, 0, none⟩) n cap) n (ivs (l.set j z)) := by
  rw [← ivs_set]; exact (h.stored j _).1
end Go.Proofs.YtfdnjblbhbkndaaDoor
