/- What Copy left, without its marks. -/
import Derived.Test.YtbgaaocgdjkkeaaDoorNum
import Derived.Test.YtbgaaocgdjkkeaaDoorApartMem
namespace Go.Proofs.YtbgaaocgdjkkeaaDoor
open Go.RowKit

theorem copy_own {w4 : World} {b g n : Nat} {l : List UInt8} (o : w4.ownsRow b 5 1 (.slice (some ⟨g, 0, none⟩) (n + 2) (n + 2)) (n + 2) (bvs (l ++ [165, 90]))) (hl : l.length = n) : w4.ownsRow b 5 1 (.slice (some ⟨g, 0, none⟩) n (n + 2)) n (bvs l) := by
  have C := own_prefix o n (by omega)
  have ep : (bvs (l ++ [165, 90])).take n = bvs l := by
    rw [bvs_append, List.take_append_of_le_length (by rw [bvs_length, hl]; exact Nat.le_refl _), List.take_of_length_le (by rw [bvs_length, hl]; exact Nat.le_refl _)]
  rw [ep] at C
  exact C
theorem copy_bs {w4 : World} {b g n : Nat} {l : List UInt8} (o : w4.ownsRow b 5 1 (.slice (some ⟨g, 0, none⟩) (n + 2) (n + 2)) (n + 2) (bvs (l ++ [165, 90]))) (hl : l.length = n) (hn : n ≤ 1000000) : Bs w4 (some ⟨g, 0, none⟩) n (n + 2) l := by
  have hm := bs_of_own (copy_own o hl) (by omega) n (Nat.le_refl _)
  rw [List.take_of_length_le (by rw [hl]; exact Nat.le_refl _)] at hm
  exact hm
end Go.Proofs.YtbgaaocgdjkkeaaDoor
