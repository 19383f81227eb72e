/- burnishref13.Channels: its contract. -/
import Derived.Test.YtkplopfbgaiegaaDoorHdRef
namespace Go.Proofs.YtkplopfbgaiegaaDoor
open Go.RowKit

namespace Hd
def T7 : List Int := [1, 0, 3, 1, 2, 0, 4]
theorem refChan_any (c : Int) (w : World) : Calls Tryd.prog 33 #[.int .i64 c] w fun e w' => e = .returned (.int .i64 (chan c)) ∧ Below w.heap.size w w' := by
  by_cases h0 : c < 0
  · have d0 : decide (c < 0) = true := by simpa using h0
    have HR : Hid (chan c = 0) := Lib.hid (by unfold chan; rw [if_neg (by omega), if_neg (by omega), if_neg (by omega), if_neg (by omega), if_neg (by omega)])
    clear h0
    go_enter Tryd.func33, Tryd.ntmps33
    go_wp2
    go_ret
    exact ⟨by rw [HR.out]; rfl, below_alloc _ _⟩
  have d0 : decide (c < 0) = false := by simpa using h0
  by_cases h6 : 6 < c
  · have d6 : decide ((6 : Int) < c) = true := by simpa using h6
    have HR : Hid (chan c = 0) := Lib.hid (by unfold chan; rw [if_neg (by omega), if_neg (by omega), if_neg (by omega), if_neg (by omega), if_neg (by omega)])
    clear h0 h6
    go_enter Tryd.func33, Tryd.ntmps33
    go_wp2
    go_ret
    exact ⟨by rw [HR.out]; rfl, below_alloc _ _⟩
  have hc : c = 0 ∨ c = 1 ∨ c = 2 ∨ c = 3 ∨ c = 4 ∨ c = 5 ∨ c = 6 := by omega
  clear d0 h0 h6
  rcases hc with rfl | rfl | rfl | rfl | rfl | rfl | rfl
  all_goals
    go_enter Tryd.func33, Tryd.ntmps33
    go_wp2
    go_ret
    exact ⟨rfl, below_alloc _ _⟩
end Hd
end Go.Proofs.YtkplopfbgaiegaaDoor
