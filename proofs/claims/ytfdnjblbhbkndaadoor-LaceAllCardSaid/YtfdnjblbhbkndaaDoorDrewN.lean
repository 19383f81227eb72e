/- Drawn worlds. -/
import Derived.Test.YtfdnjblbhbkndaaDoorBase
namespace Go.Proofs.YtfdnjblbhbkndaaDoor
open Go.RowKit

theorem drewN_is (w : World) (n : Nat) : Below w.heap.size w (w.drewN n) := ⟨rfl, rfl, rfl, Nat.le_refl _, fun _ _ => rfl⟩
theorem drewN_two (w : World) (a b : Nat) : (w.drewN a).drewN b = w.drewN (a + b) := by simp [World.drewN, Nat.add_assoc]
end Go.Proofs.YtfdnjblbhbkndaaDoor
