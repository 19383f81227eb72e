/- A draw changes no memory. -/
import Derived.Test.YtbgaaocgdjkkeaaDoorBase
namespace Go.Proofs.YtbgaaocgdjkkeaaDoor
open Go.RowKit
theorem dn_below (w : World) (n : Nat) : Below w.heap.size w (w.drewN n) := ⟨rfl, rfl, rfl, Nat.le_refl _, fun _ _ => rfl⟩
end Go.Proofs.YtbgaaocgdjkkeaaDoor
