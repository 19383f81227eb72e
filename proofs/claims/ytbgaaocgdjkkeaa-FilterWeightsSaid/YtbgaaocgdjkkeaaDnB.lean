/- A draw changes no memory. -/
import Derived.Test.YtbgaaocgdjkkeaaBase
namespace Go.Proofs.Ytbgaaocgdjkkeaa
open Go.RowKit
theorem dn_below (w : World) (n : Nat) : Below w.heap.size w (w.drewN n) := ⟨rfl, rfl, rfl, Nat.le_refl _, fun _ _ => rfl⟩
end Go.Proofs.Ytbgaaocgdjkkeaa
