/- The type of a slice of bytes. -/
import Derived.Test.YtbgaaocgdjkkeaaDoorProg
import Derived.Test.YtbgaaocgdjkkeaaDoorBase
namespace Go.Proofs.YtbgaaocgdjkkeaaDoor
open Go.RowKit

theorem tyB : RowTy Tryd.prog 22 5 (.int .u8 0) 1 1 := ⟨Tryd.underlying22, by kernel_rfl, rfl, by omega⟩
end Go.Proofs.YtbgaaocgdjkkeaaDoor
