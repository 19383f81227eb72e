/- The type of a slice of bytes. -/
import Derived.Test.YtbgaaocgdjkkeaaProg
import Derived.Test.YtbgaaocgdjkkeaaBase
namespace Go.Proofs.Ytbgaaocgdjkkeaa
open Go.RowKit

theorem tyB : RowTy Try.prog 24 5 (.int .u8 0) 1 1 := ⟨Try.underlying24, by kernel_rfl, rfl, by omega⟩
end Go.Proofs.Ytbgaaocgdjkkeaa
