/- The type of a slice of bytes. -/
import Derived.Test.YtkjdekaipphlpaaProg
import Derived.Test.YtkjdekaipphlpaaBase
namespace Go.Proofs.Ytkjdekaipphlpaa
open Go.RowKit

theorem tyB : RowTy Try.prog 23 5 (.int .u8 0) 1 1 := ⟨Try.underlying23, by kernel_rfl, rfl, by omega⟩
end Go.Proofs.Ytkjdekaipphlpaa
