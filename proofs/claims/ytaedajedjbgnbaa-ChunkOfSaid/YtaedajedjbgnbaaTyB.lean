/- The type of a slice of bytes. -/
import Derived.Test.YtaedajedjbgnbaaProg
import Derived.Test.YtaedajedjbgnbaaBase
namespace Go.Proofs.Ytaedajedjbgnbaa
open Go.RowKit

theorem tyB : RowTy Try.prog 22 5 (.int .u8 0) 1 1 := ⟨Try.underlying22, by kernel_rfl, rfl, by omega⟩
end Go.Proofs.Ytaedajedjbgnbaa
