/- burnishnum.Num: its contract. -/
import Derived.Test.YtaedajedjbgnbaaProg
import Derived.Test.YtaedajedjbgnbaaBase
namespace Go.Proofs.Ytaedajedjbgnbaa
open Go.RowKit

theorem num_nil (w : World) : Calls Try.prog 15 #[.nilIface] w fun e w' => e = .returned (.int .i64 0) ∧ w = w' := by
  go_enter Try.func15, Try.ntmps15
  go_wp2
  go_ret
  exact ⟨rfl, rfl⟩
theorem num_err (n : Int) (h0 : (n == 0) = false) (w : World) : Calls Try.prog 15 #[.iface 43 (.int .i64 n)] w fun e w' => e = .returned (.int .i64 n) ∧ w = w' := by
  have hta : ∀ (x : Int) (w : World), (Instr.typeAssert (.iface 43 (.int .i64 x)) 27 43 true).run Try.prog w = .ok (.tuple #[.int .i64 x, .bool true]) w := fun _ _ => by kernel_rfl
  go_enter Try.func15, Try.ntmps15
  go_wp2
  go_ret
  exact ⟨rfl, rfl⟩
end Go.Proofs.Ytaedajedjbgnbaa
