/- burnishnum.Num: its contract. -/
import Derived.Test.YtkplopfbgaiegaaDoorProg
import Derived.Test.YtkplopfbgaiegaaDoorBase
namespace Go.Proofs.YtkplopfbgaiegaaDoor
open Go.RowKit

theorem num_nil (w : World) : Calls Tryd.prog 29 #[.nilIface] w fun e w' => e = .returned (.int .i64 0) ∧ w = w' := by
  go_enter Tryd.func29, Tryd.ntmps29
  go_wp2
  go_ret
  exact ⟨rfl, rfl⟩
theorem num_err (n : Int) (h0 : (n == 0) = false) (w : World) : Calls Tryd.prog 29 #[.iface 40 (.int .i64 n)] w fun e w' => e = .returned (.int .i64 n) ∧ w = w' := by
  have hta : ∀ (x : Int) (w : World), (Instr.typeAssert (.iface 40 (.int .i64 x)) 33 40 true).run Tryd.prog w = .ok (.tuple #[.int .i64 x, .bool true]) w := fun _ _ => by kernel_rfl
  go_enter Tryd.func29, Tryd.ntmps29
  go_wp2
  go_ret
  exact ⟨rfl, rfl⟩
end Go.Proofs.YtkplopfbgaiegaaDoor
