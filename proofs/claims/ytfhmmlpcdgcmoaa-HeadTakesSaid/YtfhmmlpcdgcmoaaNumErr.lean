/- burnishnum.Num: its contract. -/
import Derived.Test.YtfhmmlpcdgcmoaaProg
import Derived.Test.YtfhmmlpcdgcmoaaBase
namespace Go.Proofs.Ytfhmmlpcdgcmoaa
open Go.RowKit

theorem num_nil (w : World) : Calls Try.prog 11 #[.nilIface] w fun e w' => e = .returned (.int .i64 0) ∧ w = w' := by
  go_enter Try.func11, Try.ntmps11
  go_wp2
  go_ret
  exact ⟨rfl, rfl⟩
theorem num_err (n : Int) (h0 : (n == 0) = false) (w : World) : Calls Try.prog 11 #[.iface 61 (.int .i64 n)] w fun e w' => e = .returned (.int .i64 n) ∧ w = w' := by
  have hta : ∀ (x : Int) (w : World), (Instr.typeAssert (.iface 61 (.int .i64 x)) 34 61 true).run Try.prog w = .ok (.tuple #[.int .i64 x, .bool true]) w := fun _ _ => by kernel_rfl
  go_enter Try.func11, Try.ntmps11
  go_wp2
  go_ret
  exact ⟨rfl, rfl⟩
end Go.Proofs.Ytfhmmlpcdgcmoaa
