/- burnishnum.Is: its contract. -/
import Derived.Test.YtkjdekaipphlpaaNumErr
namespace Go.Proofs.Ytkjdekaipphlpaa
open Go.RowKit

theorem is_yes (n : Int) (h0 : (n == 0) = false) (w : World) : Calls Try.prog 18 #[.iface 41 (.int .i64 n), .int .i64 n] w fun e w' => e = .returned (.bool true) ∧ w = w' := by
  have H0 := Lib.hid h0
  clear h0
  go_enter Try.func18, Try.ntmps18
  go_wp2_with fail
  refine (num_err n H0.out _).mono ?_
  rintro e w' ⟨rfl, rfl⟩
  go_wp2
  go_ret
  exact ⟨by simp, rfl⟩
end Go.Proofs.Ytkjdekaipphlpaa
