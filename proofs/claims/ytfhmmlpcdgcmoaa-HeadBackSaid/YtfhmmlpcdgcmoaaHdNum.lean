/- burnishnum.Num at an error by its number. -/
import Derived.Test.YtfhmmlpcdgcmoaaHdRow
import Derived.Test.YtfhmmlpcdgcmoaaNumErr
namespace Go.Proofs.Ytfhmmlpcdgcmoaa
open Go.RowKit

namespace Hd
theorem num_errV (n : Nat) (w : World) : Calls Try.prog 11 #[errV n] w fun e w' => e = .returned (.int .i64 (n : Nat)) ∧ w = w' := by
  by_cases h : n = 0
  · rw [errV_zero h, h]; exact num_nil w
  · rw [errV_pos h]; exact num_err (n : Nat) (by simpa using h) w
end Hd
end Go.Proofs.Ytfhmmlpcdgcmoaa
