/- A head equals itself. burnishnum.Num at an error by its number. -/
import Derived.Test.YtbgaaocgdjkkeaaZ16
import Derived.Test.YtbgaaocgdjkkeaaZ50
import Derived.Laws.StructEq
set_option linter.unusedSimpArgs false
set_option linter.unusedVariables false
section
namespace Go.Proofs.Ytbgaaocgdjkkeaa
open Go.RowKit

theorem hd_same (x : Hd.H) (w : World) : (binOp .eql 29 x.val x.val).run Try.prog w = .ok (.bool true) w := by
  unfold Hd.H.val
  rw [run_eql_struct, run_equalIn_struct (P := Try.prog) w 9999 29 _ _ (by kernel_rfl) (by kernel_rfl)]
  go_simp
end Go.Proofs.Ytbgaaocgdjkkeaa
end

section
namespace Go.Proofs.Ytbgaaocgdjkkeaa
open Go.RowKit

namespace Hd
theorem num_errV (n : Nat) (w : World) : Calls Try.prog 14 #[errV n] w fun e w' => e = .returned (.int .i64 (n : Nat)) ∧ w = w' := by
  by_cases h : n = 0
  · rw [errV_zero h, h]; exact num_nil w
  · rw [errV_pos h]; exact num_err (n : Nat) (by simpa using h) w
end Hd
end Go.Proofs.Ytbgaaocgdjkkeaa
end
