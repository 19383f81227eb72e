/- sums.Adler of no parts. -/
import Derived.Test.YtpehficaadckgaaNum
import Derived.Test.YtpehficaadckgaaAdlerMath
namespace Go.Proofs.Ytpehficaadckgaa
open Go.RowKit

theorem adler_nil (w : World) : Calls Try.prog 13 #[.slice none 0 0] w fun e w' => e = .returned (.int .i64 1) ∧ Below w.heap.size w w' := by
  go_enter Try.func13, Try.ntmps13
  go_wp2
  refine wp_loop_rounds 1 ?_
  rw [rounds_succ]
  go_wp2
  go_ret
  exact ⟨ret_int (by decide), below_alloc2 _ _ _⟩
end Go.Proofs.Ytpehficaadckgaa
