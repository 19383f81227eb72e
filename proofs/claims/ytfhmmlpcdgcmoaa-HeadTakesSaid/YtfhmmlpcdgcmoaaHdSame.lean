/- A head equals itself. -/
import Derived.Test.YtfhmmlpcdgcmoaaHdRow
import Derived.Laws.StructEq
namespace Go.Proofs.Ytfhmmlpcdgcmoaa
open Go.RowKit

theorem hd_same (x : Hd.H) (w : World) : (binOp .eql 29 x.val x.val).run Try.prog w = .ok (.bool true) w := by
  unfold Hd.H.val
  rw [run_eql_struct, run_equalIn_struct (P := Try.prog) w 9999 29 _ _ (by kernel_rfl) (by kernel_rfl)]
  go_simp
end Go.Proofs.Ytfhmmlpcdgcmoaa
