/- burnishnum.Same: its contract. -/
import Derived.Test.YtbgaaocgdjkkeaaDoorNumErr
namespace Go.Proofs.YtbgaaocgdjkkeaaDoor
open Go.RowKit

theorem same_any (a b : Option Addr) (len cap len' cap' : Nat) (l m : List UInt8) (w : World) (h : Bs w a len cap l) (h' : Bs w b len' cap' m) :
    Calls Tryd.prog 14 #[.slice a len cap, .slice b len' cap'] w fun e w' => e = .returned (.bool (l == m)) ∧ w = w' := by
  have c1 := conv_bs (P := Tryd.prog) h 22 9 5 Tryd.underlying22 Tryd.underlying5 Tryd.underlying9
  have c2 := conv_bs (P := Tryd.prog) h' 22 9 5 Tryd.underlying22 Tryd.underlying5 Tryd.underlying9
  clear h h'
  have HE : Hid (((str l).toList == (str m).toList) = (l == m)) := Lib.hid (by rw [str_list, str_list])
  go_enter Tryd.func14, Tryd.ntmps14
  go_wp2
  go_ret
  exact ⟨by show Ending.returned (.bool ((str l).toList == (str m).toList)) = _; rw [HE.out], rfl⟩

end Go.Proofs.YtbgaaocgdjkkeaaDoor
