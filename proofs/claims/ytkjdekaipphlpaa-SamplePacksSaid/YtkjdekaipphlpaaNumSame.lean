/- burnishnum.Same: its contract. -/
import Derived.Test.YtkjdekaipphlpaaNumErr
namespace Go.Proofs.Ytkjdekaipphlpaa
open Go.RowKit

theorem same_any (a b : Option Addr) (len cap len' cap' : Nat) (l m : List UInt8) (w : World) (h : Bs w a len cap l) (h' : Bs w b len' cap' m) :
    Calls Try.prog 11 #[.slice a len cap, .slice b len' cap'] w fun e w' => e = .returned (.bool (l == m)) ∧ w = w' := by
  have c1 := conv_bs (P := Try.prog) h 23 9 5 Try.underlying23 Try.underlying5 Try.underlying9
  have c2 := conv_bs (P := Try.prog) h' 23 9 5 Try.underlying23 Try.underlying5 Try.underlying9
  clear h h'
  have HE : Hid (((str l).toList == (str m).toList) = (l == m)) := Lib.hid (by rw [str_list, str_list])
  go_enter Try.func11, Try.ntmps11
  go_wp2
  go_ret
  exact ⟨by show Ending.returned (.bool ((str l).toList == (str m).toList)) = _; rw [HE.out], rfl⟩

end Go.Proofs.Ytkjdekaipphlpaa
