/- (*Writer).Len: its contract. -/
import Derived.Test.YtkjdekaipphlpaaBitsWr
namespace Go.Proofs.Ytkjdekaipphlpaa
open Go.RowKit

theorem len_any (w : World) (B g : Nat) (h : Bool) (v : Value) (l : List Bool) (H : Wr w B g h v l) :
    Calls Try.prog 30 #[.pointer (some ⟨g, 0, none⟩)] w fun e w' => e = .returned (.int .i64 (l.length : Nat)) ∧ w = w' := by
  have c2 := H.c2
  clear H
  go_enter Try.func30, Try.ntmps30
  go_wp2
  go_ret
  exact ⟨rfl, rfl⟩
end Go.Proofs.Ytkjdekaipphlpaa
