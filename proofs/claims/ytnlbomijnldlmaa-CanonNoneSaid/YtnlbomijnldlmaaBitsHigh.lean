/- (*Writer).High: its contract. -/
import Derived.Test.YtnlbomijnldlmaaBitsWr
namespace Go.Proofs.Ytnlbomijnldlmaa
open Go.RowKit

theorem high_any (w : World) (B g : Nat) (h : Bool) (v : Value) (l : List Bool) (H : Wr w B g h v l) :
    Calls Try.prog 46 #[.pointer (some ⟨g, 0, none⟩)] w fun e w' => e = .returned (.bool h) ∧ w = w' := by
  have c0 := H.c0
  clear H
  go_enter Try.func46, Try.ntmps46
  go_wp2
  go_ret
  exact ⟨rfl, rfl⟩
end Go.Proofs.Ytnlbomijnldlmaa
