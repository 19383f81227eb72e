/- (*Reader).At: its contract. -/
import Derived.Test.YtnlbomijnldlmaaBitsWr
namespace Go.Proofs.Ytnlbomijnldlmaa
open Go.RowKit

theorem at_any (w : World) (B g : Nat) (h : Bool) (v : Value) (l : List UInt8) (p : Nat) (H : Rd w B g h v l p) :
    Calls Try.prog 36 #[.pointer (some ⟨g, 0, none⟩)] w fun e w' => e = .returned (.int .i64 (p : Nat)) ∧ w = w' := by
  have c2 := H.c2
  clear H
  go_enter Try.func36, Try.ntmps36
  go_wp2
  go_ret
  exact ⟨rfl, rfl⟩
end Go.Proofs.Ytnlbomijnldlmaa
