/- (*Reader).Left: its contract. -/
import Derived.Test.YtkjdekaipphlpaaBitsRd
import Derived.Deep.QuietTactic
import Derived.BigQuiet
namespace Go.Proofs.Ytkjdekaipphlpaa
open Go.RowKit

theorem drewN_below (w : World) (n : Nat) : Below w.heap.size w (w.drewN n) := ⟨rfl, rfl, rfl, Nat.le_refl _, fun _ _ => rfl⟩
theorem left_any (w : World) (B g : Nat) (h : Bool) (v : Value) (l : List UInt8) (p : Nat) (H : Rd w B g h v l p) (hp : p ≤ 8 * l.length) (hl : l.length ≤ 1000000000000) :
    Calls Try.prog 46 #[.pointer (some ⟨g, 0, none⟩)] w fun e w' => e = .returned (.int .i64 ((8 * l.length - p : Nat))) ∧ ∃ n, w' = w.drewN n := by
  have c2 := H.c2
  have c1 := H.c1
  obtain ⟨a, cap, rfl⟩ : ∃ a cap, v = .slice a l.length cap := by
    rcases own_nil_or H.own with ⟨rfl, e⟩ | ⟨g, cap, rfl, _⟩
    · exact ⟨_, _, by rw [e]⟩
    · exact ⟨_, _, rfl⟩
  clear H
  generalize l.length = n at *
  go_enter Try.func46, Try.ntmps46
  go_wp2
  go_quiet (fail)
  go_wp2
  go_ret
  exact ⟨ret_int (by omega), _, rfl⟩
end Go.Proofs.Ytkjdekaipphlpaa
