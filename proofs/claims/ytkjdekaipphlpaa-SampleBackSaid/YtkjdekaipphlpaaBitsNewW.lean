/- NewWriter: its contract. -/
import Derived.Test.YtkjdekaipphlpaaBitsWr
namespace Go.Proofs.Ytkjdekaipphlpaa
open Go.RowKit

theorem newWriter_any (h : Bool) (B : Nat) (w : World) (hB : B ≤ w.heap.size) :
    Calls Try.prog 27 #[.bool h] w fun e w' => e = .returned (.pointer (some ⟨w.heap.size, 0, none⟩)) ∧ Wr w' B w.heap.size h (.slice none 0 0) [] ∧ Below w.heap.size w w' := by
  go_enter Try.func27, Try.ntmps27
  go_wp2
  go_ret
  refine ⟨rfl, ⟨heap_alloc_last w _, World.ownsRow_nil _ _ _ _, hB, by simp [Value.ownBlock]⟩, below_alloc w _⟩
end Go.Proofs.Ytkjdekaipphlpaa
