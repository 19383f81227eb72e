/- A cell of a row of one's own. -/
import Derived.Test.YtfdnjblbhbkndaaDoorBase
namespace Go.Proofs.YtfdnjblbhbkndaaDoor
open Go.RowKit

theorem own_slot {w : World} {base g n cap : Nat} {e : TypeId} {xs : List Value} (h : w.ownsRow base e 1 (.slice (some ⟨g, 0, none⟩) n cap) n xs) (i : Nat) (hi : i < n) : (∃ z, w.cell? ⟨g, i, none⟩ = some z) ∧ w.frozen? ⟨g, i, none⟩ = false := by
  have hl := h.1
  refine ⟨⟨xs[i]'(by omega), by rw [h.cellAt i (by omega)]; simp⟩, ?_⟩
  rcases h.2 with ⟨h1, _⟩ | ⟨g2, cap2, cur, h1, _, hg, _⟩
  · simp at h1
  · simp only [Value.slice.injEq, Option.some.injEq, Addr.mk.injEq, and_true, true_and] at h1
    obtain ⟨rfl, rfl⟩ := h1
    exact frozen_of_row _ _ _ _ _ hg
end Go.Proofs.YtfdnjblbhbkndaaDoor
