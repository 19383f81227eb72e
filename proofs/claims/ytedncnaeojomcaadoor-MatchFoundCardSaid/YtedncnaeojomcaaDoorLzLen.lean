/- Finder.Len: its contract. -/
import Derived.Test.YtedncnaeojomcaaDoorLzFinder
namespace Go.Proofs.YtedncnaeojomcaaDoor
open Go.RowKit Go.Maps

theorem len_nil (w : World) : Calls Tryd.prog 17 #[.pointer none] w fun e w' => e = .returned (.int .i64 0) ∧ w = w' := by
  go_enter Tryd.func17, Tryd.ntmps17
  go_wp2
  go_ret
  exact ⟨rfl, rfl⟩
theorem len_any {w : World} {gf eb base N t : Nat} {l : List UInt8} {v : Value} {Rs : List (List (Nat × Nat))} (h : Fd w gf eb base N l t v Rs) :
    Calls Tryd.prog 17 #[.pointer (some ⟨gf, 0, none⟩)] w fun e w' => e = .returned (.int .i64 (N : Nat)) ∧ w = w' := by
  have c1 : w.cell? ⟨gf, 1, none⟩ = some (.slice (some ⟨eb, 0, none⟩) N N) := by rw [cell_of_row _ _ _ _ _ (0, 0) h.row]; rfl
  clear h
  go_enter Tryd.func17, Tryd.ntmps17
  go_wp2
  go_ret
  exact ⟨rfl, rfl⟩
end Go.Proofs.YtedncnaeojomcaaDoor
