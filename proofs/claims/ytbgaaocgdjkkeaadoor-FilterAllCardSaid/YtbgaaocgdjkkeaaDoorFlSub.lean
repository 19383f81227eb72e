/- A slice of bytes, its middle. -/
import Derived.Test.YtbgaaocgdjkkeaaDoorBase
namespace Go.Proofs.YtbgaaocgdjkkeaaDoor
open Go.RowKit

theorem Bs.sub {w : World} {b off n cap : Nat} {l : List UInt8} (h : Bs w (some ⟨b, off, none⟩) n cap l) (o m : Nat) (ho : o + m ≤ n) : Bs w (some ⟨b, off + o, none⟩) m m ((l.drop o).take m) := by
  have h1 := h.hlen
  have h3 := h.hcap
  refine ⟨by simp; omega, Nat.le_refl _, by omega, by omega, fun e => by simp at e, fun i hi => ?_⟩
  obtain ⟨b', off', e', hb', hc⟩ := h.at' (o + i) (by omega)
  simp only [Option.some.injEq, Addr.mk.injEq, and_true] at e'
  obtain ⟨rfl, rfl⟩ := e'
  refine ⟨b, off + o, rfl, hb', ?_⟩
  rw [Nat.add_assoc, hc]
  simp [gb, List.getD, List.getElem?_take, List.getElem?_drop, hi]
end Go.Proofs.YtbgaaocgdjkkeaaDoor
