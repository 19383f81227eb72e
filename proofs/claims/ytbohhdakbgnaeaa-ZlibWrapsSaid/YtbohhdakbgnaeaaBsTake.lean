/- A slice of bytes, cut off. -/
import Derived.Test.YtbohhdakbgnaeaaBase
namespace Go.Proofs.Ytbohhdakbgnaeaa
open Go.RowKit

theorem Bs.take {w : World} {a : Option Addr} {len cap : Nat} {l : List UInt8} (h : Bs w a len cap l) (k : Nat) (hk : k ≤ len) : Bs w a k cap (l.take k) := by
  have h1 := h.hlen
  have h2 := h.hle
  have h3 := h.hcap
  refine ⟨by simp; omega, by omega, by omega, h.hmax, h.hnil, fun i hi => ?_⟩
  obtain ⟨b, off, e, hb, hc⟩ := h.at' i (by omega)
  refine ⟨b, off, e, hb, ?_⟩
  rw [hc]
  simp [gb, List.getD, List.getElem?_take, hi]
end Go.Proofs.Ytbohhdakbgnaeaa
