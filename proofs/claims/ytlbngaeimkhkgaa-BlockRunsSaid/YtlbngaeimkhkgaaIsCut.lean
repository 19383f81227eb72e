/- A slice of ints, cut off. -/
import Derived.Test.YtlbngaeimkhkgaaInts
namespace Go.Proofs.Ytlbngaeimkhkgaa
open Go.RowKit

theorem Is.pre {k : IntKind} {w : World} {a : Option Addr} {len cap : Nat} {l : List Int} (h : Is k w a len cap l) (n : Nat) (hn : n ≤ len) : Is k w a n cap (l.take n) := by
  have h1 := h.hlen
  have h2 := h.hle
  refine ⟨by simp; omega, by omega, h.hnil, fun i hi => ?_, fun x hx => h.wf x (List.mem_of_mem_take hx)⟩
  obtain ⟨b, off, e, hb, hc⟩ := h.at' i (by omega)
  refine ⟨b, off, e, hb, ?_⟩
  rw [hc]
  simp [List.getD, List.getElem?_take, hi]
theorem Is.suf {k : IntKind} {w : World} {b off len cap : Nat} {l : List Int} (h : Is k w (some ⟨b, off, none⟩) len cap l) (n : Nat) (hn : n ≤ len) : Is k w (some ⟨b, off + n, none⟩) (len - n) (cap - n) (l.drop n) := by
  have h1 := h.hlen
  have h2 := h.hle
  refine ⟨by simp; omega, by omega, fun e => (by cases e), fun i hi => ?_, fun x hx => h.wf x (List.mem_of_mem_drop hx)⟩
  obtain ⟨b', off', e, hb, hc⟩ := h.at' (n + i) (by omega)
  simp only [Option.some.injEq, Addr.mk.injEq, and_true] at e
  obtain ⟨rfl, rfl⟩ := e
  refine ⟨b, off + n, rfl, hb, ?_⟩
  rw [Nat.add_assoc, hc]
  simp [List.getD, List.getElem?_drop]
theorem Is.none0 {k : IntKind} (w : World) (a : Option Addr) (cap : Nat) (h : a = none → cap = 0) : Is k w a 0 cap [] := ⟨rfl, Nat.zero_le _, h, fun i hi => absurd hi (by omega), fun n hn => by simp at hn⟩
end Go.Proofs.Ytlbngaeimkhkgaa
