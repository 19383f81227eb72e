/- What a finder tells of a place, and the document. -/
import Derived.Test.YtedncnaeojomcaaDoorLzAlive
import Derived.Test.YtedncnaeojomcaaDoorLzRefNear
namespace Go.Proofs.YtedncnaeojomcaaDoor
open Go.RowKit Go.Maps

/-- Where the longest match is, and that there is none. -/
theorem longest_of {l : List UInt8} {N : Nat} {p : Int} {R : List (Nat × Nat)} (h : RecAt l N p R) : (Lz.top R - 2 = 0 ∧ lastT R = (0, 0)) ∨ (0 < Lz.top R - 2 ∧ lastT R = (2 + (Lz.top R - 2), ((wantI R).getD (Lz.top R - 2 - 1) 0).toNat) ∧ (wantI R).getD (Lz.top R - 2 - 1) 0 = (((lastT R).2 : Nat) : Int)) := by
  rcases h with ⟨_, rfl⟩ | ⟨t, _, _, hrec⟩
  · exact .inl ⟨by rw [Lz.top_nil], lastT_nil⟩
  · have h2 := Lz.top_ge hrec
    by_cases h3 : Lz.top R = 2
    · have := (Lz.top_nil_iff hrec).2 h3
      subst this
      exact .inl ⟨by rw [h3], lastT_nil⟩
    · refine .inr ⟨by omega, ?_⟩
      have hw := wantI_getD R (Lz.top R - 2 - 1) (by omega)
      have e : 3 + (Lz.top R - 2 - 1) = Lz.top R := by omega
      rw [e] at hw
      rw [lastT_eq hrec (by omega), hw]
      exact ⟨by rw [Int.toNat_natCast]; congr 1; omega, rfl⟩
theorem recAt_of {l : List UInt8} {N : Nat} {Rs : List (List (Nat × Nat))} (h : Recs l N N Rs) (p : Int) : RecAt l N p (ra Rs p) := by
  by_cases hin : 0 ≤ p ∧ p < (N : Int)
  · obtain ⟨t, rfl⟩ : ∃ t : Nat, p = (t : Int) := ⟨p.toNat, by omega⟩
    exact .inr ⟨t, rfl, by omega, ra_rec h (by omega)⟩
  · exact .inl ⟨by omega, ra_out h (by omega)⟩
theorem recAt_top {l : List UInt8} {N : Nat} {p : Int} {R : List (Nat × Nat)} (h : RecAt l N p R) : Lz.top R - 2 ≤ 256 := by
  rcases h with ⟨_, rfl⟩ | ⟨t, _, _, hrec⟩
  · rw [Lz.top_nil]; omega
  · have := Lz.top_le hrec; omega
theorem wantI_wf {l : List UInt8} {N : Nat} {p : Int} {R : List (Nat × Nat)} (h : RecAt l N p R) : Wf (wantI R) := by
  intro n hn
  rcases h with ⟨_, rfl⟩ | ⟨t, _, _, hrec⟩
  · simp [wantI, Lz.want, Lz.top_nil] at hn
  · simp only [wantI, Lz.want, List.map_map, List.mem_map, List.mem_range, Function.comp] at hn
    obtain ⟨i, hi, rfl⟩ := hn
    have := (Lz.far_some hrec (by omega : 3 ≤ 3 + i) (by omega)).1.2.2.1
    simp only [Lit.wf, IntKind.min, IntKind.max, IntKind.signed, IntKind.bits, Bool.and_eq_true, decide_eq_true_eq, if_true]
    simp; omega
theorem fd_ch {w w' : World} {gf eb base N t gc : Nat} {l : List UInt8} {v : Value} {Rs : List (List (Nat × Nat))} (h : Fd w gf eb base N l t v Rs) (c : Ch w w' (fun k => k = gc)) (n1 : gf ≠ gc) (n2 : eb ≠ gc) (n3 : ∀ b, v.ownBlock = some b → b ≠ gc) : Fd w' gf eb base N l t v Rs := by
  obtain ⟨cs, h1, h2⟩ := h.ends
  exact ⟨(c.block gf (Array.getElem?_eq_some_iff.1 h.row).1 n1).trans h.row, c.own h.own n3, h.recs, ⟨cs, (c.block eb (Array.getElem?_eq_some_iff.1 h1).1 n2).trans h1, h2⟩, h.n1, h.n2⟩
end Go.Proofs.YtedncnaeojomcaaDoor
