/- What the laws on lengths share. -/
import Derived.Test.YtcagdnajapcmkaaAlive05
import Derived.Test.YtcagdnajapcmkaaLenFacts
namespace Go.Proofs.Ytcagdnajapcmkaa
open Go.RowKit

theorem wrap_pow (n : Nat) (h : n ≤ 16) : wrap64 ((2 : Int) ^ n) = ((2 ^ n : Nat) : Int) := by
  have hcast : ((2 ^ n : Nat) : Int) = (2 : Int) ^ n := Int.natCast_pow 2 n
  have hpn : 2 ^ n ≤ 2 ^ 16 := Nat.pow_le_pow_right (by omega) h
  have hpp : 0 < 2 ^ n := Nat.pow_pos (by omega)
  rw [← hcast]
  generalize 2 ^ n = p at *
  exact IntWalk.wrap64_in _ ⟨by omega, by omega⟩
theorem lensOf_wf (l : List Int) (L : Nat) (h0 : ∀ k, k < l.length → 0 ≤ l.getD k 0) (hL : 0 < L) (hL2 : L ≤ 16) (hu : Mg.used l ≤ 2 ^ L) : Wf (Mg.lensOf l L) := fun x hx => by
  obtain ⟨j, hj, rfl⟩ := List.mem_iff_getElem.1 hx
  have hj' := hj
  rw [Mg.lensOf_length] at hj'
  have := Mg.lensOf_range h0 hL hu j hj'
  rw [show (Mg.lensOf l L).getD j 0 = (Mg.lensOf l L)[j] by simp [List.getD, List.getElem?_eq_getElem hj]] at this
  simp only [Lit.wf, IntKind.min, IntKind.max, IntKind.signed, IntKind.bits, Bool.and_eq_true, decide_eq_true_eq, if_true]
  simp; omega
/-- A longest length that is let in. -/
theorem okL_nat {l : List Int} {L : Int} (h : Mg.okL l L = true) : ∃ n : Nat, L = n ∧ 1 ≤ n ∧ n ≤ 16 ∧ Mg.used l ≤ 2 ^ n := by
  unfold Mg.okL at h
  have h2 := of_decide_eq_true h
  exact ⟨L.toNat, by omega, by omega, by omega, h2.2.2⟩
end Go.Proofs.Ytcagdnajapcmkaa
