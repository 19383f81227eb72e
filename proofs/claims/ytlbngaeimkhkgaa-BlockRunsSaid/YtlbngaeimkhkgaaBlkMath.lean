/- Runs of lengths, and what they come to. -/
import Derived.Test.YtlbngaeimkhkgaaIntsGet
namespace Go.Proofs.Ytlbngaeimkhkgaa
open Go.RowKit

namespace Bl
def base (y : Int) : Nat := if y = 16 then 3 else if y = 17 then 3 else if y = 18 then 11 else 1
def bits (y : Int) : Nat := if y = 16 then 2 else if y = 17 then 3 else if y = 18 then 7 else 0
def top (y : Int) : Int := if y = 16 then 3 else if y = 17 then 7 else if y = 18 then 127 else 0
/-- A run in form. -/
def ok (r : Int × Int) : Bool := decide (0 ≤ r.1 ∧ r.1 ≤ 18 ∧ 0 ≤ r.2 ∧ r.2 ≤ top r.1)
/-- The length that a run repeats. -/
def val (out : List Int) (y : Int) : Int := if y = 16 then out.getD (out.length - 1) 0 else if y < 16 then y else 0
def stp (out : List Int) (r : Int × Int) : Option (List Int) :=
  if ok r = true ∧ (r.1 = 16 → out.length ≠ 0) then some (out ++ List.replicate (base r.1 + r.2.toNat) (val out r.1)) else none
/-- The lengths of the first k runs. -/
def unr (f : Nat → Int × Int) : Nat → Option (List Int)
  | 0 => some []
  | k + 1 => (unr f k).bind fun o => stp o (f k)
theorem unr_next {f : Nat → Int × Int} {k : Nat} {o : List Int} (h : unr f k = some o) : unr f (k + 1) = stp o (f k) := by rw [unr, h]; rfl
theorem unr_stuck {f : Nat → Int × Int} {k : Nat} (h : unr f k = none) : ∀ n, k ≤ n → unr f n = none
  | 0, hn => by obtain rfl : k = 0 := by omega
                exact h
  | n + 1, hn => by
    by_cases e : k = n + 1
    · rw [← e]; exact h
    · rw [unr, unr_stuck h n (by omega)]; rfl
theorem unr_no {f : Nat → Int × Int} {k n : Nat} {o : List Int} (h : unr f k = some o) (h2 : stp o (f k) = none) (hk : k < n) : unr f n = none :=
  unr_stuck (by rw [unr_next h]; exact h2) n (by omega)
theorem stp_no {o : List Int} {y x : Int} (h : ¬ (0 ≤ y ∧ y ≤ 18 ∧ 0 ≤ x ∧ x ≤ top y)) : stp o (y, x) = none := by
  unfold stp ok
  rw [if_neg]
  rintro ⟨h1, _⟩
  exact h (of_decide_eq_true h1)
theorem stp_yes {o : List Int} {y x : Int} (h : 0 ≤ y ∧ y ≤ 18 ∧ 0 ≤ x ∧ x ≤ top y) (h2 : y = 16 → o.length ≠ 0) : stp o (y, x) = some (o ++ List.replicate (base y + x.toNat) (val o y)) := by
  unfold stp ok
  rw [if_pos ⟨decide_eq_true h, h2⟩]
theorem stp_inv {o p : List Int} {y x : Int} (h : stp o (y, x) = some p) : (0 ≤ y ∧ y ≤ 18 ∧ 0 ≤ x ∧ x ≤ top y) ∧ (y = 16 → o.length ≠ 0) ∧ p = o ++ List.replicate (base y + x.toNat) (val o y) := by
  unfold stp ok at h
  split at h
  · rename_i h1
    exact ⟨of_decide_eq_true h1.1, h1.2, (Option.some.inj h).symm⟩
  · simp at h
theorem top_le (y : Int) : top y ≤ 127 := by unfold top; split; omega; split; omega; split <;> omega
theorem base_le (y : Int) : base y ≤ 11 := by unfold base; split; omega; split; omega; split <;> omega
theorem base_ge (y : Int) : 1 ≤ base y := by unfold base; split; omega; split; omega; split <;> omega
/-- Every length is one. -/
def In (o : List Int) : Prop := ∀ x ∈ o, 0 ≤ x ∧ x ≤ 15
theorem In.wf {o : List Int} (h : In o) : Wf o := by
  intro x hx
  have := h x hx
  simp only [Lit.wf, IntKind.min, IntKind.max, IntKind.signed, IntKind.bits, Bool.and_eq_true, decide_eq_true_eq, if_true]
  simp
  omega
theorem In.get {o : List Int} (h : In o) (i : Nat) : 0 ≤ o.getD i 0 ∧ o.getD i 0 ≤ 15 := by
  by_cases hi : i < o.length
  · exact h _ (by simp [List.getD, List.getElem?_eq_getElem hi])
  · simp [List.getD, List.getElem?_eq_none (Nat.le_of_not_lt hi)]
theorem val_in {o : List Int} (h : In o) {y : Int} (h0 : 0 ≤ y) (h8 : y ≤ 18) : 0 ≤ val o y ∧ val o y ≤ 15 := by
  unfold val
  split
  · exact h.get _
  · split <;> omega
theorem unr_in {f : Nat → Int × Int} : ∀ {k : Nat} {o : List Int}, unr f k = some o → In o ∧ o.length ≤ 138 * k
  | 0, o, h => by simp only [unr, Option.some.injEq] at h; subst h; exact ⟨fun x hx => by simp at hx, by simp⟩
  | k + 1, o, h => by
    cases h1 : unr f k with
    | none => rw [unr, h1] at h; simp at h
    | some p =>
      rw [unr_next h1] at h
      obtain ⟨i1, i2⟩ := unr_in h1
      obtain ⟨h3, _, rfl⟩ := stp_inv (y := (f k).1) (x := (f k).2) h
      have := top_le (f k).1
      have := base_le (f k).1
      refine ⟨fun z hz => ?_, by simp; omega⟩
      rcases List.mem_append.1 hz with h | h
      · exact i1 z h
      · rw [List.mem_replicate] at h
        rw [h.2]
        exact val_in i1 h3.1 h3.2.1
theorem rep_next (o : List Int) (v : Int) (j : Nat) : o ++ List.replicate (j + 1) v = (o ++ List.replicate j v) ++ [v] := by
  rw [List.replicate_succ', ← List.append_assoc]
end Bl
end Go.Proofs.Ytlbngaeimkhkgaa
