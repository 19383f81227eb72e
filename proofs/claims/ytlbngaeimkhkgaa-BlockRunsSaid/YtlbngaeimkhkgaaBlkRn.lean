/- The runs of lengths. -/
import Derived.Test.YtlbngaeimkhkgaaBlkReps
namespace Go.Proofs.Ytlbngaeimkhkgaa
open Go.RowKit

namespace Bl
/-- How many are the same, from the first one on. -/
def al (l : List Int) : Nat := (l.takeWhile fun x => x == l.getD 0 0).length
theorem tw_length : ∀ (l : List Int) (y : Int) (c : Nat), c ≤ l.length → (∀ i, i < c → l.getD i 0 = y) → (c < l.length → l.getD c 0 ≠ y) → (l.takeWhile fun x => x == y).length = c
  | [], y, c, hc, _, _ => by simp at hc; subst hc; rfl
  | x :: r, y, 0, _, _, h => by
    have := h (by simp)
    simp at this
    simp [List.takeWhile_cons, this]
  | x :: r, y, c + 1, hc, h, h2 => by
    have hx : x = y := by simpa using h 0 (by omega)
    subst hx
    have ih := tw_length r x c (by simpa using hc) (fun i hi => by simpa using h (i + 1) (by omega)) (fun hl => by simpa using h2 (by simpa using hl))
    simp [List.takeWhile_cons, ih]
theorem al_eq {l : List Int} {c : Nat} (hc : c ≤ l.length) (h : ∀ i, i < c → l.getD i 0 = l.getD 0 0) (h2 : c < l.length → l.getD c 0 ≠ l.getD 0 0) : al l = c := tw_length l _ c hc h h2
theorem al_le (l : List Int) : al l ≤ l.length := by
  unfold al
  exact (List.takeWhile_sublist _).length_le
theorem al_pos {l : List Int} (h : 0 < l.length) : 0 < al l := by
  cases l with
  | nil => simp at h
  | cons x r => simp [al, List.takeWhile_cons]
theorem al_same (l : List Int) : l.take (al l) = List.replicate (al l) (l.getD 0 0) := by
  have e : l.take (al l) = l.takeWhile fun x => x == l.getD 0 0 := by
    unfold al
    exact (List.prefix_iff_eq_take.1 (List.takeWhile_prefix _)).symm
  rw [e, List.eq_replicate_iff]
  refine ⟨rfl, fun x hx => ?_⟩
  have := List.all_takeWhile (p := fun x => x == l.getD 0 0) (l := l)
  rw [List.all_eq_true] at this
  simpa using this x hx
/-- The runs of lengths, with enough of f; none: not lengths. -/
def rn : Nat → List Int → Option (List (Int × Int))
  | 0, l => if l.length = 0 then some [] else none
  | f + 1, l => if l.length = 0 then some [] else if 0 ≤ l.getD 0 0 ∧ l.getD 0 0 < 16 then (rn f (l.drop (al l))).map fun rs => stF (l.getD 0 0) (al l) ++ rs else none
theorem rn_fuel : ∀ (f g : Nat) (l : List Int), l.length ≤ f → l.length ≤ g → rn f l = rn g l
  | 0, 0, l, _, _ => rfl
  | 0, g + 1, l, hf, _ => by rw [rn, rn, if_pos (by omega), if_pos (by omega)]
  | f + 1, 0, l, _, hg => by rw [rn, rn, if_pos (by omega), if_pos (by omega)]
  | f + 1, g + 1, l, hf, hg => by
    rw [rn, rn]
    by_cases h : l.length = 0
    · rw [if_pos h, if_pos h]
    · rw [if_neg h, if_neg h]
      have := al_pos (l := l) (by omega)
      rw [rn_fuel f g (l.drop (al l)) (by simp; omega) (by simp; omega)]
/-- The runs, behind those that there are. -/
def ru (rs : List (Int × Int)) (l : List Int) : Option (List (Int × Int)) := (rn l.length l).map fun ss => rs ++ ss
theorem ru_end (rs : List (Int × Int)) : ru rs [] = some rs := by simp [ru, rn]
theorem ru_bad (rs : List (Int × Int)) {l : List Int} (h : 0 < l.length) (h2 : ¬ (0 ≤ l.getD 0 0 ∧ l.getD 0 0 < 16)) : ru rs l = none := by
  unfold ru
  obtain ⟨n, hn⟩ : ∃ n, l.length = n + 1 := ⟨l.length - 1, by omega⟩
  rw [hn, rn, if_neg (by omega), if_neg h2]
  rfl
theorem ru_step (rs : List (Int × Int)) {l : List Int} (h : 0 < l.length) (h2 : 0 ≤ l.getD 0 0 ∧ l.getD 0 0 < 16) : ru rs l = ru (rs ++ stF (l.getD 0 0) (al l)) (l.drop (al l)) := by
  unfold ru
  obtain ⟨n, hn⟩ : ∃ n, l.length = n + 1 := ⟨l.length - 1, by omega⟩
  have hp := al_pos h
  rw [hn, rn, if_neg (by omega), if_pos h2, rn_fuel n (l.drop (al l)).length (l.drop (al l)) (by simp; omega) (Nat.le_refl _)]
  cases rn (l.drop (al l)).length (l.drop (al l)) with
  | none => rfl
  | some ss => simp
end Bl
end Go.Proofs.Ytlbngaeimkhkgaa
