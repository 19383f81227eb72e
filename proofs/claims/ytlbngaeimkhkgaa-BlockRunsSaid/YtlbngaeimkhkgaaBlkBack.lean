/- What the runs of lengths stand for. -/
import Derived.Test.YtlbngaeimkhkgaaBlkRn
namespace Go.Proofs.Ytlbngaeimkhkgaa
open Go.RowKit

namespace Bl
theorem reps_zeros {s : Int} {b t : Nat} (hs : s = 17 ∨ s = 18) (hb : base s = b) (ht : top s = (t : Int)) (hb1 : 1 ≤ b) : ∀ (f r d : Nat) (rs : List (Int × Int)), Got 0 d rs → ∃ e, e + (repsF s b t f r).2 = r ∧ Got 0 (d + e) (rs ++ (repsF s b t f r).1)
  | 0, r, d, rs, h => ⟨0, by simp [repsF], by simpa [repsF] using h⟩
  | f + 1, r, d, rs, h => by
    rw [repsF]
    by_cases hr : r < b
    · rw [if_pos hr]; exact ⟨0, by simp, by simpa using h⟩
    · rw [if_neg hr]
      have hg := Got.zeros (s := s) (z := min (r - b) t) h hs (by rw [ht]; omega)
      rw [hb] at hg
      obtain ⟨e, h1, h2⟩ := reps_zeros hs hb ht hb1 f (r - (b + min (r - b) t)) _ _ hg
      refine ⟨b + min (r - b) t + e, by simp only; omega, ?_⟩
      rw [List.append_assoc, Nat.add_assoc] at h2
      exact h2
theorem reps_again {y : Int} : ∀ (f r d : Nat) (rs : List (Int × Int)), Got y d rs → 1 ≤ d → ∃ e, e + (repsF 16 3 3 f r).2 = r ∧ Got y (d + e) (rs ++ (repsF 16 3 3 f r).1)
  | 0, r, d, rs, h, _ => ⟨0, by simp [repsF], by simpa [repsF] using h⟩
  | f + 1, r, d, rs, h, hd => by
    rw [repsF]
    by_cases hr : r < 3
    · rw [if_pos hr]; exact ⟨0, by simp, by simpa using h⟩
    · rw [if_neg hr]
      have hg := Got.again (z := min (r - 3) 3) h hd (by omega)
      obtain ⟨e, h1, h2⟩ := reps_again f (r - (3 + min (r - 3) 3)) _ _ hg (by omega)
      refine ⟨3 + min (r - 3) 3 + e, by simp only; omega, ?_⟩
      rw [List.append_assoc, Nat.add_assoc] at h2
      exact h2
/-- A stretch's runs stand for it. -/
theorem stF_got {y : Int} {c : Nat} (h0 : 0 ≤ y) (h15 : y ≤ 15) (hc : 1 ≤ c) : Got y c (stF y c) := by
  unfold stF
  by_cases hy : y = 0
  · subst hy
    rw [if_pos rfl]
    obtain ⟨e1, h1, g1⟩ := reps_zeros (s := 18) (b := 11) (t := 127) (.inr rfl) rfl rfl (by omega) c c 0 [] (Got.nil 0)
    obtain ⟨e2, h2, g2⟩ := reps_zeros (s := 17) (b := 3) (t := 7) (.inl rfl) rfl rfl (by omega) (repsF 18 11 127 c c).2 (repsF 18 11 127 c c).2 _ _ g1
    have g3 := Got.rest (by omega) (by omega) (repsF 17 3 7 (repsF 18 11 127 c c).2 (repsF 18 11 127 c c).2).2 g2
    have e3 : 0 + e1 + e2 + (repsF 17 3 7 (repsF 18 11 127 c c).2 (repsF 18 11 127 c c).2).2 = c := by omega
    rw [e3] at g3
    exact g3
  · rw [if_neg hy]
    have g0 : Got y 1 [(y, 0)] := by simpa using (Got.nil y).lit h0 h15
    obtain ⟨e1, h1, g1⟩ := reps_again (y := y) (c - 1) (c - 1) 1 _ g0 (Nat.le_refl _)
    have g3 := Got.rest h0 h15 (repsF 16 3 3 (c - 1) (c - 1)).2 g1
    have e3 : 1 + e1 + (repsF 16 3 3 (c - 1) (c - 1)).2 = c := by omega
    rw [e3] at g3
    exact g3
/-- The runs of lengths stand for them, and are no more than they are. -/
theorem rn_back : ∀ (f : Nat) (l : List Int), l.length ≤ f → match rn f l with
    | none => ∃ x ∈ l, ¬ (0 ≤ x ∧ x ≤ 15)
    | some rs => In l ∧ (∀ o, unrL o rs = some (o ++ l)) ∧ rs.length ≤ l.length ∧ Rg rs
  | 0, l, h => by
    obtain rfl : l = [] := List.eq_nil_of_length_eq_zero (by omega)
    exact ⟨fun x hx => by simp at hx, fun o => by simp [unrL], Nat.le_refl _, fun t ht => by simp at ht⟩
  | f + 1, l, h => by
    rw [rn]
    by_cases h0 : l.length = 0
    · rw [if_pos h0]
      obtain rfl : l = [] := List.eq_nil_of_length_eq_zero h0
      exact ⟨fun x hx => by simp at hx, fun o => by simp [unrL], Nat.le_refl _, fun t ht => by simp at ht⟩
    · rw [if_neg h0]
      have hp := al_pos (l := l) (by omega)
      have hle := al_le l
      have hsm := al_same l
      have htd := List.take_append_drop (al l) l
      by_cases hy : 0 ≤ l.getD 0 0 ∧ l.getD 0 0 < 16
      · rw [if_pos hy]
        have ih := rn_back f (l.drop (al l)) (by simp; omega)
        have hg := stF_got (y := l.getD 0 0) (c := al l) hy.1 (by omega) hp
        cases h1 : rn f (l.drop (al l)) with
        | none =>
          rw [h1] at ih
          obtain ⟨x, hx, hb⟩ := ih
          exact ⟨x, List.mem_of_mem_drop hx, hb⟩
        | some rs =>
          rw [h1] at ih
          obtain ⟨i1, i2, i3, i4⟩ := ih
          refine ⟨fun x hx => ?_, fun o => ?_, ?_, hg.rg.append i4⟩
          · rw [← htd] at hx
            rcases List.mem_append.1 hx with h2 | h2
            · rw [hsm, List.mem_replicate] at h2
              rw [h2.2]; omega
            · exact i1 x h2
          · rw [unrL_append, hg.un o]
            show unrL _ rs = _
            rw [i2, List.append_assoc, ← hsm, htd]
          · have := hg.le
            rw [List.length_append]
            rw [List.length_drop] at i3
            omega
      · rw [if_neg hy]
        refine ⟨l.getD 0 0, ?_, by omega⟩
        simp [List.getD, List.getElem?_eq_getElem (show 0 < l.length by omega)]
theorem ru_back (l : List Int) : match ru [] l with
    | none => ∃ x ∈ l, ¬ (0 ≤ x ∧ x ≤ 15)
    | some rs => In l ∧ unrL [] rs = some l ∧ rs.length ≤ l.length ∧ Rg rs := by
  have h := rn_back l.length l (Nat.le_refl _)
  have e : ru [] l = rn l.length l := by unfold ru; simp
  rw [e]
  cases h1 : rn l.length l with
  | none => rw [h1] at h; exact h
  | some rs => rw [h1] at h; exact ⟨h.1, by simpa using h.2.1 [], h.2.2.1, h.2.2.2⟩
theorem ru_ex : ru [] [0, 0, 0, 0, 5, 5, 5, 5, 5] = some [(17, 1), (5, 0), (16, 1)] := by decide +kernel
end Bl
end Go.Proofs.Ytlbngaeimkhkgaa
