/- Books of lengths: in form, and the document's codes. -/
import Derived.Test.YtnlbomijnldlmaaBookNew
import Derived.Test.YtnlbomijnldlmaaBookRead
namespace Go.Proofs.Ytnlbomijnldlmaa
open Go.RowKit

namespace Bk
def rowsL (l : List Int) : Nat → List Nat := rowsOf l (List.range l.length)
theorem rowsL_succ (l : List Int) (n : Nat) : rowsL l (n + 1) = Cn.row l n l.length := by
  unfold rowsL rowsOf Cn.row
  rw [if_neg (by omega)]
theorem rowsL_zero (l : List Int) : rowsL l 0 = [] := rfl
theorem range_flat {α : Type} (f : Nat → List α) (h : f 0 = []) (m : Nat) : (List.range (m + 1)).flatMap f = (List.range m).flatMap fun n => f (n + 1) := by
  rw [List.range_succ_eq_map, List.flatMap_cons, h, List.nil_append, List.flatMap_map]
theorem sizR_of (l : List Int) : sizR (rowsL l) 17 = Cn.sizes l := by
  unfold sizR Cn.sizes Cn.sizN
  rw [range_flat _ (by rw [rowsL_zero]; rfl)]
  congr 1
  funext n
  rw [rowsL_succ, List.map_const']
theorem good_of (l : List Int) (h : Cn.freeB l = true) : Good (rowsL l) := by
  refine ⟨rfl, ?_⟩
  have h1 := (tog_seq (rowsL l) rfl 17 (Nat.le_refl _)).2
  rw [sizR_of] at h1
  simp only [Cn.freeB, Bool.and_eq_true, decide_eq_true_eq] at h
  rw [← h1, Cn.sum_sizes l h.1]
  exact h.2
theorem syms_of (l : List Int) : Cn.syms l = (seq (rowsL l) 17).map fun x => (x.s : Int) := by
  unfold Cn.syms Cn.symN seq
  have e := range_flat (fun n => (rowS (rowsL l) n (rowsL l n).length).map fun (x : It) => (x.s : Int)) (by rw [rowsL_zero]; rfl) 16
  rw [List.map_flatMap, e]
  congr 1
  funext n
  rw [rowsL_succ]
  unfold rowS it
  rw [List.map_map]
  apply List.ext_getElem
  · simp
  · intro i h1 h2
    simp only [List.getElem_map, List.getElem_range, Function.comp, rowsL_succ]
    rw [List.length_map] at h1
    simp [List.getD, List.getElem?_eq_getElem h1]
theorem codes_of (l : List Int) (h : Cn.freeB l = true) : Cn.codes (Cn.sizes l) = (seq (rowsL l) 17).map It.bits := by rw [← sizR_of]; exact codes_seq _ (good_of l h)
theorem ks_of (cs : List Cd) (R : Nat → List Nat) (h1 : cs.map Cd.s = (seq R 17).map fun x => (x.s : Int)) (h2 : cs.map Cd.b = (seq R 17).map It.bits) : cs.map Cd.k = ks R := by
  have hl : cs.length = (seq R 17).length := by have := congrArg List.length h1; simpa using this
  apply List.ext_getElem
  · simp [ks, hl]
  · intro i a b
    rw [List.length_map] at a
    have e1 : (cs.map Cd.s)[i]'(by simpa using a) = ((seq R 17).map fun x => (x.s : Int))[i]'(by simp; omega) := by simp only [h1]
    have e2 : (cs.map Cd.b)[i]'(by simpa using a) = ((seq R 17).map It.bits)[i]'(by simp; omega) := by simp only [h2]
    simp only [List.getElem_map] at e1 e2
    simp only [ks, List.getElem_map, Cd.k, e1, e2]
/-- A symbol's length is the one asked for. -/
theorem seq_len (l : List Int) (x : It) (hx : x ∈ seq (rowsL l) 17) : x.s < l.length ∧ l.getD x.s 0 = (x.n : Int) ∧ 0 < x.n := by
  obtain ⟨m, i, _, hi, rfl⟩ := (mem_seq _ _ _).1 hx
  have : (rowsL l m).getD i 0 ∈ rowsL l m := by simp [List.getD, List.getElem?_eq_getElem hi]
  obtain ⟨h1, h2, h3⟩ := rowsOf_mem l _ m _ this
  exact ⟨List.mem_range.1 h1, h2, h3⟩
theorem seq_has (l : List Int) (s : Nat) (hs : s < l.length) (h : 0 < l.getD s 0 ∧ l.getD s 0 ≤ 16) : ∃ x ∈ seq (rowsL l) 17, x.s = s := by
  obtain ⟨n, hn⟩ := Int.eq_ofNat_of_zero_le (show 0 ≤ l.getD s 0 by omega)
  have hm : s ∈ rowsL l n := by
    unfold rowsL rowsOf
    rw [if_neg (by omega), List.mem_filter]
    exact ⟨List.mem_range.2 hs, by rw [hn]; simp⟩
  obtain ⟨i, hi, e⟩ := List.getElem_of_mem hm
  exact ⟨it (rowsL l) n i, (mem_seq _ _ _).2 ⟨n, i, by omega, hi, rfl⟩, by simp [it, List.getD, List.getElem?_eq_getElem hi, e]⟩
theorem look_none (l : List Int) (s : Nat) (h : l.getD s 0 = 0 ∨ l.length ≤ s) : look (seq (rowsL l) 17) s = (0, 0) := by
  rcases look_mem (seq (rowsL l) 17) s with ⟨h1, _⟩ | ⟨x, hx, h1, _⟩
  · exact h1
  · obtain ⟨h2, h3, h4⟩ := seq_len l x hx
    rw [h1] at h2 h3
    rcases h with h | h <;> omega
theorem look_some (l : List Int) (s : Nat) (hs : s < l.length) (h : 0 < l.getD s 0 ∧ l.getD s 0 ≤ 16) : ∃ m i, m < 17 ∧ i < (rowsL l m).length ∧ (rowsL l m).getD i 0 = s ∧ l.getD s 0 = (m : Int) ∧ look (seq (rowsL l) 17) s = (fst (rowsL l) m + i, m) := by
  rcases look_mem (seq (rowsL l) 17) s with ⟨_, h2⟩ | ⟨x, hx, h1, h2⟩
  · obtain ⟨x, hx, h3⟩ := seq_has l s hs h
    exact absurd h3 (h2 x hx)
  · obtain ⟨_, h4, _⟩ := seq_len l x hx
    obtain ⟨m, i, hm, hi, rfl⟩ := (mem_seq _ _ _).1 hx
    refine ⟨m, i, hm, hi, h1, ?_, h2⟩
    rw [← h1]; exact h4
end Bk
end Go.Proofs.Ytnlbomijnldlmaa
