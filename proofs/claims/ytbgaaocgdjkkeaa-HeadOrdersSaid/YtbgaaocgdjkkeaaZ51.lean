/- The type of a slice of chunks. Copies of chunks, each with marks behind its data. -/
import Derived.Test.YtbgaaocgdjkkeaaZ6
import Derived.Test.YtbgaaocgdjkkeaaZ17
import Derived.Test.YtbgaaocgdjkkeaaZ23
import Derived.Test.YtbgaaocgdjkkeaaProg
set_option linter.unusedSimpArgs false
set_option linter.unusedVariables false
section
namespace Go.Proofs.Ytbgaaocgdjkkeaa
open Go.RowKit

theorem tyK : RowTy Try.prog 22 26 (.agg #[.string { data := #[] }, .slice none 0 0]) 2 40 := ⟨Try.underlying22, by kernel_rfl, rfl, by omega⟩
end Go.Proofs.Ytbgaaocgdjkkeaa
end

section
namespace Go.Proofs.Ytbgaaocgdjkkeaa
open Go.RowKit

/-- The first k of l, each with data of its own that has marks behind it. -/
structure Cpl (w : World) (B : Nat) (v : Value) (l : List Ckm) (k : Nat) (ms : List Ckm) : Prop where
  len : ms.length = k
  own : w.ownsRow B 26 2 v k (cks ms)
  data : ∀ i, i < k → (nck ms i).n = (nck l i).n ∧ (nck ms i).s.l = (nck l i).s.l ∧ (nck ms i).s.len = (nck l i).s.len ∧ (nck ms i).s.cap = (nck l i).s.len + 2 ∧ (nck l i).s.len ≤ 1048576 ∧ (nck l i).s.l.length = (nck l i).s.len ∧ ∃ g, (nck ms i).s.a = some ⟨g, 0, none⟩ ∧ v.ownBlock ≠ some g ∧
    w.ownsRow B 5 1 (.slice (some ⟨g, 0, none⟩) ((nck l i).s.len + 2) ((nck l i).s.len + 2)) ((nck l i).s.len + 2) (bvs ((nck l i).s.l ++ [165, 90]))
theorem Cpl.below {w w' : World} {B : Nat} {v : Value} {l : List Ckm} {k : Nat} {ms : List Ckm} (h : Cpl w B v l k ms) (hb : Below w.heap.size w w') : Cpl w' B v l k ms :=
  ⟨h.len, own_below h.own hb, fun i hi => by
    obtain ⟨h1, h2, h3, h4, h5, h6, g, h7, h8, h9⟩ := h.data i hi
    exact ⟨h1, h2, h3, h4, h5, h6, g, h7, h8, own_below h9 hb⟩⟩
theorem Cpl.cs {w : World} {B : Nat} {v : Value} {l : List Ckm} {k : Nat} {ms : List Ckm} (h : Cpl w B v l k ms) : ∃ a cap, v = .slice a k cap ∧ Cs w a k cap ms := by
  refine own_cs h.own (fun c hc => ?_)
  obtain ⟨i, hi, rfl⟩ := List.getElem_of_mem hc
  rw [h.len] at hi
  obtain ⟨_, h2, h3, h4, h5, h6, g, h7, _, h9⟩ := h.data i hi
  have e : nck ms i = ms[i] := nck_get ms i (by rw [h.len]; exact hi)
  rw [e] at h2 h3 h4 h7
  have hm := bs_of_own h9 (by omega) (nck l i).s.len (by omega)
  rw [List.take_append_of_le_length (by omega), List.take_of_length_le (by omega)] at hm
  show Bs w ms[i].s.a ms[i].s.len ms[i].s.cap ms[i].s.l
  rw [h7, h3, h4, h2]
  exact hm
theorem Cpl.cps {w : World} {B : Nat} {v : Value} {l : List Ckm} {ms : List Ckm} (h : Cpl w B v l l.length ms) : cps ms = cps l := by
  apply List.ext_getElem?
  intro i
  by_cases hi : i < l.length
  · obtain ⟨h1, h2, _⟩ := h.data i hi
    have hm : i < ms.length := by rw [h.len]; exact hi
    rw [nck_get ms i hm, nck_get l i hi] at h1 h2
    simp [Go.Proofs.Ytbgaaocgdjkkeaa.cps, List.getElem?_eq_getElem hi, List.getElem?_eq_getElem hm, Ckm.c, h1, h2]
  · have hm : ¬ i < ms.length := by rw [h.len]; exact hi
    simp [Go.Proofs.Ytbgaaocgdjkkeaa.cps, hi, hm]
theorem nck_append_left (l m : List Ckm) (i : Nat) (h : i < l.length) : nck (l ++ m) i = nck l i := by
  simp [nck, List.getD, List.getElem?_append_left h]
theorem nck_append_last (l : List Ckm) (c : Ckm) : nck (l ++ [c]) l.length = c := by simp [nck]
theorem Cpl.push {w w' : World} {B : Nat} {v v' : Value} {l : List Ckm} {k g : Nat} {ms : List Ckm} (h : Cpl w B v l k ms) (hl : (nck l k).s.len ≤ 1048576) (hll : (nck l k).s.l.length = (nck l k).s.len)
    (hd : w.ownsRow B 5 1 (.slice (some ⟨g, 0, none⟩) ((nck l k).s.len + 2) ((nck l k).s.len + 2)) ((nck l k).s.len + 2) (bvs ((nck l k).s.l ++ [165, 90]))) (hdj : v.ownBlock ≠ some g)
    (ho : w'.ownsRow B 26 2 v' (k + 1) (cks ms ++ cks [⟨(nck l k).n, ⟨some ⟨g, 0, none⟩, (nck l k).s.len, (nck l k).s.len + 2, (nck l k).s.l⟩⟩])) (hc : Ch w w' (fun j => v.ownBlock = some j)) (hb : ∀ j, v'.ownBlock = some j → v.ownBlock = some j ∨ w.heap.size ≤ j) :
    Cpl w' B v' l (k + 1) (ms ++ [⟨(nck l k).n, ⟨some ⟨g, 0, none⟩, (nck l k).s.len, (nck l k).s.len + 2, (nck l k).s.l⟩⟩]) := by
  refine ⟨by rw [List.length_append, h.len]; rfl, by rw [cks_append]; exact ho, fun i hi => ?_⟩
  by_cases hik : i < k
  · rw [nck_append_left _ _ _ (by rw [h.len]; exact hik)]
    obtain ⟨h1, h2, h3, h4, h5, h6, g', h7, h8, h9⟩ := h.data i hik
    refine ⟨h1, h2, h3, h4, h5, h6, g', h7, fun e => ?_, hc.own h9 (fun j hj e => ?_)⟩
    · rcases hb g' e with h10 | h10
      · exact h8 h10
      · have := (h9.lt g' rfl).2; omega
    · simp only [Value.ownBlock, Option.some.injEq] at hj
      subst hj
      exact h8 e
  · obtain rfl : i = k := by omega
    have e : nck (ms ++ [⟨(nck l i).n, ⟨some ⟨g, 0, none⟩, (nck l i).s.len, (nck l i).s.len + 2, (nck l i).s.l⟩⟩]) i = ⟨(nck l i).n, ⟨some ⟨g, 0, none⟩, (nck l i).s.len, (nck l i).s.len + 2, (nck l i).s.l⟩⟩ := by
      have := nck_append_last ms ⟨(nck l i).n, ⟨some ⟨g, 0, none⟩, (nck l i).s.len, (nck l i).s.len + 2, (nck l i).s.l⟩⟩
      rwa [h.len] at this
    rw [e]
    refine ⟨rfl, rfl, rfl, rfl, hl, hll, g, rfl, fun e => ?_, hc.own hd (fun j hj e => ?_)⟩
    · rcases hb g e with h10 | h10
      · exact hdj h10
      · have := (hd.lt g rfl).2; omega
    · simp only [Value.ownBlock, Option.some.injEq] at hj
      subst hj
      exact hdj e
end Go.Proofs.Ytbgaaocgdjkkeaa
end
