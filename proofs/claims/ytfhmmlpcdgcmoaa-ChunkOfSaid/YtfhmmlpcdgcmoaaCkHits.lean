/- Where a name stands: what comes next. -/
import Derived.Test.YtfhmmlpcdgcmoaaCkFindIt
namespace Go.Proofs.Ytfhmmlpcdgcmoaa
open Go.RowKit

/-- Behind the last of them. -/
def lastN (p : List Nat) : Nat := match p.getLast? with | none => 0 | some z => z + 1
theorem lastN_snoc (p : List Nat) (z : Nat) : lastN (p ++ [z]) = z + 1 := by simp [lastN]
theorem hits_sorted (l : List Ckm) (nm : List UInt8) (k : Nat) : (hits l nm k).Pairwise (· < ·) := List.Pairwise.filter _ List.pairwise_lt_range
theorem mem_hits {l : List Ckm} {nm : List UInt8} {k i : Nat} : i ∈ hits l nm k ↔ i < k ∧ (nck l i).n = nm := by simp [hits]
theorem hits_next {l : List Ckm} {nm : List UInt8} {k y : Nat} {p q : List Nat} (h : hits l nm k = p ++ y :: q) :
    lastN p ≤ y ∧ y < k ∧ (nck l y).n = nm ∧ ∀ i, lastN p ≤ i → i < y → (nck l i).n ≠ nm := by
  have hs := hits_sorted l nm k
  have hm : y ∈ hits l nm k := by rw [h]; simp
  obtain ⟨hy, hn⟩ := mem_hits.1 hm
  rw [h] at hs
  obtain ⟨hp, hq, hx⟩ := List.pairwise_append.1 hs
  have hq := List.pairwise_cons.1 hq
  have hle : ∀ z ∈ p, z < lastN p := fun z hz => by
    rcases List.eq_nil_or_concat p with rfl | ⟨r, t, rfl⟩
    · simp at hz
    · rw [List.concat_eq_append] at *
      rw [lastN_snoc]
      rcases List.mem_append.1 hz with hz | hz
      · have := (List.pairwise_append.1 hp).2.2 z hz t (by simp); omega
      · simp at hz; omega
  refine ⟨?_, hy, hn, fun i hi hlt e => ?_⟩
  · rcases List.eq_nil_or_concat p with rfl | ⟨r, t, rfl⟩
    · simp [lastN]
    · rw [List.concat_eq_append] at *
      rw [lastN_snoc]
      exact hx t (by simp) y (by simp)
  · have hin : i ∈ hits l nm k := mem_hits.2 ⟨by omega, e⟩
    rw [h] at hin
    rcases List.mem_append.1 hin with hin | hin
    · have := hle i hin; omega
    · rcases List.mem_cons.1 hin with rfl | hin
      · omega
      · have := hq.1 i hin; omega
/-- Behind the last one found. -/
def atv (pre : List Plm) : Nat := lastN (pre.map Prod.fst)
theorem atv_snoc (pre : List Plm) (x : Plm) : atv (pre ++ [x]) = x.1 + 1 := by unfold atv; rw [List.map_append]; exact lastN_snoc _ _
theorem sh_fst {xs ys : List Plm} (h : xs.map sh = ys.map sh) : xs.map Prod.fst = ys.map Prod.fst := by
  have := congrArg (List.map Prod.fst) h
  simpa [List.map_map, Function.comp_def, sh] using this
/-- What comes next. -/
theorem plis_next {l : List Ckm} {nm : List UInt8} {k : Nat} {ms pre : List Plm} {x : Plm} {s : List (Nat × List UInt8 × List UInt8)} (h : PlIs l nm k ms) (hs : ms.map sh = pre.map sh ++ sh x :: s) :
    atv pre ≤ x.1 ∧ x.1 < k ∧ (nck l x.1).n = nm ∧ (∀ i, atv pre ≤ i → i < x.1 → (nck l i).n ≠ nm) ∧ x.2.n = nm ∧ x.2.s.l = (nck l x.1).s.l := by
  have hf : hits l nm k = pre.map Prod.fst ++ x.1 :: s.map Prod.fst := by
    rw [← h.1]
    have := congrArg (List.map Prod.fst) hs
    simpa [List.map_map, Function.comp_def, sh] using this
  obtain ⟨h1, h2, h3, h4⟩ := hits_next hf
  have hm : sh x ∈ ms.map sh := by rw [hs]; simp
  obtain ⟨c, hc, he⟩ := List.mem_map.1 hm
  obtain ⟨g1, g2⟩ := h.2 c hc
  simp only [sh, Prod.mk.injEq] at he
  obtain ⟨e1, e2, e3⟩ := he
  exact ⟨h1, h2, h3, h4, by rw [← e2]; exact g1, by rw [← e3, ← e1]; exact g2⟩
theorem sh_len {xs ys : List Plm} (h : xs.map sh = ys.map sh) : xs.length = ys.length := by simpa using congrArg List.length h
theorem plis_len {l : List Ckm} {nm : List UInt8} {k : Nat} {ms : List Plm} (h : PlIs l nm k ms) : ms.length = (hits l nm k).length := by rw [← h.1]; simp
end Go.Proofs.Ytfhmmlpcdgcmoaa
