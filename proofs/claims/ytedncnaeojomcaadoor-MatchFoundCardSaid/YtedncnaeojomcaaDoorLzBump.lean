/- A count in a map by three bytes. -/
import Derived.WideKeyEntry
import Derived.Test.YtedncnaeojomcaaDoorLzMem
namespace Go.Proofs.YtedncnaeojomcaaDoor
open Go.RowKit Go.Maps Go.ChangeMaps

set_option maxRecDepth 100000 in
theorem key_law0 : Go.WideMaps.KeyLaw Tryd.prog 46 := deep_law_laid laid_all (m := 2) (by omega) key_row (by kernel_rfl) key_wide
theorem block_same {w : World} {b : Nat} {o : Obj} (h : w.heap[b]? = some o) (o' : Obj) : (setBlock w b o').heap[b]? = some o' := by
  obtain ⟨hlt, _⟩ := Array.getElem?_eq_some_iff.1 h
  simp [setBlock, hlt]
open Go.WideElems in
/-- 'm[k]++', in its parts. -/
theorem bump {X : World} {mb n c : Nat} {top : Nat × Nat × Nat → Int} {k : Nat × Nat × Nat} (hT : Tops 3 .i64 X mb n 0 top) (hk : K8 k) (hn : n < 4000) (hc : top k = (c : Int)) (h1 : c ≤ 4000) :
    ∃ (v0 : Value) (st : Nat) (X1 X3 : World), (Instr.mapEntry 45 (.map (some mb)) (kv k)).run Tryd.prog X = .ok (.tuple #[v0, .int .i64 (st : Nat)]) X1 ∧ (Instr.entryStore 45 (.map (some mb)) (.int .i64 (st : Nat)) (.int .i64 ((c : Int) + 1))).run Tryd.prog X1 = .ok () X3 ∧
      Tops 3 .i64 X3 mb (n + 1) 0 (fun j => if j = k then ((c + 1 : Nat) : Int) else top j) ∧ X.grownBy X3 (some mb) := by
  obtain ⟨D, hown, hD⟩ := hT
  have hw : (Lit.int .i64 ((c : Int) + 1)).wf = true := by simp only [Lit.wf, IntKind.min, IntKind.max, IntKind.signed, IntKind.bits, Bool.and_eq_true, decide_eq_true_eq, if_true]; simp; omega
  have hcm := crown_map (t := c + 1) hD hk hown.isMap
  obtain ⟨w', hup, hown', hgr⟩ := hown.update key_law Tryd.underlying45 (by unfold maxLen; omega) (key_is k hk) (plainElem_int (H := Unit) Tryd.underlying3 hw)
  obtain ⟨es, clock, hb, F, hs, rfl⟩ := hown
  obtain ⟨v0, st, es1, clock1, e1, _, e2⟩ := entry_then_store key_law0 Tryd.underlying45 (z := .int .i64 0) (fun u => by kernel_rfl) hb F (key_is k hk)
  obtain ⟨es', clock', e3, e4⟩ := e2 (setBlock X mb (.map es1 clock1)) (.int .i64 ((c : Int) + 1)) (block_same hb _)
  rw [e4] at hup
  have hw' : setBlock X mb (.map es' clock') = w' := by injection hup
  have hss : setBlock (setBlock X mb (.map es1 clock1)) mb (.map es' clock') = setBlock X mb (.map es' clock') := by
    unfold setBlock
    simp
  rw [hss, hw'] at e3
  exact ⟨v0, st, _, w', e1, e3, ⟨_, hown', hcm⟩, hgr⟩
end Go.Proofs.YtedncnaeojomcaaDoor
