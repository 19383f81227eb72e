/- A count in a map by three bytes. -/
import Derived.WideKeyEntry
import Derived.Test.YtedncnaeojomcaaDoorLzMem
namespace Go.Proofs.YtedncnaeojomcaaDoor
open Go.RowKit Go.Maps Go.ChangeMaps

set_option maxRecDepth 100000 in
theorem key_law0 : Go.WideMaps.KeyLaw Tryd.prog 46 := deep_law_laid laid_all (m := 2) (by omega) key_row (by kernel_rfl) key_wide
theorem block_same {w : World} {b : Nat} {o : Obj} (h : w.heap[b]? = some o) (o' : Obj) : (setBlock w b o').heap[b]? = some o' := by
  obtain ⟨hlt, _⟩ := Array.getElem?_eq_some_iff.1 h
  simp [setBlock, hlt]
open Go.WideElems in
/-- What the entry's place leaves: the map as it was, or the map with a zero. -/
theorem entry_look {w : World} {b : Nat} {es : Array MapEntry} {clock : Nat} {key : Value} {kq : Lit} (hb : w.heap[b]? = some (.map es clock)) (F : Fit Tryd.prog 46 (plainElem (H := Unit) Tryd.prog 3) es clock) (hkey : keyOf Tryd.prog 46 key = some kq) :
    ∃ (v0 : Value) (st : Nat) (X1 : World), (Instr.mapEntry 45 (.map (some b)) key).run Tryd.prog w = .ok (.tuple #[v0, goInt st]) X1 ∧
      (X1 = w ∨ ((Instr.mapUpdate 45 (.map (some b)) key (.int .i64 0)).run Tryd.prog w = .ok () X1 ∧ ∀ x ∈ es.toList, x.key ≠ key)) := by
  have ht := Tryd.underlying45
  have hz : ∀ u : World, (zeroValue 3).run Tryd.prog u = .ok (.int .i64 0) u := fun u => by kernel_rfl
  have K := key_law0
  rcases K.find w hkey es.toList F.keys with ⟨h1, h2⟩ | ⟨j, e0, h1, h2, h3⟩
  · refine ⟨.int .i64 0, clock, setBlock w b (.map (es.push ⟨key, .int .i64 0, clock⟩) (clock + 1)), ?_, .inr ⟨?_, h2⟩⟩
    · simp [Instr.mapEntry, run_underlying ht, Go.MapKept.run_getObj_map hb, K.check w false hkey, h1, hz, Go.MapKept.run_setObj_map _ hb, Result.andThen, setBlock]
    · simp [Instr.mapUpdate, run_underlying ht, Go.MapKept.run_getObj_map hb, K.check w false hkey, h1, Go.MapKept.run_setObj_map _ hb, Result.andThen, setBlock]
  · have hj : es[j]? = some e0 := by simpa using h2
    have hsame : es.modify j (fun e => { e with key := key }) = es := by
      apply Array.ext'
      rw [Array.toList_modify, modify_eq_set _ _ _ _ h2]
      have : ({ e0 with key := key } : MapEntry) = e0 := by rw [← h3]
      rw [this]
      exact set_self _ _ _ h2
    have hself : setBlock w b (.map es clock) = w := by
      unfold setBlock
      have : w.heap.setIfInBounds b (.map es clock) = w.heap := by
        have hlt := (Array.getElem?_eq_some_iff.1 hb).1
        apply Array.ext_getElem?
        intro i
        by_cases e : b = i
        · subst e; rw [Array.getElem?_setIfInBounds_self_of_lt hlt, hb]
        · rw [Array.getElem?_setIfInBounds_ne e]
      rw [this]
    refine ⟨e0.val, e0.born, w, ?_, .inl rfl⟩
    have h9 : (Instr.mapEntry 45 (.map (some b)) key).run Tryd.prog w = .ok (.tuple #[e0.val, goInt e0.born]) (setBlock w b (.map es clock)) := by
      simp [Instr.mapEntry, run_underlying ht, Go.MapKept.run_getObj_map hb, K.check w false hkey, h1, hj, h3, K.stays w hkey, hsame, Go.MapKept.run_setObj_map _ hb, Result.andThen, setBlock]
    rw [hself] at h9
    exact h9
open Go.WideElems in
/-- 'm[k]++', in its parts. -/
theorem bump {X : World} {mb n c : Nat} {top : Nat × Nat × Nat → Int} {k : Nat × Nat × Nat} (hT : Tops 3 .i64 X mb n 0 top) (hk : K8 k) (hn : n < 4000) (hc : top k = (c : Int)) (h1 : c ≤ 4000) :
    ∃ (v0 : Value) (st : Nat) (X1 X3 : World), (Instr.mapEntry 45 (.map (some mb)) (kv k)).run Tryd.prog X = .ok (.tuple #[v0, .int .i64 (st : Nat)]) X1 ∧ (Instr.entryStore 45 (.map (some mb)) (.int .i64 (st : Nat)) (.int .i64 ((c : Int) + 1))).run Tryd.prog X1 = .ok () X3 ∧
      Tops 3 .i64 X3 mb (n + 1) 0 (fun j => if j = k then ((c + 1 : Nat) : Int) else top j) ∧ X.grownBy X3 (some mb) ∧ Tops 3 .i64 X1 mb (n + 1) 0 top := by
  obtain ⟨D, hown, hD⟩ := hT
  have hw : (Lit.int .i64 ((c : Int) + 1)).wf = true := by simp only [Lit.wf, IntKind.min, IntKind.max, IntKind.signed, IntKind.bits, Bool.and_eq_true, decide_eq_true_eq, if_true]; simp; omega
  have hcm := crown_map (t := c + 1) hD hk hown.isMap
  obtain ⟨w', hup, hown', hgr⟩ := hown.update key_law Tryd.underlying45 (by unfold maxLen; omega) (key_is k hk) (plainElem_int (H := Unit) Tryd.underlying3 hw)
  have hown0 := hown
  obtain ⟨es, clock, hb, F, hs, rfl⟩ := hown
  obtain ⟨v0, st, es1, clock1, e1, _, e2⟩ := entry_then_store key_law0 Tryd.underlying45 (z := .int .i64 0) (fun u => by kernel_rfl) hb F (key_is k hk)
  obtain ⟨es', clock', e3, e4⟩ := e2 (setBlock X mb (.map es1 clock1)) (.int .i64 ((c : Int) + 1)) (block_same hb _)
  rw [e4] at hup
  have hw' : setBlock X mb (.map es' clock') = w' := by injection hup
  have hss : setBlock (setBlock X mb (.map es1 clock1)) mb (.map es' clock') = setBlock X mb (.map es' clock') := by
    unfold setBlock
    simp
  rw [hss, hw'] at e3
  refine ⟨v0, st, _, w', e1, e3, ⟨_, hown', hcm⟩, hgr, ?_⟩
  obtain ⟨u0, st', Y, k1, k2⟩ := entry_look hb F (key_is k hk)
  rw [e1] at k1
  have hY : setBlock X mb (.map es1 clock1) = Y := by injection k1
  rw [hY]
  rcases k2 with rfl | ⟨k2, k3⟩
  · exact ⟨_, hown0.mono (by omega), hD⟩
  · obtain ⟨w9, m1, m2, _⟩ := hown0.update key_law Tryd.underlying45 (by unfold maxLen; omega) (key_is k hk) (plainElem_int (H := Unit) Tryd.underlying3 (a := 0) (by decide))
    rw [k2] at m1
    obtain rfl : Y = w9 := by injection m1
    have ht0 : top k = 0 := by
      rcases Maps.fit_look false key_law Tryd.underlying45 (z := .int .i64 0) (by kernel_rfl) hb F (key_is k hk) with ⟨_, _, hat⟩ | ⟨e0, _, g1, g2, _⟩
      · cases hh : Maps.has (DataW.map ((es.toList.map (rg Tryd.prog 46 (plainElem (H := Unit) Tryd.prog 3))).foldr DataW.insert []) : DataW Unit) (kl k) with
        | true =>
          have g := (hD k hk).1 hh
          rw [hat] at g
          simp only [DataW.lit.injEq, Lit.int.injEq, true_and] at g
          exact g.symm
        | false => exact (hD k hk).2 hh
      · exact absurd g2 (k3 e0 g1)
    have hz := crown_map (t := 0) hD hk hown0.isMap
    have e0 : (fun j => if j = k then ((0 : Nat) : Int) else top j) = top := by
      funext j
      by_cases e : j = k
      · rw [if_pos e, e, ht0]; rfl
      · rw [if_neg e]
    refine ⟨_, m2, ?_⟩
    rw [← e0]
    exact hz
end Go.Proofs.YtedncnaeojomcaaDoor
