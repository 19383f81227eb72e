/- Runs in memory. How an argument that is a slice of tokens is opened. -/
import Derived.Test.YtjjbgdmalefdlaaGreatDoorZ2
import Derived.Test.YtjjbgdmalefdlaaGreatDoorZ11
import Derived.Test.YtjjbgdmalefdlaaGreatDoorZ13
import Derived.Deep.Slices
import Derived.Deep.Strs
import Derived.ChangeSame
set_option linter.unusedSimpArgs false
set_option linter.unusedVariables false
section
namespace Go.Proofs.YtjjbgdmalefdlaaGreatDoor
open Go.RowKit

theorem tyR : RowTy Tryz.prog 127 132 (.agg #[.int .i64 0, .int .i64 0]) 2 16 := ⟨Tryz.underlying127, by kernel_rfl, rfl, by omega⟩
theorem src_run (w : World) (t : Tok) : SrcRow (w.alloc (.cells #[.int .i64 t.1, .int .i64 t.2] 132)) (some ⟨w.heap.size, 0, none⟩) 1 1 (tks [t]) 2 :=
  src_new w #[.int .i64 t.1, .int .i64 t.2] 132 1 1 2 rfl (by intro u hu; simp at hu; rcases hu with rfl | rfl <;> rfl)
/-- A row of runs of the call's own reads as its runs. -/
theorem own_rs2 {w : World} {base n : Nat} {v : Value} {l : List Tok} (h : w.ownsRow base 132 2 v n (tks l)) (hw : ∀ i, i < n → (Lit.int .i64 (l.getD i (0, 0)).1).wf = true ∧ (Lit.int .i64 (l.getD i (0, 0)).2).wf = true) :
    ∃ a cap, v = .slice a n cap ∧ Ts2 w a n cap l := by
  have hn : l.length = n := by have := h.1; rw [tks_length] at this; omega
  rcases own_nil_or h with ⟨rfl, rfl⟩ | ⟨g, cap, rfl, hle, _⟩
  · exact ⟨none, 0, rfl, hn, Nat.le_refl _, fun _ => rfl, fun i hi => absurd hi (by omega), hw⟩
  · refine ⟨_, cap, rfl, hn, hle, fun e => by simp at e, fun i hi => ⟨g, 0, rfl, (h.lt g rfl).2, ?_⟩, hw⟩
    obtain ⟨t0, t1⟩ := tks_get l i (by omega)
    rw [Nat.zero_add, h.cellAt (i * 2) (by omega), h.cellAt (i * 2 + 1) (by omega)]
    exact ⟨t0, t1⟩
/-- What runBase answers. -/
def Bl.rb (y : Int) : Value := if 0 ≤ y ∧ y ≤ 18 then .tuple #[.int .i64 (Bl.base y : Nat), .int .i64 (Bl.bits y : Nat), .bool true] else .tuple #[.int .i64 0, .int .i64 0, .bool false]
theorem runBase_any (y : Int) (w : World) : Calls Tryz.prog 88 #[.int .i64 y] w fun e w' => e = .returned (Bl.rb y) ∧ w = w' := by
  by_cases h1 : 0 ≤ y ∧ y ≤ 18
  · have d1 : decide (y < 0) = false := decide_eq_false (by omega)
    have d2 : decide (19 ≤ y) = false := decide_eq_false (by omega)
    have HR : Hid (Bl.rb y = .tuple #[.int .i64 (Bl.base y : Nat), .int .i64 (Bl.bits y : Nat), .bool true]) := Lib.hid (by unfold Bl.rb; rw [if_pos h1])
    by_cases e6 : y = 16
    · subst e6
      go_enter Tryz.func88, Tryz.ntmps88
      go_wp2
      go_ret3
      exact ⟨by rw [HR.out]; rfl, rfl⟩
    · by_cases e7 : y = 17
      · subst e7
        go_enter Tryz.func88, Tryz.ntmps88
        go_wp2
        go_ret3
        exact ⟨by rw [HR.out]; rfl, rfl⟩
      · by_cases e8 : y = 18
        · subst e8
          go_enter Tryz.func88, Tryz.ntmps88
          go_wp2
          go_ret3
          exact ⟨by rw [HR.out]; rfl, rfl⟩
        · have d6 : (y == 16) = false := by simpa using e6
          have d7 : (y == 17) = false := by simpa using e7
          have d8 : (y == 18) = false := by simpa using e8
          have HB : Hid (Bl.base y = 1 ∧ Bl.bits y = 0) := Lib.hid (by unfold Bl.base Bl.bits; rw [if_neg e6, if_neg e7, if_neg e8, if_neg e6, if_neg e7, if_neg e8]; exact ⟨rfl, rfl⟩)
          clear h1 e6 e7 e8
          go_enter Tryz.func88, Tryz.ntmps88
          go_wp2
          go_ret3
          exact ⟨by rw [HR.out, HB.out.1, HB.out.2]; rfl, rfl⟩
  · have HR : Hid (Bl.rb y = .tuple #[.int .i64 0, .int .i64 0, .bool false]) := Lib.hid (by unfold Bl.rb; rw [if_neg h1])
    by_cases h2 : y < 0
    · have d1 : decide (y < 0) = true := decide_eq_true h2
      clear h1
      go_enter Tryz.func88, Tryz.ntmps88
      go_wp2
      go_ret3
      exact ⟨by rw [HR.out]; rfl, rfl⟩
    · have d1 : decide (y < 0) = false := decide_eq_false h2
      have d2 : decide (19 ≤ y) = true := decide_eq_true (by omega)
      clear h1
      go_enter Tryz.func88, Tryz.ntmps88
      go_wp2
      go_ret3
      exact ⟨by rw [HR.out]; rfl, rfl⟩
end Go.Proofs.YtjjbgdmalefdlaaGreatDoor
end

section
namespace Go.Proofs.YtjjbgdmalefdlaaGreatDoor
open Go.ChangeShapes Go.WideShapes Go.ChangeAt Go.RowKit

section
variable {H : Type} {enc : TypeId × Value → H} {P : Program} {W : World}
theorem open_toks {t e : TypeId} {f0 f1 : Field} (ht : P.underlying t = some (.slice e)) (he : P.underlying e = some (.struct #[f0, f1]))
    (u0 : P.underlying f0.type = some (.int .i64)) (u1 : P.underlying f1.type = some (.int .i64))
    (k0 : P.cellsOf f0.type = 1) (k1 : P.cellsOf f1.type = 1) (o0 : f0.offset = 0) (o1 : f1.offset = 1) (hc : P.cellsOf e = 2) (hby : P.bytesOf e = 16)
    {a : Option Addr} {len cap : Nat} {d : DataW H} {p : List MemPlace} (h : DataW.Trod enc P W 0 (fun _ => true) true t (.slice a len cap) d p)
    {ts : List TypeId} {ds : List (DataW H)} (hsz : (DataW.weightsEach P ts ds).all (· ≤ reachBytes) = true) (j : Nat) (htj : ts[j]? = some t) (hdj : ds[j]? = some d) :
    ∃ l, Ts2 W a len cap l ∧ cap * 16 ≤ 140737488351232 := by
  obtain ⟨fuel, hf⟩ := h
  rcases Go.Deep.open_slice ht hf with ⟨hcs, _⟩ | ⟨ad, len', cap', m, n, D, Pl, hcs, _, hl, _, hmm, hx, hi⟩
  · simp [Value.cells] at hcs
    obtain ⟨rfl, rfl, rfl⟩ := hcs
    exact ⟨[], ⟨rfl, Nat.le_refl _, fun _ => rfl, fun i hi => absurd hi (by omega), fun i hi => absurd hi (by omega)⟩, by omega⟩
  · simp [Value.cells] at hcs
    obtain ⟨rfl, rfl, rfl⟩ := hcs
    simp only [if_true] at hmm
    subst hmm
    simp only [Prod.mk.injEq] at hx
    obtain ⟨rfl, _⟩ := hx
    have hreach : m * 16 ≤ 140737488351232 := by
      have := sized_slice hsz htj hdj ht
      rw [hby] at this
      simp only [List.length_map, List.length_range, reachBytes] at this
      omega
    have row : ∀ i, i < len → ∃ q : Tok, W.cell? (ad.add (i * 2)) = some (.int .i64 q.1) ∧ W.cell? (ad.add (i * 2 + 1)) = some (.int .i64 q.2) ∧
        (Lit.int .i64 q.1).wf = true ∧ (Lit.int .i64 q.2).wf = true := by
      intro i hil
      obtain ⟨cs', hcc, htr⟩ := hi i (by omega)
      rw [hc] at hcc
      obtain ⟨_, hcl, hat⟩ := World.cells?_some hcc
      obtain ⟨y0, y1, n', _, _, t0, t1⟩ := trod_struct2 he htr
      rw [o0, k0] at t0
      rw [o1, k1] at t1
      obtain ⟨n0, e0, _, w0⟩ := DataW.trod_int u0 t0
      obtain ⟨n1, e1, _, w1⟩ := DataW.trod_int u1 t1
      match cs', hcl with
      | [c0, c1], _ =>
        simp at e0 e1
        subst e0 e1
        have a0 := hat 0 (by omega)
        have a1 := hat 1 (by omega)
        rw [Go.Deep.add_add] at a0 a1
        exact ⟨(n0, n1), a0, a1, w0, w1⟩
    by_cases h0 : len = 0
    · subst h0
      exact ⟨[], ⟨rfl, by omega, fun e => by simp at e, fun i hi => absurd hi (by omega), fun i hi => absurd hi (by omega)⟩, hreach⟩
    · obtain ⟨b, off, spot⟩ := ad
      have hspot : spot = none := by
        obtain ⟨q, hq, _⟩ := row 0 (by omega)
        simpa [Addr.add] using World.cell?_spot hq
      subst hspot
      have each : ∀ i, ∃ q : Tok, i < len → b < W.heap.size ∧ W.cell? ⟨b, off + i * 2, none⟩ = some (.int .i64 q.1) ∧ W.cell? ⟨b, off + i * 2 + 1, none⟩ = some (.int .i64 q.2) ∧
          (Lit.int .i64 q.1).wf = true ∧ (Lit.int .i64 q.2).wf = true := by
        intro i
        by_cases hil : i < len
        · obtain ⟨q, a0, a1, w0, w1⟩ := row i hil
          rw [Go.WideShapes.add_plain] at a0 a1
          refine ⟨q, fun _ => ⟨block_lt_of_cell a0, a0, ?_, w0, w1⟩⟩
          rw [Nat.add_assoc]; exact a1
        · exact ⟨(0, 0), fun h => absurd h hil⟩
      refine ⟨(List.range len).map fun i => Classical.choose (each i), ⟨by simp, by omega, fun e => by simp at e, fun i hi => ?_, fun i hi => ?_⟩, hreach⟩
      · have e : ((List.range len).map fun i => Classical.choose (each i)).getD i (0, 0) = Classical.choose (each i) := by simp [List.getD, List.getElem?_range hi]
        rw [e]
        obtain ⟨hb, a0, a1, _⟩ := Classical.choose_spec (each i) hi
        exact ⟨b, off, rfl, hb, a0, a1⟩
      · have e : ((List.range len).map fun i => Classical.choose (each i)).getD i (0, 0) = Classical.choose (each i) := by simp [List.getD, List.getElem?_range hi]
        rw [e]
        obtain ⟨_, _, _, w0, w1⟩ := Classical.choose_spec (each i) hi
        exact ⟨w0, w1⟩
end
end Go.Proofs.YtjjbgdmalefdlaaGreatDoor
end
