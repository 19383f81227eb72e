/- A range over an iterator that tells what comes next: its contract, and the caller's law. Indices from the last one down, and a slice whose cells a round keeps. slices.Backward over rows of items: the iterator's contract. The document's free amount, and a code plus 1: their contracts. What merge.least lays in memory. -/
import Derived.Test.YtpoilaappcjbeaaGreatDoorZ17
import Derived.RangeFuncNested
import Derived.RangeFuncFrom
import Derived.RangeFuncLeaves
import Derived.Shelf.Abstract
import Derived.Shelf.RegionOpen
import Derived.RangeFuncCalls
import Derived.OwnWalkIn
import Derived.TacticsInMore
import Derived.LoopNIn
import Derived.LoopIn
import Derived.RegionIn
set_option linter.unusedSimpArgs false
set_option linter.unusedVariables false
section
namespace Go.Proofs.YtpoilaappcjbeaaGreatDoor
open Go.RowKit

/-- An iterator that may turn records of its own between two rounds, and tells each round what it may be handed next (Nx). -/
def IterN {α : Type} (F : Fence) (n : Nat) (P : Program) (g : Nat) (lb : Array Value) (encs : α → Array Value) (Kp : World → World → Prop) (S Sp : List α → Prop) (Nx : List α → α → Prop) (w : World) : Prop :=
  ∀ (y : Nat) (J Jx : List α → World → Prop) (V : World), Below w.heap.size w V → OwnFrom V.heap.size J → OwnFrom V.heap.size Jx → J [] V →
    (∀ pre x A, J pre A → Nx pre x → YieldAt F (n - 1) P y (encs x) A fun e A' => KeepsFrom V.heap.size A A' ∧
      ((e = .returned (.bool true) ∧ J (pre ++ [x]) A' ∧ Kp A A') ∨ (e = .returned (.bool false) ∧ Jx (pre ++ [x]) A'))) →
    CallsIn F n P g (#[.func (.yield y) #[] #[]] ++ lb) V fun e A' => (∃ v, e = .returned v) ∧ ((∃ xs, S xs ∧ J xs A') ∨ (∃ pre, Sp pre ∧ Jx pre A'))
theorem putN_same {A : World} {k : Nat} {o o' : Obj} (h : A.heap[k]? = some o) : (A.putObj k o').heap[k]? = some o' := World.putObj_heap_same (Array.getElem?_eq_some_iff.1 h).1
theorem putN_keeps {A : World} {B k : Nat} (o' : Obj) (hk : k < B) : KeepsFrom B A (A.putObj k o') :=
  ⟨by simp, fun j o hb hj _ => (World.putObj_heap_other (by omega)).trans hj⟩
theorem range_iterN {F : Fence} {n : Nat} {P : Program} {α : Type} {g : Operand} {ps : Array Tmp} {assign body : Code} {Q : Exit → Act → World → Prop} {a : Act} {w : World}
    (hro : F.round = none) (h1 : 1 ≤ n) {gf : Nat} {lb : Array Value} (hg : a.eval g = .func (.func gf) #[] lb) (hF : F.fn gf) (eg : ∀ args w, (callFunc gf args).run P w = .ok (.enter gf args) w)
    {encs : α → Array Value} {Kp : World → World → Prop} {S Sp : List α → Prop} {Nx : List α → α → Prop} (hseq : IterN F (n - 1) P gf lb encs Kp S Sp Nx w)
    (hKt : ∀ {A B C : World}, Kp A B → Kp B C → Kp A C) (hKb : ∀ (A : World) (k : Nat) (o o' : Obj), A.heap[k]? = some o → o.isCells = false → Kp A (A.putObj k o')) (hps : ∀ x, (encs x).size = ps.size)
    (I : List α → World → Prop) (Ix : Code → List α → World → Prop) (hI : OwnFrom w.heap.size I) (hX : ∀ c, OwnFrom w.heap.size (Ix c)) (h0 : I [] w) (act : α → Act)
    (has : ∀ (k : Nat) (x : α) (A : World) (K : Act → World → Prop), K (act x) A → assign.wpIn (F.inRound k) (n - 1 - 1) P (Exit.then K (fun _ _ _ => False)) { tmps := (ps.zip (encs x)).foldl (fun t (p, v) => t.setIfInBounds p v) a.tmps, defers := [] } A)
    (hbo : ∀ (k : Nat) (pre : List α) (x : α) (A : World), I pre A → Nx pre x → body.wpIn (F.inRound k) (n - 1 - 1) P (ownPostG w.heap.size Kp I Ix (pre ++ [x]) A) (act x) A)
    (hend : ∀ (xs : List α) (A : World), S xs → I xs A → A.heap[w.heap.size]? = some (.deferred (some [])) → Q .normal { a with defers := { target := .collected w.heap.size, args := #[] } :: a.defers } A)
    (hout : ∀ (c : Code) (pre : List α) (A : World), Sp pre → Ix c pre A → A.heap[w.heap.size]? = some (.deferred (some [])) → c.wpIn F n P Q { a with defers := { target := .collected w.heap.size, args := #[] } :: a.defers } A) :
    (Code.rangeFunc g ps assign body).wpIn F n P Q a w := by
  refine wpIn_rangeFunc fun fn hfn => ?_
  rw [hro]
  obtain ⟨d, hd⟩ : ∃ d, w.heap.size = d := ⟨_, rfl⟩
  rw [hd] at hI hX hbo hend hout
  obtain ⟨L, hL⟩ : ∃ L : LoopState → Option Code → Loop, L = fun s c => { state := s, pending := c, fn, tmps := a.tmps, params := ps, assign, body, defers := d } := ⟨_, rfl⟩
  have hV : ∃ V, (w.alloc (.deferred (some []))).alloc (.loop (L .ready none)) = V := ⟨_, rfl⟩
  obtain ⟨V, hV⟩ := hV
  have vz : V.heap.size = d + 2 := by rw [← hV, ← hd]; simp
  have v1 : V.heap[d + 1]? = some (.loop (L .ready none)) := by
    have := World.alloc_heap_new (w.alloc (.deferred (some []))) (.loop (L .ready none))
    rw [World.size_alloc, hd, hV] at this
    exact this
  have v0 : V.heap[d]? = some (.deferred (some [])) := by
    have := (Below.heap_alloc (w.alloc (.deferred (some []))) (.loop (L .ready none)) d (by simp; omega))
    rw [hV] at this
    rw [this, ← hd]; exact World.alloc_heap_new w _
  have vI : I [] V := by rw [← hV]; exact hI.alloc _ (hI.alloc _ h0)
  have vb : Below w.heap.size w V := by rw [← hV]; exact ((Below.refl _ w).alloc (Nat.le_refl _) _).alloc (by simp) _
  refine ⟨d + 1, [{ target := .collected d, args := #[] }], V, { target := .fn (.func gf) lb, args := #[.func (.yield (d + 1)) #[] #[]] }, V, gf, #[.func (.yield (d + 1)) #[] #[]] ++ lb, V, ?_, ?_, ?_, ?_, fun _ => h1, ?_⟩
  · have := run_enterLoop_outer (P := P) (w := w) fn a.tmps ps assign body
    rw [hd] at this
    rw [this, ← hV, hL]
  · simp only [resolve, hg]; simp [go_sem]
  · intro f' hf'
    simp [Target.leads] at hf'
    subst hf'; exact hF
  · simp [invoke, go_sem, eg]
  have two : ∀ {A A' : World} {row : Option Nat} {s : LoopState} {c : Option Code}, A.grownBy A' row → (∀ r, row = some r → V.heap.size ≤ r ∧ ∃ o : Obj, A.heap[r]? = some o ∧ o.isCells = false) →
      A.heap[d + 1]? = some (.loop (L s c)) ∧ A.heap[d]? = some (.deferred (some [])) → A'.heap[d + 1]? = some (.loop (L s c)) ∧ A'.heap[d]? = some (.deferred (some [])) := fun hgr hr h =>
    ⟨(hgr.block _ (Array.getElem?_eq_some_iff.1 h.1).1 (fun e => by have := (hr _ e.symm).1; omega)).trans h.1, (hgr.block _ (Array.getElem?_eq_some_iff.1 h.2).1 (fun e => by have := (hr _ e.symm).1; omega)).trans h.2⟩
  have up : ∀ {A : World} {row : Option Nat}, (∀ r, row = some r → V.heap.size ≤ r ∧ ∃ o : Obj, A.heap[r]? = some o ∧ o.isCells = false) → ∀ r, row = some r → d ≤ r ∧ ∃ o : Obj, A.heap[r]? = some o ∧ o.isCells = false := fun hr r e => ⟨by have := (hr r e).1; omega, (hr r e).2⟩
  refine (hseq (d + 1) (fun pre A => I pre A ∧ A.heap[d + 1]? = some (.loop (L .ready none)) ∧ A.heap[d]? = some (.deferred (some [])))
    (fun pre A => ∃ c, Ix c pre A ∧ A.heap[d + 1]? = some (.loop (L .done (some c))) ∧ A.heap[d]? = some (.deferred (some []))) V vb
    (fun s A A' row h hgr hr => ⟨hI s A A' row h.1 hgr (up hr), two hgr hr h.2⟩) (fun s A A' row ⟨c, h1, h2⟩ hgr hr => ⟨c, hX c s A A' row h1 hgr (up hr), two hgr hr h2⟩) ⟨vI, v1, v0⟩ ?_).mono ?_
  · rintro pre x A ⟨aI, a1, a0⟩ hlen
    have hy := run_yield (P := P) (args := encs x) a1 (by rw [hL]; exact hps x)
    rw [hL] at hy
    refine ⟨fn, _, assign, body, hy, roundIn_of_wpIn hfn (has _ x A _ ⟨_, run_beginRound a1 (by rw [hL]), ?_⟩)⟩
    obtain ⟨Z, hZ⟩ : ∃ Z, A.putObj (d + 1) (.loop { L .ready none with state := .busy }) = Z := ⟨_, rfl⟩
    have z1 : Z.heap[d + 1]? = some (.loop { L .ready none with state := .busy }) := by rw [← hZ]; exact putN_same a1
    have z0 : Z.heap[d]? = some (.deferred (some [])) := by rw [← hZ]; exact (World.putObj_heap_other (by omega)).trans a0
    have zI : I pre Z := by rw [← hZ]; exact hI.putObj _ aI (by omega) a1 rfl
    have zK : Kp A Z := by rw [← hZ]; exact hKb _ _ _ _ a1 rfl
    have zF : KeepsFrom V.heap.size A Z := by rw [← hZ]; exact putN_keeps _ (by omega)
    rw [hZ]
    have leave : ∀ (c : Option Code) (Y : World), KeepsFrom d Z Y → ∃ Y', (Instr.endRound (d + 1) c).run P Y = .ok (.bool c.isNone) Y' ∧ Y' = Y.putObj (d + 1) (.loop (L (if c.isNone then .ready else .done) c)) ∧ Y.heap[d + 1]? = some (.loop { L .ready none with state := .busy }) ∧
        (Y'.heap[d + 1]? = some (.loop (L (if c.isNone then .ready else .done) c)) ∧ Y'.heap[d]? = some (.deferred (some []))) ∧ KeepsFrom V.heap.size A Y' := fun c Y hY => by
      have y1 := hY.same _ _ (by omega) z1 rfl
      have y0 := hY.same _ _ (Nat.le_refl _) z0 rfl
      have r := run_endRound (P := P) c y1
      rw [hL] at r ⊢
      rw [hL] at y1
      refine ⟨_, r, rfl, y1, ⟨putN_same y1, (World.putObj_heap_other (by omega)).trans y0⟩, ?_⟩
      exact ⟨Nat.le_trans zF.size (by simpa using hY.size), fun k o hk hb hc => (World.putObj_heap_other (by omega)).trans (hY.same k o (by omega) (zF.same k o hk hb hc) hc)⟩
    refine wpIn_mono (hbo _ pre x Z zI hlen) ?_
    intro e a' Y hp
    have stop : ∀ c, KeepsFrom d Z Y → Ix c (pre ++ [x]) Y → ∃ v Y', (Instr.endRound (d + 1) (some c)).run P Y = .ok v Y' ∧ KeepsFrom V.heap.size A Y' ∧ ((Ending.returned v = .returned (.bool true) ∧ (I (pre ++ [x]) Y' ∧ Y'.heap[d + 1]? = some (.loop (L .ready none)) ∧ Y'.heap[d]? = some (.deferred (some []))) ∧ Kp A Y') ∨
        (Ending.returned v = .returned (.bool false) ∧ ∃ c, Ix c (pre ++ [x]) Y' ∧ Y'.heap[d + 1]? = some (.loop (L .done (some c))) ∧ Y'.heap[d]? = some (.deferred (some [])))) := fun c hk hx => by
      obtain ⟨Y', r, rfl, y1, yy, yk⟩ := leave (some c) Y hk
      exact ⟨_, _, r, yk, .inr ⟨rfl, c, (hX c).putObj _ hx (by omega) y1 rfl, yy⟩⟩
    cases e with
    | normal =>
      obtain ⟨hk, hkp, hi⟩ := hp
      obtain ⟨Y', r, rfl, y1, yy, yk⟩ := leave none Y hk
      exact ⟨_, _, r, yk, .inl ⟨rfl, ⟨hI.putObj _ hi (by omega) y1 rfl, yy⟩, hKt (hKt zK hkp) (hKb _ _ _ _ y1 rfl)⟩⟩
    | ret => exact stop _ hp.1 hp.2
    | exit id => exact stop _ hp.1 hp.2
    | goto t => exact stop _ hp.1 hp.2
    | panic ch => exact hp.elim
    | outgrown => exact hp.elim
  · rintro e Y ⟨⟨v, rfl⟩, (⟨xs, hS, hi, y1, y0⟩ | ⟨pre, hSp, c, hi, y1, y0⟩)⟩
    · have r := run_endLoop (P := P) y1 (by rw [hL]; simp)
      rw [hL] at r
      exact ⟨none, _, r, hend xs _ hS (hI.putObj _ hi (by omega) y1 rfl) ((World.putObj_heap_other (by omega)).trans y0)⟩
    · have r := run_endLoop (P := P) y1 (by rw [hL]; simp)
      rw [hL] at r
      exact ⟨some c, _, r, hout c pre _ hSp ((hX c).putObj _ hi (by omega) y1 rfl) ((World.putObj_heap_other (by omega)).trans y0)⟩
end Go.Proofs.YtpoilaappcjbeaaGreatDoor
end

section
namespace Go.Proofs.YtpoilaappcjbeaaGreatDoor
open Go.RowKit
namespace Bk
/-- The first k of the indices below n, the last one first. -/
def down (n k : Nat) : List Nat := (List.range k).map fun j => n - 1 - j
theorem down_length (n k : Nat) : (down n k).length = k := by simp [down]
theorem down_succ (n k : Nat) : down n (k + 1) = down n k ++ [n - 1 - k] := by simp [down, List.range_succ]
/-- What is handed over next. -/
def Nxt (n : Nat) (pre : List Nat) (x : Nat) : Prop := pre.length < n ∧ pre = down n pre.length ∧ x + pre.length + 1 = n
/-- A slice whose cells are f's. -/
def Src (w : World) (U : Nat → Prop) (a : Option Addr) (len : Nat) (f : Nat → Value) : Prop :=
  ∀ i, i < len → ∃ b off cs t fr, a = some ⟨b, off, none⟩ ∧ ¬ U b ∧ w.heap[b]? = some (.cells cs t fr) ∧ cs[off + i]? = some (f i)
theorem Src.kept {w w' : World} {U : Nat → Prop} {a : Option Addr} {len : Nat} {f : Nat → Value} (h : Src w U a len f) (c : Kc U w w') : Src w' U a len f := fun i hi => by
  obtain ⟨b, off, cs, t, fr, e, hu, hb, hc⟩ := h i hi
  exact ⟨b, off, cs, t, fr, e, hu, c b _ hb rfl hu, hc⟩
theorem Src.mono {w w' : World} {U : Nat → Prop} {a : Option Addr} {len : Nat} {f : Nat → Value} (h : Src w U a len f) (hb : Below w.heap.size w w') : Src w' U a len f := fun i hi => by
  obtain ⟨b, off, cs, t, fr, e, hu, hr, hc⟩ := h i hi
  exact ⟨b, off, cs, t, fr, e, hu, (hb.block b (Array.getElem?_eq_some_iff.1 hr).1).trans hr, hc⟩
end Bk
end Go.Proofs.YtpoilaappcjbeaaGreatDoor
end

section
namespace Go.Proofs.YtpoilaappcjbeaaGreatDoor
open Go.RowKit Go.Shelf
attribute [local go_sem] Oper.semAt_some
namespace Bk
set_option maxRecDepth 100000 in
set_option maxHeartbeats 2000000 in
theorem backR1_in (F : Fence) (n : Nat) (h7 : F.fn 129) (hro : F.round = none) (hn : 1 ≤ n) (y X : Nat) (a : Option Addr) (len cap : Nat) (U : Nat → Prop) (f : Nat → Value) (tx : TypeId) (hlen : len ≤ 1000000)
    (J Jx : List Nat → World → Prop) (B : Nat)
    (hY : ∀ pre x W, J pre W → Nxt len pre x → YieldAt F (n - 1) Tryz.prog y #[.int .i64 (x : Nat), f x] W fun e W' => KeepsFrom B W W' ∧
      ((e = .returned (.bool true) ∧ J (pre ++ [x]) W' ∧ Kc U W W') ∨ (e = .returned (.bool false) ∧ Jx (pre ++ [x]) W')))
    (W : World) (hX : ¬ U X) (hx : Boxed W X tx (.slice a len cap)) (hs : Src W U a len f) (h0 : J [] W) :
    CallsIn F n Tryz.prog 129 #[.func (.yield y) #[] #[], .pointer (some ⟨X, 0, none⟩)] W fun e W' => (∃ v, e = .returned v) ∧
      ((∃ ys, ys = down len len ∧ J ys W') ∨ (∃ pre, True ∧ Jx pre W')) := by
  refine callsIn_of_wp Tryz.func129 rfl h7 ?_ hro
  simp only [Tryz.ntmps129, List.size_toArray, List.length_cons, List.length_nil, Nat.reduceAdd, Nat.reduceSub, Array.replicate_succ, Array.replicate_zero, List.push_toArray, List.append_toArray, List.nil_append, List.cons_append]
  have hx0 := hx.cell
  have HX := Lib.hid hx
  have HS := Lib.hid hs
  have H0 := Lib.hid h0
  have HY := Lib.hid hY
  have HNU := Lib.hid hX
  clear hx hs h0 hY hX
  gi_wp2
  gi_loopw [3] (fun i wr => ∃ m : Nat, m ≤ len ∧ i = .int .i64 ((len : Int) - 1 - m) ∧ Hid (J (down len m) wr) ∧ Hid (Boxed wr X tx (.slice a len cap)) ∧ Hid (Src wr U a len f)) (fun i _ => (intOf i + 1).toNat)
  case atStart => exact ⟨0, by omega, by simp, H0, HX, HS⟩
  case round =>
    obtain ⟨m, hm, rfl, HJ, HB, HR⟩ := hrel
    have hcx := HB.out.cell
    by_cases hlt : m < len
    · obtain ⟨j, hj⟩ : ∃ j : Nat, j + m + 1 = len := ⟨len - 1 - m, by omega⟩
      have ej : (len : Int) - 1 - (m : Int) = (j : Int) := by omega
      have dge : decide (0 ≤ (j : Int)) = true := by simp
      obtain ⟨b, off, cs, t, fr, rfl, hnu, hrow, hcj⟩ := HR.out j (by omega)
      have hcell : wr.cell? ⟨b, off + j, none⟩ = some (f j) := by rw [cell_of_row _ _ _ _ _ fr hrow]; exact hcj
      obtain ⟨fn, tmps, assign, body, hy, hRd⟩ := HY.out (down len m) j wr HJ.out ⟨by rw [down_length]; omega, by rw [down_length], by rw [down_length]; omega⟩
      rw [show down len m ++ [j] = down len (m + 1) by rw [down_succ]; congr 2; omega] at hRd
      clear hrow hcj
      have hjl : j < len := by omega
      have HM := Lib.hid (show (len : Int) - 1 - ((m + 1 : Nat) : Int) = (j : Int) - 1 by omega)
      have hwr : (j : Int) ≤ 1000000 := by omega
      rw [ej]
      clear ej
      generalize f j = v at *
      gi_wp2
      refine hRd.mono ?_
      rintro e W3 ⟨_, (⟨rfl, hJ3, hk3⟩ | ⟨rfl, hJx3⟩)⟩
      · have HJ3 := Lib.hid hJ3
        have HB3 : Hid (Boxed W3 X tx (.slice (some ⟨b, off, none⟩) len cap)) := Lib.hid (hk3 X _ HB.out rfl HNU.out)
        have HR3 := Lib.hid (HR.out.kept hk3)
        clear hJ3 hk3 hRd hy hcell
        gi_wp2
        go_roundw
        case rel => exact ⟨m + 1, by omega, by rw [HM.out], HJ3, HB3, HR3⟩
        case measure => simp [intOf]
      · have HX3 := Lib.hid hJx3
        clear hJx3 hRd hy hcell
        gi_wp2
        refine bodyPost_ret (results_none rfl _ _ _) rfl ?_
        exact ⟨⟨_, rfl⟩, .inr ⟨_, trivial, HX3.out⟩⟩
    · obtain rfl : len = m := by omega
      rw [show (len : Int) - 1 - (len : Int) = -1 by omega]
      gi_wp2
      go_end0
      exact ⟨⟨_, rfl⟩, .inl ⟨_, rfl, HJ.out⟩⟩
theorem backR_iter (F : Fence) (n : Nat) (h7 : F.fn 129) (hro : F.round = none) (hn : 1 ≤ n) (X : Nat) (a : Option Addr) (len cap : Nat) (U : Nat → Prop) (f : Nat → Value) (tx : TypeId) (hlen : len ≤ 1000000)
    (w : World) (hX : ¬ U X) (hx : Boxed w X tx (.slice a len cap)) (hs : Src w U a len f) :
    IterN F n Tryz.prog 129 #[.pointer (some ⟨X, 0, none⟩)] (fun x : Nat => #[.int .i64 (x : Nat), f x]) (Kc U) (fun ys => ys = down len len) (fun _ => True) (Nxt len) w := fun y J Jx V hV _ _ h0 hY =>
  backR1_in F n h7 hro hn y X a len cap U f tx hlen J Jx V.heap.size hY V hX (by unfold Boxed at *; rw [hV.block X (Array.getElem?_eq_some_iff.1 hx).1]; exact hx) (hs.mono hV) h0
theorem backR_in (F : Fence) (n : Nat) (h5 : F.fn 124) (hro : F.round = none) (v : Value) (a : Option Addr) (len cap : Nat) (hv : v = .slice a len cap) (w : World) :
    CallsIn F n Tryz.prog 124 #[v] w fun e w' => e = .returned (.func (.func 129) #[] #[.pointer (some ⟨w.heap.size, 0, none⟩)]) ∧ w' = w.alloc (.cells #[v] 179) := by
  subst hv
  refine callsIn_of_wp Tryz.func124 rfl h5 ?_ hro
  simp only [Tryz.ntmps124, List.size_toArray, List.length_cons, List.length_nil, Nat.reduceAdd, Nat.reduceSub, Array.replicate_succ, Array.replicate_zero, List.push_toArray, List.append_toArray, List.nil_append, List.cons_append]
  gi_wp2
  go_ret
  exact ⟨rfl, rfl⟩
end Bk
end Go.Proofs.YtpoilaappcjbeaaGreatDoor
end

section
namespace Go.Proofs.YtpoilaappcjbeaaGreatDoor
open Go.RowKit

set_option maxHeartbeats 1000000 in
theorem refFree_any (a : Option Addr) (len cap : Nat) (l : List Int) (w : World) (h : Is .i64 w a len cap l) (hr : len ≤ 140737488355328) :
    Calls Tryz.prog 94 #[.slice a len cap] w fun e w' => e = .returned (.tuple #[.int .i64 (Cn.freeN l), .bool (Cn.freeB l)]) ∧ w = w' := by
  have HL := Lib.hid h.hlen
  have H := Lib.hid h
  clear h
  by_cases hbig : 512 < len
  · have d1 : decide (512 < (len : Int)) = true := by simp; omega
    have hf := Cn.form_big l (by rw [HL.out]; exact hbig)
    have HX := Lib.hid (show Cn.freeN l = 0 ∧ Cn.freeB l = false by simp [Cn.freeN, Cn.freeB, hf])
    clear hf
    go_enter Tryz.func94, Tryz.ntmps94
    go_wp2
    go_ret2
    exact ⟨by rw [HX.out.1, HX.out.2]; rfl, rfl⟩
  · have d1 : decide (512 < (len : Int)) = false := by simp; omega
    go_enter Tryz.func94, Tryz.ntmps94
    go_wp2
    go_loop [4, 5] (fun s i => ∃ k : Nat, k ≤ len ∧ i = .int .i64 k ∧ s = .int .i64 (Cn.sum (l.take k) : Nat) ∧ Hid (∀ j, j < k → 0 ≤ l.getD j 0 ∧ l.getD j 0 ≤ 16)) (fun _ i => len - (intOf i).toNat)
    case atStart => exact ⟨0, by omega, rfl, rfl, Lib.hid (fun j hj => absurd hj (by omega))⟩
    case round =>
      obtain ⟨k, hk, rfl, rfl, HG⟩ := hrel
      have hsum : Cn.sum (l.take k) ≤ 33554432 := by have := Cn.sum_le (l.take k); have h2 : (l.take k).length ≤ 512 := by simp; omega
                                                     omega
      by_cases hlt : k < len
      · obtain ⟨b, off, rfl, hb, hcell⟩ := H.out.at' k hlt
        have hkl : k < l.length := by rw [HL.out]; exact hlt
        have HS := Lib.hid (show Cn.sum (l.take (k + 1)) = Cn.sum (l.take k) + Cn.part (l.getD k 0) by rw [ints_snoc l k hkl, Cn.sum_snoc])
        have HB := Lib.hid (Cn.form_bad l k hkl)
        have HG2 := Lib.hid (show 0 ≤ l.getD k 0 ∧ l.getD k 0 ≤ 16 → ∀ j, j < k + 1 → 0 ≤ l.getD j 0 ∧ l.getD j 0 ≤ 16 from fun hx j hj => by
          by_cases hjk : j < k
          · exact HG.out j hjk
          · obtain rfl : j = k := by omega
            exact hx)
        clear hkl
        generalize hz : l.getD k 0 = z at *
        have HZ := Lib.hid hz
        clear hz
        generalize Cn.sum (l.take k) = s at *
        by_cases hneg : z < 0
        · have dz : decide (z < 0) = true := by simpa using hneg
          have HX := Lib.hid (show Cn.freeN l = 0 ∧ Cn.freeB l = false by simp [Cn.freeN, Cn.freeB, HB.out (.inl hneg)])
          clear hneg
          go_wp2
          go_ret2
          exact ⟨by rw [HX.out.1, HX.out.2]; rfl, rfl⟩
        · have dz : decide (z < 0) = false := by simpa using hneg
          by_cases hhi : 16 < z
          · have dh : decide (16 < z) = true := by simpa using hhi
            have HX := Lib.hid (show Cn.freeN l = 0 ∧ Cn.freeB l = false by simp [Cn.freeN, Cn.freeB, HB.out (.inr hhi)])
            clear hneg hhi
            go_wp2
            go_ret2
            exact ⟨by rw [HX.out.1, HX.out.2]; rfl, rfl⟩
          · have dh : decide (16 < z) = false := by simpa using hhi
            have HG3 := Lib.hid (HG2.out ⟨by omega, by omega⟩)
            by_cases hz0 : z = 0
            · subst hz0
              have e0 : Cn.part 0 = 0 := rfl
              clear hneg hhi
              go_wp2
              go_round
              case rel => exact ⟨k + 1, by omega, by go_num, int_eq (by rw [HS.out, e0]; rfl), HG3⟩
              case measure => simp [intOf]; omega
            · obtain ⟨n, rfl⟩ := Int.eq_ofNat_of_zero_le (show 0 ≤ z by omega)
              have hn : n ≤ 16 := by omega
              have dpos : decide (0 < n) = true := by simp; omega
              have dpos2 : 0 < n := by omega
              have ep : Cn.part (n : Int) = 65536 / 2 ^ n := by unfold Cn.part; rw [if_neg (by omega)]; rfl
              have EP := Lib.hid ep
              clear hneg hhi hz0 ep
              go_wp2
              go_loop [6, 7] (fun q i => ∃ j : Nat, j ≤ n ∧ i = .int .i64 j ∧ q = .int .i64 (65536 / 2 ^ j : Nat)) (fun _ i => n - (intOf i).toNat)
              case atStart => exact ⟨0, by omega, rfl, rfl⟩
              case round =>
                obtain ⟨j, hj, rfl, rfl⟩ := hrel
                have HN := Lib.hid (show 65536 / 2 ^ (j + 1) = 65536 / 2 ^ j / 2 by rw [Nat.pow_succ, Nat.div_div_eq_div_mul])
                have hq : 65536 / 2 ^ j ≤ 65536 := Nat.div_le_self _ _
                by_cases hjn : j < n
                · generalize 65536 / 2 ^ j = q at *
                  go_wp2
                  go_round
                  case rel => exact ⟨j + 1, by omega, by go_num, int_eq (by rw [HN.out]; omega)⟩
                  case measure => simp [intOf]; omega
                · obtain rfl : n = j := by omega
                  generalize hqq : 65536 / 2 ^ n = q at *
                  have HQ := Lib.hid hqq
                  clear hqq
                  go_wp2
                  go_round
                  case rel => exact ⟨k + 1, by omega, by go_num, int_eq (by rw [HS.out, EP.out]; omega), HG3⟩
                  case measure => simp [intOf]; omega
      · obtain rfl : len = k := by omega
        have hfull : l.take len = l := List.take_of_length_le (by rw [HL.out]; exact Nat.le_refl _)
        rw [hfull] at hsum
        have hf := Cn.form_good l (by rw [HL.out]; omega) (fun j hj => HG.out j (by rw [HL.out] at hj; exact hj))
        have HX := Lib.hid (show Cn.freeN l = 65536 - (Cn.sum l : Int) ∧ Cn.freeB l = decide (Cn.sum l ≤ 65536) by simp [Cn.freeN, Cn.freeB, hf])
        have HFU := Lib.hid hfull
        clear hf hfull HG
        rw [HFU.out]
        generalize Cn.sum l = s at *
        by_cases hs : s ≤ 65536
        · have ds : decide ((s : Int) ≤ 65536) = true := by simp; omega
          have HD := Lib.hid (show decide (s ≤ 65536) = true by simpa using hs)
          clear hs
          go_wp2
          go_ret2
          exact ⟨by rw [HX.out.1, HX.out.2, HD.out]; rfl, rfl⟩
        · have ds : decide ((s : Int) ≤ 65536) = false := by simp; omega
          have HD := Lib.hid (show decide (s ≤ 65536) = false by simpa using hs)
          clear hs
          go_wp2
          go_ret2
          exact ⟨by rw [HX.out.1, HX.out.2, HD.out]; rfl, rfl⟩
/-- A row of the call's own is written in place. -/
def PlusPost (w : World) (l : List Bool) (e : Ending) (w' : World) : Prop :=
  ∃ v, e = .returned v ∧ w'.ownsRow w.heap.size 3 1 v l.length (ivs (bi (Cn.plus l))) ∧ Below w.heap.size w w'
/-- In the midst: the last k bits were 1, and are 0 now (r: the bits, the last one first). -/
def Cn.mid (r : List Bool) (k : Nat) : List Bool := (List.replicate k false ++ r.drop k).reverse
theorem Cn.mid_length (r : List Bool) (k : Nat) (hk : k ≤ r.length) : (Cn.mid r k).length = r.length := by simp [Cn.mid]; omega
theorem Cn.mid_get (r : List Bool) (k : Nat) (hk : k < r.length) : (Cn.mid r k).getD (r.length - 1 - k) false = r.getD k false := by
  simp only [Cn.mid, List.getD]
  rw [List.getElem?_reverse (by simp; omega)]
  have e : (List.replicate k false ++ r.drop k).length - 1 - (r.length - 1 - k) = k := by simp; omega
  rw [e, List.getElem?_append_right (by simp)]
  simp
theorem Cn.mid_set (r : List Bool) (k : Nat) (hk : k < r.length) (b : Bool) : (Cn.mid r k).set (r.length - 1 - k) b = (List.replicate k false ++ b :: r.drop (k + 1)).reverse := by
  apply List.ext_getElem?
  intro i
  rw [List.getElem?_set]
  have hl : (Cn.mid r k).length = r.length := Cn.mid_length r k (by omega)
  have hl2 : (List.replicate k false ++ b :: r.drop (k + 1)).length = r.length := by simp; omega
  by_cases hi : i < r.length
  · by_cases he : r.length - 1 - k = i
    · subst he
      rw [if_pos rfl, if_pos (by rw [hl]; omega), List.getElem?_reverse (by rw [hl2]; omega), hl2]
      have e : r.length - 1 - (r.length - 1 - k) = k := by omega
      rw [e, List.getElem?_append_right (by simp)]
      simp
    · rw [if_neg he, Cn.mid, List.getElem?_reverse (by simp; omega), List.getElem?_reverse (by rw [hl2]; omega), hl2]
      have e2 : (List.replicate k false ++ r.drop k).length = r.length := by simp; omega
      rw [e2]
      by_cases hk2 : r.length - 1 - i < k
      · rw [List.getElem?_append_left (by simp; omega), List.getElem?_append_left (by simp; omega)]
      · rw [List.getElem?_append_right (by simp; omega), List.getElem?_append_right (by simp; omega)]
        simp only [List.length_replicate]
        obtain ⟨d, hd⟩ : ∃ d, r.length - 1 - i - k = d + 1 := ⟨r.length - 1 - i - k - 1, by omega⟩
        rw [hd, List.getElem?_cons_succ, List.getElem?_drop, List.getElem?_drop]
        congr 1; omega
  · have h1 : (List.replicate k false ++ b :: r.drop (k + 1)).reverse[i]? = none := List.getElem?_eq_none (by simp; omega)
    rw [h1, if_neg (by omega), List.getElem?_eq_none (by rw [hl]; omega)]
theorem Cn.mid_succ (r : List Bool) (k : Nat) (hk : k < r.length) : (Cn.mid r k).set (r.length - 1 - k) false = Cn.mid r (k + 1) := by
  rw [Cn.mid_set r k hk, Cn.mid, List.replicate_succ']; simp
theorem Cn.incR_ones (r : List Bool) : ∀ k, k ≤ r.length → (∀ j, j < k → r.getD j false = true) → Cn.incR r = List.replicate k false ++ Cn.incR (r.drop k)
  | 0, _, _ => by simp
  | k + 1, hk, h => by
    rw [Cn.incR_ones r k (by omega) (fun j hj => h j (by omega))]
    have hx := h k (by omega)
    have e : r.drop k = true :: r.drop (k + 1) := by
      rw [List.drop_eq_getElem_cons (by omega)]
      simp only [List.getD, List.getElem?_eq_getElem (show k < r.length by omega), Option.getD_some] at hx
      rw [hx]
    rw [e, Cn.incR, List.replicate_succ']; simp
theorem Cn.plus_found (l : List Bool) (k : Nat) (hk : k < l.length) (h : ∀ j, j < k → l.reverse.getD j false = true) (h0 : l.reverse.getD k false = false) :
    (Cn.mid l.reverse k).set (l.length - 1 - k) true = Cn.plus l := by
  have hk' : k < l.reverse.length := by simpa using hk
  have := Cn.mid_set l.reverse k hk' true
  rw [List.length_reverse] at this
  rw [this, Cn.plus, Cn.incR_ones l.reverse k (by simp; omega) h]
  have e : l.reverse.drop k = false :: l.reverse.drop (k + 1) := by
    rw [List.drop_eq_getElem_cons hk']
    simp only [List.getD, List.getElem?_eq_getElem hk', Option.getD_some] at h0
    rw [h0]
  rw [e, Cn.incR]
theorem Cn.plus_all (l : List Bool) (h : ∀ j, j < l.length → l.reverse.getD j false = true) : Cn.mid l.reverse l.length = Cn.plus l := by
  rw [Cn.plus, Cn.incR_ones l.reverse l.length (by simp) h, Cn.mid]
  have e : l.reverse.drop l.length = [] := List.drop_eq_nil_of_le (by simp)
  rw [e]; simp [Cn.incR]
theorem bi_set (l : List Bool) (j : Nat) (b : Bool) : (bi l).set j (b.toNat : Int) = bi (l.set j b) := by simp [bi, List.map_set]
set_option maxHeartbeats 1000000 in
theorem plus_any (a : Option Addr) (len cap : Nat) (l : List Bool) (w : World) (h : Is .i64 w a len cap (bi l)) (hr : len ≤ 1000000) :
    Calls Tryz.prog 110 #[.slice a len cap] w (PlusPost w l) := by
  have hlen : l.length = len := by have := h.hlen; rwa [bi_length] at this
  have HL := Lib.hid hlen
  have own0 := Lib.hid (World.ownsRow_made (base := w.heap.size) (e := 3) (size := 1) w #[] 0 (Nat.le_refl _) (by unfold maxLen; omega) rfl)
  have hsrc := (h.mono (below_alloc w (.cells #[] 3))).src
  clear hlen h
  go_enter Tryz.func110, Tryz.ntmps110
  go_wp2_with (at_builtin; refine wpl_append tyI rfl _ _ rfl own0.out hsrc rfl rfl (by omega) (by omega) (by simp) ?_)
  intro v1 w1 own1 hg1 _
  have hb1 : Below w.heap.size w w1 := (below_alloc w _).grown hg1 (by simp) (fun k hk => (own0.out.lt k hk).1)
  have O1 : Hid (w1.ownsRow w.heap.size 3 1 v1 len (ivs (bi l))) := Lib.hid (by simpa using own1)
  clear own1 hg1 hsrc own0
  rcases own_nil_or O1.out with ⟨rfl, rfl⟩ | ⟨g, cap1, rfl, hle, hbg, _⟩
  · have hl0 : l = [] := List.eq_nil_of_length_eq_zero HL.out
    subst hl0
    go_wp2
    go_loopw [4] (fun i wr => i = .int .i64 (-1) ∧ w1 = wr) (fun i _ => 0)
    case atStart => exact ⟨by go_num, rfl⟩
    case round =>
      obtain ⟨rfl, rfl⟩ := hrel
      go_wp2
      go_ret
      exact ⟨_, rfl, O1.out, hb1⟩
  · go_wp2
    go_loopw [4] (fun i wr => ∃ k : Nat, k ≤ len ∧ i = .int .i64 ((len : Int) - 1 - k) ∧ Below w.heap.size w wr ∧ Hid (∀ j, j < k → l.reverse.getD j false = true) ∧ Hid (wr.ownsRow w.heap.size 3 1 (.slice (some ⟨g, 0, none⟩) len cap1) len (ivs (bi (Cn.mid l.reverse k))))) (fun i _ => ((intOf i) + 1).toNat)
    case atStart => exact ⟨0, by omega, by go_num, hb1, Lib.hid (fun j hj => absurd hj (by omega)), by simpa [Cn.mid] using O1⟩
    case round =>
      obtain ⟨k, hk, rfl, hb, HJ, HO⟩ := hrel
      by_cases hlt : k < len
      · obtain ⟨i, hi⟩ : ∃ i : Nat, i = len - 1 - k := ⟨_, rfl⟩
        have hii : (len : Int) - 1 - k = (i : Int) := by omega
        have Hi := Lib.hid hi
        have hil : i < len := by omega
        have hml : (Cn.mid l.reverse k).length = len := by rw [Cn.mid_length _ _ (by simp; rw [HL.out]; omega)]; simp [HL.out]
        have hget : (Cn.mid l.reverse k).getD i false = l.reverse.getD k false := by
          have := Cn.mid_get l.reverse k (by simp; rw [HL.out]; exact hlt)
          rw [List.length_reverse, HL.out, ← hi] at this; exact this
        have hcell : wr.cell? ⟨g, i, none⟩ = some (.int .i64 ((l.reverse.getD k false).toNat : Int)) := by
          rw [HO.out.cellAt i (by omega), ivs_get _ _ (by rw [bi_length, hml]; exact hil), bi_getD, hget]
        have hfr : wr.frozen? ⟨g, i, none⟩ = false := by
          rcases HO.out.2 with ⟨e, _⟩ | ⟨g', c', cur, e, _, hg', _⟩
          · simp at e
          · simp only [Value.slice.injEq, Option.some.injEq, Addr.mk.injEq, and_true, true_and] at e
            obtain ⟨rfl, _⟩ := e
            exact frozen_of_row wr g i _ _ hg'
        rw [hii]
        by_cases hbit : l.reverse.getD k false = true
        · rw [hbit] at hcell
          have hset := own_set HO.out i ((false.toNat : Nat) : Int)
          rw [bi_set, hi] at hset
          have hms := Cn.mid_succ l.reverse k (by simp; rw [HL.out]; exact hlt)
          rw [List.length_reverse, HL.out] at hms
          rw [hms, ← hi] at hset
          have H2 : Hid ((wr.setCell ⟨g, i, none⟩ (.int .i64 0)).ownsRow w.heap.size 3 1 (.slice (some ⟨g, 0, none⟩) len cap1) len (ivs (bi (Cn.mid l.reverse (k + 1))))) := Lib.hid hset
          have HJ2 : Hid (∀ j, j < k + 1 → l.reverse.getD j false = true) := Lib.hid (fun j hj => by
            by_cases hjk : j < k
            · exact HJ.out j hjk
            · obtain rfl : j = k := by omega
              exact hbit)
          have hb2 : Below w.heap.size w (wr.setCell ⟨g, i, none⟩ (.int .i64 0)) := hb.setCell hbg _
          have hcell2 : wr.cell? ⟨g, i, none⟩ = some (.int .i64 1) := hcell
          clear hset hms hcell hget hml hi hii hbit HO HJ
          go_wp2
          go_roundw
          case rel => exact ⟨k + 1, by omega, int_eq (by have := Hi.out; omega), hb2, HJ2, H2⟩
          case measure => simp [intOf]
        · have hbf : l.reverse.getD k false = false := by simpa using hbit
          rw [hbf] at hcell
          have hset := own_set HO.out i ((true.toNat : Nat) : Int)
          rw [bi_set, hi] at hset
          have hms := Cn.plus_found l k (by rw [HL.out]; exact hlt) HJ.out hbf
          rw [HL.out] at hms
          rw [hms, ← hi] at hset
          have H2 : Hid ((wr.setCell ⟨g, i, none⟩ (.int .i64 1)).ownsRow w.heap.size 3 1 (.slice (some ⟨g, 0, none⟩) len cap1) len (ivs (bi (Cn.plus l)))) := Lib.hid hset
          have hb2 : Below w.heap.size w (wr.setCell ⟨g, i, none⟩ (.int .i64 1)) := hb.setCell hbg _
          have hcell2 : wr.cell? ⟨g, i, none⟩ = some (.int .i64 0) := hcell
          clear hset hms hcell hget hml hi hii hbit hbf HO HJ
          go_wp2
          go_ret
          exact ⟨_, rfl, by rw [HL.out]; exact H2.out, hb2⟩
      · obtain rfl : len = k := by omega
        have hms := Cn.plus_all l (fun j hj => HJ.out j (by rw [HL.out] at hj; exact hj))
        rw [HL.out] at hms
        rw [hms] at HO
        have e1 : (len : Int) - 1 - len = -1 := by omega
        rw [e1]
        clear hms e1
        go_wp2
        go_ret
        exact ⟨_, rfl, by rw [HL.out]; exact HO.out, hb⟩
end Go.Proofs.YtpoilaappcjbeaaGreatDoor
end

section
namespace Go.Proofs.YtpoilaappcjbeaaGreatDoor
open Go.RowKit
open Mg (Itm)

def LeastPost (w : World) (R : List Int) (L : Nat) (e : Ending) (w' : World) : Prop :=
  ∃ v, e = .returned v ∧ w'.ownsRow w.heap.size 3 1 v R.length (ivs (Mg.lens R L)) ∧ Below w.heap.size w w'
theorem tyRs : RowTy Tryz.prog 179 180 (.slice none 0 0) 1 24 := ⟨Tryz.underlying179, by kernel_rfl, rfl, by omega⟩
theorem kf_refl (B : Nat) (A : World) : KeepsFrom B A A := ⟨Nat.le_refl _, fun _ _ _ h _ => h⟩
theorem kf_alloc {B : Nat} {A W : World} (h : KeepsFrom B A W) (o : Obj) : KeepsFrom B A (W.alloc o) :=
  ⟨by have := h.size; simp; omega, fun k x hk hx hc => ((KeepsOthers.alloc W o).from B).same k x hk (h.same k x hk hx hc) hc⟩
theorem kf_set {B : Nat} {A W : World} (h : KeepsFrom B A W) (p : Addr) (v : Value) : KeepsFrom B A (W.setCell p v) :=
  ⟨by have := h.size; simpa using this, fun k x hk hx hc => ((KeepsOthers.setCell W p v).from B).same k x hk (h.same k x hk hx hc) hc⟩
theorem own_slot {w : World} {base g n cap : Nat} {e : TypeId} {xs : List Value} (h : w.ownsRow base e 1 (.slice (some ⟨g, 0, none⟩) n cap) n xs) (i : Nat) (hi : i < n) : (∃ z, w.cell? ⟨g, i, none⟩ = some z) ∧ w.frozen? ⟨g, i, none⟩ = false := by
  have hl := h.1
  refine ⟨⟨xs[i]'(by omega), by rw [h.cellAt i (by omega)]; simp⟩, ?_⟩
  rcases h.2 with ⟨h1, _⟩ | ⟨g2, cap2, cur, h1, _, hg, _⟩
  · simp at h1
  · simp only [Value.slice.injEq, Option.some.injEq, Addr.mk.injEq, and_true, true_and] at h1
    obtain ⟨rfl, rfl⟩ := h1
    exact frozen_of_row _ _ _ _ _ hg
theorem own_src {w : World} {base g n cap : Nat} {e : TypeId} {xs : List Value} (h : w.ownsRow base e 1 (.slice (some ⟨g, 0, none⟩) n cap) n xs) (f : Nat → Value) (hf : ∀ i, i < n → xs[i]? = some (f i)) (U : Nat → Prop) (hU : ¬ U g) : Bk.Src w U (some ⟨g, 0, none⟩) n f := fun i hi => by
  rcases h.2 with ⟨h1, _⟩ | ⟨g2, cap2, cur, h1, _, hg, _, _, _, hx⟩
  · simp at h1
  · simp only [Value.slice.injEq, Option.some.injEq, Addr.mk.injEq, and_true, true_and] at h1
    obtain ⟨rfl, rfl⟩ := h1
    refine ⟨g, 0, cur, _, _, rfl, hU, hg, ?_⟩
    have := hf i hi
    rw [← hx] at this
    rw [Nat.zero_add, ← this]
    simp [List.getElem?_take]
    omega
/-- k rounds are laid. -/
def rvs (vs : Nat → Value) (L k : Nat) : List Value := (List.range L).map fun i => if i < k then vs i else .slice none 0 0
theorem rvs_length (vs : Nat → Value) (L k : Nat) : (rvs vs L k).length = L := by simp [rvs]
theorem rvs_get (vs : Nat → Value) (L k i : Nat) (h : i < L) : (rvs vs L k)[i]? = some (if i < k then vs i else .slice none 0 0) := by simp [rvs, List.getElem?_range h]
theorem rvs_zero (vs : Nat → Value) (L : Nat) : rvs vs L 0 = List.replicate L (.slice none 0 0) := by
  rw [List.eq_replicate_iff]
  refine ⟨rvs_length _ _ _, fun b hb => ?_⟩
  simp only [rvs, List.mem_map] at hb
  obtain ⟨i, _, rfl⟩ := hb
  rw [if_neg (by omega)]
theorem rvs_set (vs : Nat → Value) (L k : Nat) (v : Value) (h : k < L) : (rvs vs L k).set k v = rvs (fun i => if i = k then v else vs i) L (k + 1) := by
  apply List.ext_getElem?
  intro i
  rw [List.getElem?_set, rvs_length]
  by_cases hi : i < L
  · rw [rvs_get _ _ _ _ hi, rvs_get _ _ _ _ hi]
    by_cases hk : k = i
    · subst hk
      rw [if_pos rfl, if_pos hi, if_pos (by omega), if_pos rfl]
    · rw [if_neg hk]
      by_cases h2 : i < k
      · rw [if_pos h2, if_pos (by omega), if_neg (by omega)]
      · rw [if_neg h2, if_neg (by omega)]
  · have e1 : ∀ vs k, (rvs vs L k)[i]? = none := fun vs k => by rw [List.getElem?_eq_none]; rw [rvs_length]; omega
    rw [e1, e1]
    split
    · omega
    · rfl
theorem made_rvs (L : Nat) (vs : Nat → Value) : (madeCells #[.slice none 0 0] (L * 1)).toList = rvs vs L 0 := by
  rw [made_all _ _ (.slice none 0 0) (by simp) (fun i hi => by
    match i, hi with
    | 0, _ => rfl), Nat.mul_one, rvs_zero]
structure RS (w wr : World) (R : List Int) (L rb : Nat) (vs : Nat → Value) (k : Nat) : Prop where
  bel : Below w.heap.size w wr
  rows : wr.ownsRow w.heap.size 180 1 (.slice (some ⟨rb, 0, none⟩) L L) L (rvs vs L k)
  each : ∀ i, i < k → wr.ownsRow w.heap.size 186 2 (vs i) (Mg.rnd R (i + 1)).length (itv (Mg.rnd R (i + 1)))
  ne : ∀ i, i < k → ∀ g, (vs i).ownBlock = some g → g ≠ rb
theorem RS.mono {w wr wx : World} {R : List Int} {L rb : Nat} {vs : Nat → Value} {k : Nat} (h : RS w wr R L rb vs k) (hb : Below wr.heap.size wr wx) : RS w wx R L rb vs k :=
  ⟨below_then h.bel hb, own_below h.rows hb, fun i hi => own_below (h.each i hi) hb, h.ne⟩
theorem RS.put {w wr wx : World} {R : List Int} {L rb : Nat} {vs : Nat → Value} {k : Nat} (h : RS w wr R L rb vs k) (hk : k < L) {v : Value} (hb : Below wr.heap.size wr wx)
    (hv : wx.ownsRow wr.heap.size 186 2 v (Mg.rnd R (k + 1)).length (itv (Mg.rnd R (k + 1)))) :
    RS w (wx.setCell ⟨rb, k, none⟩ v) R L rb (fun i => if i = k then v else vs i) (k + 1) := by
  have h2 := h.mono hb
  have hrb := h.rows.lt rb rfl
  have c : Ch wx (wx.setCell ⟨rb, k, none⟩ v) (fun j => j = rb) := (Ch.refl wx (fun j => j = rb)).set (.inl rfl) _
  refine ⟨h2.bel.setCell (p := ⟨rb, k, none⟩) hrb.1 _, ?_, fun i hi => ?_, fun i hi g hg => ?_⟩
  · rw [← rvs_set vs L k v hk]; exact (h2.rows.stored k v).1
  · by_cases e : i = k
    · subst e
      rw [if_pos rfl]
      exact c.own (own_base hv (fun g hg => Nat.le_trans h.bel.size (hv.lt g hg).1)) (fun g hg e => by have := (hv.lt g hg).1; omega)
    · rw [if_neg e]
      exact c.own (h2.each i (by omega)) (h2.ne i (by omega))
  · by_cases e : i = k
    · subst e
      rw [if_pos rfl] at hg
      have := (hv.lt g hg).1; omega
    · skip
      rw [if_neg e] at hg
      exact h.ne i (by omega) g hg
/-- While the rounds are taken, the last one first. -/
structure LS (w W5 W : World) (n q qb tq t : Nat) (o : List Int) : Prop where
  own : W.ownsRow w.heap.size 3 1 (.slice (some ⟨q, 0, none⟩) n n) n (ivs o)
  bel : Below w.heap.size w W
  bx : Boxed W qb 53 (.slice (some ⟨q, 0, none⟩) n n)
  tk : Boxed W tq 3 (.int .i64 (t : Nat))
  kc : Bk.Kc (fun k => k = q ∨ k = tq) W5 W
  sz : W5.heap.size ≤ W.heap.size
section
variable {w W5 W : World} {n q qb tq t : Nat} {o : List Int}
theorem LS.abide (h : LS w W5 W n q qb tq t o) (h5 : w.heap.size ≤ W5.heap.size) {C : World} {row : Option Nat} (hg : W.grownBy C row) (hr : ∀ r, row = some r → W5.heap.size ≤ r ∧ ∃ o : Obj, W.heap[r]? = some o ∧ o.isCells = false) : LS w W5 C n q qb tq t o := by
  have c := Bk.kc_cells hg (fun r e => (hr r e).2)
  exact ⟨Bk.own_kc h.own c (fun _ _ h => h), h.bel.grown hg h.bel.size (fun r e => by have := (hr r e).1; omega), c qb _ h.bx rfl (fun h => h), c tq _ h.tk rfl (fun h => h), h.kc.trans (fun k o hk ho _ => c k o hk ho (fun h => h)), Nat.le_trans h.sz hg.size⟩
theorem LS.alloc (h : LS w W5 W n q qb tq t o) (x : Obj) : LS w W5 (W.alloc x) n q qb tq t o :=
  ⟨own_below h.own (below_alloc W x), h.bel.alloc h.bel.size x, h.bx.alloc x, h.tk.alloc x, h.kc.trans (Bk.Kc.alloc _ _ _), by have := h.sz; simp; omega⟩
theorem LS.set (h : LS w W5 W n q qb tq t o) (h1 : qb ≠ q) (h2 : tq ≠ q) (k : Nat) (z : Int) : LS w W5 (W.setCell ⟨q, k, none⟩ (.int .i64 z)) n q qb tq t (o.set k z) := by
  have hq := (h.own.lt q rfl).1
  exact ⟨own_set h.own k z, h.bel.setCell (p := ⟨q, k, none⟩) hq _, Bk.boxed_setO h.bx h1 k _, Bk.boxed_setO h.tk h2 k _, h.kc.trans (Bk.Kc.set (U := fun k => k = q ∨ k = tq) W ⟨q, k, none⟩ (.inl rfl) _), by simpa using h.sz⟩
theorem LS.take (h : LS w W5 W n q qb tq t o) (h1 : qb ≠ tq) (h2 : q ≠ tq) (h3 : w.heap.size ≤ tq) (z : Nat) : LS w W5 (W.setCell ⟨tq, 0, none⟩ (.int .i64 (z : Nat))) n q qb tq z o := by
  have c : Ch W (W.setCell ⟨tq, 0, none⟩ (.int .i64 (z : Nat))) (fun j => j = tq) := (Ch.refl W (fun j => j = tq)).set (.inl rfl) _
  refine ⟨c.own h.own (fun g hg e => by simp [Value.ownBlock] at hg; omega), h.bel.setCell (p := ⟨tq, 0, none⟩) h3 _, Bk.boxed_setO h.bx h1 0 _, ?_, h.kc.trans (Bk.Kc.set (U := fun k => k = q ∨ k = tq) W ⟨tq, 0, none⟩ (.inr rfl) _), by simpa using h.sz⟩
  exact (heap_setCell_same W tq 0 _ _ (.int .i64 (z : Nat)) h.tk).trans (by simp)
end
end Go.Proofs.YtpoilaappcjbeaaGreatDoor
end
