/- A range over an iterator that tells what comes next: its contract, and the caller's law. -/
import Derived.RangeFuncNested
import Derived.RangeFuncFrom
import Derived.RangeFuncLeaves
set_option linter.unusedSimpArgs false
set_option linter.unusedVariables false
section
namespace Go.Proofs.YtjjbgdmalefdlaaGreatDoor
open Go.RowKit

/-- An iterator that may turn records of its own between two rounds, and tells each round what it may be handed next (Nx). -/
def IterN {α : Type} (F : Fence) (n : Nat) (P : Program) (g : Nat) (lb : Array Value) (encs : α → Array Value) (Kp : World → World → Prop) (S Sp : List α → Prop) (Nx : List α → α → Prop) (w : World) : Prop :=
  ∀ (y : Nat) (J Jx : List α → World → Prop) (V : World), Below w.heap.size w V → OwnFrom V.heap.size J → OwnFrom V.heap.size Jx → J [] V →
    (∀ pre x A, J pre A → Nx pre x → YieldAt F (n - 1) P y (encs x) A fun e A' => KeepsFrom V.heap.size A A' ∧
      ((e = .returned (.bool true) ∧ J (pre ++ [x]) A' ∧ Kp A A') ∨ (e = .returned (.bool false) ∧ Jx (pre ++ [x]) A'))) →
    CallsIn F n P g (#[.func (.yield y) #[] #[]] ++ lb) V fun e A' => (∃ v, e = .returned v) ∧ ((∃ xs, S xs ∧ J xs A') ∨ (∃ pre, Sp pre ∧ Jx pre A'))
theorem putN_same {A : World} {k : Nat} {o o' : Obj} (h : A.heap[k]? = some o) : (A.putObj k o').heap[k]? = some o' := World.putObj_heap_same (Array.getElem?_eq_some_iff.1 h).1
theorem putN_keeps {A : World} {B k : Nat} (o' : Obj) (hk : k < B) : KeepsFrom B A (A.putObj k o') :=
  ⟨by simp, fun j o hb hj _ => (World.putObj_heap_other (by omega)).trans hj⟩
theorem range_iterN {F : Fence} {n : Nat} {P : Program} {α : Type} {g : Operand} {ps : Array Tmp} {assign body : Code} {Q : Exit → Act → World → Prop} {a : Act} {w : World}
    (hro : F.round = none) (h1 : 1 ≤ n) {gf : Nat} {lb : Array Value} (hg : a.eval g = .func (.func gf) #[] lb) (hF : F.fn gf) (eg : ∀ args w, (callFunc gf args).run P w = .ok (.enter gf args) w)
    {encs : α → Array Value} {Kp : World → World → Prop} {S Sp : List α → Prop} {Nx : List α → α → Prop} (hseq : IterN F (n - 1) P gf lb encs Kp S Sp Nx w)
    (hKt : ∀ {A B C : World}, Kp A B → Kp B C → Kp A C) (hKb : ∀ (A : World) (k : Nat) (o o' : Obj), A.heap[k]? = some o → o.isCells = false → Kp A (A.putObj k o')) (hps : ∀ x, (encs x).size = ps.size)
    (I : List α → World → Prop) (Ix : Code → List α → World → Prop) (hI : OwnFrom w.heap.size I) (hX : ∀ c, OwnFrom w.heap.size (Ix c)) (h0 : I [] w) (act : α → Act)
    (has : ∀ (k : Nat) (x : α) (A : World) (K : Act → World → Prop), K (act x) A → assign.wpIn (F.inRound k) (n - 1 - 1) P (Exit.then K (fun _ _ _ => False)) { tmps := (ps.zip (encs x)).foldl (fun t (p, v) => t.setIfInBounds p v) a.tmps, defers := [] } A)
    (hbo : ∀ (k : Nat) (pre : List α) (x : α) (A : World), I pre A → Nx pre x → body.wpIn (F.inRound k) (n - 1 - 1) P (ownPostG w.heap.size Kp I Ix (pre ++ [x]) A) (act x) A)
    (hend : ∀ (xs : List α) (A : World), S xs → I xs A → A.heap[w.heap.size]? = some (.deferred (some [])) → Q .normal { a with defers := { target := .collected w.heap.size, args := #[] } :: a.defers } A)
    (hout : ∀ (c : Code) (pre : List α) (A : World), Sp pre → Ix c pre A → A.heap[w.heap.size]? = some (.deferred (some [])) → c.wpIn F n P Q { a with defers := { target := .collected w.heap.size, args := #[] } :: a.defers } A) :
    (Code.rangeFunc g ps assign body).wpIn F n P Q a w := by
  refine wpIn_rangeFunc fun fn hfn => ?_
  rw [hro]
  obtain ⟨d, hd⟩ : ∃ d, w.heap.size = d := ⟨_, rfl⟩
  rw [hd] at hI hX hbo hend hout
  obtain ⟨L, hL⟩ : ∃ L : LoopState → Option Code → Loop, L = fun s c => { state := s, pending := c, fn, tmps := a.tmps, params := ps, assign, body, defers := d } := ⟨_, rfl⟩
  have hV : ∃ V, (w.alloc (.deferred (some []))).alloc (.loop (L .ready none)) = V := ⟨_, rfl⟩
  obtain ⟨V, hV⟩ := hV
  have vz : V.heap.size = d + 2 := by rw [← hV, ← hd]; simp
  have v1 : V.heap[d + 1]? = some (.loop (L .ready none)) := by
    have := World.alloc_heap_new (w.alloc (.deferred (some []))) (.loop (L .ready none))
    rw [World.size_alloc, hd, hV] at this
    exact this
  have v0 : V.heap[d]? = some (.deferred (some [])) := by
    have := (Below.heap_alloc (w.alloc (.deferred (some []))) (.loop (L .ready none)) d (by simp; omega))
    rw [hV] at this
    rw [this, ← hd]; exact World.alloc_heap_new w _
  have vI : I [] V := by rw [← hV]; exact hI.alloc _ (hI.alloc _ h0)
  have vb : Below w.heap.size w V := by rw [← hV]; exact ((Below.refl _ w).alloc (Nat.le_refl _) _).alloc (by simp) _
  refine ⟨d + 1, [{ target := .collected d, args := #[] }], V, { target := .fn (.func gf) lb, args := #[.func (.yield (d + 1)) #[] #[]] }, V, gf, #[.func (.yield (d + 1)) #[] #[]] ++ lb, V, ?_, ?_, ?_, ?_, fun _ => h1, ?_⟩
  · have := run_enterLoop_outer (P := P) (w := w) fn a.tmps ps assign body
    rw [hd] at this
    rw [this, ← hV, hL]
  · simp only [resolve, hg]; simp [go_sem]
  · intro f' hf'
    simp [Target.leads] at hf'
    subst hf'; exact hF
  · simp [invoke, go_sem, eg]
  have two : ∀ {A A' : World} {row : Option Nat} {s : LoopState} {c : Option Code}, A.grownBy A' row → (∀ r, row = some r → V.heap.size ≤ r ∧ ∃ o : Obj, A.heap[r]? = some o ∧ o.isCells = false) →
      A.heap[d + 1]? = some (.loop (L s c)) ∧ A.heap[d]? = some (.deferred (some [])) → A'.heap[d + 1]? = some (.loop (L s c)) ∧ A'.heap[d]? = some (.deferred (some [])) := fun hgr hr h =>
    ⟨(hgr.block _ (Array.getElem?_eq_some_iff.1 h.1).1 (fun e => by have := (hr _ e.symm).1; omega)).trans h.1, (hgr.block _ (Array.getElem?_eq_some_iff.1 h.2).1 (fun e => by have := (hr _ e.symm).1; omega)).trans h.2⟩
  have up : ∀ {A : World} {row : Option Nat}, (∀ r, row = some r → V.heap.size ≤ r ∧ ∃ o : Obj, A.heap[r]? = some o ∧ o.isCells = false) → ∀ r, row = some r → d ≤ r ∧ ∃ o : Obj, A.heap[r]? = some o ∧ o.isCells = false := fun hr r e => ⟨by have := (hr r e).1; omega, (hr r e).2⟩
  refine (hseq (d + 1) (fun pre A => I pre A ∧ A.heap[d + 1]? = some (.loop (L .ready none)) ∧ A.heap[d]? = some (.deferred (some [])))
    (fun pre A => ∃ c, Ix c pre A ∧ A.heap[d + 1]? = some (.loop (L .done (some c))) ∧ A.heap[d]? = some (.deferred (some []))) V vb
    (fun s A A' row h hgr hr => ⟨hI s A A' row h.1 hgr (up hr), two hgr hr h.2⟩) (fun s A A' row ⟨c, h1, h2⟩ hgr hr => ⟨c, hX c s A A' row h1 hgr (up hr), two hgr hr h2⟩) ⟨vI, v1, v0⟩ ?_).mono ?_
  · rintro pre x A ⟨aI, a1, a0⟩ hlen
    have hy := run_yield (P := P) (args := encs x) a1 (by rw [hL]; exact hps x)
    rw [hL] at hy
    refine ⟨fn, _, assign, body, hy, roundIn_of_wpIn hfn (has _ x A _ ⟨_, run_beginRound a1 (by rw [hL]), ?_⟩)⟩
    obtain ⟨Z, hZ⟩ : ∃ Z, A.putObj (d + 1) (.loop { L .ready none with state := .busy }) = Z := ⟨_, rfl⟩
    have z1 : Z.heap[d + 1]? = some (.loop { L .ready none with state := .busy }) := by rw [← hZ]; exact putN_same a1
    have z0 : Z.heap[d]? = some (.deferred (some [])) := by rw [← hZ]; exact (World.putObj_heap_other (by omega)).trans a0
    have zI : I pre Z := by rw [← hZ]; exact hI.putObj _ aI (by omega) a1 rfl
    have zK : Kp A Z := by rw [← hZ]; exact hKb _ _ _ _ a1 rfl
    have zF : KeepsFrom V.heap.size A Z := by rw [← hZ]; exact putN_keeps _ (by omega)
    rw [hZ]
    have leave : ∀ (c : Option Code) (Y : World), KeepsFrom d Z Y → ∃ Y', (Instr.endRound (d + 1) c).run P Y = .ok (.bool c.isNone) Y' ∧ Y' = Y.putObj (d + 1) (.loop (L (if c.isNone then .ready else .done) c)) ∧ Y.heap[d + 1]? = some (.loop { L .ready none with state := .busy }) ∧
        (Y'.heap[d + 1]? = some (.loop (L (if c.isNone then .ready else .done) c)) ∧ Y'.heap[d]? = some (.deferred (some []))) ∧ KeepsFrom V.heap.size A Y' := fun c Y hY => by
      have y1 := hY.same _ _ (by omega) z1 rfl
      have y0 := hY.same _ _ (Nat.le_refl _) z0 rfl
      have r := run_endRound (P := P) c y1
      rw [hL] at r ⊢
      rw [hL] at y1
      refine ⟨_, r, rfl, y1, ⟨putN_same y1, (World.putObj_heap_other (by omega)).trans y0⟩, ?_⟩
      exact ⟨Nat.le_trans zF.size (by simpa using hY.size), fun k o hk hb hc => (World.putObj_heap_other (by omega)).trans (hY.same k o (by omega) (zF.same k o hk hb hc) hc)⟩
    refine wpIn_mono (hbo _ pre x Z zI hlen) ?_
    intro e a' Y hp
    have stop : ∀ c, KeepsFrom d Z Y → Ix c (pre ++ [x]) Y → ∃ v Y', (Instr.endRound (d + 1) (some c)).run P Y = .ok v Y' ∧ KeepsFrom V.heap.size A Y' ∧ ((Ending.returned v = .returned (.bool true) ∧ (I (pre ++ [x]) Y' ∧ Y'.heap[d + 1]? = some (.loop (L .ready none)) ∧ Y'.heap[d]? = some (.deferred (some []))) ∧ Kp A Y') ∨
        (Ending.returned v = .returned (.bool false) ∧ ∃ c, Ix c (pre ++ [x]) Y' ∧ Y'.heap[d + 1]? = some (.loop (L .done (some c))) ∧ Y'.heap[d]? = some (.deferred (some [])))) := fun c hk hx => by
      obtain ⟨Y', r, rfl, y1, yy, yk⟩ := leave (some c) Y hk
      exact ⟨_, _, r, yk, .inr ⟨rfl, c, (hX c).putObj _ hx (by omega) y1 rfl, yy⟩⟩
    cases e with
    | normal =>
      obtain ⟨hk, hkp, hi⟩ := hp
      obtain ⟨Y', r, rfl, y1, yy, yk⟩ := leave none Y hk
      exact ⟨_, _, r, yk, .inl ⟨rfl, ⟨hI.putObj _ hi (by omega) y1 rfl, yy⟩, hKt (hKt zK hkp) (hKb _ _ _ _ y1 rfl)⟩⟩
    | ret => exact stop _ hp.1 hp.2
    | exit id => exact stop _ hp.1 hp.2
    | goto t => exact stop _ hp.1 hp.2
    | panic ch => exact hp.elim
    | outgrown => exact hp.elim
  · rintro e Y ⟨⟨v, rfl⟩, (⟨xs, hS, hi, y1, y0⟩ | ⟨pre, hSp, c, hi, y1, y0⟩)⟩
    · have r := run_endLoop (P := P) y1 (by rw [hL]; simp)
      rw [hL] at r
      exact ⟨none, _, r, hend xs _ hS (hI.putObj _ hi (by omega) y1 rfl) ((World.putObj_heap_other (by omega)).trans y0)⟩
    · have r := run_endLoop (P := P) y1 (by rw [hL]; simp)
      rw [hL] at r
      exact ⟨some c, _, r, hout c pre _ hSp ((hX c).putObj _ hi (by omega) y1 rfl) ((World.putObj_heap_other (by omega)).trans y0)⟩
end Go.Proofs.YtjjbgdmalefdlaaGreatDoor
end
