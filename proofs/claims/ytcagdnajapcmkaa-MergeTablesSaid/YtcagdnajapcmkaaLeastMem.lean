/- What merge.least lays in memory. -/
import Derived.Test.YtcagdnajapcmkaaLensMath
import Derived.Test.YtcagdnajapcmkaaNextRound
import Derived.Test.YtcagdnajapcmkaaBackRounds
import Derived.Test.YtcagdnajapcmkaaMade
import Derived.Test.YtcagdnajapcmkaaMarks
import Derived.Test.YtcagdnajapcmkaaRef04a
namespace Go.Proofs.Ytcagdnajapcmkaa
open Go.RowKit
open Mg (Itm)

def LeastPost (w : World) (R : List Int) (L : Nat) (e : Ending) (w' : World) : Prop :=
  ∃ v, e = .returned v ∧ w'.ownsRow w.heap.size 3 1 v R.length (ivs (Mg.lens R L)) ∧ Below w.heap.size w w'
theorem tyRs : RowTy Try.prog 87 88 (.slice none 0 0) 1 24 := ⟨Try.underlying87, by kernel_rfl, rfl, by omega⟩
theorem kf_refl (B : Nat) (A : World) : KeepsFrom B A A := ⟨Nat.le_refl _, fun _ _ _ h _ => h⟩
theorem kf_alloc {B : Nat} {A W : World} (h : KeepsFrom B A W) (o : Obj) : KeepsFrom B A (W.alloc o) :=
  ⟨by have := h.size; simp; omega, fun k x hk hx hc => ((KeepsOthers.alloc W o).from B).same k x hk (h.same k x hk hx hc) hc⟩
theorem kf_set {B : Nat} {A W : World} (h : KeepsFrom B A W) (p : Addr) (v : Value) : KeepsFrom B A (W.setCell p v) :=
  ⟨by have := h.size; simpa using this, fun k x hk hx hc => ((KeepsOthers.setCell W p v).from B).same k x hk (h.same k x hk hx hc) hc⟩
theorem own_slot {w : World} {base g n cap : Nat} {e : TypeId} {xs : List Value} (h : w.ownsRow base e 1 (.slice (some ⟨g, 0, none⟩) n cap) n xs) (i : Nat) (hi : i < n) : (∃ z, w.cell? ⟨g, i, none⟩ = some z) ∧ w.frozen? ⟨g, i, none⟩ = false := by
  have hl := h.1
  refine ⟨⟨xs[i]'(by omega), by rw [h.cellAt i (by omega)]; simp⟩, ?_⟩
  rcases h.2 with ⟨h1, _⟩ | ⟨g2, cap2, cur, h1, _, hg, _⟩
  · simp at h1
  · simp only [Value.slice.injEq, Option.some.injEq, Addr.mk.injEq, and_true, true_and] at h1
    obtain ⟨rfl, rfl⟩ := h1
    exact frozen_of_row _ _ _ _ _ hg
theorem own_src {w : World} {base g n cap : Nat} {e : TypeId} {xs : List Value} (h : w.ownsRow base e 1 (.slice (some ⟨g, 0, none⟩) n cap) n xs) (f : Nat → Value) (hf : ∀ i, i < n → xs[i]? = some (f i)) (U : Nat → Prop) (hU : ¬ U g) : Bk.Src w U (some ⟨g, 0, none⟩) n f := fun i hi => by
  rcases h.2 with ⟨h1, _⟩ | ⟨g2, cap2, cur, h1, _, hg, _, _, _, hx⟩
  · simp at h1
  · simp only [Value.slice.injEq, Option.some.injEq, Addr.mk.injEq, and_true, true_and] at h1
    obtain ⟨rfl, rfl⟩ := h1
    refine ⟨g, 0, cur, _, _, rfl, hU, hg, ?_⟩
    have := hf i hi
    rw [← hx] at this
    rw [Nat.zero_add, ← this]
    simp [List.getElem?_take]
    omega
/-- k rounds are laid. -/
def rvs (vs : Nat → Value) (L k : Nat) : List Value := (List.range L).map fun i => if i < k then vs i else .slice none 0 0
theorem rvs_length (vs : Nat → Value) (L k : Nat) : (rvs vs L k).length = L := by simp [rvs]
theorem rvs_get (vs : Nat → Value) (L k i : Nat) (h : i < L) : (rvs vs L k)[i]? = some (if i < k then vs i else .slice none 0 0) := by simp [rvs, List.getElem?_range h]
theorem rvs_zero (vs : Nat → Value) (L : Nat) : rvs vs L 0 = List.replicate L (.slice none 0 0) := by
  rw [List.eq_replicate_iff]
  refine ⟨rvs_length _ _ _, fun b hb => ?_⟩
  simp only [rvs, List.mem_map] at hb
  obtain ⟨i, _, rfl⟩ := hb
  rw [if_neg (by omega)]
theorem rvs_set (vs : Nat → Value) (L k : Nat) (v : Value) (h : k < L) : (rvs vs L k).set k v = rvs (fun i => if i = k then v else vs i) L (k + 1) := by
  apply List.ext_getElem?
  intro i
  rw [List.getElem?_set, rvs_length]
  by_cases hi : i < L
  · rw [rvs_get _ _ _ _ hi, rvs_get _ _ _ _ hi]
    by_cases hk : k = i
    · subst hk
      rw [if_pos rfl, if_pos hi, if_pos (by omega), if_pos rfl]
    · rw [if_neg hk]
      by_cases h2 : i < k
      · rw [if_pos h2, if_pos (by omega), if_neg (by omega)]
      · rw [if_neg h2, if_neg (by omega)]
  · have e1 : ∀ vs k, (rvs vs L k)[i]? = none := fun vs k => by rw [List.getElem?_eq_none]; rw [rvs_length]; omega
    rw [e1, e1]
    split
    · omega
    · rfl
theorem made_rvs (L : Nat) (vs : Nat → Value) : (madeCells #[.slice none 0 0] (L * 1)).toList = rvs vs L 0 := by
  rw [made_all _ _ (.slice none 0 0) (by simp) (fun i hi => by
    match i, hi with
    | 0, _ => rfl), Nat.mul_one, rvs_zero]
structure RS (w wr : World) (R : List Int) (L rb : Nat) (vs : Nat → Value) (k : Nat) : Prop where
  bel : Below w.heap.size w wr
  rows : wr.ownsRow w.heap.size 88 1 (.slice (some ⟨rb, 0, none⟩) L L) L (rvs vs L k)
  each : ∀ i, i < k → wr.ownsRow w.heap.size 94 2 (vs i) (Mg.rnd R (i + 1)).length (itv (Mg.rnd R (i + 1)))
  ne : ∀ i, i < k → ∀ g, (vs i).ownBlock = some g → g ≠ rb
theorem RS.mono {w wr wx : World} {R : List Int} {L rb : Nat} {vs : Nat → Value} {k : Nat} (h : RS w wr R L rb vs k) (hb : Below wr.heap.size wr wx) : RS w wx R L rb vs k :=
  ⟨below_then h.bel hb, own_below h.rows hb, fun i hi => own_below (h.each i hi) hb, h.ne⟩
theorem RS.put {w wr wx : World} {R : List Int} {L rb : Nat} {vs : Nat → Value} {k : Nat} (h : RS w wr R L rb vs k) (hk : k < L) {v : Value} (hb : Below wr.heap.size wr wx)
    (hv : wx.ownsRow wr.heap.size 94 2 v (Mg.rnd R (k + 1)).length (itv (Mg.rnd R (k + 1)))) :
    RS w (wx.setCell ⟨rb, k, none⟩ v) R L rb (fun i => if i = k then v else vs i) (k + 1) := by
  have h2 := h.mono hb
  have hrb := h.rows.lt rb rfl
  have c : Ch wx (wx.setCell ⟨rb, k, none⟩ v) (fun j => j = rb) := (Ch.refl wx (fun j => j = rb)).set (.inl rfl) _
  refine ⟨h2.bel.setCell (p := ⟨rb, k, none⟩) hrb.1 _, ?_, fun i hi => ?_, fun i hi g hg => ?_⟩
  · rw [← rvs_set vs L k v hk]; exact (h2.rows.stored k v).1
  · by_cases e : i = k
    · subst e
      rw [if_pos rfl]
      exact c.own (own_base hv (fun g hg => Nat.le_trans h.bel.size (hv.lt g hg).1)) (fun g hg e => by have := (hv.lt g hg).1; omega)
    · rw [if_neg e]
      exact c.own (h2.each i (by omega)) (h2.ne i (by omega))
  · by_cases e : i = k
    · subst e
      rw [if_pos rfl] at hg
      have := (hv.lt g hg).1; omega
    · skip
      rw [if_neg e] at hg
      exact h.ne i (by omega) g hg
/-- While the rounds are taken, the last one first. -/
structure LS (w W5 W : World) (n q qb tq t : Nat) (o : List Int) : Prop where
  own : W.ownsRow w.heap.size 3 1 (.slice (some ⟨q, 0, none⟩) n n) n (ivs o)
  bel : Below w.heap.size w W
  bx : Boxed W qb 22 (.slice (some ⟨q, 0, none⟩) n n)
  tk : Boxed W tq 3 (.int .i64 (t : Nat))
  kc : Bk.Kc (fun k => k = q ∨ k = tq) W5 W
  sz : W5.heap.size ≤ W.heap.size
section
variable {w W5 W : World} {n q qb tq t : Nat} {o : List Int}
theorem LS.abide (h : LS w W5 W n q qb tq t o) (h5 : w.heap.size ≤ W5.heap.size) {C : World} {row : Option Nat} (hg : W.grownBy C row) (hr : ∀ r, row = some r → W5.heap.size ≤ r ∧ ∃ o : Obj, W.heap[r]? = some o ∧ o.isCells = false) : LS w W5 C n q qb tq t o := by
  have c := Bk.kc_cells hg (fun r e => (hr r e).2)
  exact ⟨Bk.own_kc h.own c (fun _ _ h => h), h.bel.grown hg h.bel.size (fun r e => by have := (hr r e).1; omega), c qb _ h.bx rfl (fun h => h), c tq _ h.tk rfl (fun h => h), h.kc.trans (fun k o hk ho _ => c k o hk ho (fun h => h)), Nat.le_trans h.sz hg.size⟩
theorem LS.alloc (h : LS w W5 W n q qb tq t o) (x : Obj) : LS w W5 (W.alloc x) n q qb tq t o :=
  ⟨own_below h.own (below_alloc W x), h.bel.alloc h.bel.size x, h.bx.alloc x, h.tk.alloc x, h.kc.trans (Bk.Kc.alloc _ _ _), by have := h.sz; simp; omega⟩
theorem LS.set (h : LS w W5 W n q qb tq t o) (h1 : qb ≠ q) (h2 : tq ≠ q) (k : Nat) (z : Int) : LS w W5 (W.setCell ⟨q, k, none⟩ (.int .i64 z)) n q qb tq t (o.set k z) := by
  have hq := (h.own.lt q rfl).1
  exact ⟨own_set h.own k z, h.bel.setCell (p := ⟨q, k, none⟩) hq _, Bk.boxed_setO h.bx h1 k _, Bk.boxed_setO h.tk h2 k _, h.kc.trans (Bk.Kc.set (U := fun k => k = q ∨ k = tq) W ⟨q, k, none⟩ (.inl rfl) _), by simpa using h.sz⟩
theorem LS.take (h : LS w W5 W n q qb tq t o) (h1 : qb ≠ tq) (h2 : q ≠ tq) (h3 : w.heap.size ≤ tq) (z : Nat) : LS w W5 (W.setCell ⟨tq, 0, none⟩ (.int .i64 (z : Nat))) n q qb tq z o := by
  have c : Ch W (W.setCell ⟨tq, 0, none⟩ (.int .i64 (z : Nat))) (fun j => j = tq) := (Ch.refl W (fun j => j = tq)).set (.inl rfl) _
  refine ⟨c.own h.own (fun g hg e => by simp [Value.ownBlock] at hg; omega), h.bel.setCell (p := ⟨tq, 0, none⟩) h3 _, Bk.boxed_setO h.bx h1 0 _, ?_, h.kc.trans (Bk.Kc.set (U := fun k => k = q ∨ k = tq) W ⟨tq, 0, none⟩ (.inr rfl) _), by simpa using h.sz⟩
  exact (heap_setCell_same W tq 0 _ _ (.int .i64 (z : Nat)) h.tk).trans (by simp)
end
end Go.Proofs.Ytcagdnajapcmkaa
