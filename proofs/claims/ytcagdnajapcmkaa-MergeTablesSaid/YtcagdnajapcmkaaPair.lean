/- Two lists of numbers of the call's own, apart. -/
import Derived.Test.YtcagdnajapcmkaaRef04c
namespace Go.Proofs.Ytcagdnajapcmkaa
open Go.RowKit

/-- Two lists of numbers of the call's own, apart. -/
structure P2 (w wx : World) (va vb : Value) (la lb : List Int) : Prop where
  bel : Below w.heap.size w wx
  oa : wx.ownsRow w.heap.size 3 1 va la.length (ivs la)
  ob : wx.ownsRow w.heap.size 3 1 vb lb.length (ivs lb)
  dj : ∀ k, va.ownBlock = some k → vb.ownBlock ≠ some k
theorem P2.mono {w wx wy : World} {va vb : Value} {la lb : List Int} (h : P2 w wx va vb la lb) (hb : Below wx.heap.size wx wy) : P2 w wy va vb la lb :=
  ⟨h.bel.trans (hb.mono h.bel.size), own_below h.oa hb, own_below h.ob hb, h.dj⟩
theorem P2.stepA {w wx wy : World} {va vb va' : Value} {la lb la' : List Int} (h : P2 w wx va vb la lb) (o : wy.ownsRow w.heap.size 3 1 va' la'.length (ivs la')) (c : Ch wx wy (fun k => va.ownBlock = some k)) (f : ∀ k, va'.ownBlock = some k → va.ownBlock = some k ∨ wx.heap.size ≤ k) : P2 w wy va' vb la' lb :=
  ⟨h.bel.trans (c.below h.bel.size (fun k hk => (h.oa.lt k hk).1)), o, c.own h.ob (fun k hk e => h.dj k e hk), fun k hk e => (f k hk).elim (fun e2 => h.dj k e2 e) (fun e2 => by have := (h.ob.lt k e).2; omega)⟩
theorem P2.stepB {w wx wy : World} {va vb vb' : Value} {la lb lb' : List Int} (h : P2 w wx va vb la lb) (o : wy.ownsRow w.heap.size 3 1 vb' lb'.length (ivs lb')) (c : Ch wx wy (fun k => vb.ownBlock = some k)) (f : ∀ k, vb'.ownBlock = some k → vb.ownBlock = some k ∨ wx.heap.size ≤ k) : P2 w wy va vb' la lb' :=
  ⟨h.bel.trans (c.below h.bel.size (fun k hk => (h.ob.lt k hk).1)), c.own h.oa (fun k hk e => h.dj k hk e), o, fun k hk e => (f k e).elim (h.dj k hk) (fun e2 => by have := (h.oa.lt k hk).2; omega)⟩
theorem wf_small {l : List Int} (h : ∀ x ∈ l, 0 ≤ x ∧ x ≤ 1000000000) : Wf l := fun n hn => by
  have := h n hn
  simp only [Lit.wf, IntKind.min, IntKind.max, IntKind.signed, IntKind.bits, Bool.and_eq_true, decide_eq_true_eq, if_true]
  simp; omega
theorem Cds.base {w : World} {B B' : Nat} {v : Value} {n : Nat} {cs : List Cd} (h : Cds w B v n cs) (hB : B' ≤ B) : Cds w B' v n cs :=
  ⟨h.hn, own_base h.own (fun k hk => Nat.le_trans hB (h.own.lt k hk).1), h.each, h.blk, fun i hi ad e => Nat.le_trans hB (h.lo i hi ad e)⟩
end Go.Proofs.Ytcagdnajapcmkaa
