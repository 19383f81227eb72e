/- How often each place stands: the pure part, and what a round of the law's loops keeps. -/
import Derived.Test.YtfdnjblbhbkndaaDoorLcParts
import Derived.Test.YtfdnjblbhbkndaaDoorLcPlace
import Derived.Test.YtfdnjblbhbkndaaDoorLcSpMath
import Derived.Test.YtfdnjblbhbkndaaDoorLaidLc
import Derived.Test.YtfdnjblbhbkndaaDoorIntsGet
import Derived.Test.YtfdnjblbhbkndaaDoorKc
import Derived.Test.YtfdnjblbhbkndaaDoorCh
namespace Go.Proofs.YtfdnjblbhbkndaaDoor
open Go.RowKit

namespace Lc
theorem part_of (w h : Nat) (q : Nat × Pa) (hq : q ∈ parts w h 1) : q.1 < 7 ∧ q.2 = of q.1 w h := by
  have hf : ∀ n p, p + n ≤ 7 → q ∈ from' w h p n → q.1 < 7 ∧ q.2 = of q.1 w h := by
    intro n
    induction n with
    | zero => intro p _ h; cases h
    | succ n ih =>
      intro p hp hq
      rcases List.mem_append.1 (show q ∈ (if 0 < (of p w h).c then [(p, of p w h)] else []) ++ from' w h (p + 1) n from hq) with h1 | h1
      · split at h1
        · have e : q = (p, of p w h) := by simpa using h1
          rw [e]
          exact ⟨by simp only; omega, rfl⟩
        · cases h1
      · exact ih (p + 1) (by omega) h1
  unfold parts at hq
  rw [if_neg (by decide)] at hq
  exact hf 7 0 (by omega) hq
theorem of_row (p w h : Nat) : (of p w h).x = px p ∧ (of p w h).dx = pdx p ∧ (of p w h).y = py p ∧ (of p w h).dy = pdy p := by
  unfold of
  split <;> exact ⟨rfl, rfl, rfl, rfl⟩
theorem of_in (p w h c r : Nat) (hp : p < 7) (hc : c < (of p w h).c) (hr : r < (of p w h).r) : px p + c * pdx p < w ∧ py p + r * pdy p < h := by
  obtain ⟨_, _, d1, d2, d3, d4⟩ := dx_dvd p hp
  unfold of at hc hr
  split at hc
  · simp at hc
  · rename_i hn
    rw [if_neg hn] at hr
    exact ⟨stp_lt _ _ _ _ d1 d3 hc, stp_lt _ _ _ _ d2 d4 hr⟩
theorem plc_nat (p c r : Nat) (hp : p < 7) (hc : c < 65535) (hr : r < 65535) : plc p c r = (((px p + c * pdx p : Nat) : Int), ((py p + r * pdy p : Nat) : Int)) := by
  unfold plc
  rw [if_pos (by omega)]
  simp only [Int.toNat_natCast]
/-- How often each of q places stands. -/
def cnt (q : Nat) (l : List Nat) : List Int := (List.range q).map fun v => ((l.count v : Nat) : Int)
theorem cnt_length (q : Nat) (l : List Nat) : (cnt q l).length = q := by simp [cnt]
theorem cnt_nil (q : Nat) : cnt q [] = List.replicate q 0 := by
  unfold cnt
  rw [List.eq_replicate_iff]
  refine ⟨by simp, fun b hb => ?_⟩
  obtain ⟨v, _, rfl⟩ := List.mem_map.1 hb
  simp
theorem cnt_get (q : Nat) (l : List Nat) (v : Nat) (hv : v < q) : (cnt q l).getD v 0 = ((l.count v : Nat) : Int) := by
  simp [cnt, List.getD, List.getElem?_range hv]
theorem cnt_set (q : Nat) (l : List Nat) (v : Nat) : (cnt q l).set v ((l.count v : Nat) + 1 : Int) = cnt q (l ++ [v]) := by
  apply List.ext_getElem?
  intro i
  rw [List.getElem?_set, cnt_length]
  by_cases hi : i < q
  · have e : ∀ m : List Nat, (cnt q m)[i]? = some ((m.count i : Nat) : Int) := fun m => by simp [cnt, List.getElem?_range hi]
    rw [e, e, List.count_append, List.count_singleton]
    by_cases h : v = i
    · subst h
      rw [if_pos rfl, if_pos hi]
      simp
    · rw [if_neg h]
      simp [h]
  · rw [List.getElem?_eq_none (by rw [cnt_length]; omega), List.getElem?_eq_none (by rw [cnt_length]; omega)]
    split
    · rw [if_neg (by omega)]
    · rfl
theorem cnt_wf (q : Nat) (l : List Nat) (h : l.length ≤ 1000000000) : Wf (cnt q l) := by
  intro x hx
  obtain ⟨v, _, rfl⟩ := List.mem_map.1 hx
  have := List.count_le_length (a := v) (l := l)
  simp [Lit.wf, IntKind.min, IntKind.max, IntKind.signed, IntKind.bits]
  omega
theorem cnt_once (w h : Nat) : cnt (w * h) (all (parts w h 1) w) = List.replicate (w * h) 1 := by
  unfold cnt
  rw [List.eq_replicate_iff]
  refine ⟨by simp, fun b hb => ?_⟩
  obtain ⟨v, hv, rfl⟩ := List.mem_map.1 hb
  rw [once w h v 1 (by decide) (List.mem_range.1 hv)]
  rfl
structure Oq (w A wr : World) (m n q k : Nat) (P5 P7 P8 G5 c5 G Bx Z : Nat) (L : List Nat) (zc zr : Nat) (cur : List Nat) : Prop where
  b0 : Boxed wr w.heap.size 3 (.int .i64 (m : Nat))
  b1 : Boxed wr (w.heap.size + 1) 3 (.int .i64 (n : Nat))
  b2 : Boxed wr (w.heap.size + 2) 4 (.bool false)
  b5 : Boxed wr P5 26 (.slice (some ⟨G5, 0, none⟩) q c5)
  row5 : wr.ownsRow w.heap.size 3 1 (.slice (some ⟨G5, 0, none⟩) q c5) q (ivs (il L))
  b7 : Boxed wr P7 26 (.slice (some ⟨G, 0, none⟩) q q)
  row7 : wr.ownsRow w.heap.size 3 1 (.slice (some ⟨G, 0, none⟩) q q) q (ivs (cnt q cur))
  b8 : Boxed wr P8 3 (.int .i64 (k : Nat))
  bx : wr.heap[Bx]? = some (.cells #[.int .i64 (zc : Nat), .int .i64 (zr : Nat)] 41 (0, 0))
  bel : Below w.heap.size w wr
  kf : KeepsFrom Z A wr
  kc : Bk.Kc (fun k => k = P8 ∨ k = G) A wr
/-- The blocks lie apart. -/
structure Op8 (w : World) (P5 P7 P8 G5 G Bx Z : Nat) : Prop where
  g0 : w.heap.size + 2 < G
  p0 : w.heap.size + 2 < P8
  p5g : P5 ≠ G
  p5k : P5 ≠ P8
  p7g : P7 ≠ G
  p7k : P7 ≠ P8
  g5g : G5 ≠ G
  g5k : G5 ≠ P8
  gk : G ≠ P8
  bg : Bx ≠ G
  bk : Bx ≠ P8
  gz : G < Z
  kz : P8 < Z
section
variable {w A wr wx : World} {m n q k P5 P7 P8 G5 c5 G Bx Z : Nat} {L : List Nat} {zc zr : Nat} {cur : List Nat}
theorem Oq.below (h : Oq w A wr m n q k P5 P7 P8 G5 c5 G Bx Z L zc zr cur) (hb : Below wr.heap.size wr wx) : Oq w A wx m n q k P5 P7 P8 G5 c5 G Bx Z L zc zr cur :=
  ⟨(hb.block _ h.b0.lt).trans h.b0, (hb.block _ h.b1.lt).trans h.b1, (hb.block _ h.b2.lt).trans h.b2, (hb.block _ h.b5.lt).trans h.b5, own_below h.row5 hb, (hb.block _ h.b7.lt).trans h.b7, own_below h.row7 hb, (hb.block _ h.b8.lt).trans h.b8,
    (hb.block _ (Array.getElem?_eq_some_iff.1 h.bx).1).trans h.bx, h.bel.trans (hb.mono h.bel.size), ⟨Nat.le_trans h.kf.size hb.size, fun k o hk ho hc => by
      have h1 := h.kf.same k o hk ho hc
      exact (hb.block k (Array.getElem?_eq_some_iff.1 h1).1).trans h1⟩, fun k o ho hc hn => by
      have h1 := h.kc k o ho hc hn
      exact (hb.block k (Array.getElem?_eq_some_iff.1 h1).1).trans h1⟩
/-- Behind a store into one of the two blocks. -/
theorem Oq.keep (h : Oq w A wr m n q k P5 P7 P8 G5 c5 G Bx Z L zc zr cur) (ap : Op8 w P5 P7 P8 G5 G Bx Z) (p : Addr) (hp : p.block = G ∨ p.block = P8) (v : Value) (k' : Nat) (cur' : List Nat)
    (h7 : (wr.setCell p v).ownsRow w.heap.size 3 1 (.slice (some ⟨G, 0, none⟩) q q) q (ivs (cnt q cur'))) (h8 : Boxed (wr.setCell p v) P8 3 (.int .i64 (k' : Nat))) :
    Oq w A (wr.setCell p v) m n q k' P5 P7 P8 G5 c5 G Bx Z L zc zr cur' := by
  have hch : Ch wr (wr.setCell p v) (fun k => k = G ∨ k = P8) := Ch.set (T := fun k => k = G ∨ k = P8) (Ch.refl _ _) (.inl hp) v
  have hg0 := ap.g0
  have hp0 := ap.p0
  refine ⟨(hch.block _ h.b0.lt (by omega)).trans h.b0, (hch.block _ h.b1.lt (by omega)).trans h.b1, (hch.block _ h.b2.lt (by omega)).trans h.b2,
    (hch.block _ h.b5.lt (fun e => e.elim ap.p5g ap.p5k)).trans h.b5, hch.own h.row5 (fun g hg e => by
      simp only [Value.ownBlock, Option.some.injEq] at hg
      rw [← hg] at e
      exact e.elim ap.g5g ap.g5k), (hch.block _ h.b7.lt (fun e => e.elim ap.p7g ap.p7k)).trans h.b7, h7, h8,
    (hch.block _ (Array.getElem?_eq_some_iff.1 h.bx).1 (fun e => e.elim ap.bg ap.bk)).trans h.bx, h.bel.trans (hch.below h.bel.size (fun j hj => by omega)), ?_, ?_⟩
  · exact ⟨Nat.le_trans h.kf.size hch.size, fun j o hj ho hc => by
      have h1 := h.kf.same j o hj ho hc
      have := ap.gz
      have := ap.kz
      exact (hch.block j (Array.getElem?_eq_some_iff.1 h1).1 (by omega)).trans h1⟩
  · exact fun j o ho hc hn => by
      have h1 := h.kc j o ho hc hn
      exact (hch.block j (Array.getElem?_eq_some_iff.1 h1).1 (fun e => hn e.symm)).trans h1
theorem Oq.seen (h : Oq w A wr m n q k P5 P7 P8 G5 c5 G Bx Z L zc zr cur) (ap : Op8 w P5 P7 P8 G5 G Bx Z) (v : Nat) :
    Oq w A (wr.setCell ⟨G, v, none⟩ (.int .i64 ((cur.count v : Nat) + 1 : Int))) m n q k P5 P7 P8 G5 c5 G Bx Z L zc zr (cur ++ [v]) := by
  refine h.keep ap _ (.inl rfl) _ k _ ?_ ?_
  · rw [← cnt_set]
    exact own_set h.row7 v _
  · have hch : Ch wr (wr.setCell ⟨G, v, none⟩ (.int .i64 ((cur.count v : Nat) + 1 : Int))) (fun k => k = G) := Ch.set (T := fun k => k = G) (Ch.refl _ _) (p := ⟨G, v, none⟩) (.inl rfl) _
    exact (hch.block _ h.b8.lt (fun e => ap.gk e.symm)).trans h.b8
theorem Oq.next (h : Oq w A wr m n q k P5 P7 P8 G5 c5 G Bx Z L zc zr cur) (ap : Op8 w P5 P7 P8 G5 G Bx Z) (k' : Nat) :
    Oq w A (wr.setCell ⟨P8, 0, none⟩ (.int .i64 (k' : Nat))) m n q k' P5 P7 P8 G5 c5 G Bx Z L zc zr cur := by
  refine h.keep ap _ (.inr rfl) _ k' _ ?_ ?_
  · have hch : Ch wr (wr.setCell ⟨P8, 0, none⟩ (.int .i64 (k' : Nat))) (fun k => k = P8) := Ch.set (T := fun k => k = P8) (Ch.refl _ _) (p := ⟨P8, 0, none⟩) (.inl rfl) _
    exact hch.own h.row7 (fun g hg e => by
      simp only [Value.ownBlock, Option.some.injEq] at hg
      exact ap.gk (hg.trans e))
  · exact heap_setCell_same wr P8 0 _ _ _ h.b8
theorem Oq.seen' (h : Oq w A wr m n q k P5 P7 P8 G5 c5 G Bx Z L zc zr cur) (ap : Op8 w P5 P7 P8 G5 G Bx Z) (v : Nat) (z : Int) (hz : z = ((cur.count v : Nat) : Int) + 1) :
    Oq w A (wr.setCell ⟨G, v, none⟩ (.int .i64 z)) m n q k P5 P7 P8 G5 c5 G Bx Z L zc zr (cur ++ [v]) := by
  subst hz
  exact h.seen ap v
theorem Oq.next' (h : Oq w A wr m n q k P5 P7 P8 G5 c5 G Bx Z L zc zr cur) (ap : Op8 w P5 P7 P8 G5 G Bx Z) (k' : Nat) (z : Int) (hz : z = ((k' : Nat) : Int)) :
    Oq w A (wr.setCell ⟨P8, 0, none⟩ (.int .i64 z)) m n q k' P5 P7 P8 G5 c5 G Bx Z L zc zr cur := by
  subst hz
  exact h.next ap k'
end
end Lc
end Go.Proofs.YtfdnjblbhbkndaaDoor
