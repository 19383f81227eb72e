/- What a round of Spread keeps. -/
import Derived.Test.YtfdnjblbhbkndaaDoorLcSpMath
import Derived.Test.YtfdnjblbhbkndaaDoorLcPass
import Derived.Test.YtfdnjblbhbkndaaDoorLcParts
import Derived.Test.YtfdnjblbhbkndaaDoorLcPlace
import Derived.Test.YtfdnjblbhbkndaaDoorKc
import Derived.Test.YtfdnjblbhbkndaaDoorCh
import Derived.Test.YtfdnjblbhbkndaaDoorInts
namespace Go.Proofs.YtfdnjblbhbkndaaDoor
open Go.RowKit

namespace Lc
theorem parts_small (w h : Nat) (l : Int) (q : Nat × Pa) (hq : q ∈ parts w h l) : q.2.x ≤ 8 ∧ q.2.dx ≤ 8 ∧ q.2.y ≤ 8 ∧ q.2.dy ≤ 8 := by
  have hf : ∀ n p, p + n ≤ 7 → q ∈ from' w h p n → q.2.x ≤ 8 ∧ q.2.dx ≤ 8 ∧ q.2.y ≤ 8 ∧ q.2.dy ≤ 8 := by
    intro n
    induction n with
    | zero => intro p _ h; cases h
    | succ n ih =>
      intro p hp hq
      rcases List.mem_append.1 (show q ∈ (if 0 < (of p w h).c then [(p, of p w h)] else []) ++ from' w h (p + 1) n from hq) with h1 | h1
      · split at h1
        · have e : q = (p, of p w h) := by simpa using h1
          obtain ⟨_, a2, a3, _, a5, a6⟩ := p_small p (by omega)
          rw [e]
          unfold of
          split
          · exact ⟨a3, a2, a6, a5⟩
          · exact ⟨a3, a2, a6, a5⟩
        · cases h1
      · exact ih (p + 1) (by omega) h1
  unfold parts at hq
  split at hq
  · have e : q = (0, ⟨0, 1, 0, 1, w, h⟩) := by simpa using hq
    rw [e]; simp
  · exact hf 7 0 (by omega) hq
structure Sq (w A wr : World) (m q G B Bx Z : Nat) (a : Pa) (L : List Nat) : Prop where
  bm : Boxed wr w.heap.size 3 (.int .i64 (m : Nat))
  part : wr.heap[Bx]? = some (.cells a.cells 54 (0, 0))
  box : Boxed wr B 26 (.slice (some ⟨G, 0, none⟩) L.length q)
  row : wr.ownsRow w.heap.size 3 1 (.slice (some ⟨G, 0, none⟩) L.length q) L.length (ivs (il L))
  bel : Below w.heap.size w wr
  kf : KeepsFrom Z A wr
  kc : Bk.Kc (fun k => k = B ∨ k = G) A wr
section
variable {w A wr wx w' : World} {m q G B Bx Z : Nat} {a : Pa} {L : List Nat}
theorem Sq.below (h : Sq w A wr m q G B Bx Z a L) (hb : Below wr.heap.size wr wx) : Sq w A wx m q G B Bx Z a L :=
  ⟨(hb.block _ h.bm.lt).trans h.bm, (hb.block _ (Array.getElem?_eq_some_iff.1 h.part).1).trans h.part, (hb.block _ h.box.lt).trans h.box, own_below h.row hb, below_then h.bel hb,
   ⟨Nat.le_trans h.kf.size hb.size, fun k o hk ho hc => by
      have h1 := h.kf.same k o hk ho hc
      exact (hb.block k (Array.getElem?_eq_some_iff.1 h1).1).trans h1⟩,
   fun k o ho hc hn => by
      have h1 := h.kc k o ho hc hn
      exact (hb.block k (Array.getElem?_eq_some_iff.1 h1).1).trans h1⟩
/-- One more place. -/
theorem Sq.push (h : Sq w A wx m q G B Bx Z a L) (v : Nat) (own' : w'.ownsRow w.heap.size 3 1 (.slice (some ⟨G, 0, none⟩) (L.length + 1) q) (L.length + 1) (ivs (il L) ++ ivs [(v : Int)])) (hg : wx.grownBy w' (some G))
    (n1 : G ≠ w.heap.size) (n2 : G ≠ B) (n3 : Bx ≠ G) (n4 : Bx ≠ B) (n5 : w.heap.size ≠ B) (z1 : G < Z) (z2 : B < Z) (l1 : w.heap.size ≤ G) (l2 : w.heap.size ≤ B) :
    Sq w A (w'.setCell ⟨B, 0, none⟩ (.slice (some ⟨G, 0, none⟩) (L.length + 1) q)) m q G B Bx Z a (L ++ [v]) := by
  have hch : Ch wx (w'.setCell ⟨B, 0, none⟩ (.slice (some ⟨G, 0, none⟩) (L.length + 1) q)) (fun k => k = B ∨ k = G) := by
    have c1 : Ch wx w' (fun k => k = B ∨ k = G) := ⟨hg.os, hg.tape, hg.output, hg.size, fun k hk hn => hg.block k hk (fun e => hn (.inr (by cases e; rfl)))⟩
    exact c1.set (p := ⟨B, 0, none⟩) (.inl (.inl rfl)) _
  have hll : (L ++ [v]).length = L.length + 1 := by simp
  have hbl : w'.heap[B]? = some (.cells #[.slice (some ⟨G, 0, none⟩) L.length q] 26 (0, 0)) := (hg.block B h.box.lt (fun e => by cases e; omega)).trans h.box
  refine ⟨(hch.block _ h.bm.lt (by omega)).trans h.bm, (hch.block _ (Array.getElem?_eq_some_iff.1 h.part).1 (by omega)).trans h.part, ?_, ?_, ?_, ?_, ?_⟩
  · rw [hll]; exact heap_setCell_same w' B 0 _ _ _ hbl
  · rw [hll, il_app, ivs_append]
    have c2 : Ch w' (w'.setCell ⟨B, 0, none⟩ (.slice (some ⟨G, 0, none⟩) (L.length + 1) q)) (fun k => k = B) := Ch.set (T := fun k => k = B) (Ch.refl _ _) (p := ⟨B, 0, none⟩) (.inl rfl) _
    exact c2.own own' (fun g hg' e => by simp [Value.ownBlock] at hg'; omega)
  · exact h.bel.trans (hch.below (B := w.heap.size) h.bel.size (fun k hk => by omega))
  · exact ⟨Nat.le_trans h.kf.size hch.size, fun k o hk ho hc => by
      have h1 := h.kf.same k o hk ho hc
      exact (hch.block k (Array.getElem?_eq_some_iff.1 h1).1 (by omega)).trans h1⟩
  · exact fun k o ho hc hn => by
      have h1 := h.kc k o ho hc hn
      exact (hch.block k (Array.getElem?_eq_some_iff.1 h1).1 hn).trans h1
end
end Lc
end Go.Proofs.YtfdnjblbhbkndaaDoor
