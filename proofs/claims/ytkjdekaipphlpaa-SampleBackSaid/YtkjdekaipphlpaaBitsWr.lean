/- Package bits: what a writer and a reader are in memory. -/
import Derived.Test.YtkjdekaipphlpaaCh
import Derived.Test.YtkjdekaipphlpaaProg
import Derived.Test.YtkjdekaipphlpaaBitsMath
namespace Go.Proofs.Ytkjdekaipphlpaa
open Go.RowKit

/-- A writer: its block, and its bytes. -/
structure Wr (w : World) (B g : Nat) (h : Bool) (v : Value) (l : List Bool) : Prop where
  blk : w.heap[g]? = some (.cells #[.bool h, v, .int .i64 (l.length : Nat)] 71 (0, 0))
  own : w.ownsRow B 5 1 v ((l.length + 7) / 8) (bvs (Bt.packs h false l))
  hg : B ≤ g
  ne : v.ownBlock ≠ some g
/-- What a writer's call may change. -/
def Wt (g : Nat) (v : Value) (k : Nat) : Prop := k = g ∨ v.ownBlock = some k
theorem Wr.lt {w : World} {B g : Nat} {h : Bool} {v : Value} {l : List Bool} (H : Wr w B g h v l) : g < w.heap.size := (Array.getElem?_eq_some_iff.1 H.blk).1
theorem Wr.kept {w w' : World} {T : Nat → Prop} {B g : Nat} {h : Bool} {v : Value} {l : List Bool} (H : Wr w B g h v l) (c : Ch w w' T) (h1 : ¬ T g) (h2 : ∀ k, v.ownBlock = some k → ¬ T k) : Wr w' B g h v l :=
  ⟨by rw [c.block g H.lt h1]; exact H.blk, c.own H.own h2, H.hg, H.ne⟩
theorem Wr.mono {w w' : World} {B g : Nat} {h : Bool} {v : Value} {l : List Bool} (H : Wr w B g h v l) (hb : Below w.heap.size w w') : Wr w' B g h v l :=
  H.kept (Ch.of_below (T := fun _ => False) hb) (fun h => h) (fun _ _ h => h)
theorem Wr.c0 {w : World} {B g : Nat} {h : Bool} {v : Value} {l : List Bool} (H : Wr w B g h v l) : w.cell? ⟨g, 0, none⟩ = some (.bool h) := by rw [cell_of_row _ _ _ _ _ (0, 0) H.blk]; rfl
theorem Wr.c1 {w : World} {B g : Nat} {h : Bool} {v : Value} {l : List Bool} (H : Wr w B g h v l) : w.cell? ⟨g, 1, none⟩ = some v := by rw [cell_of_row _ _ _ _ _ (0, 0) H.blk]; rfl
theorem Wr.c2 {w : World} {B g : Nat} {h : Bool} {v : Value} {l : List Bool} (H : Wr w B g h v l) : w.cell? ⟨g, 2, none⟩ = some (.int .i64 (l.length : Nat)) := by rw [cell_of_row _ _ _ _ _ (0, 0) H.blk]; rfl
theorem Wr.fr {w : World} {B g : Nat} {h : Bool} {v : Value} {l : List Bool} (H : Wr w B g h v l) (o : Nat) : w.frozen? ⟨g, o, none⟩ = false := frozen_of_row w g o _ _ H.blk

end Go.Proofs.Ytkjdekaipphlpaa
