/- A reader of bits in memory. -/
import Derived.Test.YtkjdekaipphlpaaCh
import Derived.Test.YtkjdekaipphlpaaProg
import Derived.Test.YtkjdekaipphlpaaBitsMath
namespace Go.Proofs.Ytkjdekaipphlpaa
open Go.RowKit

/-- A reader: its block, and its bytes. -/
structure Rd (w : World) (B g : Nat) (h : Bool) (v : Value) (l : List UInt8) (at' : Nat) : Prop where
  blk : w.heap[g]? = some (.cells #[.bool h, v, .int .i64 (at' : Nat)] 74 (0, 0))
  own : w.ownsRow B 5 1 v l.length (bvs l)
  hg : B ≤ g
  ne : v.ownBlock ≠ some g
theorem Rd.lt {w : World} {B g : Nat} {h : Bool} {v : Value} {l : List UInt8} {p : Nat} (H : Rd w B g h v l p) : g < w.heap.size := (Array.getElem?_eq_some_iff.1 H.blk).1
theorem Rd.kept {w w' : World} {T : Nat → Prop} {B g : Nat} {h : Bool} {v : Value} {l : List UInt8} {p : Nat} (H : Rd w B g h v l p) (c : Ch w w' T) (h1 : ¬ T g) (h2 : ∀ k, v.ownBlock = some k → ¬ T k) : Rd w' B g h v l p :=
  ⟨by rw [c.block g H.lt h1]; exact H.blk, c.own H.own h2, H.hg, H.ne⟩
theorem Rd.mono {w w' : World} {B g : Nat} {h : Bool} {v : Value} {l : List UInt8} {p : Nat} (H : Rd w B g h v l p) (hb : Below w.heap.size w w') : Rd w' B g h v l p :=
  H.kept (Ch.of_below (T := fun _ => False) hb) (fun h => h) (fun _ _ h => h)
theorem Rd.c0 {w : World} {B g : Nat} {h : Bool} {v : Value} {l : List UInt8} {p : Nat} (H : Rd w B g h v l p) : w.cell? ⟨g, 0, none⟩ = some (.bool h) := by rw [cell_of_row _ _ _ _ _ (0, 0) H.blk]; rfl
theorem Rd.c1 {w : World} {B g : Nat} {h : Bool} {v : Value} {l : List UInt8} {p : Nat} (H : Rd w B g h v l p) : w.cell? ⟨g, 1, none⟩ = some v := by rw [cell_of_row _ _ _ _ _ (0, 0) H.blk]; rfl
theorem Rd.c2 {w : World} {B g : Nat} {h : Bool} {v : Value} {l : List UInt8} {p : Nat} (H : Rd w B g h v l p) : w.cell? ⟨g, 2, none⟩ = some (.int .i64 (p : Nat)) := by rw [cell_of_row _ _ _ _ _ (0, 0) H.blk]; rfl
theorem Rd.fr {w : World} {B g : Nat} {h : Bool} {v : Value} {l : List UInt8} {p : Nat} (H : Rd w B g h v l p) (o : Nat) : w.frozen? ⟨g, o, none⟩ = false := frozen_of_row w g o _ _ H.blk
theorem Rd.setAt {w : World} {B g : Nat} {h : Bool} {v : Value} {l : List UInt8} {p : Nat} (H : Rd w B g h v l p) (q : Nat) : Rd (w.setCell ⟨g, 2, none⟩ (.int .i64 (q : Nat))) B g h v l q := by
  have c : Ch w (w.setCell ⟨g, 2, none⟩ (.int .i64 (q : Nat))) (fun k => k = g) := (Ch.refl w (fun k => k = g)).set (.inl rfl) _
  refine ⟨?_, c.own H.own (fun k hk e => by subst e; exact H.ne hk), H.hg, H.ne⟩
  rw [heap_setCell_same w g 2 _ _ _ H.blk]; rfl

end Go.Proofs.Ytkjdekaipphlpaa
