/- Package bits: what a writer and a reader are in memory. -/
import Derived.Test.YtpeldamcbkfamaaBitsSmall
import Derived.Test.YtpeldamcbkfamaaApartMem
import Derived.Deep.RegionHeld3
import Derived.Deep.RegionWith
import Derived.Deep.QuietTactic
import Derived.BigQuiet
namespace Go.Proofs.Ytpeldamcbkfamaa
open Go.RowKit

/-- Only blocks of T may have changed; new ones may have come. -/
structure Ch (w w' : World) (T : Nat → Prop) : Prop where
  os : w'.os = w.os
  tape : w'.tape = w.tape
  output : w'.output = w.output
  size : w.heap.size ≤ w'.heap.size
  block : ∀ k, k < w.heap.size → ¬ T k → w'.heap[k]? = w.heap[k]?
theorem Ch.refl (w : World) (T : Nat → Prop) : Ch w w T := ⟨rfl, rfl, rfl, Nat.le_refl _, fun _ _ _ => rfl⟩
theorem Ch.of_below {w w' : World} {T : Nat → Prop} (h : Below w.heap.size w w') : Ch w w' T := ⟨h.os, h.tape, h.output, h.size, fun k hk _ => h.block k hk⟩
theorem Ch.trans {a b c : World} {T U : Nat → Prop} (h : Ch a b T) (k : Ch b c U) (hu : ∀ n, U n → T n ∨ a.heap.size ≤ n) : Ch a c T :=
  ⟨k.os.trans h.os, k.tape.trans h.tape, k.output.trans h.output, Nat.le_trans h.size k.size, fun i hi ht => (k.block i (Nat.lt_of_lt_of_le hi h.size) (fun hui => (hu i hui).elim ht (fun h' => by omega))).trans (h.block i hi ht)⟩
theorem Ch.drew {a w : World} {T : Nat → Prop} (h : Ch a w T) : Ch a w.drew T := ⟨h.os, h.tape, h.output, h.size, h.block⟩
theorem Ch.alloc {a w : World} {T : Nat → Prop} (h : Ch a w T) (o : Obj) : Ch a (w.alloc o) T :=
  h.trans (Ch.of_below (T := fun _ => False) (below_alloc w o)) (fun _ h => h.elim)
theorem Ch.set {a w : World} {T : Nat → Prop} (h : Ch a w T) {p : Addr} (hp : T p.block ∨ a.heap.size ≤ p.block) (u : Value) : Ch a (w.setCell p u) T :=
  h.trans (U := fun k => k = p.block) ⟨rfl, rfl, rfl, by simp, fun k _ ht => Below.heap_setCell w p u k ht⟩ (fun n hn => by subst hn; exact hp)
theorem Ch.below {w w' : World} {T : Nat → Prop} (h : Ch w w' T) {B : Nat} (hB : B ≤ w.heap.size) (ht : ∀ k, T k → B ≤ k) : Below B w w' :=
  ⟨h.os, h.tape, h.output, h.size, fun k hk => h.block k (by omega) (fun h' => by have := ht k h'; omega)⟩
theorem Ch.own {w w' : World} {T : Nat → Prop} (h : Ch w w' T) {base : Nat} {e : TypeId} {size : Nat} {v : Value} {n : Nat} {xs : List Value} (hv : w.ownsRow base e size v n xs) (hn : ∀ g, v.ownBlock = some g → ¬ T g) : w'.ownsRow base e size v n xs := by
  obtain ⟨h1, h2⟩ := hv
  refine ⟨h1, ?_⟩
  rcases h2 with h2 | ⟨g, cap, cur, rfl, hb, hg, r⟩
  · exact .inl h2
  · refine .inr ⟨g, cap, cur, rfl, hb, ?_, r⟩
    rw [h.block g (Array.getElem?_eq_some_iff.1 hg).1 (hn g rfl)]; exact hg
theorem Ch.step {w w' : World} {v v' : Value} (h : Step w w' v v') : Ch w w' (fun k => v.ownBlock = some k) := by
  rcases h with ⟨g, k, cap, k', rfl, _, hg⟩ | ⟨_, hg⟩
  · exact ⟨hg.os, hg.tape, hg.output, hg.size, fun i hi ht => hg.block i hi (fun e => ht (by simpa [Value.ownBlock] using e.symm))⟩
  · exact ⟨hg.os, hg.tape, hg.output, hg.size, fun i hi _ => hg.block i hi (by simp)⟩
theorem Ch.wide {w w' : World} {T U : Nat → Prop} (h : Ch w w' T) (hu : ∀ k, T k → U k ∨ w.heap.size ≤ k) : Ch w w' U :=
  ⟨h.os, h.tape, h.output, h.size, fun k hk ht => h.block k hk (fun h' => (hu k h').elim ht (fun h'' => by omega))⟩

/-- A writer: its block, and its bytes. -/
structure Wr (w : World) (B g : Nat) (h : Bool) (v : Value) (l : List Bool) : Prop where
  blk : w.heap[g]? = some (.cells #[.bool h, v, .int .i64 (l.length : Nat)] 60 (0, 0))
  own : w.ownsRow B 5 1 v ((l.length + 7) / 8) (bvs (Bt.packs h false l))
  hg : B ≤ g
  ne : v.ownBlock ≠ some g
/-- What a writer's call may change. -/
def Wt (g : Nat) (v : Value) (k : Nat) : Prop := k = g ∨ v.ownBlock = some k
theorem Wr.lt {w : World} {B g : Nat} {h : Bool} {v : Value} {l : List Bool} (H : Wr w B g h v l) : g < w.heap.size := (Array.getElem?_eq_some_iff.1 H.blk).1
theorem Wr.kept {w w' : World} {T : Nat → Prop} {B g : Nat} {h : Bool} {v : Value} {l : List Bool} (H : Wr w B g h v l) (c : Ch w w' T) (h1 : ¬ T g) (h2 : ∀ k, v.ownBlock = some k → ¬ T k) : Wr w' B g h v l :=
  ⟨by rw [c.block g H.lt h1]; exact H.blk, c.own H.own h2, H.hg, H.ne⟩
theorem Wr.mono {w w' : World} {B g : Nat} {h : Bool} {v : Value} {l : List Bool} (H : Wr w B g h v l) (hb : Below w.heap.size w w') : Wr w' B g h v l :=
  H.kept (Ch.of_below (T := fun _ => False) hb) (fun h => h) (fun _ _ h => h)
theorem Wr.c0 {w : World} {B g : Nat} {h : Bool} {v : Value} {l : List Bool} (H : Wr w B g h v l) : w.cell? ⟨g, 0, none⟩ = some (.bool h) := by rw [cell_of_row _ _ _ _ _ (0, 0) H.blk]; rfl
theorem Wr.c1 {w : World} {B g : Nat} {h : Bool} {v : Value} {l : List Bool} (H : Wr w B g h v l) : w.cell? ⟨g, 1, none⟩ = some v := by rw [cell_of_row _ _ _ _ _ (0, 0) H.blk]; rfl
theorem Wr.c2 {w : World} {B g : Nat} {h : Bool} {v : Value} {l : List Bool} (H : Wr w B g h v l) : w.cell? ⟨g, 2, none⟩ = some (.int .i64 (l.length : Nat)) := by rw [cell_of_row _ _ _ _ _ (0, 0) H.blk]; rfl
theorem Wr.fr {w : World} {B g : Nat} {h : Bool} {v : Value} {l : List Bool} (H : Wr w B g h v l) (o : Nat) : w.frozen? ⟨g, o, none⟩ = false := frozen_of_row w g o _ _ H.blk

/-- A reader: its block, and its bytes. -/
structure Rd (w : World) (B g : Nat) (h : Bool) (v : Value) (l : List UInt8) (at' : Nat) : Prop where
  blk : w.heap[g]? = some (.cells #[.bool h, v, .int .i64 (at' : Nat)] 66 (0, 0))
  own : w.ownsRow B 5 1 v l.length (bvs l)
  hg : B ≤ g
  ne : v.ownBlock ≠ some g
theorem Rd.lt {w : World} {B g : Nat} {h : Bool} {v : Value} {l : List UInt8} {p : Nat} (H : Rd w B g h v l p) : g < w.heap.size := (Array.getElem?_eq_some_iff.1 H.blk).1
theorem Rd.kept {w w' : World} {T : Nat → Prop} {B g : Nat} {h : Bool} {v : Value} {l : List UInt8} {p : Nat} (H : Rd w B g h v l p) (c : Ch w w' T) (h1 : ¬ T g) (h2 : ∀ k, v.ownBlock = some k → ¬ T k) : Rd w' B g h v l p :=
  ⟨by rw [c.block g H.lt h1]; exact H.blk, c.own H.own h2, H.hg, H.ne⟩
theorem Rd.mono {w w' : World} {B g : Nat} {h : Bool} {v : Value} {l : List UInt8} {p : Nat} (H : Rd w B g h v l p) (hb : Below w.heap.size w w') : Rd w' B g h v l p :=
  H.kept (Ch.of_below (T := fun _ => False) hb) (fun h => h) (fun _ _ h => h)
theorem Rd.c0 {w : World} {B g : Nat} {h : Bool} {v : Value} {l : List UInt8} {p : Nat} (H : Rd w B g h v l p) : w.cell? ⟨g, 0, none⟩ = some (.bool h) := by rw [cell_of_row _ _ _ _ _ (0, 0) H.blk]; rfl
theorem Rd.c1 {w : World} {B g : Nat} {h : Bool} {v : Value} {l : List UInt8} {p : Nat} (H : Rd w B g h v l p) : w.cell? ⟨g, 1, none⟩ = some v := by rw [cell_of_row _ _ _ _ _ (0, 0) H.blk]; rfl
theorem Rd.c2 {w : World} {B g : Nat} {h : Bool} {v : Value} {l : List UInt8} {p : Nat} (H : Rd w B g h v l p) : w.cell? ⟨g, 2, none⟩ = some (.int .i64 (p : Nat)) := by rw [cell_of_row _ _ _ _ _ (0, 0) H.blk]; rfl
theorem Rd.fr {w : World} {B g : Nat} {h : Bool} {v : Value} {l : List UInt8} {p : Nat} (H : Rd w B g h v l p) (o : Nat) : w.frozen? ⟨g, o, none⟩ = false := frozen_of_row w g o _ _ H.blk
theorem Rd.setAt {w : World} {B g : Nat} {h : Bool} {v : Value} {l : List UInt8} {p : Nat} (H : Rd w B g h v l p) (q : Nat) : Rd (w.setCell ⟨g, 2, none⟩ (.int .i64 (q : Nat))) B g h v l q := by
  have c : Ch w (w.setCell ⟨g, 2, none⟩ (.int .i64 (q : Nat))) (fun k => k = g) := (Ch.refl w (fun k => k = g)).set (.inl rfl) _
  refine ⟨?_, c.own H.own (fun k hk e => by subst e; exact H.ne hk), H.hg, H.ne⟩
  rw [heap_setCell_same w g 2 _ _ _ H.blk]; rfl

theorem newWriter_any (h : Bool) (B : Nat) (w : World) (hB : B ≤ w.heap.size) :
    Calls Try.prog 10 #[.bool h] w fun e w' => e = .returned (.pointer (some ⟨w.heap.size, 0, none⟩)) ∧ Wr w' B w.heap.size h (.slice none 0 0) [] ∧ Below w.heap.size w w' := by
  go_enter Try.func10, Try.ntmps10
  go_wp2
  go_ret
  refine ⟨rfl, ⟨heap_alloc_last w _, World.ownsRow_nil _ _ _ _, hB, by simp [Value.ownBlock]⟩, below_alloc w _⟩
theorem high_any (w : World) (B g : Nat) (h : Bool) (v : Value) (l : List Bool) (H : Wr w B g h v l) :
    Calls Try.prog 11 #[.pointer (some ⟨g, 0, none⟩)] w fun e w' => e = .returned (.bool h) ∧ w = w' := by
  have c0 := H.c0
  clear H
  go_enter Try.func11, Try.ntmps11
  go_wp2
  go_ret
  exact ⟨rfl, rfl⟩
theorem len_any (w : World) (B g : Nat) (h : Bool) (v : Value) (l : List Bool) (H : Wr w B g h v l) :
    Calls Try.prog 20 #[.pointer (some ⟨g, 0, none⟩)] w fun e w' => e = .returned (.int .i64 (l.length : Nat)) ∧ w = w' := by
  have c2 := H.c2
  clear H
  go_enter Try.func20, Try.ntmps20
  go_wp2
  go_ret
  exact ⟨rfl, rfl⟩
theorem at_any (w : World) (B g : Nat) (h : Bool) (v : Value) (l : List UInt8) (p : Nat) (H : Rd w B g h v l p) :
    Calls Try.prog 29 #[.pointer (some ⟨g, 0, none⟩)] w fun e w' => e = .returned (.int .i64 (p : Nat)) ∧ w = w' := by
  have c2 := H.c2
  clear H
  go_enter Try.func29, Try.ntmps29
  go_wp2
  go_ret
  exact ⟨rfl, rfl⟩
theorem left_any (w : World) (B g : Nat) (h : Bool) (v : Value) (l : List UInt8) (p : Nat) (H : Rd w B g h v l p) (hp : p ≤ 8 * l.length) (hl : l.length ≤ 1000000000000) :
    Calls Try.prog 30 #[.pointer (some ⟨g, 0, none⟩)] w fun e w' => e = .returned (.int .i64 ((8 * l.length - p : Nat))) ∧ ∃ n, w' = w.drewN n := by
  have c2 := H.c2
  have c1 := H.c1
  obtain ⟨a, cap, rfl⟩ : ∃ a cap, v = .slice a l.length cap := by
    rcases own_nil_or H.own with ⟨rfl, e⟩ | ⟨g, cap, rfl, _⟩
    · exact ⟨_, _, by rw [e]⟩
    · exact ⟨_, _, rfl⟩
  clear H
  generalize l.length = n at *
  go_enter Try.func30, Try.ntmps30
  go_wp2
  go_quiet (fail)
  go_wp2
  go_ret
  exact ⟨ret_int (by omega), _, rfl⟩
end Go.Proofs.Ytpeldamcbkfamaa
