/- The document's tables of bases: their contracts. -/
import Derived.Test.YtedncnaeojomcaaSym06p
import Derived.Test.YtedncnaeojomcaaIsLit
namespace Go.Proofs.Ytedncnaeojomcaa
open Go.RowKit
namespace Sy
def lensL : List Int := [3, 4, 5, 6, 7, 8, 9, 10, 11, 13, 15, 17, 19, 23, 27, 31, 35, 43, 51, 59, 67, 83, 99, 115, 131, 163, 195, 227, 258]
def lensX : List Int := [0, 0, 0, 0, 0, 0, 0, 0, 1, 1, 1, 1, 2, 2, 2, 2, 3, 3, 3, 3, 4, 4, 4, 4, 5, 5, 5, 5, 0]
def distL : List Int := [1, 2, 3, 4, 5, 7, 9, 13, 17, 25, 33, 49, 65, 97, 129, 193, 257, 385, 513, 769, 1025, 1537, 2049, 3073, 4097, 6145, 8193, 12289, 16385, 24577]
def distX : List Int := [0, 0, 0, 0, 1, 1, 2, 2, 3, 3, 4, 4, 5, 5, 6, 6, 7, 7, 8, 8, 9, 9, 10, 10, 11, 11, 12, 12, 13, 13]
theorem lens_eq : ∀ p, p < 29 → lensL.getD p 0 = ((lb p).1 : Int) ∧ lensX.getD p 0 = ((lb p).2 : Int) := by decide +kernel
theorem dist_eq : ∀ p, p < 30 → distL.getD p 0 = ((db p).1 : Int) ∧ distX.getD p 0 = ((db p).2 : Int) := by decide +kernel
/-- Two rows of numbers in memory. -/
structure Two (w : World) (g h n : Nat) (f : Nat → Nat × Nat) : Prop where
  lg : g < w.heap.size
  lh : h < w.heap.size
  fst : ∀ i, i < n → w.cell? ⟨g, i, none⟩ = some (.int .i64 ((f i).1 : Nat))
  snd : ∀ i, i < n → w.cell? ⟨h, i, none⟩ = some (.int .i64 ((f i).2 : Nat))
theorem Two.mono {w w' : World} {g h n : Nat} {f : Nat → Nat × Nat} (H : Two w g h n f) (hb : Below w.heap.size w w') : Two w' g h n f :=
  ⟨Nat.lt_of_lt_of_le H.lg hb.size, Nat.lt_of_lt_of_le H.lh hb.size, fun i hi => (hb.cell (p := ⟨g, i, none⟩) H.lg).trans (H.fst i hi), fun i hi => (hb.cell (p := ⟨h, i, none⟩) H.lh).trans (H.snd i hi)⟩
theorem two_new (w : World) (n : Nat) (f : Nat → Nat × Nat) (x y : List Int) (t : TypeId) (hx : x.length = n) (hy : y.length = n) (h : ∀ p, p < n → x.getD p 0 = ((f p).1 : Int) ∧ y.getD p 0 = ((f p).2 : Int)) (cs ds : Array Value) (hc : (ivs x).toArray = cs) (hd : (ivs y).toArray = ds) :
    Two ((w.alloc (.cells cs t)).alloc (.cells ds t)) w.heap.size (w.heap.size + 1) n f := by
  subst hc
  subst hd
  have e2 : (w.alloc (.cells (ivs x).toArray t)).heap.size = w.heap.size + 1 := by simp
  refine ⟨by simp; omega, by simp, fun i hi => ?_, fun i hi => ?_⟩
  · have hb := below_alloc (w.alloc (.cells (ivs x).toArray t)) (.cells (ivs y).toArray t)
    rw [hb.cell (p := ⟨w.heap.size, i, none⟩) (by show w.heap.size < _; rw [e2]; omega), cell_of_row _ _ _ _ t (0, 0) (heap_alloc_last w _), List.getElem?_toArray, ivs_get _ _ (by omega), (h i hi).1]
  · rw [← e2, cell_of_row _ _ _ _ t (0, 0) (heap_alloc_last _ _), List.getElem?_toArray, ivs_get _ _ (by omega), (h i hi).2]
def TwoPost (w : World) (n : Nat) (f : Nat → Nat × Nat) (e : Ending) (w' : World) : Prop := ∃ g h, e = .returned (.tuple #[.slice (some ⟨g, 0, none⟩) n n, .slice (some ⟨h, 0, none⟩) n n]) ∧ Two w' g h n f ∧ Below w.heap.size w w'
end Sy
theorem lens_any (w : World) : Calls Try.prog 24 #[] w (Sy.TwoPost w 29 Sy.lb) := by
  have HT := Lib.hid (Sy.two_new w 29 Sy.lb Sy.lensL Sy.lensX 3 rfl rfl Sy.lens_eq _ _ rfl rfl)
  go_enter Try.func24, Try.ntmps24
  go_wp2
  go_ret2
  exact ⟨_, _, rfl, HT.out, below_alloc2 _ _ _⟩
theorem dists_any (w : World) : Calls Try.prog 25 #[] w (Sy.TwoPost w 30 Sy.db) := by
  have HT := Lib.hid (Sy.two_new w 30 Sy.db Sy.distL Sy.distX 3 rfl rfl Sy.dist_eq _ _ rfl rfl)
  go_enter Try.func25, Try.ntmps25
  go_wp2
  go_ret2
  exact ⟨_, _, rfl, HT.out, below_alloc2 _ _ _⟩
end Go.Proofs.Ytedncnaeojomcaa
