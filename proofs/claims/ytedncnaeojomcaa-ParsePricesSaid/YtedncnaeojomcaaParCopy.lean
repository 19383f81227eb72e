/- The law's prices: copies. -/
import Derived.Test.YtedncnaeojomcaaParGood
import Derived.Test.YtedncnaeojomcaaNumInts
import Derived.Test.YtedncnaeojomcaaCh
import Derived.Deep.RegionHeld3
namespace Go.Proofs.Ytedncnaeojomcaa
open Go.RowKit
namespace Pa
/-- Copies of prices, with a mark behind each. -/
structure Cp3 (w0 w : World) (g1 n1 : Nat) (l1 : List Int) (g2 n2 : Nat) (l2 : List Int) (g3 n3 : Nat) (l3 : List Int) : Prop where
  o1 : w.ownsRow w0.heap.size 3 1 (.slice (some ⟨g1, 0, none⟩) (n1 + 1) (n1 + 1)) (n1 + 1) (ivs (l1 ++ [-77]))
  o2 : w.ownsRow w0.heap.size 3 1 (.slice (some ⟨g2, 0, none⟩) (n2 + 1) (n2 + 1)) (n2 + 1) (ivs (l2 ++ [-77]))
  o3 : w.ownsRow w0.heap.size 3 1 (.slice (some ⟨g3, 0, none⟩) (n3 + 1) (n3 + 1)) (n3 + 1) (ivs (l3 ++ [-77]))
end Pa
variable {w : World} {a1 a2 a3 : Option Addr} {n1 c1 n2 c2 n3 c3 : Nat} {l1 l2 l3 : List Int}
set_option maxRecDepth 100000 in
set_option maxHeartbeats 4000000 in
theorem prices_any (h : Pa.Pr w a1 n1 c1 l1 a2 n2 c2 l2 a3 n3 c3 l3) (k1 : n1 ≤ 1000) (k2 : n2 ≤ 1000) (k3 : n3 ≤ 1000) :
    Calls Try.prog 6 #[.agg #[.slice a1 n1 c1, .slice a2 n2 c2, .slice a3 n3 c3]] w fun e w' => ∃ g1 g2 g3, e = .returned (.agg #[.slice (some ⟨g1, 0, none⟩) n1 (n1 + 1), .slice (some ⟨g2, 0, none⟩) n2 (n2 + 1), .slice (some ⟨g3, 0, none⟩) n3 (n3 + 1)]) ∧ Pa.Cp3 w w' g1 n1 l1 g2 n2 l2 g3 n3 l3 ∧ Below w.heap.size w w' := by
  have hb := below_alloc2 w (.cells #[.slice a1 n1 c1, .slice a2 n2 c2, .slice a3 n3 c3] 25) (.cells #[.slice none 0 0, .slice none 0 0, .slice none 0 0] 32)
  have hrp : ((w.alloc (.cells #[.slice a1 n1 c1, .slice a2 n2 c2, .slice a3 n3 c3] 25)).alloc (.cells #[.slice none 0 0, .slice none 0 0, .slice none 0 0] 32)).heap[w.heap.size]? = some (.cells #[.slice a1 n1 c1, .slice a2 n2 c2, .slice a3 n3 c3] 25 (0, 0)) := heap_alloc2_old w _ _
  have hrr : ((w.alloc (.cells #[.slice a1 n1 c1, .slice a2 n2 c2, .slice a3 n3 c3] 25)).alloc (.cells #[.slice none 0 0, .slice none 0 0, .slice none 0 0] 32)).heap[w.heap.size + 1]? = some (.cells #[.slice none 0 0, .slice none 0 0, .slice none 0 0] 32 (0, 0)) := heap_alloc2_new w _ _
  have hP := h.mono hb
  have HB := Lib.hid hb
  go_enter Try.func6, Try.ntmps6
  go_wp2_with fail
  revert hrp hrr hP HB
  clear hb h
  generalize (w.alloc (.cells #[.slice a1 n1 c1, .slice a2 n2 c2, .slice a3 n3 c3] 25)).alloc (.cells #[.slice none 0 0, .slice none 0 0, .slice none 0 0] 32) = w1
  intro hrp hrr hP HB
  have HRR := Lib.hid hrr
  have HZ : Hid (w.heap.size + 1 < w1.heap.size ∧ w.heap.size < w1.heap.size) := Lib.hid (by have := (Array.getElem?_eq_some_iff.1 hrr).1; exact ⟨this, by omega⟩)
  have HC1 : Hid (∀ X, Below w1.heap.size w1 X → Calls Try.prog 20 #[.slice a1 n1 c1] X (CopyIPost X n1 l1)) := Lib.hid (fun X hX => copyI_any a1 n1 c1 l1 X (hP.h1.mono hX) (by omega))
  have HC2 : Hid (∀ X, Below w1.heap.size w1 X → Calls Try.prog 20 #[.slice a2 n2 c2] X (CopyIPost X n2 l2)) := Lib.hid (fun X hX => copyI_any a2 n2 c2 l2 X (hP.h2.mono hX) (by omega))
  have HC3 : Hid (∀ X, Below w1.heap.size w1 X → Calls Try.prog 20 #[.slice a3 n3 c3] X (CopyIPost X n3 l3)) := Lib.hid (fun X hX => copyI_any a3 n3 c3 l3 X (hP.h3.mono hX) (by omega))
  have p0 : w1.cell? ⟨w.heap.size, 0, none⟩ = some (.slice a1 n1 c1) := by rw [cell_of_row _ _ _ _ _ (0, 0) hrp]; rfl
  have p1 : w1.cell? ⟨w.heap.size, 1, none⟩ = some (.slice a2 n2 c2) := by rw [cell_of_row _ _ _ _ _ (0, 0) hrp]; rfl
  have p2 : w1.cell? ⟨w.heap.size, 2, none⟩ = some (.slice a3 n3 c3) := by rw [cell_of_row _ _ _ _ _ (0, 0) hrp]; rfl
  have HDD : Hid (Below w1.heap.size w1 w1.drew) := Lib.hid (Below.drew (Below.refl _ _))
  clear hrp hrr hP
  go_region_held3 (fun w' => w'.cell? ⟨w.heap.size, 0, none⟩ = some (.slice a1 n1 c1) ∧ w'.cell? ⟨w.heap.size, 1, none⟩ = some (.slice a2 n2 c2) ∧ w'.cell? ⟨w.heap.size, 2, none⟩ = some (.slice a3 n3 c3)) (go_keep)
    (first
      | (go_at_call 20; (with_reducible refine (HC1.out _ HDD.out).mono ?_); rintro e w3 ⟨g1, rfl, o1, hb3⟩; have HB3 := Lib.hid (below_then HDD.out hb3); have HO1 := Lib.hid o1; have HW3 := Lib.hid HDD.out.size; have s0 := (HB3.out.cell (p := ⟨w.heap.size, 0, none⟩) HZ.out.2).trans p0; have s1 := (HB3.out.cell (p := ⟨w.heap.size, 1, none⟩) HZ.out.2).trans p1; have s2 := (HB3.out.cell (p := ⟨w.heap.size, 2, none⟩) HZ.out.2).trans p2; clear hb3 o1)
      | (go_at_call 20; (with_reducible refine (HC2.out _ HB3.out).mono ?_); rintro e w4 ⟨g2, rfl, o2, hb4⟩; have HB4 := Lib.hid (below_then HB3.out hb4); have HO2 := Lib.hid o2; have HO12 := Lib.hid (own_below HO1.out hb4); have u0 := (HB4.out.cell (p := ⟨w.heap.size, 0, none⟩) HZ.out.2).trans p0; have u1 := (HB4.out.cell (p := ⟨w.heap.size, 1, none⟩) HZ.out.2).trans p1; have u2 := (HB4.out.cell (p := ⟨w.heap.size, 2, none⟩) HZ.out.2).trans p2; clear hb4 o2)
      | (go_at_call 20; (with_reducible refine (HC3.out _ HB4.out).mono ?_); rintro e w5 ⟨g3, rfl, o3, hb5⟩; have HB5 := Lib.hid (below_then HB4.out hb5); have HO3 := Lib.hid o3; have HO13 := Lib.hid (own_below HO12.out hb5); have HO23 := Lib.hid (own_below HO2.out hb5); have v0 := (HB5.out.cell (p := ⟨w.heap.size, 0, none⟩) HZ.out.2).trans p0; have v1 := (HB5.out.cell (p := ⟨w.heap.size, 1, none⟩) HZ.out.2).trans p1; have v2 := (HB5.out.cell (p := ⟨w.heap.size, 2, none⟩) HZ.out.2).trans p2; have hr5 := (HB5.out.block (w.heap.size + 1) HZ.out.1).trans HRR.out; have x0 : w5.cell? ⟨w.heap.size + 1, 0, none⟩ = some (.slice none 0 0) := (by rw [cell_of_row _ _ _ _ _ (0, 0) hr5]; rfl); have x1 : w5.cell? ⟨w.heap.size + 1, 1, none⟩ = some (.slice none 0 0) := (by rw [cell_of_row _ _ _ _ _ (0, 0) hr5]; rfl); have x2 : w5.cell? ⟨w.heap.size + 1, 2, none⟩ = some (.slice none 0 0) := (by rw [cell_of_row _ _ _ _ _ (0, 0) hr5]; rfl); have y0 := frozen_of_row w5 (w.heap.size + 1) 0 _ _ hr5; have y1 := frozen_of_row w5 (w.heap.size + 1) 1 _ _ hr5; have y2 := frozen_of_row w5 (w.heap.size + 1) 2 _ _ hr5; have HR5 := Lib.hid hr5; clear hb5 o3 hr5))
  go_wp2
  have r1 := heap_setCell_same w5 (w.heap.size + 1) 0 _ _ (.slice (some ⟨g1, 0, none⟩) n1 (n1 + 1)) HR5.out
  have r2 := heap_setCell_same _ (w.heap.size + 1) 1 _ _ (.slice (some ⟨g2, 0, none⟩) n2 (n2 + 1)) r1
  have r3 := heap_setCell_same _ (w.heap.size + 1) 2 _ _ (.slice (some ⟨g3, 0, none⟩) n3 (n3 + 1)) r2
  have hc : Ch w5 (((w5.setCell ⟨w.heap.size + 1, 0, none⟩ (.slice (some ⟨g1, 0, none⟩) n1 (n1 + 1))).setCell ⟨w.heap.size + 1, 1, none⟩ (.slice (some ⟨g2, 0, none⟩) n2 (n2 + 1))).setCell ⟨w.heap.size + 1, 2, none⟩ (.slice (some ⟨g3, 0, none⟩) n3 (n3 + 1))) (fun j => j = w.heap.size + 1) :=
    (((Ch.refl w5 (fun j => j = w.heap.size + 1)).set (p := ⟨w.heap.size + 1, 0, none⟩) (.inl rfl) _).set (p := ⟨w.heap.size + 1, 1, none⟩) (.inl rfl) _).set (p := ⟨w.heap.size + 1, 2, none⟩) (.inl rfl) _
  have z1 := HZ.out.1
  have z2 : w1.heap.size ≤ w1.drew.heap.size := HDD.out.size
  have z3 := HB3.out.size
  have z4 := HB4.out.size
  have hb5 := below_then HB.out HB5.out
  refine bodyPost_ret (results_cell_row (fn := Try.f6) (p := 2) rfl _ _ (w.heap.size + 1) _ _ (0, 0) _ rfl r3 Try.underlying32 rfl (by kernel_rfl)) rfl ⟨g1, g2, g3, rfl, ⟨?_, ?_, ?_⟩, hb5.trans (hc.below hb5.size (fun j hj => by rw [hj]; omega))⟩
  · exact own_base (hc.own HO13.out (fun b e => by have := (HO13.out.lt b e).1; omega)) (fun b e => by have := (HO13.out.lt b e).1; omega)
  · exact own_base (hc.own HO23.out (fun b e => by have := (HO23.out.lt b e).1; omega)) (fun b e => by have := (HO23.out.lt b e).1; omega)
  · exact own_base (hc.own HO3.out (fun b e => by have := (HO3.out.lt b e).1; omega)) (fun b e => by have := (HO3.out.lt b e).1; omega)
end Go.Proofs.Ytedncnaeojomcaa
