/- The law's kept. -/
import Derived.Test.YtedncnaeojomcaaParCopy
namespace Go.Proofs.Ytedncnaeojomcaa
open Go.RowKit
variable {w0 w : World} {a1 a2 a3 : Option Addr} {n1 c1 n2 c2 n3 c3 : Nat} {l1 l2 l3 : List Int} {g1 g2 g3 : Nat}
theorem Pa.Cp3.mono {w' : World} (h : Pa.Cp3 w0 w g1 n1 l1 g2 n2 l2 g3 n3 l3) (hb : Below w.heap.size w w') : Pa.Cp3 w0 w' g1 n1 l1 g2 n2 l2 g3 n3 l3 := ⟨own_below h.o1 hb, own_below h.o2 hb, own_below h.o3 hb⟩
set_option maxRecDepth 100000 in
set_option maxHeartbeats 2000000 in
theorem keptP_any (hc : Pa.Cp3 w0 w g1 n1 l1 g2 n2 l2 g3 n3 l3) (h : Pa.Pr w a1 n1 c1 l1 a2 n2 c2 l2 a3 n3 c3 l3) (k1 : n1 ≤ 1000) (k2 : n2 ≤ 1000) (k3 : n3 ≤ 1000) :
    Calls Try.prog 11 #[.agg #[.slice (some ⟨g1, 0, none⟩) n1 (n1 + 1), .slice (some ⟨g2, 0, none⟩) n2 (n2 + 1), .slice (some ⟨g3, 0, none⟩) n3 (n3 + 1)], .agg #[.slice a1 n1 c1, .slice a2 n2 c2, .slice a3 n3 c3]] w fun e w' => e = .returned (.bool true) ∧ Below w.heap.size w w' := by
  have hb := below_alloc2 w (.cells #[.slice (some ⟨g1, 0, none⟩) n1 (n1 + 1), .slice (some ⟨g2, 0, none⟩) n2 (n2 + 1), .slice (some ⟨g3, 0, none⟩) n3 (n3 + 1)] 32) (.cells #[.slice a1 n1 c1, .slice a2 n2 c2, .slice a3 n3 c3] 25)
  have hrq : ((w.alloc (.cells #[.slice (some ⟨g1, 0, none⟩) n1 (n1 + 1), .slice (some ⟨g2, 0, none⟩) n2 (n2 + 1), .slice (some ⟨g3, 0, none⟩) n3 (n3 + 1)] 32)).alloc (.cells #[.slice a1 n1 c1, .slice a2 n2 c2, .slice a3 n3 c3] 25)).heap[w.heap.size]? = some (.cells #[.slice (some ⟨g1, 0, none⟩) n1 (n1 + 1), .slice (some ⟨g2, 0, none⟩) n2 (n2 + 1), .slice (some ⟨g3, 0, none⟩) n3 (n3 + 1)] 32 (0, 0)) := heap_alloc2_old w _ _
  have hrp : ((w.alloc (.cells #[.slice (some ⟨g1, 0, none⟩) n1 (n1 + 1), .slice (some ⟨g2, 0, none⟩) n2 (n2 + 1), .slice (some ⟨g3, 0, none⟩) n3 (n3 + 1)] 32)).alloc (.cells #[.slice a1 n1 c1, .slice a2 n2 c2, .slice a3 n3 c3] 25)).heap[w.heap.size + 1]? = some (.cells #[.slice a1 n1 c1, .slice a2 n2 c2, .slice a3 n3 c3] 25 (0, 0)) := heap_alloc2_new w _ _
  have HC := Lib.hid (hc.mono hb)
  have HP := Lib.hid (h.mono hb)
  have HB := Lib.hid hb
  clear hc h hb
  go_enter Try.func11, Try.ntmps11
  revert hrq hrp HC HP HB
  have hz : (w.alloc (.cells #[.slice (some ⟨g1, 0, none⟩) n1 (n1 + 1), .slice (some ⟨g2, 0, none⟩) n2 (n2 + 1), .slice (some ⟨g3, 0, none⟩) n3 (n3 + 1)] 32)).heap.size = w.heap.size + 1 := by simp
  clear hz
  intro hrq hrp HC HP HB
  have cq : ∀ X, Below ((w.alloc (.cells #[.slice (some ⟨g1, 0, none⟩) n1 (n1 + 1), .slice (some ⟨g2, 0, none⟩) n2 (n2 + 1), .slice (some ⟨g3, 0, none⟩) n3 (n3 + 1)] 32)).alloc (.cells #[.slice a1 n1 c1, .slice a2 n2 c2, .slice a3 n3 c3] 25)).heap.size ((w.alloc (.cells #[.slice (some ⟨g1, 0, none⟩) n1 (n1 + 1), .slice (some ⟨g2, 0, none⟩) n2 (n2 + 1), .slice (some ⟨g3, 0, none⟩) n3 (n3 + 1)] 32)).alloc (.cells #[.slice a1 n1 c1, .slice a2 n2 c2, .slice a3 n3 c3] 25)) X →
      (X.cell? ⟨w.heap.size, 0, none⟩ = some (.slice (some ⟨g1, 0, none⟩) n1 (n1 + 1)) ∧ X.cell? ⟨w.heap.size, 1, none⟩ = some (.slice (some ⟨g2, 0, none⟩) n2 (n2 + 1)) ∧ X.cell? ⟨w.heap.size, 2, none⟩ = some (.slice (some ⟨g3, 0, none⟩) n3 (n3 + 1))) ∧
      (X.cell? ⟨w.heap.size + 1, 0, none⟩ = some (.slice a1 n1 c1) ∧ X.cell? ⟨w.heap.size + 1, 1, none⟩ = some (.slice a2 n2 c2) ∧ X.cell? ⟨w.heap.size + 1, 2, none⟩ = some (.slice a3 n3 c3)) := fun X hX => by
    have e1 := (hX.block _ (Array.getElem?_eq_some_iff.1 hrq).1).trans hrq
    have e2 := (hX.block _ (Array.getElem?_eq_some_iff.1 hrp).1).trans hrp
    refine ⟨⟨?_, ?_, ?_⟩, ?_, ?_, ?_⟩
    · rw [cell_of_row _ _ _ _ _ (0, 0) e1]; rfl
    · rw [cell_of_row _ _ _ _ _ (0, 0) e1]; rfl
    · rw [cell_of_row _ _ _ _ _ (0, 0) e1]; rfl
    · rw [cell_of_row _ _ _ _ _ (0, 0) e2]; rfl
    · rw [cell_of_row _ _ _ _ _ (0, 0) e2]; rfl
    · rw [cell_of_row _ _ _ _ _ (0, 0) e2]; rfl
  have HQ := Lib.hid cq
  clear cq hrq hrp
  generalize hw1 : (w.alloc (.cells #[.slice (some ⟨g1, 0, none⟩) n1 (n1 + 1), .slice (some ⟨g2, 0, none⟩) n2 (n2 + 1), .slice (some ⟨g3, 0, none⟩) n3 (n3 + 1)] 32)).alloc (.cells #[.slice a1 n1 c1, .slice a2 n2 c2, .slice a3 n3 c3] 25) = w1 at *
  obtain ⟨⟨q0, q1, q2⟩, p0, p1, p2⟩ := HQ.out w1 (Below.refl _ _)
  subst hw1
  go_wp2_with fail
  refine (keptI_any g1 n1 a1 c1 l1 _ _ (by omega) HP.out.h1.wf HC.out.o1 HP.out.h1).mono ?_
  rintro e w' ⟨rfl, m1, rfl⟩
  clear q0 q1 q2 p0 p1 p2
  revert HC HP HB HQ
  generalize (w.alloc (.cells #[.slice (some ⟨g1, 0, none⟩) n1 (n1 + 1), .slice (some ⟨g2, 0, none⟩) n2 (n2 + 1), .slice (some ⟨g3, 0, none⟩) n3 (n3 + 1)] 32)).alloc (.cells #[.slice a1 n1 c1, .slice a2 n2 c2, .slice a3 n3 c3] 25) = w1
  intro HC HP HB HQ
  obtain ⟨⟨_, q1, _⟩, _, p1, _⟩ := HQ.out _ (drewN_is w1 m1)
  go_wp2_with fail
  refine (keptI_any g2 n2 a2 c2 l2 _ _ (by omega) HP.out.h2.wf (HC.out.mono (drewN_is w1 m1)).o2 (HP.out.mono (drewN_is w1 m1)).h2).mono ?_
  rintro e w' ⟨rfl, m2, rfl⟩
  clear q1 p1
  rw [drewN_two]
  obtain ⟨⟨_, _, q2⟩, _, _, p2⟩ := HQ.out _ (drewN_is w1 (m1 + m2))
  go_wp2_with fail
  refine (keptI_any g3 n3 a3 c3 l3 _ _ (by omega) HP.out.h3.wf (HC.out.mono (drewN_is w1 (m1 + m2))).o3 (HP.out.mono (drewN_is w1 (m1 + m2))).h3).mono ?_
  rintro e w' ⟨rfl, m3, rfl⟩
  rw [drewN_two]
  go_wp2
  go_ret
  exact ⟨rfl, below_then HB.out (drewN_is w1 _)⟩
end Go.Proofs.Ytedncnaeojomcaa
