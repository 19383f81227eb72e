/- Which prices are in form: parse.Prices.valid, the document's Good, the law's large. -/
import Derived.Test.YtedncnaeojomcaaParRng
namespace Go.Proofs.Ytedncnaeojomcaa
open Go.RowKit
namespace Pa
/-- Prices as they lie: three slices. -/
structure Pr (w : World) (a1 : Option Addr) (n1 c1 : Nat) (l1 : List Int) (a2 : Option Addr) (n2 c2 : Nat) (l2 : List Int) (a3 : Option Addr) (n3 c3 : Nat) (l3 : List Int) : Prop where
  h1 : Is .i64 w a1 n1 c1 l1
  h2 : Is .i64 w a2 n2 c2 l2
  h3 : Is .i64 w a3 n3 c3 l3
  s1 : n1 ≤ 281474976710656
  s2 : n2 ≤ 281474976710656
  s3 : n3 ≤ 281474976710656
theorem Pr.mono {w w' : World} {a1 a2 a3 : Option Addr} {n1 c1 n2 c2 n3 c3 : Nat} {l1 l2 l3 : List Int} (h : Pr w a1 n1 c1 l1 a2 n2 c2 l2 a3 n3 c3 l3) (hb : Below w.heap.size w w') : Pr w' a1 n1 c1 l1 a2 n2 c2 l2 a3 n3 c3 l3 := ⟨h.h1.mono hb, h.h2.mono hb, h.h3.mono hb, h.s1, h.s2, h.s3⟩
/-- They are in form. -/
def good (l1 l2 l3 : List Int) : Bool := (rng l1 && decide (l1.length = 256)) && (rng l2 && decide (l2.length = 259)) && (rng l3 && decide (l3.length = 30))
end Pa
section
variable {w : World} {a1 a2 a3 : Option Addr} {n1 c1 n2 c2 n3 c3 : Nat} {l1 l2 l3 : List Int}
set_option maxHeartbeats 1000000 in
theorem valid_any (h : Pa.Pr w a1 n1 c1 l1 a2 n2 c2 l2 a3 n3 c3 l3) :
    Calls Try.prog 18 #[.agg #[.slice a1 n1 c1, .slice a2 n2 c2, .slice a3 n3 c3]] w fun e w' => e = .returned (.bool (Pa.good l1 l2 l3)) ∧ Below w.heap.size w w' := by
  have hb := below_alloc w (.cells #[.slice a1 n1 c1, .slice a2 n2 c2, .slice a3 n3 c3] 32)
  have hrow : (w.alloc (.cells #[.slice a1 n1 c1, .slice a2 n2 c2, .slice a3 n3 c3] 32)).heap[w.heap.size]? = some (.cells #[.slice a1 n1 c1, .slice a2 n2 c2, .slice a3 n3 c3] 32 (0, 0)) := heap_alloc_last w _
  have hp := h.mono hb
  have q1 := inRange_any a1 n1 c1 l1 256 _ hp.h1 h.s1
  have q2 := inRange_any a2 n2 c2 l2 259 _ hp.h2 h.s2
  have q3 := inRange_any a3 n3 c3 l3 30 _ hp.h3 h.s3
  have HB := Lib.hid hb
  have e : Pa.good l1 l2 l3 = ((Pa.rng l1 && decide (n1 = 256)) && (Pa.rng l2 && decide (n2 = 259)) && (Pa.rng l3 && decide (n3 = 30))) := by unfold Pa.good; rw [h.h1.hlen, h.h2.hlen, h.h3.hlen]
  rw [e]
  clear e hb hp h
  generalize (Pa.rng l1 && decide (n1 = 256)) = b1 at *
  generalize (Pa.rng l2 && decide (n2 = 259)) = b2 at *
  generalize (Pa.rng l3 && decide (n3 = 30)) = b3 at *
  have HQ1 := Lib.hid q1
  have HQ2 := Lib.hid q2
  have HQ3 := Lib.hid q3
  clear q1 q2 q3
  generalize hw1 : w.alloc (.cells #[.slice a1 n1 c1, .slice a2 n2 c2, .slice a3 n3 c3] 32) = w1 at *
  have c0 : w1.cell? ⟨w.heap.size, 0, none⟩ = some (.slice a1 n1 c1) := by rw [cell_of_row _ _ _ _ _ (0, 0) hrow]; rfl
  have c1' : w1.cell? ⟨w.heap.size, 1, none⟩ = some (.slice a2 n2 c2) := by rw [cell_of_row _ _ _ _ _ (0, 0) hrow]; rfl
  have c2' : w1.cell? ⟨w.heap.size, 2, none⟩ = some (.slice a3 n3 c3) := by rw [cell_of_row _ _ _ _ _ (0, 0) hrow]; rfl
  subst hw1
  clear hrow
  go_enter Try.func18, Try.ntmps18
  go_wp2_with fail
  refine HQ1.out.mono ?_
  rintro e w' ⟨rfl, rfl⟩
  cases b1
  · go_wp2
    go_ret
    exact ⟨rfl, HB.out⟩
  go_wp2_with fail
  refine HQ2.out.mono ?_
  rintro e w' ⟨rfl, rfl⟩
  cases b2
  · go_wp2
    go_ret
    exact ⟨rfl, HB.out⟩
  go_wp2_with fail
  refine HQ3.out.mono ?_
  rintro e w' ⟨rfl, rfl⟩
  go_wp2
  go_ret
  exact ⟨rfl, HB.out⟩
set_option maxHeartbeats 2000000 in
theorem refGood_any (h : Pa.Pr w a1 n1 c1 l1 a2 n2 c2 l2 a3 n3 c3 l3) :
    Calls Try.prog 9 #[.agg #[.slice a1 n1 c1, .slice a2 n2 c2, .slice a3 n3 c3]] w fun e w' => e = .returned (.bool (Pa.good l1 l2 l3)) ∧ Below w.heap.size w w' := by
  have hb := below_alloc w (.cells #[.slice a1 n1 c1, .slice a2 n2 c2, .slice a3 n3 c3] 25)
  have hrow : (w.alloc (.cells #[.slice a1 n1 c1, .slice a2 n2 c2, .slice a3 n3 c3] 25)).heap[w.heap.size]? = some (.cells #[.slice a1 n1 c1, .slice a2 n2 c2, .slice a3 n3 c3] 25 (0, 0)) := heap_alloc_last w _
  have HB := Lib.hid hb
  have c0 : (w.alloc (.cells #[.slice a1 n1 c1, .slice a2 n2 c2, .slice a3 n3 c3] 25)).cell? ⟨w.heap.size, 0, none⟩ = some (.slice a1 n1 c1) := by rw [cell_of_row _ _ _ _ _ (0, 0) hrow]; rfl
  have c1' : (w.alloc (.cells #[.slice a1 n1 c1, .slice a2 n2 c2, .slice a3 n3 c3] 25)).cell? ⟨w.heap.size, 1, none⟩ = some (.slice a2 n2 c2) := by rw [cell_of_row _ _ _ _ _ (0, 0) hrow]; rfl
  have c2' : (w.alloc (.cells #[.slice a1 n1 c1, .slice a2 n2 c2, .slice a3 n3 c3] 25)).cell? ⟨w.heap.size, 2, none⟩ = some (.slice a3 n3 c3) := by rw [cell_of_row _ _ _ _ _ (0, 0) hrow]; rfl
  have hp := h.mono hb
  have HQ1 := Lib.hid (within_any a1 n1 c1 l1 _ hp.h1 h.s1)
  have HQ2 := Lib.hid (within_any a2 n2 c2 l2 _ hp.h2 h.s2)
  have HQ3 := Lib.hid (within_any a3 n3 c3 l3 _ hp.h3 h.s3)
  have HL := Lib.hid (And.intro h.h1.hlen (And.intro h.h2.hlen h.h3.hlen))
  clear hb hp h hrow
  go_enter Try.func9, Try.ntmps9
  by_cases e1 : n1 = 256
  rotate_left
  · have d1 : ((n1 : Int) == 256) = false := by simp; omega
    have HE : Hid (Pa.good l1 l2 l3 = false) := Lib.hid (by unfold Pa.good; rw [HL.out.1]; simp [e1])
    clear e1
    go_wp2
    go_ret
    exact ⟨by rw [HE.out]; rfl, HB.out⟩
  have d1 : ((n1 : Int) == 256) = true := by simp; omega
  by_cases e2 : n2 = 259
  rotate_left
  · have d2 : ((n2 : Int) == 259) = false := by simp; omega
    have HE : Hid (Pa.good l1 l2 l3 = false) := Lib.hid (by unfold Pa.good; rw [HL.out.2.1]; simp [e2])
    clear e1 e2
    go_wp2
    go_ret
    exact ⟨by rw [HE.out]; rfl, HB.out⟩
  have d2 : ((n2 : Int) == 259) = true := by simp; omega
  by_cases e3 : n3 = 30
  rotate_left
  · have d3 : ((n3 : Int) == 30) = false := by simp; omega
    have HE : Hid (Pa.good l1 l2 l3 = false) := Lib.hid (by unfold Pa.good; rw [HL.out.2.2]; simp [e3])
    clear e1 e2 e3
    go_wp2
    go_ret
    exact ⟨by rw [HE.out]; rfl, HB.out⟩
  have d3 : ((n3 : Int) == 30) = true := by simp; omega
  have HE : Hid (Pa.good l1 l2 l3 = (Pa.rng l1 && Pa.rng l2 && Pa.rng l3)) := Lib.hid (by unfold Pa.good; rw [HL.out.1, HL.out.2.1, HL.out.2.2]; simp [e1, e2, e3])
  rw [HE.out]
  clear e1 e2 e3 HE HL
  generalize Pa.rng l1 = b1 at *
  generalize Pa.rng l2 = b2 at *
  generalize Pa.rng l3 = b3 at *
  go_wp2_with fail
  refine HQ1.out.mono ?_
  rintro e w' ⟨rfl, rfl⟩
  cases b1
  · go_wp2
    go_ret
    exact ⟨rfl, HB.out⟩
  go_wp2_with fail
  refine HQ2.out.mono ?_
  rintro e w' ⟨rfl, rfl⟩
  cases b2
  · go_wp2
    go_ret
    exact ⟨rfl, HB.out⟩
  go_wp2_with fail
  refine HQ3.out.mono ?_
  rintro e w' ⟨rfl, rfl⟩
  go_wp2
  go_ret
  exact ⟨rfl, HB.out⟩
theorem large_any (h : Pa.Pr w a1 n1 c1 l1 a2 n2 c2 l2 a3 n3 c3 l3) :
    Calls Try.prog 8 #[.agg #[.slice a1 n1 c1, .slice a2 n2 c2, .slice a3 n3 c3]] w fun e w' => e = .returned (.bool (decide (1000 < n1) || decide (1000 < n2) || decide (1000 < n3))) ∧ Below w.heap.size w w' := by
  have hb := below_alloc w (.cells #[.slice a1 n1 c1, .slice a2 n2 c2, .slice a3 n3 c3] 25)
  have hrow : (w.alloc (.cells #[.slice a1 n1 c1, .slice a2 n2 c2, .slice a3 n3 c3] 25)).heap[w.heap.size]? = some (.cells #[.slice a1 n1 c1, .slice a2 n2 c2, .slice a3 n3 c3] 25 (0, 0)) := heap_alloc_last w _
  have HB := Lib.hid hb
  have c0 : (w.alloc (.cells #[.slice a1 n1 c1, .slice a2 n2 c2, .slice a3 n3 c3] 25)).cell? ⟨w.heap.size, 0, none⟩ = some (.slice a1 n1 c1) := by rw [cell_of_row _ _ _ _ _ (0, 0) hrow]; rfl
  have c1' : (w.alloc (.cells #[.slice a1 n1 c1, .slice a2 n2 c2, .slice a3 n3 c3] 25)).cell? ⟨w.heap.size, 1, none⟩ = some (.slice a2 n2 c2) := by rw [cell_of_row _ _ _ _ _ (0, 0) hrow]; rfl
  have c2' : (w.alloc (.cells #[.slice a1 n1 c1, .slice a2 n2 c2, .slice a3 n3 c3] 25)).cell? ⟨w.heap.size, 2, none⟩ = some (.slice a3 n3 c3) := by rw [cell_of_row _ _ _ _ _ (0, 0) hrow]; rfl
  clear hb h hrow
  go_enter Try.func8, Try.ntmps8
  by_cases e1 : 1000 < n1
  · have d1 : decide ((1000 : Int) < (n1 : Int)) = true := by simp; omega
    rw [decide_eq_true e1]
    clear e1
    go_wp2
    go_ret
    exact ⟨rfl, HB.out⟩
  have d1 : decide ((1000 : Int) < (n1 : Int)) = false := by simp; omega
  rw [decide_eq_false e1]
  by_cases e2 : 1000 < n2
  · have d2 : decide ((1000 : Int) < (n2 : Int)) = true := by simp; omega
    rw [decide_eq_true e2]
    clear e1 e2
    go_wp2
    go_ret
    exact ⟨rfl, HB.out⟩
  have d2 : decide ((1000 : Int) < (n2 : Int)) = false := by simp; omega
  rw [decide_eq_false e2]
  by_cases e3 : 1000 < n3
  · have d3 : decide ((1000 : Int) < (n3 : Int)) = true := by simp; omega
    rw [decide_eq_true e3]
    clear e1 e2 e3
    go_wp2
    go_ret
    exact ⟨rfl, HB.out⟩
  have d3 : decide ((1000 : Int) < (n3 : Int)) = false := by simp; omega
  rw [decide_eq_false e3]
  clear e1 e2 e3
  go_wp2
  go_ret
  exact ⟨rfl, HB.out⟩
end
end Go.Proofs.Ytedncnaeojomcaa
