/- lace.steps, of, place, goodSide, goodPass, goodLace: their contracts. -/
import Derived.Test.YtfdnjblbhbkndaaDoorProg
import Derived.Test.YtfdnjblbhbkndaaDoorLcMath
import Derived.Test.YtfdnjblbhbkndaaDoorDrewN
import Derived.Laws.ResultCell
import Derived.Deep.RegionHeld3
import Derived.Deep.QuietTactic
import Derived.BigQuiet
namespace Go.Proofs.YtfdnjblbhbkndaaDoor
open Go.RowKit

namespace Lc
def big : Nat := 262144
theorem tdiv_small (a d : Nat) : ((a : Int)).tdiv (d : Int) = ((a / d : Nat) : Int) := by
  rw [Int.tdiv_eq_ediv_of_nonneg (by omega)]; omega
theorem stp_le' (a d n : Nat) : stp a d n ≤ n := by
  unfold stp
  split
  · have := Nat.div_le_self (n - a - 1) d; omega
  · omega
theorem steps_any (a d n : Nat) (hd : 0 < d) (hd8 : d ≤ 8) (ha : a ≤ 8) (hn : n ≤ 262144) (w : World) :
    Calls Tryd.prog 24 #[.int .i64 (a : Nat), .int .i64 (d : Nat), .int .i64 (n : Nat)] w fun e w' => e = .returned (.int .i64 (stp a d n : Nat)) ∧ w = w' := by
  by_cases h : a < n
  · have d1 : decide (n ≤ a) = false := by simp; omega
    have hq := Nat.div_le_self (n - a - 1) d
    have HS : Hid (stp a d n = (n - a - 1) / d + 1) := Lib.hid (by unfold stp; rw [if_pos h])
    have e1 : wrap64 ((n : Int) - (a : Int)) = ((n - a : Nat) : Int) := by rw [IntWalk.wrap64_in _ ⟨by omega, by omega⟩]; omega
    have e2 : wrap64 (((n - a : Nat) : Int) - 1) = ((n - a - 1 : Nat) : Int) := by rw [IntWalk.wrap64_in _ ⟨by omega, by omega⟩]; omega
    have e3 := tdiv_small (n - a - 1) d
    generalize (n - a - 1) / d = q at *
    have e4 : wrap64 (q : Int) = (q : Int) := IntWalk.wrap64_in _ ⟨by omega, by omega⟩
    have e5 : wrap64 ((q : Int) + 1) = ((q + 1 : Nat) : Int) := by rw [IntWalk.wrap64_in _ ⟨by omega, by omega⟩]; omega
    have dz : ((d : Int) == 0) = false := by simp; omega
    clear hq h hn ha
    go_enter Tryd.func24, Tryd.ntmps24
    go_wp2
    go_ret
    exact ⟨by rw [HS.out]; exact ret_int e5, rfl⟩
  · have d1 : decide (n ≤ a) = true := by simp; omega
    have HS : Hid (stp a d n = 0) := Lib.hid (by unfold stp; rw [if_neg h])
    clear h
    go_enter Tryd.func24, Tryd.ntmps24
    go_wp2
    go_ret
    exact ⟨by rw [HS.out]; rfl, rfl⟩
def side (n : Int) : Bool := decide (1 ≤ n) && decide (n ≤ 65535)
theorem goodSide_any (n : Int) (w : World) : Calls Tryd.prog 20 #[.int .i64 n] w fun e w' => e = .returned (.bool (side n)) ∧ w = w' := by
  unfold side
  by_cases h : 1 ≤ n
  · have d1 : decide (1 ≤ n) = true := by simpa using h
    clear h
    go_enter Tryd.func20, Tryd.ntmps20
    go_wp2
    go_ret
    exact ⟨by rw [d1]; rfl, rfl⟩
  · have d1 : decide (1 ≤ n) = false := by simpa using h
    clear h
    go_enter Tryd.func20, Tryd.ntmps20
    go_wp2
    go_ret
    exact ⟨by rw [d1]; rfl, rfl⟩
def isPass (n : Int) : Bool := decide (0 ≤ n) && decide (n < 7)
theorem goodPass_any (n : Int) (w : World) : Calls Tryd.prog 21 #[.int .i64 n] w fun e w' => e = .returned (.bool (isPass n)) ∧ w = w' := by
  unfold isPass
  by_cases h : 0 ≤ n
  · have d1 : decide (0 ≤ n) = true := by simpa using h
    clear h
    go_enter Tryd.func21, Tryd.ntmps21
    go_wp2
    go_ret
    exact ⟨by rw [d1]; rfl, rfl⟩
  · have d1 : decide (0 ≤ n) = false := by simpa using h
    clear h
    go_enter Tryd.func21, Tryd.ntmps21
    go_wp2
    go_ret
    exact ⟨by rw [d1]; rfl, rfl⟩
/-- A part in a block of its own. -/
def Pa.val (a : Pa) : Value := .agg #[.int .i64 (a.x : Nat), .int .i64 (a.dx : Nat), .int .i64 (a.y : Nat), .int .i64 (a.dy : Nat), .int .i64 (a.c : Nat), .int .i64 (a.r : Nat)]
def Pa.cells (a : Pa) : Array Value := #[.int .i64 (a.x : Nat), .int .i64 (a.dx : Nat), .int .i64 (a.y : Nat), .int .i64 (a.dy : Nat), .int .i64 (a.c : Nat), .int .i64 (a.r : Nat)]
def pcells (x dx y dy : Nat) : Array Value := #[.int .i64 (x : Nat), .int .i64 (dx : Nat), .int .i64 (y : Nat), .int .i64 (dy : Nat)]
def pval (x dx y dy : Nat) : Value := .agg (pcells x dx y dy)
/-- What a picture has of any pass. -/
def ofG (x dx y dy w h : Nat) : Pa := if stp x dx w = 0 ∨ stp y dy h = 0 then ⟨x, dx, y, dy, 0, 0⟩ else ⟨x, dx, y, dy, stp x dx w, stp y dy h⟩
theorem load_pa {W : World} {g : Nat} {x : Pa} (h : W.heap[g]? = some (.cells x.cells 54 (0, 0))) : (loadVar 54 ⟨g, 0, none⟩).run Tryd.prog W = .ok x.val W :=
  run_loadVar_row W g _ 54 _ (0, 0) _ h Tryd.underlying54 rfl (by kernel_rfl)
theorem load_ps {W : World} {g x dx y dy : Nat} (h : W.heap[g]? = some (.cells (pcells x dx y dy) 52 (0, 0))) : (loadVar 52 ⟨g, 0, none⟩).run Tryd.prog W = .ok (pval x dx y dy) W :=
  run_loadVar_row W g _ 52 _ (0, 0) _ h Tryd.underlying52 rfl (by kernel_rfl)
theorem pa_set {W : World} {g : Nat} {y : Pa} (h : W.heap[g]? = some (.cells y.cells 54 (0, 0))) (x : Pa) : ((((((W.setCell ⟨g, 0, none⟩ (.int .i64 (x.x : Nat))).setCell ⟨g, 1, none⟩ (.int .i64 (x.dx : Nat))).setCell ⟨g, 2, none⟩ (.int .i64 (x.y : Nat))).setCell ⟨g, 3, none⟩ (.int .i64 (x.dy : Nat))).setCell ⟨g, 4, none⟩ (.int .i64 (x.c : Nat))).setCell ⟨g, 5, none⟩ (.int .i64 (x.r : Nat))).heap[g]? = some (.cells x.cells 54 (0, 0)) :=
  heap_setCell_same _ g 5 _ _ _ (heap_setCell_same _ g 4 _ _ _ (heap_setCell_same _ g 3 _ _ _ (heap_setCell_same _ g 2 _ _ _ (heap_setCell_same _ g 1 _ _ _ (heap_setCell_same W g 0 _ _ _ h)))))
theorem below_set6 {w W : World} {B g : Nat} (hg : B ≤ g) (h : Below B w W) (a b c d e f : Value) : Below B w ((((((W.setCell ⟨g, 0, none⟩ a).setCell ⟨g, 1, none⟩ b).setCell ⟨g, 2, none⟩ c).setCell ⟨g, 3, none⟩ d).setCell ⟨g, 4, none⟩ e).setCell ⟨g, 5, none⟩ f) :=
  (((((h.setCell (p := ⟨g, 0, none⟩) hg _).setCell (p := ⟨g, 1, none⟩) hg _).setCell (p := ⟨g, 2, none⟩) hg _).setCell (p := ⟨g, 3, none⟩) hg _).setCell (p := ⟨g, 4, none⟩) hg _).setCell (p := ⟨g, 5, none⟩) hg _
theorem results_cell1 {fn : Func} {p : Tmp} {ty : TypeId} (h : fn.results = #[.cell p ty]) (tmps : Array Value) (P : Program) (w : World) :
    (results fn tmps).run P w = ((asAddr (tmps.getD p undef)).run P w).andThen fun a w₁ => (loadVar ty a).run P w₁ := by
  simp only [results, h]
  cases h1 : (asAddr (tmps.getD p undef)).run P w with
  | ok a w1 => cases h2 : (loadVar ty a).run P w1 <;> simp_all [Sem.run_bind, Result.andThen]
  | halt => simp_all [Sem.run_bind, Result.andThen]
theorem res_pa (fn : Func) (hf : fn.results = #[.cell 6 54]) (tmps : Array Value) (W : World) (g : Nat) (x : Pa) (hp : tmps.getD 6 undef = .pointer (some ⟨g, 0, none⟩)) (h : W.heap[g]? = some (.cells x.cells 54 (0, 0))) : (results fn tmps).run Tryd.prog W = .ok x.val W := by
  refine (results_cell1 (p := 6) (ty := 54) hf tmps Tryd.prog W).trans ?_
  rw [hp]
  simp [asAddr, load_pa h, Result.andThen]
set_option maxRecDepth 100000 in
set_option maxHeartbeats 1000000 in
theorem of_any (x dx y dy wd ht : Nat) (h1 : 0 < dx) (h2 : dx ≤ 8) (h3 : x ≤ 8) (k1 : 0 < dy) (k2 : dy ≤ 8) (k3 : y ≤ 8) (hw : wd ≤ 262144) (hh : ht ≤ 262144) (w : World) :
    Calls Tryd.prog 23 #[pval x dx y dy, .int .i64 (wd : Nat), .int .i64 (ht : Nat)] w fun e w' => e = .returned (ofG x dx y dy wd ht).val ∧ Below w.heap.size w w' := by
  have HS := Lib.hid (fun (a d n : Nat) (w : World) (h : (a = x ∧ d = dx ∧ n = wd) ∨ (a = y ∧ d = dy ∧ n = ht)) => steps_any a d n (by rcases h with ⟨rfl, rfl, rfl⟩ | ⟨rfl, rfl, rfl⟩ <;> omega) (by rcases h with ⟨rfl, rfl, rfl⟩ | ⟨rfl, rfl, rfl⟩ <;> omega) (by rcases h with ⟨rfl, rfl, rfl⟩ | ⟨rfl, rfl, rfl⟩ <;> omega) (by rcases h with ⟨rfl, rfl, rfl⟩ | ⟨rfl, rfl, rfl⟩ <;> omega) w)
  unfold pval pcells
  go_enter Tryd.func23, Tryd.ntmps23
  go_wp2_with fail
  have hA : (w.alloc (.cells #[.int .i64 (x : Nat), .int .i64 (dx : Nat), .int .i64 (y : Nat), .int .i64 (dy : Nat)] 52)).heap[w.heap.size]? = some (.cells (pcells x dx y dy) 52 (0, 0)) := heap_alloc_last w _
  have hB := below_alloc (w.alloc (.cells #[.int .i64 (x : Nat), .int .i64 (dx : Nat), .int .i64 (y : Nat), .int .i64 (dy : Nat)] 52)) (.cells #[.int .i64 0, .int .i64 0, .int .i64 0, .int .i64 0, .int .i64 0, .int .i64 0] 54)
  have hR := heap_alloc_last (w.alloc (.cells #[.int .i64 (x : Nat), .int .i64 (dx : Nat), .int .i64 (y : Nat), .int .i64 (dy : Nat)] 52)) (.cells #[.int .i64 0, .int .i64 0, .int .i64 0, .int .i64 0, .int .i64 0, .int .i64 0] 54)
  have hW := below_then (below_alloc w (.cells #[.int .i64 (x : Nat), .int .i64 (dx : Nat), .int .i64 (y : Nat), .int .i64 (dy : Nat)] 52)) hB
  have hA2 := (hB.block _ (by simp)).trans hA
  rw [World.size_alloc] at hR
  clear hA hB
  revert hR hW hA2
  generalize (w.alloc _).alloc _ = w2
  intro hR hW hA2
  have c0 : w2.cell? ⟨w.heap.size, 0, none⟩ = some (.int .i64 (x : Nat)) := by rw [cell_of_row _ _ _ _ _ (0, 0) hA2]; rfl
  have c1 : w2.cell? ⟨w.heap.size, 1, none⟩ = some (.int .i64 (dx : Nat)) := by rw [cell_of_row _ _ _ _ _ (0, 0) hA2]; rfl
  have c2 : w2.cell? ⟨w.heap.size, 2, none⟩ = some (.int .i64 (y : Nat)) := by rw [cell_of_row _ _ _ _ _ (0, 0) hA2]; rfl
  have c3 : w2.cell? ⟨w.heap.size, 3, none⟩ = some (.int .i64 (dy : Nat)) := by rw [cell_of_row _ _ _ _ _ (0, 0) hA2]; rfl
  have HDN := Lib.hid (fun m => hW.trans ((drewN_is w2 m).mono hW.size))
  have HLR := Lib.hid (fun m => (show (w2.drewN m).heap[w.heap.size + 1]? = _ from hR))
  clear hW hA2 hR
  clear h1 h2 h3 k1 k2 k3 hw hh
  go_quiet (first | (go_at_call 24; exact Calls.quiet_of_same ((HS.out _ _ _ _ (by first | exact .inl ⟨rfl, rfl, rfl⟩ | exact .inr ⟨rfl, rfl, rfl⟩)).mono (fun e w' h => ⟨h.1, h.2.symm⟩))))
  have HD := Lib.hid (HDN.out nq)
  have HR : Hid ((w2.drewN nq).heap[w.heap.size + 1]? = some (.cells (⟨0, 0, 0, 0, 0, 0⟩ : Pa).cells 54 (0, 0))) := Lib.hid (HLR.out nq)
  have q0 : (w2.drewN nq).cell? ⟨w.heap.size, 0, none⟩ = some (.int .i64 (x : Nat)) := c0
  have q1 : (w2.drewN nq).cell? ⟨w.heap.size, 1, none⟩ = some (.int .i64 (dx : Nat)) := c1
  have q2 : (w2.drewN nq).cell? ⟨w.heap.size, 2, none⟩ = some (.int .i64 (y : Nat)) := c2
  have q3 : (w2.drewN nq).cell? ⟨w.heap.size, 3, none⟩ = some (.int .i64 (dy : Nat)) := c3
  have HC := Lib.hid (show stp x dx wd = 0 ∨ stp y dy ht = 0 → ofG x dx y dy wd ht = ⟨x, dx, y, dy, 0, 0⟩ from fun h => if_pos h)
  have HC2 := Lib.hid (show ¬ (stp x dx wd = 0 ∨ stp y dy ht = 0) → ofG x dx y dy wd ht = ⟨x, dx, y, dy, stp x dx wd, stp y dy ht⟩ from fun h => if_neg h)
  clear HDN HLR c0 c1 c2 c3 HS
  revert HD HR q0 q1 q2 q3
  generalize w2.drewN nq = w3
  intro HD HR q0 q1 q2 q3
  have HS1 := Lib.hid (fun z => pa_set HR.out z)
  have HS2 := Lib.hid (fun a b c d e f => below_set6 (g := w.heap.size + 1) (by omega) HD.out a b c d e f)
  have HCF : ∀ i, i < 6 → w3.cell? ⟨w.heap.size + 1, i, none⟩ = some (.int .i64 0) ∧ w3.frozen? ⟨w.heap.size + 1, i, none⟩ = false := fun i hi => ⟨by rw [cell_of_row _ _ i _ _ (0, 0) HR.out]; match i, hi with | 0, _ | 1, _ | 2, _ | 3, _ | 4, _ | 5, _ => rfl, frozen_of_row _ _ i _ _ HR.out⟩
  obtain ⟨t0, u0⟩ := HCF 0 (by omega)
  obtain ⟨t1, u1⟩ := HCF 1 (by omega)
  obtain ⟨t2, u2⟩ := HCF 2 (by omega)
  obtain ⟨t3, u3⟩ := HCF 3 (by omega)
  obtain ⟨t4, u4⟩ := HCF 4 (by omega)
  obtain ⟨t5, u5⟩ := HCF 5 (by omega)
  clear HR HD HCF
  generalize h8 : stp x dx wd = s1 at *
  generalize h9 : stp y dy ht = s2 at *
  clear h8 h9
  by_cases h1 : s1 = 0
  · subst h1
    have HZ := Lib.hid (HC.out (.inl rfl))
    clear HC HC2
    go_wp2
    refine bodyPost_ret (res_pa _ rfl _ _ (w.heap.size + 1) ⟨x, dx, y, dy, 0, 0⟩ rfl ?_) rfl ⟨by rw [HZ.out], ?_⟩
    · exact HS1.out ⟨x, dx, y, dy, 0, 0⟩
    · exact HS2.out _ _ _ _ _ _
  have d1 : ((s1 : Int) == 0) = false := by simp; omega
  by_cases h2 : s2 = 0
  · subst h2
    have HZ := Lib.hid (HC.out (.inr rfl))
    clear HC HC2 h1
    go_wp2
    refine bodyPost_ret (res_pa _ rfl _ _ (w.heap.size + 1) ⟨x, dx, y, dy, 0, 0⟩ rfl ?_) rfl ⟨by rw [HZ.out], ?_⟩
    · exact HS1.out ⟨x, dx, y, dy, 0, 0⟩
    · exact HS2.out _ _ _ _ _ _
  have d2 : ((s2 : Int) == 0) = false := by simp; omega
  have HZ := Lib.hid (HC2.out (by omega))
  clear HC HC2 h1 h2
  go_wp2
  refine bodyPost_ret (res_pa _ rfl _ _ (w.heap.size + 1) ⟨x, dx, y, dy, s1, s2⟩ rfl ?_) rfl ⟨by rw [HZ.out], ?_⟩
  · exact HS1.out ⟨x, dx, y, dy, s1, s2⟩
  · exact HS2.out _ _ _ _ _ _
theorem ret_two {a b a' b' : Int} (h1 : a = a') (h2 : b = b') : Ending.returned (.tuple #[.int .i64 a, .int .i64 b]) = Ending.returned (.tuple #[.int .i64 a', .int .i64 b']) := by rw [h1, h2]
set_option maxRecDepth 100000 in
set_option maxHeartbeats 1000000 in
theorem place_any (x dx y dy c r : Nat) (h1 : x ≤ 8) (h2 : dx ≤ 8) (k1 : y ≤ 8) (k2 : dy ≤ 8) (hc : c ≤ 262144) (hr : r ≤ 262144) (w : World) :
    Calls Tryd.prog 16 #[pval x dx y dy, .int .i64 (c : Nat), .int .i64 (r : Nat)] w fun e w' => e = .returned (.tuple #[.int .i64 (x + c * dx : Nat), .int .i64 (y + r * dy : Nat)]) ∧ Below w.heap.size w w' := by
  have b1 : c * dx ≤ 262144 * 8 := Nat.mul_le_mul hc h2
  have b2 : r * dy ≤ 262144 * 8 := Nat.mul_le_mul hr k2
  have e1 : wrap64 ((c : Int) * (dx : Int)) = ((c * dx : Nat) : Int) := by rw [← Int.natCast_mul]; exact IntWalk.wrap64_in _ ⟨by omega, by omega⟩
  have e2 : wrap64 ((r : Int) * (dy : Int)) = ((r * dy : Nat) : Int) := by rw [← Int.natCast_mul]; exact IntWalk.wrap64_in _ ⟨by omega, by omega⟩
  generalize c * dx = m1 at *
  generalize r * dy = m2 at *
  have e3 : wrap64 ((x : Int) + (m1 : Int)) = ((x + m1 : Nat) : Int) := by rw [IntWalk.wrap64_in _ ⟨by omega, by omega⟩]; omega
  have e4 : wrap64 ((y : Int) + (m2 : Int)) = ((y + m2 : Nat) : Int) := by rw [IntWalk.wrap64_in _ ⟨by omega, by omega⟩]; omega
  unfold pval pcells
  clear b1 b2 h1 h2 k1 k2 hc hr
  go_enter Tryd.func16, Tryd.ntmps16
  go_wp2_with fail
  have hA : (w.alloc (.cells #[.int .i64 (x : Nat), .int .i64 (dx : Nat), .int .i64 (y : Nat), .int .i64 (dy : Nat)] 52)).heap[w.heap.size]? = some (.cells (pcells x dx y dy) 52 (0, 0)) := heap_alloc_last w _
  have hW := below_alloc w (.cells #[.int .i64 (x : Nat), .int .i64 (dx : Nat), .int .i64 (y : Nat), .int .i64 (dy : Nat)] 52)
  revert hA hW
  generalize w.alloc _ = w2
  intro hA hW
  have c0 : w2.cell? ⟨w.heap.size, 0, none⟩ = some (.int .i64 (x : Nat)) := by rw [cell_of_row _ _ _ _ _ (0, 0) hA]; rfl
  have c1 : w2.cell? ⟨w.heap.size, 1, none⟩ = some (.int .i64 (dx : Nat)) := by rw [cell_of_row _ _ _ _ _ (0, 0) hA]; rfl
  have c2 : w2.cell? ⟨w.heap.size, 2, none⟩ = some (.int .i64 (y : Nat)) := by rw [cell_of_row _ _ _ _ _ (0, 0) hA]; rfl
  have c3 : w2.cell? ⟨w.heap.size, 3, none⟩ = some (.int .i64 (dy : Nat)) := by rw [cell_of_row _ _ _ _ _ (0, 0) hA]; rfl
  have HDN := Lib.hid (fun m => hW.trans ((drewN_is w2 m).mono hW.size))
  clear hA hW
  go_quiet (fail)
  go_wp2
  go_ret2
  exact ⟨ret_two e3 e4, HDN.out _⟩
end Lc
end Go.Proofs.YtfdnjblbhbkndaaDoor
