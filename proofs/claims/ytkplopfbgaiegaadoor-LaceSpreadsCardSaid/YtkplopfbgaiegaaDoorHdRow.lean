/- head.RowSize, burnishref13.RowSize, the law's three: their contracts. -/
import Derived.Test.YtkplopfbgaiegaaDoorHdRef
import Derived.Laws.ResultCell
namespace Go.Proofs.YtkplopfbgaiegaaDoor
open Go.RowKit

namespace Hd
theorem errV_zero {n : Nat} (h : n = 0) : errV n = .nilIface := by unfold errV; rw [if_pos h]
theorem errV_pos {n : Nat} (h : n ≠ 0) : errV n = .iface 40 (.int .i64 n) := by unfold errV; rw [if_neg h]
theorem bits_small {n k d : Int} (h1 : 1 ≤ n) (h2 : n ≤ 65535) (h3 : 0 ≤ k) (h4 : k ≤ 4) (h5 : 1 ≤ d) (h6 : d ≤ 16) : 0 ≤ n * k ∧ n * k ≤ 262140 ∧ 0 ≤ n * k * d ∧ n * k * d ≤ 4194240 := by
  have a1 := Int.mul_nonneg (show 0 ≤ n by omega) h3
  have a2 := Int.mul_le_mul h2 h4 h3 (by omega)
  have a3 := Int.mul_nonneg a1 (show 0 ≤ d by omega)
  have a4 := Int.mul_le_mul (show n * k ≤ 262140 by omega) h6 (by omega) (by omega)
  exact ⟨a1, by omega, a3, by omega⟩
theorem row_bad {x : H} {n : Int} (h : bad x ≠ 0) : row x n = 0 := by unfold row; rw [if_pos (.inl h)]
theorem row_low {x : H} {n : Int} (h : n < 1) : row x n = 0 := by unfold row; rw [if_pos (.inr (.inl h))]
theorem row_high {x : H} {n : Int} (h : 65535 < n) : row x n = 0 := by unfold row; rw [if_pos (.inr (.inr h))]
theorem row_good {x : H} {n : Int} (h : bad x = 0) (h1 : ¬ n < 1) (h2 : ¬ 65535 < n) : row x n = (n * chan x.c * x.d + 7) / 8 := by unfold row; rw [if_neg (by omega)]
set_option maxRecDepth 100000 in
set_option maxHeartbeats 1000000 in
theorem rowSize_any (x : H) (n : Int) (w : World) : Calls Tryd.prog 32 #[x.val, .int .i64 n] w fun e w' => e = .returned (.int .i64 (row x n)) ∧ Below w.heap.size w w' := by
  have HBX := Lib.hid (bx_new w x)
  have HAL := Lib.hid (below_alloc w (.cells #[.int .i64 x.w, .int .i64 x.h, .int .i64 x.d, .int .i64 x.c, .int .i64 x.l] 48))
  have HCK := Lib.hid (fun w => check_any x w)
  have HRB := Lib.hid (fun h => row_bad (x := x) (n := n) h)
  have HRL := Lib.hid (fun h => row_low (x := x) (n := n) h)
  have HRH := Lib.hid (fun h => row_high (x := x) (n := n) h)
  have HRG := Lib.hid (fun h h1 h2 => row_good (x := x) (n := n) h h1 h2)
  have HGA := Lib.hid (fun h => good_all (x := x) h)
  unfold H.val at HCK ⊢
  generalize row x n = r at *
  generalize bad x = bd at *
  obtain ⟨xw, xh, xd, xc, xl⟩ := x
  simp only at HBX HAL HCK HRG HGA ⊢
  go_enter Tryd.func32, Tryd.ntmps32
  go_wp2_with fail
  refine (HCK.out _).mono ?_
  rintro e w2 ⟨rfl, hb2⟩
  have HX2 := Lib.hid (HBX.out.below hb2)
  have HB2 := Lib.hid (below_then HAL.out hb2)
  clear hb2 HBX HAL HCK
  by_cases hz : bd = 0
  · rw [errV_zero hz]
    by_cases h1 : n < 1
    · have d1 : decide (n < 1) = true := by simpa using h1
      have HR := Lib.hid (HRL.out h1)
      clear h1 HRB HRL HRH HRG HGA hz
      go_wp2
      go_ret
      exact ⟨by rw [HR.out]; rfl, HB2.out⟩
    have d1 : decide (n < 1) = false := by simpa using h1
    by_cases h2 : 65535 < n
    · have d2 : decide ((65535 : Int) < n) = true := by simpa using h2
      have HR := Lib.hid (HRH.out h2)
      clear h1 h2 HRB HRL HRH HRG HGA hz
      go_wp2
      go_ret
      exact ⟨by rw [HR.out]; rfl, HB2.out⟩
    have d2 : decide ((65535 : Int) < n) = false := by simpa using h2
    have HR := Lib.hid (HRG.out hz (by omega) (by omega))
    have hds := dep_small (HGA.out hz).2.2.2.2.2.1
    have hch := chan_small xc
    obtain ⟨b0, b1, b2, b3⟩ := bits_small (show 1 ≤ n by omega) (show n ≤ 65535 by omega) hch.1 hch.2 hds.1 hds.2.1
    have HCH := Lib.hid (fun w => chan_any xc w)
    obtain ⟨y0, y1, y2, y3, y4⟩ := HX2.out.cells
    simp only at y0 y1 y2 y3 y4
    have HDN := Lib.hid (fun m => HB2.out.trans ((drewN_is w2 m).mono HB2.out.size))
    generalize chan xc = k at *
    have e1 : wrap64 (n * k) = n * k := IntWalk.wrap64_in _ ⟨by omega, by omega⟩
    have e2 : wrap64 (n * k * xd) = n * k * xd := IntWalk.wrap64_in _ ⟨by omega, by omega⟩
    have e3 : wrap64 (n * k * xd + 7) = n * k * xd + 7 := IntWalk.wrap64_in _ ⟨by omega, by omega⟩
    have e4 : (n * k * xd + 7).tdiv 8 = (n * k * xd + 7) / 8 := Int.tdiv_eq_ediv_of_nonneg (by omega)
    have e5 : wrap64 ((n * k * xd + 7) / 8) = (n * k * xd + 7) / 8 := IntWalk.wrap64_in _ ⟨by omega, by omega⟩
    clear h1 h2 HRB HRL HRH HRG HGA hz hds hch b0 b1 b2 b3
    go_wp2_with fail
    go_quiet (first | (go_at_call 38; exact Calls.quiet_of_same ((HCH.out _).mono (fun e w' h => ⟨h.1, h.2.symm⟩))))
    go_wp2
    go_ret
    exact ⟨by rw [HR.out]; exact ret_int e5, HDN.out _⟩
  · rw [errV_pos hz]
    have HR := Lib.hid (HRB.out hz)
    clear HRB HRL HRH HRG HGA hz
    go_wp2
    go_ret
    exact ⟨by rw [HR.out]; rfl, HB2.out⟩
theorem load_hd {W : World} {g : Nat} {x : H} (h : Bx W g x) : (loadVar 48 ⟨g, 0, none⟩).run Tryd.prog W = .ok x.val W :=
  run_loadVar_row W g _ 48 _ (0, 0) _ h Tryd.underlying48 rfl (by kernel_rfl)
theorem results_cell1 {fn : Func} {p : Tmp} {ty : TypeId} (h : fn.results = #[.cell p ty]) (tmps : Array Value) (P : Program) (w : World) :
    (results fn tmps).run P w = ((asAddr (tmps.getD p undef)).run P w).andThen fun a w₁ => (loadVar ty a).run P w₁ := by
  simp only [results, h]
  cases h1 : (asAddr (tmps.getD p undef)).run P w with
  | ok a w1 => cases h2 : (loadVar ty a).run P w1 <;> simp_all [Sem.run_bind, Result.andThen]
  | halt => simp_all [Sem.run_bind, Result.andThen]
theorem res_hd (fn : Func) (hf : fn.results = #[.cell 0 48]) (tmps : Array Value) (W : World) (g : Nat) (x : H) (hp : tmps.getD 0 undef = .pointer (some ⟨g, 0, none⟩)) (h : Bx W g x) : (results fn tmps).run Tryd.prog W = .ok x.val W := by
  refine (results_cell1 (p := 0) (ty := 48) hf tmps Tryd.prog W).trans ?_
  rw [hp]
  simp [asAddr, load_hd h, Result.andThen]
theorem res_hd2 (fn : Func) (hf : fn.results = #[.cell 2 48, .tmp 3]) (tmps : Array Value) (W : World) (g : Nat) (x : H) (u : Value) (hp : tmps.getD 2 undef = .pointer (some ⟨g, 0, none⟩)) (hu : tmps.getD 3 undef = u) (h : Bx W g x) : (results fn tmps).run Tryd.prog W = .ok (.tuple #[x.val, u]) W := by
  refine (results_cell_tmp (p := 2) (u := 3) (ty := 48) hf tmps Tryd.prog W).trans ?_
  rw [hp, hu]
  simp [asAddr, load_hd h, Result.andThen]
theorem bx_set {W : World} {g : Nat} {y : H} (h : Bx W g y) (x : H) : Bx (((((W.setCell ⟨g, 0, none⟩ (.int .i64 x.w)).setCell ⟨g, 1, none⟩ (.int .i64 x.h)).setCell ⟨g, 2, none⟩ (.int .i64 x.d)).setCell ⟨g, 3, none⟩ (.int .i64 x.c)).setCell ⟨g, 4, none⟩ (.int .i64 x.l)) g x :=
  heap_setCell_same _ g 4 _ _ _ (heap_setCell_same _ g 3 _ _ _ (heap_setCell_same _ g 2 _ _ _ (heap_setCell_same _ g 1 _ _ _ (heap_setCell_same W g 0 _ _ _ h))))
theorem below_set5 {w W : World} {B g : Nat} (hg : B ≤ g) (h : Below B w W) (a b c d e : Value) : Below B w (((((W.setCell ⟨g, 0, none⟩ a).setCell ⟨g, 1, none⟩ b).setCell ⟨g, 2, none⟩ c).setCell ⟨g, 3, none⟩ d).setCell ⟨g, 4, none⟩ e) :=
  ((((h.setCell (p := ⟨g, 0, none⟩) hg _).setCell (p := ⟨g, 1, none⟩) hg _).setCell (p := ⟨g, 2, none⟩) hg _).setCell (p := ⟨g, 3, none⟩) hg _).setCell (p := ⟨g, 4, none⟩) hg _
end Hd
end Go.Proofs.YtkplopfbgaiegaaDoor
