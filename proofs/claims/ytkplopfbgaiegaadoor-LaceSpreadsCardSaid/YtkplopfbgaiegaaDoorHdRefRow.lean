/- burnishref13.RowSize: its contract. -/
import Derived.Test.YtkplopfbgaiegaaDoorHdRow
import Derived.Test.YtkplopfbgaiegaaDoorHdRefCh
namespace Go.Proofs.YtkplopfbgaiegaaDoor
open Go.RowKit

namespace Hd
set_option maxRecDepth 100000 in
set_option maxHeartbeats 1000000 in
theorem refRow_any (x : H) (n : Int) (w : World) : Calls Tryd.prog 22 #[x.val, .int .i64 n] w fun e w' => e = .returned (.int .i64 (row x n)) ∧ Below w.heap.size w w' := by
  have HBX := Lib.hid (bx_new w x)
  have HAL := Lib.hid (below_alloc w (.cells #[.int .i64 x.w, .int .i64 x.h, .int .i64 x.d, .int .i64 x.c, .int .i64 x.l] 48))
  have HCK := Lib.hid (fun w => refCheck_any x w)
  have HRB := Lib.hid (fun h => row_bad (x := x) (n := n) h)
  have HRL := Lib.hid (fun h => row_low (x := x) (n := n) h)
  have HRH := Lib.hid (fun h => row_high (x := x) (n := n) h)
  have HRG := Lib.hid (fun h h1 h2 => row_good (x := x) (n := n) h h1 h2)
  have HGA := Lib.hid (fun h => good_all (x := x) h)
  unfold H.val at HCK ⊢
  generalize row x n = r at *
  generalize bad x = bd at *
  obtain ⟨xw, xh, xd, xc, xl⟩ := x
  simp only at HBX HAL HCK HRG HGA ⊢
  go_enter Tryd.func22, Tryd.ntmps22
  go_wp2_with fail
  refine (HCK.out _).mono ?_
  rintro e w2 ⟨rfl, hb2⟩
  have HX2 := Lib.hid (HBX.out.below hb2)
  have HB2 := Lib.hid (below_then HAL.out hb2)
  clear hb2 HBX HAL HCK
  by_cases hz : bd = 0
  · have d0 : ((bd : Int) != 0) = false := by simp; omega
    by_cases h1 : n < 1
    · have d1 : decide (n < 1) = true := by simpa using h1
      have HR := Lib.hid (HRL.out h1)
      clear h1 HRB HRL HRH HRG HGA hz
      go_wp2
      go_ret
      exact ⟨by rw [HR.out]; rfl, HB2.out⟩
    have d1 : decide (n < 1) = false := by simpa using h1
    by_cases h2 : 65535 < n
    · have d2 : decide ((65535 : Int) < n) = true := by simpa using h2
      have HR := Lib.hid (HRH.out h2)
      clear h1 h2 HRB HRL HRH HRG HGA hz
      go_wp2
      go_ret
      exact ⟨by rw [HR.out]; rfl, HB2.out⟩
    have d2 : decide ((65535 : Int) < n) = false := by simpa using h2
    have HR := Lib.hid (HRG.out hz (by omega) (by omega))
    have hds := dep_small (HGA.out hz).2.2.2.2.2.1
    have hch := chan_small xc
    obtain ⟨b0, b1, b2, b3⟩ := bits_small (show 1 ≤ n by omega) (show n ≤ 65535 by omega) hch.1 hch.2 hds.1 hds.2.1
    have HCH := Lib.hid (fun w => refChan_any xc w)
    obtain ⟨y0, y1, y2, y3, y4⟩ := HX2.out.cells
    simp only at y0 y1 y2 y3 y4
    have hlt2 := HX2.out.lt
    generalize chan xc = k at *
    have e1 : wrap64 (n * k) = n * k := IntWalk.wrap64_in _ ⟨by omega, by omega⟩
    have e2 : wrap64 (n * k * xd) = n * k * xd := IntWalk.wrap64_in _ ⟨by omega, by omega⟩
    have e4 : (n * k * xd).tdiv 8 = (n * k * xd) / 8 := Int.tdiv_eq_ediv_of_nonneg (by omega)
    have e5 : (n * k * xd).tmod 8 = (n * k * xd) % 8 := Int.tmod_eq_emod_of_nonneg (by omega)
    have e6 : wrap64 ((n * k * xd) / 8 + 1) = (n * k * xd) / 8 + 1 := IntWalk.wrap64_in _ ⟨by omega, by omega⟩
    have e7 : wrap64 ((n * k * xd) / 8) = (n * k * xd) / 8 := IntWalk.wrap64_in _ ⟨by omega, by omega⟩
    clear h1 h2 HRB HRL HRH HRG HGA hz hds hch
    have HB3 := Lib.hid (And.intro b2 b3)
    have HLT := Lib.hid hlt2
    clear b0 b1 b2 b3 hlt2
    go_wp2_with fail
    go_region_held3 (fun w' => w'.cell? ⟨w.heap.size, 2, none⟩ = some (.int .i64 xd) ∧ w'.cell? ⟨w.heap.size, 3, none⟩ = some (.int .i64 xc)) (first | (with_reducible exact ⟨y2, y3⟩) | (with_reducible exact ⟨z2, z3⟩) | go_keep)
      (first | (go_at_call 33; (with_reducible refine (HCH.out _).mono ?_); rintro e w3 ⟨rfl, hb3⟩; have HB4 := Lib.hid (below_then HB2.out.drew hb3); have hq : w.heap.size < w2.drew.heap.size := HLT.out; have z2 := (hb3.cell (p := ⟨w.heap.size, 2, none⟩) hq).trans y2; have z3 := (hb3.cell (p := ⟨w.heap.size, 3, none⟩) hq).trans y3; clear hb3))
    by_cases hm : 0 < n * k * xd % 8
    · have d3 : decide (0 < n * k * xd % 8) = true := by simpa using hm
      have HQ : Hid (wrap64 (n * k * xd / 8 + 1) = r) := Lib.hid (by rw [e6, HR.out]; omega)
      clear hm
      go_wp2
      go_ret
      exact ⟨by rw [← HQ.out]; rfl, HB4.out⟩
    · have d3 : decide (0 < n * k * xd % 8) = false := by simpa using hm
      have HQ : Hid (wrap64 ((wrap64 (wrap64 (n * k) * xd)).tdiv 8) = r) := Lib.hid (by rw [e1, e2, e4, e7, HR.out]; omega)
      clear hm
      go_wp2
      go_ret
      exact ⟨by rw [← HQ.out]; rfl, HB4.out⟩
  · have d0 : ((bd : Int) != 0) = true := by simp; omega
    have HR := Lib.hid (HRB.out hz)
    clear HRB HRL HRH HRG HGA hz
    go_wp2
    go_ret
    exact ⟨by rw [HR.out]; rfl, HB2.out⟩
end Hd
end Go.Proofs.YtkplopfbgaiegaaDoor
