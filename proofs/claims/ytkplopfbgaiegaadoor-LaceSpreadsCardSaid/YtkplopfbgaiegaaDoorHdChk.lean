/- head.Check: its contract. -/
import Derived.Test.YtkplopfbgaiegaaDoorHdCheck
import Derived.Test.YtkplopfbgaiegaaDoorRegionS
namespace Go.Proofs.YtkplopfbgaiegaaDoor
open Go.RowKit

namespace Hd
set_option maxRecDepth 100000 in
set_option maxHeartbeats 4000000 in
theorem check_any (x : H) (w : World) : Calls Tryd.prog 31 #[x.val] w fun e w' => e = .returned (errV (bad x)) ∧ Below w.heap.size w w' := by
  have hbx := bx_new w x
  have hal := below_alloc w (.cells #[.int .i64 x.w, .int .i64 x.h, .int .i64 x.d, .int .i64 x.c, .int .i64 x.l] 48)
  have HBX := Lib.hid hbx
  have HAL := Lib.hid hal
  obtain ⟨c0, c1, c2, c3, c4⟩ := hbx.cells
  have hlt := hbx.lt
  clear hbx hal
  have HBAD : Hid (bad x = if malf x then 2 else if large x then 4 else 0) := Lib.hid rfl
  have HMF : Hid (malf x = (decide (x.w < 1) || decide (x.h < 1) || !(deps x.c).contains x.d || !(x.l == 0 || x.l == 1))) := Lib.hid rfl
  have HLG : Hid (large x = (decide (65535 < x.w) || decide (65535 < x.h) || decide (262144 < x.w * x.h))) := Lib.hid rfl
  unfold H.val
  generalize bad x = bd at *
  generalize malf x = mf at *
  generalize large x = lg at *
  obtain ⟨xw, xh, xd, xc, xl⟩ := x
  simp only at c0 c1 c2 c3 c4 HBX HAL HMF HLG hlt ⊢
  go_enter Tryd.func31, Tryd.ntmps31
  go_wp2_with fail
  obtain ⟨w1, hw1⟩ : ∃ w1, (w.alloc (.cells #[.int .i64 xw, .int .i64 xh, .int .i64 xd, .int .i64 xc, .int .i64 xl] 48)) = w1 := ⟨_, rfl⟩
  rw [hw1] at c0 c1 c2 c3 c4 HBX HAL hlt ⊢
  clear hw1
  have HLT := Lib.hid hlt
  clear hlt
  by_cases h1 : xw < 1
  · have d1 : decide (xw < 1) = true := by simpa using h1
    have HR : Hid (bd = 2) := Lib.hid (by rw [HBAD.out, HMF.out, d1]; rfl)
    clear h1 HBAD HMF HLG
    refine wp_region_noPanic ?_
    refine region_RH (fun w' => Bx w' w.heap.size ⟨xw, xh, xd, xc, xl⟩) (by kernel_rfl) ?_
    refine RH_take (i := 0) (v := ?_) rfl (by kernel_rfl) (by kernel_rfl) (by kernel_rfl) (fun _ _ _ h => h) (bx_drew HBX.out) (by rfl) ?_ ?_
    rotate_left
    · (intro w' hw'; obtain ⟨j0, j1, j2, j3, j4⟩ := hw'.cells; simp only at j0 j1 j2 j3 j4; first | (go_simp; done) | (go_simp; with_reducible rfl))
    try simp only [List.getElem_toArray, List.getElem_cons_zero, List.getElem_cons_succ, Act.put, List.setIfInBounds_toArray, List.set_cons_zero, List.set_cons_succ]
    refine RH_take (i := 1) (v := ?_) rfl (by kernel_rfl) (by kernel_rfl) (by kernel_rfl) (fun _ _ _ h => h) (bx_drew HBX.out) (by rfl) ?_ ?_
    rotate_left
    · (intro w' hw'; obtain ⟨j0, j1, j2, j3, j4⟩ := hw'.cells; simp only at j0 j1 j2 j3 j4; first | (go_simp; done) | (go_simp; with_reducible rfl))
    try simp only [List.getElem_toArray, List.getElem_cons_zero, List.getElem_cons_succ, Act.put, List.setIfInBounds_toArray, List.set_cons_zero, List.set_cons_succ]
    refine RH_take (i := 2) (v := ?_) rfl (by kernel_rfl) (by kernel_rfl) (by kernel_rfl) (fun _ _ _ h => h) (bx_drew HBX.out) (by rfl) ?_ ?_
    rotate_left
    · (intro w' hw'; obtain ⟨j0, j1, j2, j3, j4⟩ := hw'.cells; simp only at j0 j1 j2 j3 j4; first | (go_simp; done) | (go_simp; with_reducible rfl))
    try simp only [List.getElem_toArray, List.getElem_cons_zero, List.getElem_cons_succ, Act.put, List.setIfInBounds_toArray, List.set_cons_zero, List.set_cons_succ]
    refine RH_take (i := 3) (v := ?_) rfl (by kernel_rfl) (by kernel_rfl) (by kernel_rfl) (fun _ _ _ h => h) (bx_drew HBX.out) (by rfl) ?_ ?_
    rotate_left
    · (intro w' hw'; obtain ⟨j0, j1, j2, j3, j4⟩ := hw'.cells; simp only at j0 j1 j2 j3 j4; first | (go_simp; done) | (go_simp; with_reducible rfl))
    try simp only [List.getElem_toArray, List.getElem_cons_zero, List.getElem_cons_succ, Act.put, List.setIfInBounds_toArray, List.set_cons_zero, List.set_cons_succ]
    refine RH_skip (i := 4) rfl (by kernel_rfl) (by kernel_rfl) (by kernel_rfl) (fun _ _ _ h => h) (bx_drew HBX.out) (by rfl) ?_
    try simp only [List.getElem_toArray, List.getElem_cons_zero, List.getElem_cons_succ, Act.put, List.setIfInBounds_toArray, List.set_cons_zero, List.set_cons_succ]
    refine RH_skip (i := 5) rfl (by kernel_rfl) (by kernel_rfl) (by kernel_rfl) (fun _ _ _ h => h) (bx_drew HBX.out) (by rfl) ?_
    try simp only [List.getElem_toArray, List.getElem_cons_zero, List.getElem_cons_succ, Act.put, List.setIfInBounds_toArray, List.set_cons_zero, List.set_cons_succ]
    refine RH_skip (i := 6) rfl (by kernel_rfl) (by kernel_rfl) (by kernel_rfl) (fun _ _ _ h => h) (bx_drew HBX.out) (by rfl) ?_
    try simp only [List.getElem_toArray, List.getElem_cons_zero, List.getElem_cons_succ, Act.put, List.setIfInBounds_toArray, List.set_cons_zero, List.set_cons_succ]
    refine RH_take (i := 7) (v := ?_) rfl (by kernel_rfl) (by kernel_rfl) (by kernel_rfl) (fun _ _ _ h => h) (bx_drew HBX.out) (by rfl) ?_ ?_
    rotate_left
    · (intro w' hw'; obtain ⟨j0, j1, j2, j3, j4⟩ := hw'.cells; simp only at j0 j1 j2 j3 j4; first | (go_simp; done) | (go_simp; with_reducible rfl))
    try simp only [List.getElem_toArray, List.getElem_cons_zero, List.getElem_cons_succ, Act.put, List.setIfInBounds_toArray, List.set_cons_zero, List.set_cons_succ]
    refine RH_take (i := 8) (v := ?_) rfl (by kernel_rfl) (by kernel_rfl) (by kernel_rfl) (fun _ _ _ h => h) (bx_drew HBX.out) (by rfl) ?_ ?_
    rotate_left
    · (intro w' hw'; obtain ⟨j0, j1, j2, j3, j4⟩ := hw'.cells; simp only at j0 j1 j2 j3 j4; first | (go_simp; done) | (go_simp; with_reducible rfl))
    try simp only [List.getElem_toArray, List.getElem_cons_zero, List.getElem_cons_succ, Act.put, List.setIfInBounds_toArray, List.set_cons_zero, List.set_cons_succ]
    refine RH_skip (i := 9) rfl (by kernel_rfl) (by kernel_rfl) (by kernel_rfl) (fun _ _ _ h => h) (bx_drew HBX.out) (by rfl) ?_
    try simp only [List.getElem_toArray, List.getElem_cons_zero, List.getElem_cons_succ, Act.put, List.setIfInBounds_toArray, List.set_cons_zero, List.set_cons_succ]
    refine RH_skip (i := 10) rfl (by kernel_rfl) (by kernel_rfl) (by kernel_rfl) (fun _ _ _ h => h) (bx_drew HBX.out) (by rfl) ?_
    try simp only [List.getElem_toArray, List.getElem_cons_zero, List.getElem_cons_succ, Act.put, List.setIfInBounds_toArray, List.set_cons_zero, List.set_cons_succ]
    refine RH_skip (i := 11) rfl (by kernel_rfl) (by kernel_rfl) (by kernel_rfl) (fun _ _ _ h => h) (bx_drew HBX.out) (by rfl) ?_
    try simp only [List.getElem_toArray, List.getElem_cons_zero, List.getElem_cons_succ, Act.put, List.setIfInBounds_toArray, List.set_cons_zero, List.set_cons_succ]
    refine RH_skip (i := 12) rfl (by kernel_rfl) (by kernel_rfl) (by kernel_rfl) (fun _ _ _ h => h) (bx_drew HBX.out) (by rfl) ?_
    try simp only [List.getElem_toArray, List.getElem_cons_zero, List.getElem_cons_succ, Act.put, List.setIfInBounds_toArray, List.set_cons_zero, List.set_cons_succ]
    refine RH_skip (i := 13) rfl (by kernel_rfl) (by kernel_rfl) (by kernel_rfl) (fun _ _ _ h => h) (bx_drew HBX.out) (by rfl) ?_
    try simp only [List.getElem_toArray, List.getElem_cons_zero, List.getElem_cons_succ, Act.put, List.setIfInBounds_toArray, List.set_cons_zero, List.set_cons_succ]
    refine RH_skip (i := 14) rfl (by kernel_rfl) (by kernel_rfl) (by kernel_rfl) (fun _ _ _ h => h) (bx_drew HBX.out) (by rfl) ?_
    try simp only [List.getElem_toArray, List.getElem_cons_zero, List.getElem_cons_succ, Act.put, List.setIfInBounds_toArray, List.set_cons_zero, List.set_cons_succ]
    refine RH_skip (i := 15) rfl (by kernel_rfl) (by kernel_rfl) (by kernel_rfl) (fun _ _ _ h => h) (bx_drew HBX.out) (by rfl) ?_
    try simp only [List.getElem_toArray, List.getElem_cons_zero, List.getElem_cons_succ, Act.put, List.setIfInBounds_toArray, List.set_cons_zero, List.set_cons_succ]
    refine RH_take (i := 16) (v := ?_) rfl (by kernel_rfl) (by kernel_rfl) (by kernel_rfl) (fun _ _ _ h => h) (bx_drew HBX.out) (by rfl) ?_ ?_
    rotate_left
    · (intro w' hw'; obtain ⟨j0, j1, j2, j3, j4⟩ := hw'.cells; simp only at j0 j1 j2 j3 j4; first | (go_simp; done) | (go_simp; with_reducible rfl))
    try simp only [List.getElem_toArray, List.getElem_cons_zero, List.getElem_cons_succ, Act.put, List.setIfInBounds_toArray, List.set_cons_zero, List.set_cons_succ]
    refine RH_take (i := 17) (v := ?_) rfl (by kernel_rfl) (by kernel_rfl) (by kernel_rfl) (fun _ _ _ h => h) (bx_drew HBX.out) (by rfl) ?_ ?_
    rotate_left
    · (intro w' hw'; obtain ⟨j0, j1, j2, j3, j4⟩ := hw'.cells; simp only at j0 j1 j2 j3 j4; first | (go_simp; done) | (go_simp; with_reducible rfl))
    try simp only [List.getElem_toArray, List.getElem_cons_zero, List.getElem_cons_succ, Act.put, List.setIfInBounds_toArray, List.set_cons_zero, List.set_cons_succ]
    refine RH_skip (i := 18) rfl (by kernel_rfl) (by kernel_rfl) (by kernel_rfl) (fun _ _ _ h => h) (bx_drew HBX.out) (by rfl) ?_
    try simp only [List.getElem_toArray, List.getElem_cons_zero, List.getElem_cons_succ, Act.put, List.setIfInBounds_toArray, List.set_cons_zero, List.set_cons_succ]
    refine RH_skip (i := 19) rfl (by kernel_rfl) (by kernel_rfl) (by kernel_rfl) (fun _ _ _ h => h) (bx_drew HBX.out) (by rfl) ?_
    try simp only [List.getElem_toArray, List.getElem_cons_zero, List.getElem_cons_succ, Act.put, List.setIfInBounds_toArray, List.set_cons_zero, List.set_cons_succ]
    refine RH_skip (i := 20) rfl (by kernel_rfl) (by kernel_rfl) (by kernel_rfl) (fun _ _ _ h => h) (bx_drew HBX.out) (by rfl) ?_
    try simp only [List.getElem_toArray, List.getElem_cons_zero, List.getElem_cons_succ, Act.put, List.setIfInBounds_toArray, List.set_cons_zero, List.set_cons_succ]
    refine RH_skip (i := 21) rfl (by kernel_rfl) (by kernel_rfl) (by kernel_rfl) (fun _ _ _ h => h) (bx_drew HBX.out) (by rfl) ?_
    try simp only [List.getElem_toArray, List.getElem_cons_zero, List.getElem_cons_succ, Act.put, List.setIfInBounds_toArray, List.set_cons_zero, List.set_cons_succ]
    refine RH_skip (i := 22) rfl (by kernel_rfl) (by kernel_rfl) (by kernel_rfl) (fun _ _ _ h => h) (bx_drew HBX.out) (by rfl) ?_
    try simp only [List.getElem_toArray, List.getElem_cons_zero, List.getElem_cons_succ, Act.put, List.setIfInBounds_toArray, List.set_cons_zero, List.set_cons_succ]
    refine RH_skip (i := 23) rfl (by kernel_rfl) (by kernel_rfl) (by kernel_rfl) (fun _ _ _ h => h) (bx_drew HBX.out) (by rfl) ?_
    try simp only [List.getElem_toArray, List.getElem_cons_zero, List.getElem_cons_succ, Act.put, List.setIfInBounds_toArray, List.set_cons_zero, List.set_cons_succ]
    refine RH_skip (i := 24) rfl (by kernel_rfl) (by kernel_rfl) (by kernel_rfl) (fun _ _ _ h => h) (bx_drew HBX.out) (by rfl) ?_
    try simp only [List.getElem_toArray, List.getElem_cons_zero, List.getElem_cons_succ, Act.put, List.setIfInBounds_toArray, List.set_cons_zero, List.set_cons_succ]
    refine RH_skip (i := 25) rfl (by kernel_rfl) (by kernel_rfl) (by kernel_rfl) (fun _ _ _ h => h) (bx_drew HBX.out) (by rfl) ?_
    try simp only [List.getElem_toArray, List.getElem_cons_zero, List.getElem_cons_succ, Act.put, List.setIfInBounds_toArray, List.set_cons_zero, List.set_cons_succ]
    refine RH_take (i := 26) (v := ?_) rfl (by kernel_rfl) (by kernel_rfl) (by kernel_rfl) (fun _ _ _ h => h) (bx_drew HBX.out) (by rfl) ?_ ?_
    rotate_left
    · (intro w' hw'; obtain ⟨j0, j1, j2, j3, j4⟩ := hw'.cells; simp only at j0 j1 j2 j3 j4; first | (go_simp; done) | (go_simp; with_reducible rfl))
    try simp only [List.getElem_toArray, List.getElem_cons_zero, List.getElem_cons_succ, Act.put, List.setIfInBounds_toArray, List.set_cons_zero, List.set_cons_succ]
    refine wpAnyH_done (by kernel_rfl) ?_ _
    refine NoPanic.normal ?_
    go_wp2
    go_ret
    exact ⟨by rw [HR.out]; rfl, HAL.out.drew⟩
  have d1 : decide (xw < 1) = false := by simpa using h1
  by_cases h2 : xh < 1
  · have d2 : decide (xh < 1) = true := by simpa using h2
    have HR : Hid (bd = 2) := Lib.hid (by rw [HBAD.out, HMF.out, d1, d2]; rfl)
    clear h1 h2 HBAD HMF HLG
    refine wp_region_noPanic ?_
    refine region_RH (fun w' => Bx w' w.heap.size ⟨xw, xh, xd, xc, xl⟩) (by kernel_rfl) ?_
    refine RH_take (i := 0) (v := ?_) rfl (by kernel_rfl) (by kernel_rfl) (by kernel_rfl) (fun _ _ _ h => h) (bx_drew HBX.out) (by rfl) ?_ ?_
    rotate_left
    · (intro w' hw'; obtain ⟨j0, j1, j2, j3, j4⟩ := hw'.cells; simp only at j0 j1 j2 j3 j4; first | (go_simp; done) | (go_simp; with_reducible rfl))
    try simp only [List.getElem_toArray, List.getElem_cons_zero, List.getElem_cons_succ, Act.put, List.setIfInBounds_toArray, List.set_cons_zero, List.set_cons_succ]
    refine RH_take (i := 1) (v := ?_) rfl (by kernel_rfl) (by kernel_rfl) (by kernel_rfl) (fun _ _ _ h => h) (bx_drew HBX.out) (by rfl) ?_ ?_
    rotate_left
    · (intro w' hw'; obtain ⟨j0, j1, j2, j3, j4⟩ := hw'.cells; simp only at j0 j1 j2 j3 j4; first | (go_simp; done) | (go_simp; with_reducible rfl))
    try simp only [List.getElem_toArray, List.getElem_cons_zero, List.getElem_cons_succ, Act.put, List.setIfInBounds_toArray, List.set_cons_zero, List.set_cons_succ]
    refine RH_take (i := 2) (v := ?_) rfl (by kernel_rfl) (by kernel_rfl) (by kernel_rfl) (fun _ _ _ h => h) (bx_drew HBX.out) (by rfl) ?_ ?_
    rotate_left
    · (intro w' hw'; obtain ⟨j0, j1, j2, j3, j4⟩ := hw'.cells; simp only at j0 j1 j2 j3 j4; first | (go_simp; done) | (go_simp; with_reducible rfl))
    try simp only [List.getElem_toArray, List.getElem_cons_zero, List.getElem_cons_succ, Act.put, List.setIfInBounds_toArray, List.set_cons_zero, List.set_cons_succ]
    refine RH_take (i := 3) (v := ?_) rfl (by kernel_rfl) (by kernel_rfl) (by kernel_rfl) (fun _ _ _ h => h) (bx_drew HBX.out) (by rfl) ?_ ?_
    rotate_left
    · (intro w' hw'; obtain ⟨j0, j1, j2, j3, j4⟩ := hw'.cells; simp only at j0 j1 j2 j3 j4; first | (go_simp; done) | (go_simp; with_reducible rfl))
    try simp only [List.getElem_toArray, List.getElem_cons_zero, List.getElem_cons_succ, Act.put, List.setIfInBounds_toArray, List.set_cons_zero, List.set_cons_succ]
    refine RH_take (i := 4) (v := ?_) rfl (by kernel_rfl) (by kernel_rfl) (by kernel_rfl) (fun _ _ _ h => h) (bx_drew HBX.out) (by rfl) ?_ ?_
    rotate_left
    · (intro w' hw'; obtain ⟨j0, j1, j2, j3, j4⟩ := hw'.cells; simp only at j0 j1 j2 j3 j4; first | (go_simp; done) | (go_simp; with_reducible rfl))
    try simp only [List.getElem_toArray, List.getElem_cons_zero, List.getElem_cons_succ, Act.put, List.setIfInBounds_toArray, List.set_cons_zero, List.set_cons_succ]
    refine RH_take (i := 5) (v := ?_) rfl (by kernel_rfl) (by kernel_rfl) (by kernel_rfl) (fun _ _ _ h => h) (bx_drew HBX.out) (by rfl) ?_ ?_
    rotate_left
    · (intro w' hw'; obtain ⟨j0, j1, j2, j3, j4⟩ := hw'.cells; simp only at j0 j1 j2 j3 j4; first | (go_simp; done) | (go_simp; with_reducible rfl))
    try simp only [List.getElem_toArray, List.getElem_cons_zero, List.getElem_cons_succ, Act.put, List.setIfInBounds_toArray, List.set_cons_zero, List.set_cons_succ]
    refine RH_take (i := 6) (v := ?_) rfl (by kernel_rfl) (by kernel_rfl) (by kernel_rfl) (fun _ _ _ h => h) (bx_drew HBX.out) (by rfl) ?_ ?_
    rotate_left
    · (intro w' hw'; obtain ⟨j0, j1, j2, j3, j4⟩ := hw'.cells; simp only at j0 j1 j2 j3 j4; first | (go_simp; done) | (go_simp; with_reducible rfl))
    try simp only [List.getElem_toArray, List.getElem_cons_zero, List.getElem_cons_succ, Act.put, List.setIfInBounds_toArray, List.set_cons_zero, List.set_cons_succ]
    refine RH_take (i := 7) (v := ?_) rfl (by kernel_rfl) (by kernel_rfl) (by kernel_rfl) (fun _ _ _ h => h) (bx_drew HBX.out) (by rfl) ?_ ?_
    rotate_left
    · (intro w' hw'; obtain ⟨j0, j1, j2, j3, j4⟩ := hw'.cells; simp only at j0 j1 j2 j3 j4; first | (go_simp; done) | (go_simp; with_reducible rfl))
    try simp only [List.getElem_toArray, List.getElem_cons_zero, List.getElem_cons_succ, Act.put, List.setIfInBounds_toArray, List.set_cons_zero, List.set_cons_succ]
    refine RH_take (i := 8) (v := ?_) rfl (by kernel_rfl) (by kernel_rfl) (by kernel_rfl) (fun _ _ _ h => h) (bx_drew HBX.out) (by rfl) ?_ ?_
    rotate_left
    · (intro w' hw'; obtain ⟨j0, j1, j2, j3, j4⟩ := hw'.cells; simp only at j0 j1 j2 j3 j4; first | (go_simp; done) | (go_simp; with_reducible rfl))
    try simp only [List.getElem_toArray, List.getElem_cons_zero, List.getElem_cons_succ, Act.put, List.setIfInBounds_toArray, List.set_cons_zero, List.set_cons_succ]
    refine RH_skip (i := 9) rfl (by kernel_rfl) (by kernel_rfl) (by kernel_rfl) (fun _ _ _ h => h) (bx_drew HBX.out) (by rfl) ?_
    try simp only [List.getElem_toArray, List.getElem_cons_zero, List.getElem_cons_succ, Act.put, List.setIfInBounds_toArray, List.set_cons_zero, List.set_cons_succ]
    refine RH_skip (i := 10) rfl (by kernel_rfl) (by kernel_rfl) (by kernel_rfl) (fun _ _ _ h => h) (bx_drew HBX.out) (by rfl) ?_
    try simp only [List.getElem_toArray, List.getElem_cons_zero, List.getElem_cons_succ, Act.put, List.setIfInBounds_toArray, List.set_cons_zero, List.set_cons_succ]
    refine RH_skip (i := 11) rfl (by kernel_rfl) (by kernel_rfl) (by kernel_rfl) (fun _ _ _ h => h) (bx_drew HBX.out) (by rfl) ?_
    try simp only [List.getElem_toArray, List.getElem_cons_zero, List.getElem_cons_succ, Act.put, List.setIfInBounds_toArray, List.set_cons_zero, List.set_cons_succ]
    refine RH_skip (i := 12) rfl (by kernel_rfl) (by kernel_rfl) (by kernel_rfl) (fun _ _ _ h => h) (bx_drew HBX.out) (by rfl) ?_
    try simp only [List.getElem_toArray, List.getElem_cons_zero, List.getElem_cons_succ, Act.put, List.setIfInBounds_toArray, List.set_cons_zero, List.set_cons_succ]
    refine RH_skip (i := 13) rfl (by kernel_rfl) (by kernel_rfl) (by kernel_rfl) (fun _ _ _ h => h) (bx_drew HBX.out) (by rfl) ?_
    try simp only [List.getElem_toArray, List.getElem_cons_zero, List.getElem_cons_succ, Act.put, List.setIfInBounds_toArray, List.set_cons_zero, List.set_cons_succ]
    refine RH_skip (i := 14) rfl (by kernel_rfl) (by kernel_rfl) (by kernel_rfl) (fun _ _ _ h => h) (bx_drew HBX.out) (by rfl) ?_
    try simp only [List.getElem_toArray, List.getElem_cons_zero, List.getElem_cons_succ, Act.put, List.setIfInBounds_toArray, List.set_cons_zero, List.set_cons_succ]
    refine RH_skip (i := 15) rfl (by kernel_rfl) (by kernel_rfl) (by kernel_rfl) (fun _ _ _ h => h) (bx_drew HBX.out) (by rfl) ?_
    try simp only [List.getElem_toArray, List.getElem_cons_zero, List.getElem_cons_succ, Act.put, List.setIfInBounds_toArray, List.set_cons_zero, List.set_cons_succ]
    refine RH_take (i := 16) (v := ?_) rfl (by kernel_rfl) (by kernel_rfl) (by kernel_rfl) (fun _ _ _ h => h) (bx_drew HBX.out) (by rfl) ?_ ?_
    rotate_left
    · (intro w' hw'; obtain ⟨j0, j1, j2, j3, j4⟩ := hw'.cells; simp only at j0 j1 j2 j3 j4; first | (go_simp; done) | (go_simp; with_reducible rfl))
    try simp only [List.getElem_toArray, List.getElem_cons_zero, List.getElem_cons_succ, Act.put, List.setIfInBounds_toArray, List.set_cons_zero, List.set_cons_succ]
    refine RH_take (i := 17) (v := ?_) rfl (by kernel_rfl) (by kernel_rfl) (by kernel_rfl) (fun _ _ _ h => h) (bx_drew HBX.out) (by rfl) ?_ ?_
    rotate_left
    · (intro w' hw'; obtain ⟨j0, j1, j2, j3, j4⟩ := hw'.cells; simp only at j0 j1 j2 j3 j4; first | (go_simp; done) | (go_simp; with_reducible rfl))
    try simp only [List.getElem_toArray, List.getElem_cons_zero, List.getElem_cons_succ, Act.put, List.setIfInBounds_toArray, List.set_cons_zero, List.set_cons_succ]
    refine RH_skip (i := 18) rfl (by kernel_rfl) (by kernel_rfl) (by kernel_rfl) (fun _ _ _ h => h) (bx_drew HBX.out) (by rfl) ?_
    try simp only [List.getElem_toArray, List.getElem_cons_zero, List.getElem_cons_succ, Act.put, List.setIfInBounds_toArray, List.set_cons_zero, List.set_cons_succ]
    refine RH_skip (i := 19) rfl (by kernel_rfl) (by kernel_rfl) (by kernel_rfl) (fun _ _ _ h => h) (bx_drew HBX.out) (by rfl) ?_
    try simp only [List.getElem_toArray, List.getElem_cons_zero, List.getElem_cons_succ, Act.put, List.setIfInBounds_toArray, List.set_cons_zero, List.set_cons_succ]
    refine RH_skip (i := 20) rfl (by kernel_rfl) (by kernel_rfl) (by kernel_rfl) (fun _ _ _ h => h) (bx_drew HBX.out) (by rfl) ?_
    try simp only [List.getElem_toArray, List.getElem_cons_zero, List.getElem_cons_succ, Act.put, List.setIfInBounds_toArray, List.set_cons_zero, List.set_cons_succ]
    refine RH_skip (i := 21) rfl (by kernel_rfl) (by kernel_rfl) (by kernel_rfl) (fun _ _ _ h => h) (bx_drew HBX.out) (by rfl) ?_
    try simp only [List.getElem_toArray, List.getElem_cons_zero, List.getElem_cons_succ, Act.put, List.setIfInBounds_toArray, List.set_cons_zero, List.set_cons_succ]
    refine RH_skip (i := 22) rfl (by kernel_rfl) (by kernel_rfl) (by kernel_rfl) (fun _ _ _ h => h) (bx_drew HBX.out) (by rfl) ?_
    try simp only [List.getElem_toArray, List.getElem_cons_zero, List.getElem_cons_succ, Act.put, List.setIfInBounds_toArray, List.set_cons_zero, List.set_cons_succ]
    refine RH_skip (i := 23) rfl (by kernel_rfl) (by kernel_rfl) (by kernel_rfl) (fun _ _ _ h => h) (bx_drew HBX.out) (by rfl) ?_
    try simp only [List.getElem_toArray, List.getElem_cons_zero, List.getElem_cons_succ, Act.put, List.setIfInBounds_toArray, List.set_cons_zero, List.set_cons_succ]
    refine RH_skip (i := 24) rfl (by kernel_rfl) (by kernel_rfl) (by kernel_rfl) (fun _ _ _ h => h) (bx_drew HBX.out) (by rfl) ?_
    try simp only [List.getElem_toArray, List.getElem_cons_zero, List.getElem_cons_succ, Act.put, List.setIfInBounds_toArray, List.set_cons_zero, List.set_cons_succ]
    refine RH_skip (i := 25) rfl (by kernel_rfl) (by kernel_rfl) (by kernel_rfl) (fun _ _ _ h => h) (bx_drew HBX.out) (by rfl) ?_
    try simp only [List.getElem_toArray, List.getElem_cons_zero, List.getElem_cons_succ, Act.put, List.setIfInBounds_toArray, List.set_cons_zero, List.set_cons_succ]
    refine RH_take (i := 26) (v := ?_) rfl (by kernel_rfl) (by kernel_rfl) (by kernel_rfl) (fun _ _ _ h => h) (bx_drew HBX.out) (by rfl) ?_ ?_
    rotate_left
    · (intro w' hw'; obtain ⟨j0, j1, j2, j3, j4⟩ := hw'.cells; simp only at j0 j1 j2 j3 j4; first | (go_simp; done) | (go_simp; with_reducible rfl))
    try simp only [List.getElem_toArray, List.getElem_cons_zero, List.getElem_cons_succ, Act.put, List.setIfInBounds_toArray, List.set_cons_zero, List.set_cons_succ]
    refine wpAnyH_done (by kernel_rfl) ?_ _
    refine NoPanic.normal ?_
    go_wp2
    go_ret
    exact ⟨by rw [HR.out]; rfl, HAL.out.drew⟩
  have d2 : decide (xh < 1) = false := by simpa using h2
  have HDP : Hid (∀ w', Calls Tryd.prog 37 #[.int .i64 xc] w' (DepPost w' xc)) := Lib.hid (fun w' => depths_any xc w')
  have HCN : Hid (∀ (a : Option Addr) (n cap : Nat) (w' : World), n ≤ 5 → Is .i64 w' a n cap (deps xc) → Calls Tryd.prog 36 #[.slice a n cap, .int .i64 xd] w' fun e w'' => e = .returned (.bool ((deps xc).contains xd)) ∧ w' = w'') := Lib.hid (fun a n cap w' hn hI => contains_any a n cap _ xd w' hI (by omega))
  cases hct : (deps xc).contains xd with
  | false =>
    rw [hct] at HCN
    have HR : Hid (bd = 2) := Lib.hid (by rw [HBAD.out, HMF.out, d1, d2, hct]; rfl)
    clear h1 h2 HBAD HMF HLG hct
    refine wp_region_noPanic ?_
    refine region_RH (fun w' => Bx w' w.heap.size ⟨xw, xh, xd, xc, xl⟩) (by kernel_rfl) ?_
    refine RH_take (i := 0) (v := ?_) rfl (by kernel_rfl) (by kernel_rfl) (by kernel_rfl) (fun _ _ _ h => h) (bx_drew HBX.out) (by rfl) ?_ ?_
    rotate_left
    · (intro w' hw'; obtain ⟨j0, j1, j2, j3, j4⟩ := hw'.cells; simp only at j0 j1 j2 j3 j4; first | (go_simp; done) | (go_simp; with_reducible rfl))
    try simp only [List.getElem_toArray, List.getElem_cons_zero, List.getElem_cons_succ, Act.put, List.setIfInBounds_toArray, List.set_cons_zero, List.set_cons_succ]
    refine RH_take (i := 1) (v := ?_) rfl (by kernel_rfl) (by kernel_rfl) (by kernel_rfl) (fun _ _ _ h => h) (bx_drew HBX.out) (by rfl) ?_ ?_
    rotate_left
    · (intro w' hw'; obtain ⟨j0, j1, j2, j3, j4⟩ := hw'.cells; simp only at j0 j1 j2 j3 j4; first | (go_simp; done) | (go_simp; with_reducible rfl))
    try simp only [List.getElem_toArray, List.getElem_cons_zero, List.getElem_cons_succ, Act.put, List.setIfInBounds_toArray, List.set_cons_zero, List.set_cons_succ]
    refine RH_take (i := 2) (v := ?_) rfl (by kernel_rfl) (by kernel_rfl) (by kernel_rfl) (fun _ _ _ h => h) (bx_drew HBX.out) (by rfl) ?_ ?_
    rotate_left
    · (intro w' hw'; obtain ⟨j0, j1, j2, j3, j4⟩ := hw'.cells; simp only at j0 j1 j2 j3 j4; first | (go_simp; done) | (go_simp; with_reducible rfl))
    try simp only [List.getElem_toArray, List.getElem_cons_zero, List.getElem_cons_succ, Act.put, List.setIfInBounds_toArray, List.set_cons_zero, List.set_cons_succ]
    refine RH_take (i := 3) (v := ?_) rfl (by kernel_rfl) (by kernel_rfl) (by kernel_rfl) (fun _ _ _ h => h) (bx_drew HBX.out) (by rfl) ?_ ?_
    rotate_left
    · (intro w' hw'; obtain ⟨j0, j1, j2, j3, j4⟩ := hw'.cells; simp only at j0 j1 j2 j3 j4; first | (go_simp; done) | (go_simp; with_reducible rfl))
    try simp only [List.getElem_toArray, List.getElem_cons_zero, List.getElem_cons_succ, Act.put, List.setIfInBounds_toArray, List.set_cons_zero, List.set_cons_succ]
    refine RH_take (i := 4) (v := ?_) rfl (by kernel_rfl) (by kernel_rfl) (by kernel_rfl) (fun _ _ _ h => h) (bx_drew HBX.out) (by rfl) ?_ ?_
    rotate_left
    · (intro w' hw'; obtain ⟨j0, j1, j2, j3, j4⟩ := hw'.cells; simp only at j0 j1 j2 j3 j4; first | (go_simp; done) | (go_simp; with_reducible rfl))
    try simp only [List.getElem_toArray, List.getElem_cons_zero, List.getElem_cons_succ, Act.put, List.setIfInBounds_toArray, List.set_cons_zero, List.set_cons_succ]
    refine RH_take (i := 5) (v := ?_) rfl (by kernel_rfl) (by kernel_rfl) (by kernel_rfl) (fun _ _ _ h => h) (bx_drew HBX.out) (by rfl) ?_ ?_
    rotate_left
    · (intro w' hw'; obtain ⟨j0, j1, j2, j3, j4⟩ := hw'.cells; simp only at j0 j1 j2 j3 j4; first | (go_simp; done) | (go_simp; with_reducible rfl))
    try simp only [List.getElem_toArray, List.getElem_cons_zero, List.getElem_cons_succ, Act.put, List.setIfInBounds_toArray, List.set_cons_zero, List.set_cons_succ]
    refine RH_take (i := 6) (v := ?_) rfl (by kernel_rfl) (by kernel_rfl) (by kernel_rfl) (fun _ _ _ h => h) (bx_drew HBX.out) (by rfl) ?_ ?_
    rotate_left
    · (intro w' hw'; obtain ⟨j0, j1, j2, j3, j4⟩ := hw'.cells; simp only at j0 j1 j2 j3 j4; first | (go_simp; done) | (go_simp; with_reducible rfl))
    try simp only [List.getElem_toArray, List.getElem_cons_zero, List.getElem_cons_succ, Act.put, List.setIfInBounds_toArray, List.set_cons_zero, List.set_cons_succ]
    refine RH_take (i := 7) (v := ?_) rfl (by kernel_rfl) (by kernel_rfl) (by kernel_rfl) (fun _ _ _ h => h) (bx_drew HBX.out) (by rfl) ?_ ?_
    rotate_left
    · (intro w' hw'; obtain ⟨j0, j1, j2, j3, j4⟩ := hw'.cells; simp only at j0 j1 j2 j3 j4; first | (go_simp; done) | (go_simp; with_reducible rfl))
    try simp only [List.getElem_toArray, List.getElem_cons_zero, List.getElem_cons_succ, Act.put, List.setIfInBounds_toArray, List.set_cons_zero, List.set_cons_succ]
    refine RH_take (i := 8) (v := ?_) rfl (by kernel_rfl) (by kernel_rfl) (by kernel_rfl) (fun _ _ _ h => h) (bx_drew HBX.out) (by rfl) ?_ ?_
    rotate_left
    · (intro w' hw'; obtain ⟨j0, j1, j2, j3, j4⟩ := hw'.cells; simp only at j0 j1 j2 j3 j4; first | (go_simp; done) | (go_simp; with_reducible rfl))
    try simp only [List.getElem_toArray, List.getElem_cons_zero, List.getElem_cons_succ, Act.put, List.setIfInBounds_toArray, List.set_cons_zero, List.set_cons_succ]
    refine RH_take (i := 9) (v := ?_) rfl (by kernel_rfl) (by kernel_rfl) (by kernel_rfl) (fun _ _ _ h => h) (bx_drew HBX.out) (by rfl) ?_ ?_
    rotate_left
    · (intro w' hw'; obtain ⟨j0, j1, j2, j3, j4⟩ := hw'.cells; simp only at j0 j1 j2 j3 j4; first | (go_simp; done) | (go_simp; with_reducible rfl))
    try simp only [List.getElem_toArray, List.getElem_cons_zero, List.getElem_cons_succ, Act.put, List.setIfInBounds_toArray, List.set_cons_zero, List.set_cons_succ]
    refine RH_take (i := 10) (v := ?_) rfl (by kernel_rfl) (by kernel_rfl) (by kernel_rfl) (fun _ _ _ h => h) (bx_drew HBX.out) (by rfl) ?_ ?_
    rotate_left
    · (intro w' hw'; obtain ⟨j0, j1, j2, j3, j4⟩ := hw'.cells; simp only at j0 j1 j2 j3 j4; first | (go_simp; done) | (go_simp; with_reducible rfl))
    try simp only [List.getElem_toArray, List.getElem_cons_zero, List.getElem_cons_succ, Act.put, List.setIfInBounds_toArray, List.set_cons_zero, List.set_cons_succ]
    refine RH_take (i := 12) (v := ?_) rfl (by kernel_rfl) (by kernel_rfl) (by kernel_rfl) (fun _ _ _ h => h) (bx_drew HBX.out) (by rfl) ?_ ?_
    rotate_left
    · (intro w' hw'; obtain ⟨j0, j1, j2, j3, j4⟩ := hw'.cells; simp only at j0 j1 j2 j3 j4; first | (go_simp; done) | (go_simp; with_reducible rfl))
    try simp only [List.getElem_toArray, List.getElem_cons_zero, List.getElem_cons_succ, Act.put, List.setIfInBounds_toArray, List.set_cons_zero, List.set_cons_succ]
    refine RH_take (i := 13) (v := ?_) rfl (by kernel_rfl) (by kernel_rfl) (by kernel_rfl) (fun _ _ _ h => h) (bx_drew HBX.out) (by rfl) ?_ ?_
    rotate_left
    · (intro w' hw'; obtain ⟨j0, j1, j2, j3, j4⟩ := hw'.cells; simp only at j0 j1 j2 j3 j4; first | (go_simp; done) | (go_simp; with_reducible rfl))
    try simp only [List.getElem_toArray, List.getElem_cons_zero, List.getElem_cons_succ, Act.put, List.setIfInBounds_toArray, List.set_cons_zero, List.set_cons_succ]
    refine RH_step (i := 11) (by kernel_rfl) rfl (fun K hK => ?_)
    go_simp
    go_at_call 37
    refine (HDP.out _).mono ?_
    rintro e w2 ⟨a2, n2, q2, rfl, hn2, hI2, hb2⟩
    have HI2 := Lib.hid hI2
    have HB2 := Lib.hid (below_then HAL.out.drew hb2)
    have HX2 : Hid (Bx w2 w.heap.size ⟨xw, xh, xd, xc, xl⟩) := Lib.hid ((bx_drew HBX.out).below hb2)
    clear hI2 hb2
    go_simp
    refine hK.out _ _ HX2.out ?_
    clear hK K
    try simp only [List.getElem_toArray, List.getElem_cons_zero, List.getElem_cons_succ, Act.put, List.setIfInBounds_toArray, List.set_cons_zero, List.set_cons_succ]
    refine RH_step (i := 14) (by kernel_rfl) rfl (fun K hK => ?_)
    go_simp
    go_at_call 36
    refine (HCN.out _ _ _ _ hn2 HI2.out).mono ?_
    rintro e w3 ⟨rfl, rfl⟩
    go_simp
    refine hK.out _ _ HX2.out ?_
    clear hK K
    try simp only [List.getElem_toArray, List.getElem_cons_zero, List.getElem_cons_succ, Act.put, List.setIfInBounds_toArray, List.set_cons_zero, List.set_cons_succ]
    refine RH_take (i := 15) (v := ?_) rfl (by kernel_rfl) (by kernel_rfl) (by kernel_rfl) (fun _ _ _ h => h) HX2.out (by rfl) ?_ ?_
    rotate_left
    · (intro w' hw'; obtain ⟨j0, j1, j2, j3, j4⟩ := hw'.cells; simp only at j0 j1 j2 j3 j4; first | (go_simp; done) | (go_simp; with_reducible rfl))
    try simp only [List.getElem_toArray, List.getElem_cons_zero, List.getElem_cons_succ, Act.put, List.setIfInBounds_toArray, List.set_cons_zero, List.set_cons_succ]
    refine RH_take (i := 16) (v := ?_) rfl (by kernel_rfl) (by kernel_rfl) (by kernel_rfl) (fun _ _ _ h => h) HX2.out (by rfl) ?_ ?_
    rotate_left
    · (intro w' hw'; obtain ⟨j0, j1, j2, j3, j4⟩ := hw'.cells; simp only at j0 j1 j2 j3 j4; first | (go_simp; done) | (go_simp; with_reducible rfl))
    try simp only [List.getElem_toArray, List.getElem_cons_zero, List.getElem_cons_succ, Act.put, List.setIfInBounds_toArray, List.set_cons_zero, List.set_cons_succ]
    refine RH_take (i := 17) (v := ?_) rfl (by kernel_rfl) (by kernel_rfl) (by kernel_rfl) (fun _ _ _ h => h) HX2.out (by rfl) ?_ ?_
    rotate_left
    · (intro w' hw'; obtain ⟨j0, j1, j2, j3, j4⟩ := hw'.cells; simp only at j0 j1 j2 j3 j4; first | (go_simp; done) | (go_simp; with_reducible rfl))
    try simp only [List.getElem_toArray, List.getElem_cons_zero, List.getElem_cons_succ, Act.put, List.setIfInBounds_toArray, List.set_cons_zero, List.set_cons_succ]
    refine RH_skip (i := 18) rfl (by kernel_rfl) (by kernel_rfl) (by kernel_rfl) (fun _ _ _ h => h) HX2.out (by rfl) ?_
    try simp only [List.getElem_toArray, List.getElem_cons_zero, List.getElem_cons_succ, Act.put, List.setIfInBounds_toArray, List.set_cons_zero, List.set_cons_succ]
    refine RH_skip (i := 19) rfl (by kernel_rfl) (by kernel_rfl) (by kernel_rfl) (fun _ _ _ h => h) HX2.out (by rfl) ?_
    try simp only [List.getElem_toArray, List.getElem_cons_zero, List.getElem_cons_succ, Act.put, List.setIfInBounds_toArray, List.set_cons_zero, List.set_cons_succ]
    refine RH_skip (i := 20) rfl (by kernel_rfl) (by kernel_rfl) (by kernel_rfl) (fun _ _ _ h => h) HX2.out (by rfl) ?_
    try simp only [List.getElem_toArray, List.getElem_cons_zero, List.getElem_cons_succ, Act.put, List.setIfInBounds_toArray, List.set_cons_zero, List.set_cons_succ]
    refine RH_skip (i := 21) rfl (by kernel_rfl) (by kernel_rfl) (by kernel_rfl) (fun _ _ _ h => h) HX2.out (by rfl) ?_
    try simp only [List.getElem_toArray, List.getElem_cons_zero, List.getElem_cons_succ, Act.put, List.setIfInBounds_toArray, List.set_cons_zero, List.set_cons_succ]
    refine RH_skip (i := 22) rfl (by kernel_rfl) (by kernel_rfl) (by kernel_rfl) (fun _ _ _ h => h) HX2.out (by rfl) ?_
    try simp only [List.getElem_toArray, List.getElem_cons_zero, List.getElem_cons_succ, Act.put, List.setIfInBounds_toArray, List.set_cons_zero, List.set_cons_succ]
    refine RH_skip (i := 23) rfl (by kernel_rfl) (by kernel_rfl) (by kernel_rfl) (fun _ _ _ h => h) HX2.out (by rfl) ?_
    try simp only [List.getElem_toArray, List.getElem_cons_zero, List.getElem_cons_succ, Act.put, List.setIfInBounds_toArray, List.set_cons_zero, List.set_cons_succ]
    refine RH_skip (i := 24) rfl (by kernel_rfl) (by kernel_rfl) (by kernel_rfl) (fun _ _ _ h => h) HX2.out (by rfl) ?_
    try simp only [List.getElem_toArray, List.getElem_cons_zero, List.getElem_cons_succ, Act.put, List.setIfInBounds_toArray, List.set_cons_zero, List.set_cons_succ]
    refine RH_skip (i := 25) rfl (by kernel_rfl) (by kernel_rfl) (by kernel_rfl) (fun _ _ _ h => h) HX2.out (by rfl) ?_
    try simp only [List.getElem_toArray, List.getElem_cons_zero, List.getElem_cons_succ, Act.put, List.setIfInBounds_toArray, List.set_cons_zero, List.set_cons_succ]
    refine RH_take (i := 26) (v := ?_) rfl (by kernel_rfl) (by kernel_rfl) (by kernel_rfl) (fun _ _ _ h => h) HX2.out (by rfl) ?_ ?_
    rotate_left
    · (intro w' hw'; obtain ⟨j0, j1, j2, j3, j4⟩ := hw'.cells; simp only at j0 j1 j2 j3 j4; first | (go_simp; done) | (go_simp; with_reducible rfl))
    try simp only [List.getElem_toArray, List.getElem_cons_zero, List.getElem_cons_succ, Act.put, List.setIfInBounds_toArray, List.set_cons_zero, List.set_cons_succ]
    refine wpAnyH_done (by kernel_rfl) ?_ _
    refine NoPanic.normal ?_
    go_wp2
    go_ret
    exact ⟨by rw [HR.out]; rfl, HB2.out⟩
  | true =>
    rw [hct] at HCN
    by_cases hl : xl = 0 ∨ xl = 1
    · have HR : Hid (bd = if lg then 4 else 0) := Lib.hid (by
        have hm : (!(xl == 0 || xl == 1)) = false := by rcases hl with rfl | rfl <;> rfl
        rw [HBAD.out, HMF.out, d1, d2, hct, hm]; rfl)
      have hw1 : 1 ≤ xw := by omega
      have hh1 : 1 ≤ xh := by omega
      clear h1 h2 HBAD HMF hct
      rcases hl with rfl | rfl
      · skip
        refine wp_region_noPanic ?_
        refine region_RH (fun w' => Bx w' w.heap.size ⟨xw, xh, xd, xc, 0⟩) (by kernel_rfl) ?_
        refine RH_take (i := 0) (v := ?_) rfl (by kernel_rfl) (by kernel_rfl) (by kernel_rfl) (fun _ _ _ h => h) (bx_drew HBX.out) (by rfl) ?_ ?_
        rotate_left
        · (intro w' hw'; obtain ⟨j0, j1, j2, j3, j4⟩ := hw'.cells; simp only at j0 j1 j2 j3 j4; first | (go_simp; done) | (go_simp; with_reducible rfl))
        try simp only [List.getElem_toArray, List.getElem_cons_zero, List.getElem_cons_succ, Act.put, List.setIfInBounds_toArray, List.set_cons_zero, List.set_cons_succ]
        refine RH_take (i := 1) (v := ?_) rfl (by kernel_rfl) (by kernel_rfl) (by kernel_rfl) (fun _ _ _ h => h) (bx_drew HBX.out) (by rfl) ?_ ?_
        rotate_left
        · (intro w' hw'; obtain ⟨j0, j1, j2, j3, j4⟩ := hw'.cells; simp only at j0 j1 j2 j3 j4; first | (go_simp; done) | (go_simp; with_reducible rfl))
        try simp only [List.getElem_toArray, List.getElem_cons_zero, List.getElem_cons_succ, Act.put, List.setIfInBounds_toArray, List.set_cons_zero, List.set_cons_succ]
        refine RH_take (i := 2) (v := ?_) rfl (by kernel_rfl) (by kernel_rfl) (by kernel_rfl) (fun _ _ _ h => h) (bx_drew HBX.out) (by rfl) ?_ ?_
        rotate_left
        · (intro w' hw'; obtain ⟨j0, j1, j2, j3, j4⟩ := hw'.cells; simp only at j0 j1 j2 j3 j4; first | (go_simp; done) | (go_simp; with_reducible rfl))
        try simp only [List.getElem_toArray, List.getElem_cons_zero, List.getElem_cons_succ, Act.put, List.setIfInBounds_toArray, List.set_cons_zero, List.set_cons_succ]
        refine RH_take (i := 3) (v := ?_) rfl (by kernel_rfl) (by kernel_rfl) (by kernel_rfl) (fun _ _ _ h => h) (bx_drew HBX.out) (by rfl) ?_ ?_
        rotate_left
        · (intro w' hw'; obtain ⟨j0, j1, j2, j3, j4⟩ := hw'.cells; simp only at j0 j1 j2 j3 j4; first | (go_simp; done) | (go_simp; with_reducible rfl))
        try simp only [List.getElem_toArray, List.getElem_cons_zero, List.getElem_cons_succ, Act.put, List.setIfInBounds_toArray, List.set_cons_zero, List.set_cons_succ]
        refine RH_take (i := 4) (v := ?_) rfl (by kernel_rfl) (by kernel_rfl) (by kernel_rfl) (fun _ _ _ h => h) (bx_drew HBX.out) (by rfl) ?_ ?_
        rotate_left
        · (intro w' hw'; obtain ⟨j0, j1, j2, j3, j4⟩ := hw'.cells; simp only at j0 j1 j2 j3 j4; first | (go_simp; done) | (go_simp; with_reducible rfl))
        try simp only [List.getElem_toArray, List.getElem_cons_zero, List.getElem_cons_succ, Act.put, List.setIfInBounds_toArray, List.set_cons_zero, List.set_cons_succ]
        refine RH_take (i := 5) (v := ?_) rfl (by kernel_rfl) (by kernel_rfl) (by kernel_rfl) (fun _ _ _ h => h) (bx_drew HBX.out) (by rfl) ?_ ?_
        rotate_left
        · (intro w' hw'; obtain ⟨j0, j1, j2, j3, j4⟩ := hw'.cells; simp only at j0 j1 j2 j3 j4; first | (go_simp; done) | (go_simp; with_reducible rfl))
        try simp only [List.getElem_toArray, List.getElem_cons_zero, List.getElem_cons_succ, Act.put, List.setIfInBounds_toArray, List.set_cons_zero, List.set_cons_succ]
        refine RH_take (i := 6) (v := ?_) rfl (by kernel_rfl) (by kernel_rfl) (by kernel_rfl) (fun _ _ _ h => h) (bx_drew HBX.out) (by rfl) ?_ ?_
        rotate_left
        · (intro w' hw'; obtain ⟨j0, j1, j2, j3, j4⟩ := hw'.cells; simp only at j0 j1 j2 j3 j4; first | (go_simp; done) | (go_simp; with_reducible rfl))
        try simp only [List.getElem_toArray, List.getElem_cons_zero, List.getElem_cons_succ, Act.put, List.setIfInBounds_toArray, List.set_cons_zero, List.set_cons_succ]
        refine RH_take (i := 7) (v := ?_) rfl (by kernel_rfl) (by kernel_rfl) (by kernel_rfl) (fun _ _ _ h => h) (bx_drew HBX.out) (by rfl) ?_ ?_
        rotate_left
        · (intro w' hw'; obtain ⟨j0, j1, j2, j3, j4⟩ := hw'.cells; simp only at j0 j1 j2 j3 j4; first | (go_simp; done) | (go_simp; with_reducible rfl))
        try simp only [List.getElem_toArray, List.getElem_cons_zero, List.getElem_cons_succ, Act.put, List.setIfInBounds_toArray, List.set_cons_zero, List.set_cons_succ]
        refine RH_take (i := 8) (v := ?_) rfl (by kernel_rfl) (by kernel_rfl) (by kernel_rfl) (fun _ _ _ h => h) (bx_drew HBX.out) (by rfl) ?_ ?_
        rotate_left
        · (intro w' hw'; obtain ⟨j0, j1, j2, j3, j4⟩ := hw'.cells; simp only at j0 j1 j2 j3 j4; first | (go_simp; done) | (go_simp; with_reducible rfl))
        try simp only [List.getElem_toArray, List.getElem_cons_zero, List.getElem_cons_succ, Act.put, List.setIfInBounds_toArray, List.set_cons_zero, List.set_cons_succ]
        refine RH_take (i := 9) (v := ?_) rfl (by kernel_rfl) (by kernel_rfl) (by kernel_rfl) (fun _ _ _ h => h) (bx_drew HBX.out) (by rfl) ?_ ?_
        rotate_left
        · (intro w' hw'; obtain ⟨j0, j1, j2, j3, j4⟩ := hw'.cells; simp only at j0 j1 j2 j3 j4; first | (go_simp; done) | (go_simp; with_reducible rfl))
        try simp only [List.getElem_toArray, List.getElem_cons_zero, List.getElem_cons_succ, Act.put, List.setIfInBounds_toArray, List.set_cons_zero, List.set_cons_succ]
        refine RH_take (i := 10) (v := ?_) rfl (by kernel_rfl) (by kernel_rfl) (by kernel_rfl) (fun _ _ _ h => h) (bx_drew HBX.out) (by rfl) ?_ ?_
        rotate_left
        · (intro w' hw'; obtain ⟨j0, j1, j2, j3, j4⟩ := hw'.cells; simp only at j0 j1 j2 j3 j4; first | (go_simp; done) | (go_simp; with_reducible rfl))
        try simp only [List.getElem_toArray, List.getElem_cons_zero, List.getElem_cons_succ, Act.put, List.setIfInBounds_toArray, List.set_cons_zero, List.set_cons_succ]
        refine RH_take (i := 12) (v := ?_) rfl (by kernel_rfl) (by kernel_rfl) (by kernel_rfl) (fun _ _ _ h => h) (bx_drew HBX.out) (by rfl) ?_ ?_
        rotate_left
        · (intro w' hw'; obtain ⟨j0, j1, j2, j3, j4⟩ := hw'.cells; simp only at j0 j1 j2 j3 j4; first | (go_simp; done) | (go_simp; with_reducible rfl))
        try simp only [List.getElem_toArray, List.getElem_cons_zero, List.getElem_cons_succ, Act.put, List.setIfInBounds_toArray, List.set_cons_zero, List.set_cons_succ]
        refine RH_take (i := 13) (v := ?_) rfl (by kernel_rfl) (by kernel_rfl) (by kernel_rfl) (fun _ _ _ h => h) (bx_drew HBX.out) (by rfl) ?_ ?_
        rotate_left
        · (intro w' hw'; obtain ⟨j0, j1, j2, j3, j4⟩ := hw'.cells; simp only at j0 j1 j2 j3 j4; first | (go_simp; done) | (go_simp; with_reducible rfl))
        try simp only [List.getElem_toArray, List.getElem_cons_zero, List.getElem_cons_succ, Act.put, List.setIfInBounds_toArray, List.set_cons_zero, List.set_cons_succ]
        refine RH_step (i := 11) (by kernel_rfl) rfl (fun K hK => ?_)
        go_simp
        go_at_call 37
        refine (HDP.out _).mono ?_
        rintro e w2 ⟨a2, n2, q2, rfl, hn2, hI2, hb2⟩
        have HI2 := Lib.hid hI2
        have HB2 := Lib.hid (below_then HAL.out.drew hb2)
        have HX2 : Hid (Bx w2 w.heap.size ⟨xw, xh, xd, xc, 0⟩) := Lib.hid ((bx_drew HBX.out).below hb2)
        clear hI2 hb2
        go_simp
        refine hK.out _ _ HX2.out ?_
        clear hK K
        try simp only [List.getElem_toArray, List.getElem_cons_zero, List.getElem_cons_succ, Act.put, List.setIfInBounds_toArray, List.set_cons_zero, List.set_cons_succ]
        refine RH_step (i := 14) (by kernel_rfl) rfl (fun K hK => ?_)
        go_simp
        go_at_call 36
        refine (HCN.out _ _ _ _ hn2 HI2.out).mono ?_
        rintro e w3 ⟨rfl, rfl⟩
        go_simp
        refine hK.out _ _ HX2.out ?_
        clear hK K
        try simp only [List.getElem_toArray, List.getElem_cons_zero, List.getElem_cons_succ, Act.put, List.setIfInBounds_toArray, List.set_cons_zero, List.set_cons_succ]
        refine RH_take (i := 15) (v := ?_) rfl (by kernel_rfl) (by kernel_rfl) (by kernel_rfl) (fun _ _ _ h => h) HX2.out (by rfl) ?_ ?_
        rotate_left
        · (intro w' hw'; obtain ⟨j0, j1, j2, j3, j4⟩ := hw'.cells; simp only at j0 j1 j2 j3 j4; first | (go_simp; done) | (go_simp; with_reducible rfl))
        try simp only [List.getElem_toArray, List.getElem_cons_zero, List.getElem_cons_succ, Act.put, List.setIfInBounds_toArray, List.set_cons_zero, List.set_cons_succ]
        refine RH_take (i := 16) (v := ?_) rfl (by kernel_rfl) (by kernel_rfl) (by kernel_rfl) (fun _ _ _ h => h) HX2.out (by rfl) ?_ ?_
        rotate_left
        · (intro w' hw'; obtain ⟨j0, j1, j2, j3, j4⟩ := hw'.cells; simp only at j0 j1 j2 j3 j4; first | (go_simp; done) | (go_simp; with_reducible rfl))
        try simp only [List.getElem_toArray, List.getElem_cons_zero, List.getElem_cons_succ, Act.put, List.setIfInBounds_toArray, List.set_cons_zero, List.set_cons_succ]
        refine RH_take (i := 17) (v := ?_) rfl (by kernel_rfl) (by kernel_rfl) (by kernel_rfl) (fun _ _ _ h => h) HX2.out (by rfl) ?_ ?_
        rotate_left
        · (intro w' hw'; obtain ⟨j0, j1, j2, j3, j4⟩ := hw'.cells; simp only at j0 j1 j2 j3 j4; first | (go_simp; done) | (go_simp; with_reducible rfl))
        try simp only [List.getElem_toArray, List.getElem_cons_zero, List.getElem_cons_succ, Act.put, List.setIfInBounds_toArray, List.set_cons_zero, List.set_cons_succ]
        refine RH_take (i := 18) (v := ?_) rfl (by kernel_rfl) (by kernel_rfl) (by kernel_rfl) (fun _ _ _ h => h) HX2.out (by rfl) ?_ ?_
        rotate_left
        · (intro w' hw'; obtain ⟨j0, j1, j2, j3, j4⟩ := hw'.cells; simp only at j0 j1 j2 j3 j4; first | (go_simp; done) | (go_simp; with_reducible rfl))
        try simp only [List.getElem_toArray, List.getElem_cons_zero, List.getElem_cons_succ, Act.put, List.setIfInBounds_toArray, List.set_cons_zero, List.set_cons_succ]
        refine RH_take (i := 19) (v := ?_) rfl (by kernel_rfl) (by kernel_rfl) (by kernel_rfl) (fun _ _ _ h => h) HX2.out (by rfl) ?_ ?_
        rotate_left
        · (intro w' hw'; obtain ⟨j0, j1, j2, j3, j4⟩ := hw'.cells; simp only at j0 j1 j2 j3 j4; first | (go_simp; done) | (go_simp; with_reducible rfl))
        try simp only [List.getElem_toArray, List.getElem_cons_zero, List.getElem_cons_succ, Act.put, List.setIfInBounds_toArray, List.set_cons_zero, List.set_cons_succ]
        refine RH_take (i := 20) (v := ?_) rfl (by kernel_rfl) (by kernel_rfl) (by kernel_rfl) (fun _ _ _ h => h) HX2.out (by rfl) ?_ ?_
        rotate_left
        · (intro w' hw'; obtain ⟨j0, j1, j2, j3, j4⟩ := hw'.cells; simp only at j0 j1 j2 j3 j4; first | (go_simp; done) | (go_simp; with_reducible rfl))
        try simp only [List.getElem_toArray, List.getElem_cons_zero, List.getElem_cons_succ, Act.put, List.setIfInBounds_toArray, List.set_cons_zero, List.set_cons_succ]
        refine RH_take (i := 21) (v := ?_) rfl (by kernel_rfl) (by kernel_rfl) (by kernel_rfl) (fun _ _ _ h => h) HX2.out (by rfl) ?_ ?_
        rotate_left
        · (intro w' hw'; obtain ⟨j0, j1, j2, j3, j4⟩ := hw'.cells; simp only at j0 j1 j2 j3 j4; first | (go_simp; done) | (go_simp; with_reducible rfl))
        try simp only [List.getElem_toArray, List.getElem_cons_zero, List.getElem_cons_succ, Act.put, List.setIfInBounds_toArray, List.set_cons_zero, List.set_cons_succ]
        refine RH_skip (i := 22) rfl (by kernel_rfl) (by kernel_rfl) (by kernel_rfl) (fun _ _ _ h => h) HX2.out (by rfl) ?_
        try simp only [List.getElem_toArray, List.getElem_cons_zero, List.getElem_cons_succ, Act.put, List.setIfInBounds_toArray, List.set_cons_zero, List.set_cons_succ]
        refine RH_skip (i := 23) rfl (by kernel_rfl) (by kernel_rfl) (by kernel_rfl) (fun _ _ _ h => h) HX2.out (by rfl) ?_
        try simp only [List.getElem_toArray, List.getElem_cons_zero, List.getElem_cons_succ, Act.put, List.setIfInBounds_toArray, List.set_cons_zero, List.set_cons_succ]
        refine RH_skip (i := 24) rfl (by kernel_rfl) (by kernel_rfl) (by kernel_rfl) (fun _ _ _ h => h) HX2.out (by rfl) ?_
        try simp only [List.getElem_toArray, List.getElem_cons_zero, List.getElem_cons_succ, Act.put, List.setIfInBounds_toArray, List.set_cons_zero, List.set_cons_succ]
        refine RH_take (i := 25) (v := ?_) rfl (by kernel_rfl) (by kernel_rfl) (by kernel_rfl) (fun _ _ _ h => h) HX2.out (by rfl) ?_ ?_
        rotate_left
        · (intro w' hw'; obtain ⟨j0, j1, j2, j3, j4⟩ := hw'.cells; simp only at j0 j1 j2 j3 j4; first | (go_simp; done) | (go_simp; with_reducible rfl))
        try simp only [List.getElem_toArray, List.getElem_cons_zero, List.getElem_cons_succ, Act.put, List.setIfInBounds_toArray, List.set_cons_zero, List.set_cons_succ]
        refine RH_take (i := 26) (v := ?_) rfl (by kernel_rfl) (by kernel_rfl) (by kernel_rfl) (fun _ _ _ h => h) HX2.out (by rfl) ?_ ?_
        rotate_left
        · (intro w' hw'; obtain ⟨j0, j1, j2, j3, j4⟩ := hw'.cells; simp only at j0 j1 j2 j3 j4; first | (go_simp; done) | (go_simp; with_reducible rfl))
        try simp only [List.getElem_toArray, List.getElem_cons_zero, List.getElem_cons_succ, Act.put, List.setIfInBounds_toArray, List.set_cons_zero, List.set_cons_succ]
        refine wpAnyH_done (by kernel_rfl) ?_ _
        refine NoPanic.normal ?_
        obtain ⟨y0, y1, y2, y3, y4⟩ := HX2.out.cells
        simp only at y0 y1 y2 y3 y4
        by_cases h3 : 65535 < xw
        · have d3 : decide ((65535 : Int) < xw) = true := by simpa using h3
          have HR2 : Hid (bd = 4) := Lib.hid (by rw [HR.out, HLG.out, d3]; rfl)
          clear h3 hw1 hh1
          go_wp2
          go_ret
          exact ⟨by rw [HR2.out]; rfl, HB2.out⟩
        have d3 : decide ((65535 : Int) < xw) = false := by simpa using h3
        by_cases h4 : 65535 < xh
        · have d4 : decide ((65535 : Int) < xh) = true := by simpa using h4
          have HR2 : Hid (bd = 4) := Lib.hid (by rw [HR.out, HLG.out, d3, d4]; rfl)
          clear h3 h4 hw1 hh1
          go_wp2
          go_ret
          exact ⟨by rw [HR2.out]; rfl, HB2.out⟩
        have d4 : decide ((65535 : Int) < xh) = false := by simpa using h4
        have hp := mul_small (a := xw) (b := xh) (by omega) (by omega) (by omega) (by omega)
        have hwr : wrap64 (xw * xh) = xw * xh := IntWalk.wrap64_in _ ⟨by omega, by omega⟩
        have HR2 : Hid (bd = if decide (262144 < xw * xh) then 4 else 0) := Lib.hid (by rw [HR.out, HLG.out, d3, d4]; rfl)
        clear h3 h4 hw1 hh1 HR HLG
        cases hd5 : decide ((262144 : Int) < xw * xh)
        all_goals
          rw [hd5] at HR2
          clear hp
          go_wp2
          go_ret
          exact ⟨by rw [HR2.out]; rfl, HB2.out⟩
      · skip
        refine wp_region_noPanic ?_
        refine region_RH (fun w' => Bx w' w.heap.size ⟨xw, xh, xd, xc, 1⟩) (by kernel_rfl) ?_
        refine RH_take (i := 0) (v := ?_) rfl (by kernel_rfl) (by kernel_rfl) (by kernel_rfl) (fun _ _ _ h => h) (bx_drew HBX.out) (by rfl) ?_ ?_
        rotate_left
        · (intro w' hw'; obtain ⟨j0, j1, j2, j3, j4⟩ := hw'.cells; simp only at j0 j1 j2 j3 j4; first | (go_simp; done) | (go_simp; with_reducible rfl))
        try simp only [List.getElem_toArray, List.getElem_cons_zero, List.getElem_cons_succ, Act.put, List.setIfInBounds_toArray, List.set_cons_zero, List.set_cons_succ]
        refine RH_take (i := 1) (v := ?_) rfl (by kernel_rfl) (by kernel_rfl) (by kernel_rfl) (fun _ _ _ h => h) (bx_drew HBX.out) (by rfl) ?_ ?_
        rotate_left
        · (intro w' hw'; obtain ⟨j0, j1, j2, j3, j4⟩ := hw'.cells; simp only at j0 j1 j2 j3 j4; first | (go_simp; done) | (go_simp; with_reducible rfl))
        try simp only [List.getElem_toArray, List.getElem_cons_zero, List.getElem_cons_succ, Act.put, List.setIfInBounds_toArray, List.set_cons_zero, List.set_cons_succ]
        refine RH_take (i := 2) (v := ?_) rfl (by kernel_rfl) (by kernel_rfl) (by kernel_rfl) (fun _ _ _ h => h) (bx_drew HBX.out) (by rfl) ?_ ?_
        rotate_left
        · (intro w' hw'; obtain ⟨j0, j1, j2, j3, j4⟩ := hw'.cells; simp only at j0 j1 j2 j3 j4; first | (go_simp; done) | (go_simp; with_reducible rfl))
        try simp only [List.getElem_toArray, List.getElem_cons_zero, List.getElem_cons_succ, Act.put, List.setIfInBounds_toArray, List.set_cons_zero, List.set_cons_succ]
        refine RH_take (i := 3) (v := ?_) rfl (by kernel_rfl) (by kernel_rfl) (by kernel_rfl) (fun _ _ _ h => h) (bx_drew HBX.out) (by rfl) ?_ ?_
        rotate_left
        · (intro w' hw'; obtain ⟨j0, j1, j2, j3, j4⟩ := hw'.cells; simp only at j0 j1 j2 j3 j4; first | (go_simp; done) | (go_simp; with_reducible rfl))
        try simp only [List.getElem_toArray, List.getElem_cons_zero, List.getElem_cons_succ, Act.put, List.setIfInBounds_toArray, List.set_cons_zero, List.set_cons_succ]
        refine RH_take (i := 4) (v := ?_) rfl (by kernel_rfl) (by kernel_rfl) (by kernel_rfl) (fun _ _ _ h => h) (bx_drew HBX.out) (by rfl) ?_ ?_
        rotate_left
        · (intro w' hw'; obtain ⟨j0, j1, j2, j3, j4⟩ := hw'.cells; simp only at j0 j1 j2 j3 j4; first | (go_simp; done) | (go_simp; with_reducible rfl))
        try simp only [List.getElem_toArray, List.getElem_cons_zero, List.getElem_cons_succ, Act.put, List.setIfInBounds_toArray, List.set_cons_zero, List.set_cons_succ]
        refine RH_take (i := 5) (v := ?_) rfl (by kernel_rfl) (by kernel_rfl) (by kernel_rfl) (fun _ _ _ h => h) (bx_drew HBX.out) (by rfl) ?_ ?_
        rotate_left
        · (intro w' hw'; obtain ⟨j0, j1, j2, j3, j4⟩ := hw'.cells; simp only at j0 j1 j2 j3 j4; first | (go_simp; done) | (go_simp; with_reducible rfl))
        try simp only [List.getElem_toArray, List.getElem_cons_zero, List.getElem_cons_succ, Act.put, List.setIfInBounds_toArray, List.set_cons_zero, List.set_cons_succ]
        refine RH_take (i := 6) (v := ?_) rfl (by kernel_rfl) (by kernel_rfl) (by kernel_rfl) (fun _ _ _ h => h) (bx_drew HBX.out) (by rfl) ?_ ?_
        rotate_left
        · (intro w' hw'; obtain ⟨j0, j1, j2, j3, j4⟩ := hw'.cells; simp only at j0 j1 j2 j3 j4; first | (go_simp; done) | (go_simp; with_reducible rfl))
        try simp only [List.getElem_toArray, List.getElem_cons_zero, List.getElem_cons_succ, Act.put, List.setIfInBounds_toArray, List.set_cons_zero, List.set_cons_succ]
        refine RH_take (i := 7) (v := ?_) rfl (by kernel_rfl) (by kernel_rfl) (by kernel_rfl) (fun _ _ _ h => h) (bx_drew HBX.out) (by rfl) ?_ ?_
        rotate_left
        · (intro w' hw'; obtain ⟨j0, j1, j2, j3, j4⟩ := hw'.cells; simp only at j0 j1 j2 j3 j4; first | (go_simp; done) | (go_simp; with_reducible rfl))
        try simp only [List.getElem_toArray, List.getElem_cons_zero, List.getElem_cons_succ, Act.put, List.setIfInBounds_toArray, List.set_cons_zero, List.set_cons_succ]
        refine RH_take (i := 8) (v := ?_) rfl (by kernel_rfl) (by kernel_rfl) (by kernel_rfl) (fun _ _ _ h => h) (bx_drew HBX.out) (by rfl) ?_ ?_
        rotate_left
        · (intro w' hw'; obtain ⟨j0, j1, j2, j3, j4⟩ := hw'.cells; simp only at j0 j1 j2 j3 j4; first | (go_simp; done) | (go_simp; with_reducible rfl))
        try simp only [List.getElem_toArray, List.getElem_cons_zero, List.getElem_cons_succ, Act.put, List.setIfInBounds_toArray, List.set_cons_zero, List.set_cons_succ]
        refine RH_take (i := 9) (v := ?_) rfl (by kernel_rfl) (by kernel_rfl) (by kernel_rfl) (fun _ _ _ h => h) (bx_drew HBX.out) (by rfl) ?_ ?_
        rotate_left
        · (intro w' hw'; obtain ⟨j0, j1, j2, j3, j4⟩ := hw'.cells; simp only at j0 j1 j2 j3 j4; first | (go_simp; done) | (go_simp; with_reducible rfl))
        try simp only [List.getElem_toArray, List.getElem_cons_zero, List.getElem_cons_succ, Act.put, List.setIfInBounds_toArray, List.set_cons_zero, List.set_cons_succ]
        refine RH_take (i := 10) (v := ?_) rfl (by kernel_rfl) (by kernel_rfl) (by kernel_rfl) (fun _ _ _ h => h) (bx_drew HBX.out) (by rfl) ?_ ?_
        rotate_left
        · (intro w' hw'; obtain ⟨j0, j1, j2, j3, j4⟩ := hw'.cells; simp only at j0 j1 j2 j3 j4; first | (go_simp; done) | (go_simp; with_reducible rfl))
        try simp only [List.getElem_toArray, List.getElem_cons_zero, List.getElem_cons_succ, Act.put, List.setIfInBounds_toArray, List.set_cons_zero, List.set_cons_succ]
        refine RH_take (i := 12) (v := ?_) rfl (by kernel_rfl) (by kernel_rfl) (by kernel_rfl) (fun _ _ _ h => h) (bx_drew HBX.out) (by rfl) ?_ ?_
        rotate_left
        · (intro w' hw'; obtain ⟨j0, j1, j2, j3, j4⟩ := hw'.cells; simp only at j0 j1 j2 j3 j4; first | (go_simp; done) | (go_simp; with_reducible rfl))
        try simp only [List.getElem_toArray, List.getElem_cons_zero, List.getElem_cons_succ, Act.put, List.setIfInBounds_toArray, List.set_cons_zero, List.set_cons_succ]
        refine RH_take (i := 13) (v := ?_) rfl (by kernel_rfl) (by kernel_rfl) (by kernel_rfl) (fun _ _ _ h => h) (bx_drew HBX.out) (by rfl) ?_ ?_
        rotate_left
        · (intro w' hw'; obtain ⟨j0, j1, j2, j3, j4⟩ := hw'.cells; simp only at j0 j1 j2 j3 j4; first | (go_simp; done) | (go_simp; with_reducible rfl))
        try simp only [List.getElem_toArray, List.getElem_cons_zero, List.getElem_cons_succ, Act.put, List.setIfInBounds_toArray, List.set_cons_zero, List.set_cons_succ]
        refine RH_step (i := 11) (by kernel_rfl) rfl (fun K hK => ?_)
        go_simp
        go_at_call 37
        refine (HDP.out _).mono ?_
        rintro e w2 ⟨a2, n2, q2, rfl, hn2, hI2, hb2⟩
        have HI2 := Lib.hid hI2
        have HB2 := Lib.hid (below_then HAL.out.drew hb2)
        have HX2 : Hid (Bx w2 w.heap.size ⟨xw, xh, xd, xc, 1⟩) := Lib.hid ((bx_drew HBX.out).below hb2)
        clear hI2 hb2
        go_simp
        refine hK.out _ _ HX2.out ?_
        clear hK K
        try simp only [List.getElem_toArray, List.getElem_cons_zero, List.getElem_cons_succ, Act.put, List.setIfInBounds_toArray, List.set_cons_zero, List.set_cons_succ]
        refine RH_step (i := 14) (by kernel_rfl) rfl (fun K hK => ?_)
        go_simp
        go_at_call 36
        refine (HCN.out _ _ _ _ hn2 HI2.out).mono ?_
        rintro e w3 ⟨rfl, rfl⟩
        go_simp
        refine hK.out _ _ HX2.out ?_
        clear hK K
        try simp only [List.getElem_toArray, List.getElem_cons_zero, List.getElem_cons_succ, Act.put, List.setIfInBounds_toArray, List.set_cons_zero, List.set_cons_succ]
        refine RH_take (i := 15) (v := ?_) rfl (by kernel_rfl) (by kernel_rfl) (by kernel_rfl) (fun _ _ _ h => h) HX2.out (by rfl) ?_ ?_
        rotate_left
        · (intro w' hw'; obtain ⟨j0, j1, j2, j3, j4⟩ := hw'.cells; simp only at j0 j1 j2 j3 j4; first | (go_simp; done) | (go_simp; with_reducible rfl))
        try simp only [List.getElem_toArray, List.getElem_cons_zero, List.getElem_cons_succ, Act.put, List.setIfInBounds_toArray, List.set_cons_zero, List.set_cons_succ]
        refine RH_take (i := 16) (v := ?_) rfl (by kernel_rfl) (by kernel_rfl) (by kernel_rfl) (fun _ _ _ h => h) HX2.out (by rfl) ?_ ?_
        rotate_left
        · (intro w' hw'; obtain ⟨j0, j1, j2, j3, j4⟩ := hw'.cells; simp only at j0 j1 j2 j3 j4; first | (go_simp; done) | (go_simp; with_reducible rfl))
        try simp only [List.getElem_toArray, List.getElem_cons_zero, List.getElem_cons_succ, Act.put, List.setIfInBounds_toArray, List.set_cons_zero, List.set_cons_succ]
        refine RH_take (i := 17) (v := ?_) rfl (by kernel_rfl) (by kernel_rfl) (by kernel_rfl) (fun _ _ _ h => h) HX2.out (by rfl) ?_ ?_
        rotate_left
        · (intro w' hw'; obtain ⟨j0, j1, j2, j3, j4⟩ := hw'.cells; simp only at j0 j1 j2 j3 j4; first | (go_simp; done) | (go_simp; with_reducible rfl))
        try simp only [List.getElem_toArray, List.getElem_cons_zero, List.getElem_cons_succ, Act.put, List.setIfInBounds_toArray, List.set_cons_zero, List.set_cons_succ]
        refine RH_take (i := 18) (v := ?_) rfl (by kernel_rfl) (by kernel_rfl) (by kernel_rfl) (fun _ _ _ h => h) HX2.out (by rfl) ?_ ?_
        rotate_left
        · (intro w' hw'; obtain ⟨j0, j1, j2, j3, j4⟩ := hw'.cells; simp only at j0 j1 j2 j3 j4; first | (go_simp; done) | (go_simp; with_reducible rfl))
        try simp only [List.getElem_toArray, List.getElem_cons_zero, List.getElem_cons_succ, Act.put, List.setIfInBounds_toArray, List.set_cons_zero, List.set_cons_succ]
        refine RH_take (i := 19) (v := ?_) rfl (by kernel_rfl) (by kernel_rfl) (by kernel_rfl) (fun _ _ _ h => h) HX2.out (by rfl) ?_ ?_
        rotate_left
        · (intro w' hw'; obtain ⟨j0, j1, j2, j3, j4⟩ := hw'.cells; simp only at j0 j1 j2 j3 j4; first | (go_simp; done) | (go_simp; with_reducible rfl))
        try simp only [List.getElem_toArray, List.getElem_cons_zero, List.getElem_cons_succ, Act.put, List.setIfInBounds_toArray, List.set_cons_zero, List.set_cons_succ]
        refine RH_take (i := 20) (v := ?_) rfl (by kernel_rfl) (by kernel_rfl) (by kernel_rfl) (fun _ _ _ h => h) HX2.out (by rfl) ?_ ?_
        rotate_left
        · (intro w' hw'; obtain ⟨j0, j1, j2, j3, j4⟩ := hw'.cells; simp only at j0 j1 j2 j3 j4; first | (go_simp; done) | (go_simp; with_reducible rfl))
        try simp only [List.getElem_toArray, List.getElem_cons_zero, List.getElem_cons_succ, Act.put, List.setIfInBounds_toArray, List.set_cons_zero, List.set_cons_succ]
        refine RH_take (i := 21) (v := ?_) rfl (by kernel_rfl) (by kernel_rfl) (by kernel_rfl) (fun _ _ _ h => h) HX2.out (by rfl) ?_ ?_
        rotate_left
        · (intro w' hw'; obtain ⟨j0, j1, j2, j3, j4⟩ := hw'.cells; simp only at j0 j1 j2 j3 j4; first | (go_simp; done) | (go_simp; with_reducible rfl))
        try simp only [List.getElem_toArray, List.getElem_cons_zero, List.getElem_cons_succ, Act.put, List.setIfInBounds_toArray, List.set_cons_zero, List.set_cons_succ]
        refine RH_take (i := 22) (v := ?_) rfl (by kernel_rfl) (by kernel_rfl) (by kernel_rfl) (fun _ _ _ h => h) HX2.out (by rfl) ?_ ?_
        rotate_left
        · (intro w' hw'; obtain ⟨j0, j1, j2, j3, j4⟩ := hw'.cells; simp only at j0 j1 j2 j3 j4; first | (go_simp; done) | (go_simp; with_reducible rfl))
        try simp only [List.getElem_toArray, List.getElem_cons_zero, List.getElem_cons_succ, Act.put, List.setIfInBounds_toArray, List.set_cons_zero, List.set_cons_succ]
        refine RH_take (i := 23) (v := ?_) rfl (by kernel_rfl) (by kernel_rfl) (by kernel_rfl) (fun _ _ _ h => h) HX2.out (by rfl) ?_ ?_
        rotate_left
        · (intro w' hw'; obtain ⟨j0, j1, j2, j3, j4⟩ := hw'.cells; simp only at j0 j1 j2 j3 j4; first | (go_simp; done) | (go_simp; with_reducible rfl))
        try simp only [List.getElem_toArray, List.getElem_cons_zero, List.getElem_cons_succ, Act.put, List.setIfInBounds_toArray, List.set_cons_zero, List.set_cons_succ]
        refine RH_take (i := 24) (v := ?_) rfl (by kernel_rfl) (by kernel_rfl) (by kernel_rfl) (fun _ _ _ h => h) HX2.out (by rfl) ?_ ?_
        rotate_left
        · (intro w' hw'; obtain ⟨j0, j1, j2, j3, j4⟩ := hw'.cells; simp only at j0 j1 j2 j3 j4; first | (go_simp; done) | (go_simp; with_reducible rfl))
        try simp only [List.getElem_toArray, List.getElem_cons_zero, List.getElem_cons_succ, Act.put, List.setIfInBounds_toArray, List.set_cons_zero, List.set_cons_succ]
        refine RH_take (i := 25) (v := ?_) rfl (by kernel_rfl) (by kernel_rfl) (by kernel_rfl) (fun _ _ _ h => h) HX2.out (by rfl) ?_ ?_
        rotate_left
        · (intro w' hw'; obtain ⟨j0, j1, j2, j3, j4⟩ := hw'.cells; simp only at j0 j1 j2 j3 j4; first | (go_simp; done) | (go_simp; with_reducible rfl))
        try simp only [List.getElem_toArray, List.getElem_cons_zero, List.getElem_cons_succ, Act.put, List.setIfInBounds_toArray, List.set_cons_zero, List.set_cons_succ]
        refine RH_take (i := 26) (v := ?_) rfl (by kernel_rfl) (by kernel_rfl) (by kernel_rfl) (fun _ _ _ h => h) HX2.out (by rfl) ?_ ?_
        rotate_left
        · (intro w' hw'; obtain ⟨j0, j1, j2, j3, j4⟩ := hw'.cells; simp only at j0 j1 j2 j3 j4; first | (go_simp; done) | (go_simp; with_reducible rfl))
        try simp only [List.getElem_toArray, List.getElem_cons_zero, List.getElem_cons_succ, Act.put, List.setIfInBounds_toArray, List.set_cons_zero, List.set_cons_succ]
        refine wpAnyH_done (by kernel_rfl) ?_ _
        refine NoPanic.normal ?_
        obtain ⟨y0, y1, y2, y3, y4⟩ := HX2.out.cells
        simp only at y0 y1 y2 y3 y4
        by_cases h3 : 65535 < xw
        · have d3 : decide ((65535 : Int) < xw) = true := by simpa using h3
          have HR2 : Hid (bd = 4) := Lib.hid (by rw [HR.out, HLG.out, d3]; rfl)
          clear h3 hw1 hh1
          go_wp2
          go_ret
          exact ⟨by rw [HR2.out]; rfl, HB2.out⟩
        have d3 : decide ((65535 : Int) < xw) = false := by simpa using h3
        by_cases h4 : 65535 < xh
        · have d4 : decide ((65535 : Int) < xh) = true := by simpa using h4
          have HR2 : Hid (bd = 4) := Lib.hid (by rw [HR.out, HLG.out, d3, d4]; rfl)
          clear h3 h4 hw1 hh1
          go_wp2
          go_ret
          exact ⟨by rw [HR2.out]; rfl, HB2.out⟩
        have d4 : decide ((65535 : Int) < xh) = false := by simpa using h4
        have hp := mul_small (a := xw) (b := xh) (by omega) (by omega) (by omega) (by omega)
        have hwr : wrap64 (xw * xh) = xw * xh := IntWalk.wrap64_in _ ⟨by omega, by omega⟩
        have HR2 : Hid (bd = if decide (262144 < xw * xh) then 4 else 0) := Lib.hid (by rw [HR.out, HLG.out, d3, d4]; rfl)
        clear h3 h4 hw1 hh1 HR HLG
        cases hd5 : decide ((262144 : Int) < xw * xh)
        all_goals
          rw [hd5] at HR2
          clear hp
          go_wp2
          go_ret
          exact ⟨by rw [HR2.out]; rfl, HB2.out⟩
    · have d5 : (xl != (0 : Int)) = true := by simp; omega
      have d6 : (xl != (1 : Int)) = true := by simp; omega
      have HR : Hid (bd = 2) := Lib.hid (by
        have hm : (!(xl == 0 || xl == 1)) = true := by simp; omega
        rw [HBAD.out, HMF.out, d1, d2, hct, hm]; rfl)
      clear h1 h2 HBAD HMF HLG hct hl
      refine wp_region_noPanic ?_
      refine region_RH (fun w' => Bx w' w.heap.size ⟨xw, xh, xd, xc, xl⟩) (by kernel_rfl) ?_
      refine RH_take (i := 0) (v := ?_) rfl (by kernel_rfl) (by kernel_rfl) (by kernel_rfl) (fun _ _ _ h => h) (bx_drew HBX.out) (by rfl) ?_ ?_
      rotate_left
      · (intro w' hw'; obtain ⟨j0, j1, j2, j3, j4⟩ := hw'.cells; simp only at j0 j1 j2 j3 j4; first | (go_simp; done) | (go_simp; with_reducible rfl))
      try simp only [List.getElem_toArray, List.getElem_cons_zero, List.getElem_cons_succ, Act.put, List.setIfInBounds_toArray, List.set_cons_zero, List.set_cons_succ]
      refine RH_take (i := 1) (v := ?_) rfl (by kernel_rfl) (by kernel_rfl) (by kernel_rfl) (fun _ _ _ h => h) (bx_drew HBX.out) (by rfl) ?_ ?_
      rotate_left
      · (intro w' hw'; obtain ⟨j0, j1, j2, j3, j4⟩ := hw'.cells; simp only at j0 j1 j2 j3 j4; first | (go_simp; done) | (go_simp; with_reducible rfl))
      try simp only [List.getElem_toArray, List.getElem_cons_zero, List.getElem_cons_succ, Act.put, List.setIfInBounds_toArray, List.set_cons_zero, List.set_cons_succ]
      refine RH_take (i := 2) (v := ?_) rfl (by kernel_rfl) (by kernel_rfl) (by kernel_rfl) (fun _ _ _ h => h) (bx_drew HBX.out) (by rfl) ?_ ?_
      rotate_left
      · (intro w' hw'; obtain ⟨j0, j1, j2, j3, j4⟩ := hw'.cells; simp only at j0 j1 j2 j3 j4; first | (go_simp; done) | (go_simp; with_reducible rfl))
      try simp only [List.getElem_toArray, List.getElem_cons_zero, List.getElem_cons_succ, Act.put, List.setIfInBounds_toArray, List.set_cons_zero, List.set_cons_succ]
      refine RH_take (i := 3) (v := ?_) rfl (by kernel_rfl) (by kernel_rfl) (by kernel_rfl) (fun _ _ _ h => h) (bx_drew HBX.out) (by rfl) ?_ ?_
      rotate_left
      · (intro w' hw'; obtain ⟨j0, j1, j2, j3, j4⟩ := hw'.cells; simp only at j0 j1 j2 j3 j4; first | (go_simp; done) | (go_simp; with_reducible rfl))
      try simp only [List.getElem_toArray, List.getElem_cons_zero, List.getElem_cons_succ, Act.put, List.setIfInBounds_toArray, List.set_cons_zero, List.set_cons_succ]
      refine RH_take (i := 4) (v := ?_) rfl (by kernel_rfl) (by kernel_rfl) (by kernel_rfl) (fun _ _ _ h => h) (bx_drew HBX.out) (by rfl) ?_ ?_
      rotate_left
      · (intro w' hw'; obtain ⟨j0, j1, j2, j3, j4⟩ := hw'.cells; simp only at j0 j1 j2 j3 j4; first | (go_simp; done) | (go_simp; with_reducible rfl))
      try simp only [List.getElem_toArray, List.getElem_cons_zero, List.getElem_cons_succ, Act.put, List.setIfInBounds_toArray, List.set_cons_zero, List.set_cons_succ]
      refine RH_take (i := 5) (v := ?_) rfl (by kernel_rfl) (by kernel_rfl) (by kernel_rfl) (fun _ _ _ h => h) (bx_drew HBX.out) (by rfl) ?_ ?_
      rotate_left
      · (intro w' hw'; obtain ⟨j0, j1, j2, j3, j4⟩ := hw'.cells; simp only at j0 j1 j2 j3 j4; first | (go_simp; done) | (go_simp; with_reducible rfl))
      try simp only [List.getElem_toArray, List.getElem_cons_zero, List.getElem_cons_succ, Act.put, List.setIfInBounds_toArray, List.set_cons_zero, List.set_cons_succ]
      refine RH_take (i := 6) (v := ?_) rfl (by kernel_rfl) (by kernel_rfl) (by kernel_rfl) (fun _ _ _ h => h) (bx_drew HBX.out) (by rfl) ?_ ?_
      rotate_left
      · (intro w' hw'; obtain ⟨j0, j1, j2, j3, j4⟩ := hw'.cells; simp only at j0 j1 j2 j3 j4; first | (go_simp; done) | (go_simp; with_reducible rfl))
      try simp only [List.getElem_toArray, List.getElem_cons_zero, List.getElem_cons_succ, Act.put, List.setIfInBounds_toArray, List.set_cons_zero, List.set_cons_succ]
      refine RH_take (i := 7) (v := ?_) rfl (by kernel_rfl) (by kernel_rfl) (by kernel_rfl) (fun _ _ _ h => h) (bx_drew HBX.out) (by rfl) ?_ ?_
      rotate_left
      · (intro w' hw'; obtain ⟨j0, j1, j2, j3, j4⟩ := hw'.cells; simp only at j0 j1 j2 j3 j4; first | (go_simp; done) | (go_simp; with_reducible rfl))
      try simp only [List.getElem_toArray, List.getElem_cons_zero, List.getElem_cons_succ, Act.put, List.setIfInBounds_toArray, List.set_cons_zero, List.set_cons_succ]
      refine RH_take (i := 8) (v := ?_) rfl (by kernel_rfl) (by kernel_rfl) (by kernel_rfl) (fun _ _ _ h => h) (bx_drew HBX.out) (by rfl) ?_ ?_
      rotate_left
      · (intro w' hw'; obtain ⟨j0, j1, j2, j3, j4⟩ := hw'.cells; simp only at j0 j1 j2 j3 j4; first | (go_simp; done) | (go_simp; with_reducible rfl))
      try simp only [List.getElem_toArray, List.getElem_cons_zero, List.getElem_cons_succ, Act.put, List.setIfInBounds_toArray, List.set_cons_zero, List.set_cons_succ]
      refine RH_take (i := 9) (v := ?_) rfl (by kernel_rfl) (by kernel_rfl) (by kernel_rfl) (fun _ _ _ h => h) (bx_drew HBX.out) (by rfl) ?_ ?_
      rotate_left
      · (intro w' hw'; obtain ⟨j0, j1, j2, j3, j4⟩ := hw'.cells; simp only at j0 j1 j2 j3 j4; first | (go_simp; done) | (go_simp; with_reducible rfl))
      try simp only [List.getElem_toArray, List.getElem_cons_zero, List.getElem_cons_succ, Act.put, List.setIfInBounds_toArray, List.set_cons_zero, List.set_cons_succ]
      refine RH_take (i := 10) (v := ?_) rfl (by kernel_rfl) (by kernel_rfl) (by kernel_rfl) (fun _ _ _ h => h) (bx_drew HBX.out) (by rfl) ?_ ?_
      rotate_left
      · (intro w' hw'; obtain ⟨j0, j1, j2, j3, j4⟩ := hw'.cells; simp only at j0 j1 j2 j3 j4; first | (go_simp; done) | (go_simp; with_reducible rfl))
      try simp only [List.getElem_toArray, List.getElem_cons_zero, List.getElem_cons_succ, Act.put, List.setIfInBounds_toArray, List.set_cons_zero, List.set_cons_succ]
      refine RH_take (i := 12) (v := ?_) rfl (by kernel_rfl) (by kernel_rfl) (by kernel_rfl) (fun _ _ _ h => h) (bx_drew HBX.out) (by rfl) ?_ ?_
      rotate_left
      · (intro w' hw'; obtain ⟨j0, j1, j2, j3, j4⟩ := hw'.cells; simp only at j0 j1 j2 j3 j4; first | (go_simp; done) | (go_simp; with_reducible rfl))
      try simp only [List.getElem_toArray, List.getElem_cons_zero, List.getElem_cons_succ, Act.put, List.setIfInBounds_toArray, List.set_cons_zero, List.set_cons_succ]
      refine RH_take (i := 13) (v := ?_) rfl (by kernel_rfl) (by kernel_rfl) (by kernel_rfl) (fun _ _ _ h => h) (bx_drew HBX.out) (by rfl) ?_ ?_
      rotate_left
      · (intro w' hw'; obtain ⟨j0, j1, j2, j3, j4⟩ := hw'.cells; simp only at j0 j1 j2 j3 j4; first | (go_simp; done) | (go_simp; with_reducible rfl))
      try simp only [List.getElem_toArray, List.getElem_cons_zero, List.getElem_cons_succ, Act.put, List.setIfInBounds_toArray, List.set_cons_zero, List.set_cons_succ]
      refine RH_step (i := 11) (by kernel_rfl) rfl (fun K hK => ?_)
      go_simp
      go_at_call 37
      refine (HDP.out _).mono ?_
      rintro e w2 ⟨a2, n2, q2, rfl, hn2, hI2, hb2⟩
      have HI2 := Lib.hid hI2
      have HB2 := Lib.hid (below_then HAL.out.drew hb2)
      have HX2 : Hid (Bx w2 w.heap.size ⟨xw, xh, xd, xc, xl⟩) := Lib.hid ((bx_drew HBX.out).below hb2)
      clear hI2 hb2
      go_simp
      refine hK.out _ _ HX2.out ?_
      clear hK K
      try simp only [List.getElem_toArray, List.getElem_cons_zero, List.getElem_cons_succ, Act.put, List.setIfInBounds_toArray, List.set_cons_zero, List.set_cons_succ]
      refine RH_step (i := 14) (by kernel_rfl) rfl (fun K hK => ?_)
      go_simp
      go_at_call 36
      refine (HCN.out _ _ _ _ hn2 HI2.out).mono ?_
      rintro e w3 ⟨rfl, rfl⟩
      go_simp
      refine hK.out _ _ HX2.out ?_
      clear hK K
      try simp only [List.getElem_toArray, List.getElem_cons_zero, List.getElem_cons_succ, Act.put, List.setIfInBounds_toArray, List.set_cons_zero, List.set_cons_succ]
      refine RH_take (i := 15) (v := ?_) rfl (by kernel_rfl) (by kernel_rfl) (by kernel_rfl) (fun _ _ _ h => h) HX2.out (by rfl) ?_ ?_
      rotate_left
      · (intro w' hw'; obtain ⟨j0, j1, j2, j3, j4⟩ := hw'.cells; simp only at j0 j1 j2 j3 j4; first | (go_simp; done) | (go_simp; with_reducible rfl))
      try simp only [List.getElem_toArray, List.getElem_cons_zero, List.getElem_cons_succ, Act.put, List.setIfInBounds_toArray, List.set_cons_zero, List.set_cons_succ]
      refine RH_take (i := 16) (v := ?_) rfl (by kernel_rfl) (by kernel_rfl) (by kernel_rfl) (fun _ _ _ h => h) HX2.out (by rfl) ?_ ?_
      rotate_left
      · (intro w' hw'; obtain ⟨j0, j1, j2, j3, j4⟩ := hw'.cells; simp only at j0 j1 j2 j3 j4; first | (go_simp; done) | (go_simp; with_reducible rfl))
      try simp only [List.getElem_toArray, List.getElem_cons_zero, List.getElem_cons_succ, Act.put, List.setIfInBounds_toArray, List.set_cons_zero, List.set_cons_succ]
      refine RH_take (i := 17) (v := ?_) rfl (by kernel_rfl) (by kernel_rfl) (by kernel_rfl) (fun _ _ _ h => h) HX2.out (by rfl) ?_ ?_
      rotate_left
      · (intro w' hw'; obtain ⟨j0, j1, j2, j3, j4⟩ := hw'.cells; simp only at j0 j1 j2 j3 j4; first | (go_simp; done) | (go_simp; with_reducible rfl))
      try simp only [List.getElem_toArray, List.getElem_cons_zero, List.getElem_cons_succ, Act.put, List.setIfInBounds_toArray, List.set_cons_zero, List.set_cons_succ]
      refine RH_take (i := 18) (v := ?_) rfl (by kernel_rfl) (by kernel_rfl) (by kernel_rfl) (fun _ _ _ h => h) HX2.out (by rfl) ?_ ?_
      rotate_left
      · (intro w' hw'; obtain ⟨j0, j1, j2, j3, j4⟩ := hw'.cells; simp only at j0 j1 j2 j3 j4; first | (go_simp; done) | (go_simp; with_reducible rfl))
      try simp only [List.getElem_toArray, List.getElem_cons_zero, List.getElem_cons_succ, Act.put, List.setIfInBounds_toArray, List.set_cons_zero, List.set_cons_succ]
      refine RH_take (i := 19) (v := ?_) rfl (by kernel_rfl) (by kernel_rfl) (by kernel_rfl) (fun _ _ _ h => h) HX2.out (by rfl) ?_ ?_
      rotate_left
      · (intro w' hw'; obtain ⟨j0, j1, j2, j3, j4⟩ := hw'.cells; simp only at j0 j1 j2 j3 j4; first | (go_simp; done) | (go_simp; with_reducible rfl))
      try simp only [List.getElem_toArray, List.getElem_cons_zero, List.getElem_cons_succ, Act.put, List.setIfInBounds_toArray, List.set_cons_zero, List.set_cons_succ]
      refine RH_take (i := 20) (v := ?_) rfl (by kernel_rfl) (by kernel_rfl) (by kernel_rfl) (fun _ _ _ h => h) HX2.out (by rfl) ?_ ?_
      rotate_left
      · (intro w' hw'; obtain ⟨j0, j1, j2, j3, j4⟩ := hw'.cells; simp only at j0 j1 j2 j3 j4; first | (go_simp; done) | (go_simp; with_reducible rfl))
      try simp only [List.getElem_toArray, List.getElem_cons_zero, List.getElem_cons_succ, Act.put, List.setIfInBounds_toArray, List.set_cons_zero, List.set_cons_succ]
      refine RH_take (i := 21) (v := ?_) rfl (by kernel_rfl) (by kernel_rfl) (by kernel_rfl) (fun _ _ _ h => h) HX2.out (by rfl) ?_ ?_
      rotate_left
      · (intro w' hw'; obtain ⟨j0, j1, j2, j3, j4⟩ := hw'.cells; simp only at j0 j1 j2 j3 j4; first | (go_simp; done) | (go_simp; with_reducible rfl))
      try simp only [List.getElem_toArray, List.getElem_cons_zero, List.getElem_cons_succ, Act.put, List.setIfInBounds_toArray, List.set_cons_zero, List.set_cons_succ]
      refine RH_take (i := 22) (v := ?_) rfl (by kernel_rfl) (by kernel_rfl) (by kernel_rfl) (fun _ _ _ h => h) HX2.out (by rfl) ?_ ?_
      rotate_left
      · (intro w' hw'; obtain ⟨j0, j1, j2, j3, j4⟩ := hw'.cells; simp only at j0 j1 j2 j3 j4; first | (go_simp; done) | (go_simp; with_reducible rfl))
      try simp only [List.getElem_toArray, List.getElem_cons_zero, List.getElem_cons_succ, Act.put, List.setIfInBounds_toArray, List.set_cons_zero, List.set_cons_succ]
      refine RH_take (i := 23) (v := ?_) rfl (by kernel_rfl) (by kernel_rfl) (by kernel_rfl) (fun _ _ _ h => h) HX2.out (by rfl) ?_ ?_
      rotate_left
      · (intro w' hw'; obtain ⟨j0, j1, j2, j3, j4⟩ := hw'.cells; simp only at j0 j1 j2 j3 j4; first | (go_simp; done) | (go_simp; with_reducible rfl))
      try simp only [List.getElem_toArray, List.getElem_cons_zero, List.getElem_cons_succ, Act.put, List.setIfInBounds_toArray, List.set_cons_zero, List.set_cons_succ]
      refine RH_take (i := 24) (v := ?_) rfl (by kernel_rfl) (by kernel_rfl) (by kernel_rfl) (fun _ _ _ h => h) HX2.out (by rfl) ?_ ?_
      rotate_left
      · (intro w' hw'; obtain ⟨j0, j1, j2, j3, j4⟩ := hw'.cells; simp only at j0 j1 j2 j3 j4; first | (go_simp; done) | (go_simp; with_reducible rfl))
      try simp only [List.getElem_toArray, List.getElem_cons_zero, List.getElem_cons_succ, Act.put, List.setIfInBounds_toArray, List.set_cons_zero, List.set_cons_succ]
      refine RH_take (i := 25) (v := ?_) rfl (by kernel_rfl) (by kernel_rfl) (by kernel_rfl) (fun _ _ _ h => h) HX2.out (by rfl) ?_ ?_
      rotate_left
      · (intro w' hw'; obtain ⟨j0, j1, j2, j3, j4⟩ := hw'.cells; simp only at j0 j1 j2 j3 j4; first | (go_simp; done) | (go_simp; with_reducible rfl))
      try simp only [List.getElem_toArray, List.getElem_cons_zero, List.getElem_cons_succ, Act.put, List.setIfInBounds_toArray, List.set_cons_zero, List.set_cons_succ]
      refine RH_take (i := 26) (v := ?_) rfl (by kernel_rfl) (by kernel_rfl) (by kernel_rfl) (fun _ _ _ h => h) HX2.out (by rfl) ?_ ?_
      rotate_left
      · (intro w' hw'; obtain ⟨j0, j1, j2, j3, j4⟩ := hw'.cells; simp only at j0 j1 j2 j3 j4; first | (go_simp; done) | (go_simp; with_reducible rfl))
      try simp only [List.getElem_toArray, List.getElem_cons_zero, List.getElem_cons_succ, Act.put, List.setIfInBounds_toArray, List.set_cons_zero, List.set_cons_succ]
      refine wpAnyH_done (by kernel_rfl) ?_ _
      refine NoPanic.normal ?_
      go_wp2
      go_ret
      exact ⟨by rw [HR.out]; rfl, HB2.out⟩
end Hd
end Go.Proofs.YtkplopfbgaiegaaDoor
