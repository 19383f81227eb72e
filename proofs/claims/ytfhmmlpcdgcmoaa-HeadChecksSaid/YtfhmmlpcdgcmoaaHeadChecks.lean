/- For every head and every width, Check, RowSize and Channels answer what the document does. No conditions. -/
import Derived.Test.YtfhmmlpcdgcmoaaRows
import Derived.Test.YtfhmmlpcdgcmoaaOpen
import Derived.Test.YtfhmmlpcdgcmoaaHdRow
import Derived.Test.YtfhmmlpcdgcmoaaHdNum
import Derived.Test.YtfhmmlpcdgcmoaaRegionS
import Derived.Test.YtfhmmlpcdgcmoaaOpenHd
namespace Go.Proofs.Ytfhmmlpcdgcmoaa.HeadChecks
open Go.ChangeShapes Go.WideShapes Go.ChangeAt Go.RowKit
open Go.ChangeMaps (open_string shut_string)
set_option linter.unusedVariables false
theorem own : ownKnob Try.prog.godebug = none := by kernel_rfl
theorem laidOut : laidOutB Try.prog = true := by kernel_rfl
set_option maxRecDepth 100000 in
set_option maxHeartbeats 4000000 in
theorem walk (x : Hd.H) (n : Int) (w : World) (_ : (Lit.int .i64 x.w).wf = true ∧ (Lit.int .i64 x.h).wf = true ∧ (Lit.int .i64 x.d).wf = true ∧ (Lit.int .i64 x.c).wf = true ∧ (Lit.int .i64 x.l).wf = true) (_ : (Lit.int .i64 n).wf = true) :
    Calls Try.prog 4 #[x.val, .int .i64 n] w fun e w' => e = .returned (.bool true) ∧ Below w.heap.size w w' := by
  have HBX := Lib.hid (Hd.bx_new w x)
  have HAL := Lib.hid (below_alloc w (.cells #[.int .i64 x.w, .int .i64 x.h, .int .i64 x.d, .int .i64 x.c, .int .i64 x.l] 29))
  have HR3 : Hid (∀ w, Calls Try.prog 9 #[Hd.three.val, .int .i64 3] w fun e w' => e = .returned (.int .i64 1) ∧ Below w.heap.size w w') := Lib.hid (fun w => by
    have := Hd.rowSize_any Hd.three 3 w
    rwa [show Hd.row Hd.three 3 = 1 by decide] at this)
  have HCK := Lib.hid (fun w => Hd.check_any x w)
  have HRC := Lib.hid (fun w => Hd.refCheck_any x w)
  have HNM := Lib.hid (fun w => Hd.num_errV (Hd.bad x) w)
  have HRS := Lib.hid (fun w => Hd.rowSize_any x n w)
  have HRR := Lib.hid (fun w => Hd.refRow_any x n w)
  have HCH := Lib.hid (fun w => Hd.chan_any x.c w)
  have HRH := Lib.hid (fun w => Hd.refChan_any x.c w)
  unfold Hd.H.val at HCK HRC HRS HRR ⊢
  generalize Hd.row x n = r at *
  generalize Hd.bad x = bd at *
  generalize Hd.chan x.c = k at *
  obtain ⟨xw, xh, xd, xc, xl⟩ := x
  simp only at HBX HAL HCK HRC HRS HRR HCH HRH ⊢
  generalize Hd.errV bd = ev at *
  have e1 : ((bd : Int) == (bd : Int)) = true := beq_self_eq_true _
  have e2 : (r == r) = true := beq_self_eq_true _
  have e3 : (k == k) = true := beq_self_eq_true _
  go_enter Try.func4, Try.ntmps4
  go_wp2_with fail
  have HX1 := Lib.hid (Hd.bx_drew HBX.out)
  have HB1 := Lib.hid HAL.out.drew
  clear HBX HAL
  refine wp_region_noPanic ?_
  refine region_RH (fun w' => Hd.Bx w' w.heap.size ⟨xw, xh, xd, xc, xl⟩) (by kernel_rfl) ?_
  refine RH_step (i := 0) (by kernel_rfl) rfl (fun K hK => ?_)
  go_simp
  go_at_call 10
  refine (Hd.three_any _).mono ?_
  rintro e w2 ⟨rfl, hb2⟩
  have HX2 := Lib.hid (HX1.out.below hb2)
  have HB2 := Lib.hid (below_then HB1.out hb2)
  clear hb2 HX1 HB1
  go_simp
  refine hK.out _ _ HX2.out ?_
  clear hK K
  try simp only [List.getElem_toArray, List.getElem_cons_zero, List.getElem_cons_succ, Act.put, List.setIfInBounds_toArray, List.set_cons_zero, List.set_cons_succ]
  refine RH_step (i := 1) (by kernel_rfl) rfl (fun K hK => ?_)
  go_simp
  go_at_call 9
  refine (HR3.out _).mono ?_
  rintro e w3 ⟨rfl, hb3⟩
  have HX3 := Lib.hid (HX2.out.below hb3)
  have HB3 := Lib.hid (below_then HB2.out hb3)
  clear hb3 HX2 HB2
  go_simp
  refine hK.out _ _ HX3.out ?_
  clear hK K
  try simp only [List.getElem_toArray, List.getElem_cons_zero, List.getElem_cons_succ, Act.put, List.setIfInBounds_toArray, List.set_cons_zero, List.set_cons_succ]
  refine RH_take (i := 2) (v := ?_) rfl (by kernel_rfl) (by kernel_rfl) (by kernel_rfl) (fun _ _ _ h => h) HX3.out (by rfl) ?_ ?_
  rotate_left
  · (intro w' hw'; obtain ⟨j0, j1, j2, j3, j4⟩ := hw'.cells; simp only at j0 j1 j2 j3 j4; first | (go_simp; done) | (go_simp; with_reducible rfl))
  try simp only [List.getElem_toArray, List.getElem_cons_zero, List.getElem_cons_succ, Act.put, List.setIfInBounds_toArray, List.set_cons_zero, List.set_cons_succ]
  refine RH_take (i := 3) (v := ?_) rfl (by kernel_rfl) (by kernel_rfl) (by kernel_rfl) (fun _ _ _ h => h) HX3.out (by rfl) ?_ ?_
  rotate_left
  · (intro w' hw'; obtain ⟨j0, j1, j2, j3, j4⟩ := hw'.cells; simp only at j0 j1 j2 j3 j4; first | (go_simp; done) | (go_simp; with_reducible rfl))
  try simp only [List.getElem_toArray, List.getElem_cons_zero, List.getElem_cons_succ, Act.put, List.setIfInBounds_toArray, List.set_cons_zero, List.set_cons_succ]
  refine RH_take (i := 4) (v := ?_) rfl (by kernel_rfl) (by kernel_rfl) (by kernel_rfl) (fun _ _ _ h => h) HX3.out (by rfl) ?_ ?_
  rotate_left
  · (intro w' hw'; obtain ⟨j0, j1, j2, j3, j4⟩ := hw'.cells; simp only at j0 j1 j2 j3 j4; first | (go_simp; done) | (go_simp; with_reducible rfl))
  try simp only [List.getElem_toArray, List.getElem_cons_zero, List.getElem_cons_succ, Act.put, List.setIfInBounds_toArray, List.set_cons_zero, List.set_cons_succ]
  refine RH_take (i := 7) (v := ?_) rfl (by kernel_rfl) (by kernel_rfl) (by kernel_rfl) (fun _ _ _ h => h) HX3.out (by rfl) ?_ ?_
  rotate_left
  · (intro w' hw'; obtain ⟨j0, j1, j2, j3, j4⟩ := hw'.cells; simp only at j0 j1 j2 j3 j4; first | (go_simp; done) | (go_simp; with_reducible rfl))
  try simp only [List.getElem_toArray, List.getElem_cons_zero, List.getElem_cons_succ, Act.put, List.setIfInBounds_toArray, List.set_cons_zero, List.set_cons_succ]
  refine RH_step (i := 5) (by kernel_rfl) rfl (fun K hK => ?_)
  go_simp
  go_at_call 12
  refine (HCK.out _).mono ?_
  rintro e w4 ⟨rfl, hb4⟩
  have HX4 := Lib.hid (HX3.out.below hb4)
  have HB4 := Lib.hid (below_then HB3.out hb4)
  clear hb4 HX3 HB3
  go_simp
  refine hK.out _ _ HX4.out ?_
  clear hK K
  try simp only [List.getElem_toArray, List.getElem_cons_zero, List.getElem_cons_succ, Act.put, List.setIfInBounds_toArray, List.set_cons_zero, List.set_cons_succ]
  refine RH_step (i := 6) (by kernel_rfl) rfl (fun K hK => ?_)
  go_simp
  go_at_call 11
  refine (HNM.out _).mono ?_
  rintro e w' ⟨rfl, rfl⟩
  go_simp
  refine hK.out _ _ HX4.out ?_
  clear hK K
  try simp only [List.getElem_toArray, List.getElem_cons_zero, List.getElem_cons_succ, Act.put, List.setIfInBounds_toArray, List.set_cons_zero, List.set_cons_succ]
  refine RH_step (i := 8) (by kernel_rfl) rfl (fun K hK => ?_)
  go_simp
  go_at_call 13
  refine (HRC.out _).mono ?_
  rintro e w5 ⟨rfl, hb5⟩
  have HX5 := Lib.hid (HX4.out.below hb5)
  have HB5 := Lib.hid (below_then HB4.out hb5)
  clear hb5 HX4 HB4
  go_simp
  refine hK.out _ _ HX5.out ?_
  clear hK K
  try simp only [List.getElem_toArray, List.getElem_cons_zero, List.getElem_cons_succ, Act.put, List.setIfInBounds_toArray, List.set_cons_zero, List.set_cons_succ]
  refine RH_take (i := 9) (v := ?_) rfl (by kernel_rfl) (by kernel_rfl) (by kernel_rfl) (fun _ _ _ h => h) HX5.out (by rfl) ?_ ?_
  rotate_left
  · (intro w' hw'; obtain ⟨j0, j1, j2, j3, j4⟩ := hw'.cells; simp only at j0 j1 j2 j3 j4; first | (go_simp; done) | (go_simp; with_reducible rfl))
  try simp only [List.getElem_toArray, List.getElem_cons_zero, List.getElem_cons_succ, Act.put, List.setIfInBounds_toArray, List.set_cons_zero, List.set_cons_succ]
  refine RH_take (i := 10) (v := ?_) rfl (by kernel_rfl) (by kernel_rfl) (by kernel_rfl) (fun _ _ _ h => h) HX5.out (by rfl) ?_ ?_
  rotate_left
  · (intro w' hw'; obtain ⟨j0, j1, j2, j3, j4⟩ := hw'.cells; simp only at j0 j1 j2 j3 j4; first | (go_simp; done) | (go_simp; with_reducible rfl))
  try simp only [List.getElem_toArray, List.getElem_cons_zero, List.getElem_cons_succ, Act.put, List.setIfInBounds_toArray, List.set_cons_zero, List.set_cons_succ]
  refine RH_take (i := 11) (v := ?_) rfl (by kernel_rfl) (by kernel_rfl) (by kernel_rfl) (fun _ _ _ h => h) HX5.out (by rfl) ?_ ?_
  rotate_left
  · (intro w' hw'; obtain ⟨j0, j1, j2, j3, j4⟩ := hw'.cells; simp only at j0 j1 j2 j3 j4; first | (go_simp; done) | (go_simp; with_reducible rfl))
  try simp only [List.getElem_toArray, List.getElem_cons_zero, List.getElem_cons_succ, Act.put, List.setIfInBounds_toArray, List.set_cons_zero, List.set_cons_succ]
  refine RH_take (i := 12) (v := ?_) rfl (by kernel_rfl) (by kernel_rfl) (by kernel_rfl) (fun _ _ _ h => h) HX5.out (by rfl) ?_ ?_
  rotate_left
  · (intro w' hw'; obtain ⟨j0, j1, j2, j3, j4⟩ := hw'.cells; simp only at j0 j1 j2 j3 j4; first | (go_simp; done) | (go_simp; with_reducible rfl))
  try simp only [List.getElem_toArray, List.getElem_cons_zero, List.getElem_cons_succ, Act.put, List.setIfInBounds_toArray, List.set_cons_zero, List.set_cons_succ]
  refine RH_take (i := 13) (v := ?_) rfl (by kernel_rfl) (by kernel_rfl) (by kernel_rfl) (fun _ _ _ h => h) HX5.out (by rfl) ?_ ?_
  rotate_left
  · (intro w' hw'; obtain ⟨j0, j1, j2, j3, j4⟩ := hw'.cells; simp only at j0 j1 j2 j3 j4; first | (go_simp; done) | (go_simp; with_reducible rfl))
  try simp only [List.getElem_toArray, List.getElem_cons_zero, List.getElem_cons_succ, Act.put, List.setIfInBounds_toArray, List.set_cons_zero, List.set_cons_succ]
  refine RH_take (i := 15) (v := ?_) rfl (by kernel_rfl) (by kernel_rfl) (by kernel_rfl) (fun _ _ _ h => h) HX5.out (by rfl) ?_ ?_
  rotate_left
  · (intro w' hw'; obtain ⟨j0, j1, j2, j3, j4⟩ := hw'.cells; simp only at j0 j1 j2 j3 j4; first | (go_simp; done) | (go_simp; with_reducible rfl))
  try simp only [List.getElem_toArray, List.getElem_cons_zero, List.getElem_cons_succ, Act.put, List.setIfInBounds_toArray, List.set_cons_zero, List.set_cons_succ]
  refine RH_take (i := 16) (v := ?_) rfl (by kernel_rfl) (by kernel_rfl) (by kernel_rfl) (fun _ _ _ h => h) HX5.out (by rfl) ?_ ?_
  rotate_left
  · (intro w' hw'; obtain ⟨j0, j1, j2, j3, j4⟩ := hw'.cells; simp only at j0 j1 j2 j3 j4; first | (go_simp; done) | (go_simp; with_reducible rfl))
  try simp only [List.getElem_toArray, List.getElem_cons_zero, List.getElem_cons_succ, Act.put, List.setIfInBounds_toArray, List.set_cons_zero, List.set_cons_succ]
  refine RH_step (i := 14) (by kernel_rfl) rfl (fun K hK => ?_)
  go_simp
  go_at_call 9
  refine (HRS.out _).mono ?_
  rintro e w6 ⟨rfl, hb6⟩
  have HX6 := Lib.hid (HX5.out.below hb6)
  have HB6 := Lib.hid (below_then HB5.out hb6)
  clear hb6 HX5 HB5
  go_simp
  refine hK.out _ _ HX6.out ?_
  clear hK K
  try simp only [List.getElem_toArray, List.getElem_cons_zero, List.getElem_cons_succ, Act.put, List.setIfInBounds_toArray, List.set_cons_zero, List.set_cons_succ]
  refine RH_step (i := 17) (by kernel_rfl) rfl (fun K hK => ?_)
  go_simp
  go_at_call 14
  refine (HRR.out _).mono ?_
  rintro e w7 ⟨rfl, hb7⟩
  have HX7 := Lib.hid (HX6.out.below hb7)
  have HB7 := Lib.hid (below_then HB6.out hb7)
  clear hb7 HX6 HB6
  go_simp
  refine hK.out _ _ HX7.out ?_
  clear hK K
  try simp only [List.getElem_toArray, List.getElem_cons_zero, List.getElem_cons_succ, Act.put, List.setIfInBounds_toArray, List.set_cons_zero, List.set_cons_succ]
  refine RH_take (i := 18) (v := ?_) rfl (by kernel_rfl) (by kernel_rfl) (by kernel_rfl) (fun _ _ _ h => h) HX7.out (by rfl) ?_ ?_
  rotate_left
  · (intro w' hw'; obtain ⟨j0, j1, j2, j3, j4⟩ := hw'.cells; simp only at j0 j1 j2 j3 j4; first | (go_simp; done) | (go_simp; with_reducible rfl))
  try simp only [List.getElem_toArray, List.getElem_cons_zero, List.getElem_cons_succ, Act.put, List.setIfInBounds_toArray, List.set_cons_zero, List.set_cons_succ]
  refine RH_take (i := 19) (v := ?_) rfl (by kernel_rfl) (by kernel_rfl) (by kernel_rfl) (fun _ _ _ h => h) HX7.out (by rfl) ?_ ?_
  rotate_left
  · (intro w' hw'; obtain ⟨j0, j1, j2, j3, j4⟩ := hw'.cells; simp only at j0 j1 j2 j3 j4; first | (go_simp; done) | (go_simp; with_reducible rfl))
  try simp only [List.getElem_toArray, List.getElem_cons_zero, List.getElem_cons_succ, Act.put, List.setIfInBounds_toArray, List.set_cons_zero, List.set_cons_succ]
  refine RH_take (i := 20) (v := ?_) rfl (by kernel_rfl) (by kernel_rfl) (by kernel_rfl) (fun _ _ _ h => h) HX7.out (by rfl) ?_ ?_
  rotate_left
  · (intro w' hw'; obtain ⟨j0, j1, j2, j3, j4⟩ := hw'.cells; simp only at j0 j1 j2 j3 j4; first | (go_simp; done) | (go_simp; with_reducible rfl))
  try simp only [List.getElem_toArray, List.getElem_cons_zero, List.getElem_cons_succ, Act.put, List.setIfInBounds_toArray, List.set_cons_zero, List.set_cons_succ]
  refine RH_take (i := 21) (v := ?_) rfl (by kernel_rfl) (by kernel_rfl) (by kernel_rfl) (fun _ _ _ h => h) HX7.out (by rfl) ?_ ?_
  rotate_left
  · (intro w' hw'; obtain ⟨j0, j1, j2, j3, j4⟩ := hw'.cells; simp only at j0 j1 j2 j3 j4; first | (go_simp; done) | (go_simp; with_reducible rfl))
  try simp only [List.getElem_toArray, List.getElem_cons_zero, List.getElem_cons_succ, Act.put, List.setIfInBounds_toArray, List.set_cons_zero, List.set_cons_succ]
  refine RH_take (i := 22) (v := ?_) rfl (by kernel_rfl) (by kernel_rfl) (by kernel_rfl) (fun _ _ _ h => h) HX7.out (by rfl) ?_ ?_
  rotate_left
  · (intro w' hw'; obtain ⟨j0, j1, j2, j3, j4⟩ := hw'.cells; simp only at j0 j1 j2 j3 j4; first | (go_simp; done) | (go_simp; with_reducible rfl))
  try simp only [List.getElem_toArray, List.getElem_cons_zero, List.getElem_cons_succ, Act.put, List.setIfInBounds_toArray, List.set_cons_zero, List.set_cons_succ]
  refine RH_take (i := 24) (v := ?_) rfl (by kernel_rfl) (by kernel_rfl) (by kernel_rfl) (fun _ _ _ h => h) HX7.out (by rfl) ?_ ?_
  rotate_left
  · (intro w' hw'; obtain ⟨j0, j1, j2, j3, j4⟩ := hw'.cells; simp only at j0 j1 j2 j3 j4; first | (go_simp; done) | (go_simp; with_reducible rfl))
  try simp only [List.getElem_toArray, List.getElem_cons_zero, List.getElem_cons_succ, Act.put, List.setIfInBounds_toArray, List.set_cons_zero, List.set_cons_succ]
  refine RH_take (i := 25) (v := ?_) rfl (by kernel_rfl) (by kernel_rfl) (by kernel_rfl) (fun _ _ _ h => h) HX7.out (by rfl) ?_ ?_
  rotate_left
  · (intro w' hw'; obtain ⟨j0, j1, j2, j3, j4⟩ := hw'.cells; simp only at j0 j1 j2 j3 j4; first | (go_simp; done) | (go_simp; with_reducible rfl))
  try simp only [List.getElem_toArray, List.getElem_cons_zero, List.getElem_cons_succ, Act.put, List.setIfInBounds_toArray, List.set_cons_zero, List.set_cons_succ]
  refine RH_step (i := 23) (by kernel_rfl) rfl (fun K hK => ?_)
  go_simp
  go_at_call 15
  refine (HCH.out _).mono ?_
  rintro e w' ⟨rfl, rfl⟩
  go_simp
  refine hK.out _ _ HX7.out ?_
  clear hK K
  try simp only [List.getElem_toArray, List.getElem_cons_zero, List.getElem_cons_succ, Act.put, List.setIfInBounds_toArray, List.set_cons_zero, List.set_cons_succ]
  refine RH_step (i := 26) (by kernel_rfl) rfl (fun K hK => ?_)
  go_simp
  go_at_call 16
  refine (HRH.out _).mono ?_
  rintro e w8 ⟨rfl, hb8⟩
  have HX8 := Lib.hid (HX7.out.below hb8)
  have HB8 := Lib.hid (below_then HB7.out hb8)
  clear hb8 HX7 HB7
  go_simp
  refine hK.out _ _ HX8.out ?_
  clear hK K
  try simp only [List.getElem_toArray, List.getElem_cons_zero, List.getElem_cons_succ, Act.put, List.setIfInBounds_toArray, List.set_cons_zero, List.set_cons_succ]
  refine RH_take (i := 27) (v := ?_) rfl (by kernel_rfl) (by kernel_rfl) (by kernel_rfl) (fun _ _ _ h => h) HX8.out (by rfl) ?_ ?_
  rotate_left
  · (intro w' hw'; obtain ⟨j0, j1, j2, j3, j4⟩ := hw'.cells; simp only at j0 j1 j2 j3 j4; first | (go_simp; done) | (go_simp; with_reducible rfl))
  try simp only [List.getElem_toArray, List.getElem_cons_zero, List.getElem_cons_succ, Act.put, List.setIfInBounds_toArray, List.set_cons_zero, List.set_cons_succ]
  refine RH_take (i := 28) (v := ?_) rfl (by kernel_rfl) (by kernel_rfl) (by kernel_rfl) (fun _ _ _ h => h) HX8.out (by rfl) ?_ ?_
  rotate_left
  · (intro w' hw'; obtain ⟨j0, j1, j2, j3, j4⟩ := hw'.cells; simp only at j0 j1 j2 j3 j4; first | (go_simp; done) | (go_simp; with_reducible rfl))
  try simp only [List.getElem_toArray, List.getElem_cons_zero, List.getElem_cons_succ, Act.put, List.setIfInBounds_toArray, List.set_cons_zero, List.set_cons_succ]
  refine RH_take (i := 29) (v := ?_) rfl (by kernel_rfl) (by kernel_rfl) (by kernel_rfl) (fun _ _ _ h => h) HX8.out (by rfl) ?_ ?_
  rotate_left
  · (intro w' hw'; obtain ⟨j0, j1, j2, j3, j4⟩ := hw'.cells; simp only at j0 j1 j2 j3 j4; first | (go_simp; done) | (go_simp; with_reducible rfl))
  try simp only [List.getElem_toArray, List.getElem_cons_zero, List.getElem_cons_succ, Act.put, List.setIfInBounds_toArray, List.set_cons_zero, List.set_cons_succ]
  refine wpAnyH_done (by kernel_rfl) ?_ _
  refine NoPanic.normal ?_
  go_wp2
  go_ret
  exact ⟨rfl, HB8.out⟩
set_option maxRecDepth 100000 in
theorem lifted (os : Os) (started : os.Started) (H : Type) (enc : TypeId × Value → H) :
    ReturnsInHanded {} Try.checked os 4 .any (Rows.headChecksSpec.pre6 enc Try.prog Try.f4 Rows.headChecksRow.domain false) (Rows.headChecksSpec.post enc Try.prog Try.f4 false true false false) := by
  refine returnsInHanded_of_change_sized (C := Try.checked) own started (by kernel_rfl) Try.func4
    (ChangeSpec.witness6 (enc := enc) (C := Try.checked) false ⟨#[], #[.agg #[.int .i64 0, .int .i64 0, .int .i64 0, .int .i64 0, .int .i64 0], .int .i64 0], []⟩ 8 (by kernel_rfl) (by kernel_rfl) (by kernel_rfl) (by kernel_rfl)) ?_
  intro W base args ds gs before hval0 hW _ hsz0 _
  have hval : ∀ (j : Nat) t v, Try.f4.params[j]? = some t → args[j]? = some v → Value.okWide Try.prog W .any base t v := hval0
  have hsz : (DataW.weightsEach Try.prog (Try.f4.params.toList ++ Rows.headChecksSpec.plain.varTypes Try.prog) (ds ++ gs)).all (· ≤ reachBytes) = true := hsz0
  have hW' := hW
  obtain ⟨p, q, hA0, hV, rfl, hfz, hnd⟩ := hW
  have hA : DataW.TrodAll enc Try.prog W 0 (fun _ => true) true Try.f4.params.toList args.toList ds p := hA0
  rw [Try.params4] at hA hval hsz
  obtain ⟨v0, vs0, d0, ds0, p0, q0, hargs, rfl, rfl, h0, r0⟩ := trodAll_cons hA
  obtain ⟨v1, vs1, d1, ds1, p1, q1, rfl, rfl, rfl, h1, r1⟩ := trodAll_cons r0
  obtain ⟨rfl, rfl, rfl⟩ := trodAll_nil r1
  obtain rfl : args = #[v0, v1] := by cases args; simp_all
  obtain ⟨rfl, rfl⟩ := trodVars_none hV
  clear hsz0
  have k0 := h0
  have lt0 : ∀ x ∈ p0, x.block < W.heap.size := by obtain ⟨m, hm⟩ := k0; exact DataW.trod_lt m _ _ _ hm
  obtain ⟨x0, rfl, w0⟩ := open_hd Try.underlying29 (by kernel_rfl) Try.underlying3 Try.underlying3 Try.underlying3 Try.underlying3 Try.underlying3 (by kernel_rfl) (by kernel_rfl) (by kernel_rfl) (by kernel_rfl) (by kernel_rfl) rfl rfl rfl rfl rfl (hval 0 29 v0 rfl rfl) h0
  obtain ⟨a1, rfl, rfl, rfl, w1⟩ := open_int Try.underlying3 (hval 1 3 v1 rfl rfl) h1
  clear hA0 hval0 hsz
  refine (walk x0 a1 W w0 w1).mono fun e W' ⟨he, bel⟩ => ?_
  subst he
  exact ⟨_, rfl, _, _, _, [], _, [], hW', trodAll_mk1 (shut_bool Try.underlying4 _), (trodAll_cons_mk (Below.trod laidOut (by kernel_rfl) (of_decide_eq_true (by kernel_rfl)) k0 bel lt0) (trodAll_cons_mk (shut_int Try.underlying3 w1) trodAll_mk0)), rfl, bel.frame _, fun h => by cases h⟩

theorem proved : Rows.HeadChecksSaid :=
  OpenClaim.holds_of_wide 4 Try.f4 rfl rfl rfl rfl rfl rfl rfl ⟨rfl, rfl, rfl, rfl, rfl⟩ rfl rfl rfl rfl rfl (by kernel_rfl) Try.func4 (by kernel_rfl)
    (of_decide_eq_true (by kernel_rfl)) (by unfold Func.isWrapper; first | (rw [if_pos (by decide +kernel)]; kernel_rfl) | (rw [if_neg (by decide +kernel)]; exact ⟨rfl, rfl⟩))
    (fun os started H enc _ => lifted os started H enc)
#print axioms proved
end Go.Proofs.Ytfhmmlpcdgcmoaa.HeadChecks
