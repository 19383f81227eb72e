/- For all bytes Take answers the head, or the error, that the document does, and leaves the bytes as they were; of more than a thousand bytes nothing is asked. No conditions. -/
import Derived.Test.YtfhmmlpcdgcmoaaRows
import Derived.Test.YtfhmmlpcdgcmoaaOpen
import Derived.Test.YtfhmmlpcdgcmoaaHdRefPut
import Derived.Test.YtfhmmlpcdgcmoaaHdNum
import Derived.Test.YtfhmmlpcdgcmoaaHdSame
import Derived.Test.YtfhmmlpcdgcmoaaNumSame
import Derived.Test.YtfhmmlpcdgcmoaaRegionS
namespace Go.Proofs.Ytfhmmlpcdgcmoaa.HeadTakes
open Go.ChangeShapes Go.WideShapes Go.ChangeAt Go.RowKit
open Go.ChangeMaps (open_string shut_string)
set_option linter.unusedVariables false
theorem own : ownKnob Try.prog.godebug = none := by kernel_rfl
theorem laidOut : laidOutB Try.prog = true := by kernel_rfl
set_option maxRecDepth 100000 in
set_option maxHeartbeats 2000000 in
theorem walk (a : Option Addr) (len cap : Nat) (l : List UInt8) (w : World) (h : Bs w a len cap l) (hr : cap ≤ 140737488351232) :
    Calls Try.prog 5 #[.slice a len cap] w fun e w' => e = .returned (.bool true) ∧ Below w.heap.size w w' := by
  have hle := h.hle
  have HL := Lib.hid h.hlen
  have H := Lib.hid h
  clear h
  have HTE : Hid (∀ a c w, Bs w a 13 c (Hd.enc Hd.three) → Calls Try.prog 17 #[.slice a 13 c] w fun e w' => e = .returned (.tuple #[.agg #[.int .i64 3, .int .i64 1, .int .i64 2, .int .i64 0, .int .i64 0], .nilIface]) ∧ Below w.heap.size w w') := Lib.hid (fun a c w hs => by
    have h1 := Hd.take_any a 13 c _ w hs (by omega)
    unfold Hd.HtPost at h1
    rw [Hd.take_enc (by decide : Hd.bad Hd.three = 0)] at h1
    exact h1)
  go_enter Try.func5, Try.ntmps5
  go_wp2_with fail
  refine (Hd.three_any _).mono ?_
  rintro e w1 ⟨rfl, hb1⟩
  go_wp2_with fail
  refine (Hd.refPut_any _).mono ?_
  rintro e w2 ⟨a2, c2, rfl, hs2, hb2⟩
  have HB2 := Lib.hid (below_then hb1 hb2)
  have HT := Lib.hid (HTE.out a2 c2 w2 hs2)
  clear hb1 hb2 hs2 HTE
  go_wp2_with fail
  refine HT.out.mono ?_
  rintro e w3 ⟨rfl, hb3⟩
  have HB3 := Lib.hid (below_then HB2.out hb3)
  have HX4 := Lib.hid (Hd.bx_drew (Hd.bx_new w3 Hd.three))
  have HB4 := Lib.hid ((below_then HB3.out (below_alloc w3 (.cells #[.int .i64 3, .int .i64 1, .int .i64 2, .int .i64 0, .int .i64 0] 29))).drew)
  clear hb3 HT HB2
  go_wp2_with fail
  refine wp_region_noPanic ?_
  refine region_RH (fun w' => Hd.Bx w' w3.heap.size Hd.three) (by kernel_rfl) ?_
  refine RH_take (i := 0) (v := ?_) rfl (by kernel_rfl) (by kernel_rfl) (by kernel_rfl) (fun _ _ _ h => h) HX4.out (by rfl) ?_ ?_
  rotate_left
  · (intro w' hw'; obtain ⟨j0, j1, j2, j3, j4⟩ := hw'.cells; simp only [Hd.three] at j0 j1 j2 j3 j4; first | (go_simp; done) | (go_simp; with_reducible rfl))
  try simp only [List.getElem_toArray, List.getElem_cons_zero, List.getElem_cons_succ, Act.put, List.setIfInBounds_toArray, List.set_cons_zero, List.set_cons_succ]
  refine RH_take (i := 1) (v := ?_) rfl (by kernel_rfl) (by kernel_rfl) (by kernel_rfl) (fun _ _ _ h => h) HX4.out (by rfl) ?_ ?_
  rotate_left
  · (intro w' hw'; obtain ⟨j0, j1, j2, j3, j4⟩ := hw'.cells; simp only [Hd.three] at j0 j1 j2 j3 j4; first | (go_simp; done) | (go_simp; with_reducible rfl))
  try simp only [List.getElem_toArray, List.getElem_cons_zero, List.getElem_cons_succ, Act.put, List.setIfInBounds_toArray, List.set_cons_zero, List.set_cons_succ]
  refine RH_take (i := 2) (v := ?_) rfl (by kernel_rfl) (by kernel_rfl) (by kernel_rfl) (fun _ _ _ h => h) HX4.out (by rfl) ?_ ?_
  rotate_left
  · (intro w' hw'; obtain ⟨j0, j1, j2, j3, j4⟩ := hw'.cells; simp only [Hd.three] at j0 j1 j2 j3 j4; first | (go_simp; done) | (go_simp; with_reducible rfl))
  try simp only [List.getElem_toArray, List.getElem_cons_zero, List.getElem_cons_succ, Act.put, List.setIfInBounds_toArray, List.set_cons_zero, List.set_cons_succ]
  refine RH_take (i := 3) (v := ?_) rfl (by kernel_rfl) (by kernel_rfl) (by kernel_rfl) (fun _ _ _ h => h) HX4.out (by rfl) ?_ ?_
  rotate_left
  · (intro w' hw'; obtain ⟨j0, j1, j2, j3, j4⟩ := hw'.cells; simp only [Hd.three] at j0 j1 j2 j3 j4; first | (go_simp; done) | (go_simp; with_reducible rfl))
  try simp only [List.getElem_toArray, List.getElem_cons_zero, List.getElem_cons_succ, Act.put, List.setIfInBounds_toArray, List.set_cons_zero, List.set_cons_succ]
  refine RH_step (i := 4) (by kernel_rfl) rfl (fun K hK => ?_)
  go_simp
  go_at_call 10
  refine (Hd.three_any _).mono ?_
  rintro e w5 ⟨rfl, hb5⟩
  have HX5 := Lib.hid (HX4.out.below hb5)
  have HB5 := Lib.hid (below_then HB4.out hb5)
  unfold Hd.three Hd.H.val
  clear hb5
  go_simp
  refine hK.out _ _ HX5.out ?_
  clear hK K
  try simp only [List.getElem_toArray, List.getElem_cons_zero, List.getElem_cons_succ, Act.put, List.setIfInBounds_toArray, List.set_cons_zero, List.set_cons_succ]
  refine RH_take (i := 5) (v := ?_) rfl (by kernel_rfl) (by kernel_rfl) (by kernel_rfl) (fun _ _ _ h => h) HX5.out (by rfl) ?_ ?_
  rotate_left
  · (intro w' hw'; obtain ⟨j0, j1, j2, j3, j4⟩ := hw'.cells; simp only [Hd.three] at j0 j1 j2 j3 j4; first | (go_simp; done) | (go_simp; with_reducible rfl))
  try simp only [List.getElem_toArray, List.getElem_cons_zero, List.getElem_cons_succ, Act.put, List.setIfInBounds_toArray, List.set_cons_zero, List.set_cons_succ]
  refine RH_take (i := 6) (v := ?_) rfl (by kernel_rfl) (by kernel_rfl) (by kernel_rfl) (fun _ _ _ h => h) HX5.out (by rfl) ?_ ?_
  rotate_left
  · (intro w' hw'; obtain ⟨j0, j1, j2, j3, j4⟩ := hw'.cells; simp only [Hd.three] at j0 j1 j2 j3 j4; first | (go_simp; done) | (go_simp; with_reducible rfl))
  try simp only [List.getElem_toArray, List.getElem_cons_zero, List.getElem_cons_succ, Act.put, List.setIfInBounds_toArray, List.set_cons_zero, List.set_cons_succ]
  refine wpAnyH_done (by kernel_rfl) ?_ _
  refine NoPanic.normal ?_
  clear HX4 HB4 HB3
  by_cases hbig : 1000 < len
  · have d1 : decide ((1000 : Int) < (len : Int)) = true := by simp; omega
    clear hbig
    go_wp2
    go_ret
    exact ⟨rfl, HB5.out⟩
  have d1 : decide ((1000 : Int) < (len : Int)) = false := by simp; omega
  clear hbig
  go_wp2_with fail
  refine (copy_any _ _ _ l _ (H.out.mono HB5.out) (by omega)).mono ?_
  rintro e w6 ⟨g, rfl, own6, hb6⟩
  have hz6 := HB5.out.size
  have own6 := own_base (base' := w.heap.size) own6 (fun g' hg' => Nat.le_trans hz6 (own6.lt g' hg').1)
  have HB6 := Lib.hid (below_then HB5.out hb6)
  have hm := bs_of_own own6 (by omega) len (by omega)
  rw [List.take_append_of_le_length (by rw [HL.out]; exact Nat.le_refl _), List.take_of_length_le (by rw [HL.out]; exact Nat.le_refl _)] at hm
  have HO6 := Lib.hid own6
  have HT6 := Lib.hid (Hd.take_any _ len _ l w6 hm (by omega))
  have hbz := Hd.take_bad0 (l := l)
  have HBZ := Lib.hid hbz
  clear own6 hm hb6 hz6 HX5 HB5 hbz
  unfold Hd.HtPost at HT6
  have HRT : Hid (∀ W, Below w.heap.size w W → Calls Try.prog 20 #[.slice a len cap] W (Hd.RtPost W l)) := Lib.hid (fun W hb => Hd.refTake_any a len cap l W (H.out.mono hb) (by omega))
  unfold Hd.RtPost at HRT
  generalize hy : (Hd.take l).2 = y at *
  generalize hn : (Hd.take l).1 = n at *
  clear hy hn HBZ
  have HEQ := Lib.hid (fun w => hd_same y w)
  have HNM := Lib.hid (fun w => Hd.num_errV n w)
  generalize Hd.errV n = ev at *
  have HBN := Lib.hid (fun w => Hd.bx_new w y)
  have HBA := Lib.hid (fun w => below_alloc w (.cells #[.int .i64 y.w, .int .i64 y.h, .int .i64 y.d, .int .i64 y.c, .int .i64 y.l] 29))
  unfold Hd.H.val at HT6 HRT HEQ
  obtain ⟨yw, yh, yd, yc, yl⟩ := y
  simp only at HT6 HRT HEQ HBN HBA
  go_wp2_with fail
  refine HT6.out.mono ?_
  rintro e w7 ⟨rfl, hb7⟩
  have HB7 := Lib.hid (below_then HB6.out hb7)
  have HO7 := Lib.hid (own_below HO6.out hb7)
  have HX7 := Lib.hid (HBN.out w7)
  have HB8 := Lib.hid (below_then HB7.out (HBA.out w7))
  have HO8 := Lib.hid (own_below HO7.out (HBA.out w7))
  have HR8 := Lib.hid (HRT.out _ HB8.out)
  clear hb7 HT6 HRT HB6 HB7 HO6 HO7
  go_wp2_with fail
  refine HR8.out.mono ?_
  rintro e w9 ⟨rfl, hb9⟩
  have HX9 := Lib.hid (HX7.out.below hb9)
  have HB9 := Lib.hid (below_then HB8.out hb9)
  have HO9 := Lib.hid (own_below HO8.out hb9)
  have HX10 := Lib.hid (HBN.out w9)
  have HX11 := Lib.hid (HX9.out.below (HBA.out w9))
  have HB11 := Lib.hid (below_then HB9.out (HBA.out w9))
  have HO11 := Lib.hid (own_below HO9.out (HBA.out w9))
  clear hb9 HR8 HX7 HB8 HO8 HX9 HB9 HO9
  obtain ⟨x0, x1, x2, x3, x4⟩ := HX10.out.cells
  obtain ⟨y0, y1, y2, y3, y4⟩ := HX11.out.cells
  simp only at x0 x1 x2 x3 x4 y0 y1 y2 y3 y4
  have heq := HEQ.out
  have hnn : ((n : Int) == (n : Int)) = true := beq_self_eq_true _
  clear HX10 HX11 HBN HBA
  go_wp2_with fail
  refine (HNM.out _).mono ?_
  rintro e w' ⟨rfl, rfl⟩
  go_wp2_with fail
  refine (kept_any g len _ _ l _ _ (by omega) HO11.out (H.out.mono HB11.out)).mono ?_
  rintro e w' ⟨rfl, rfl⟩
  go_wp2_with fail
  go_ret
  exact ⟨rfl, HB11.out⟩
set_option maxRecDepth 100000 in
theorem lifted (os : Os) (started : os.Started) (H : Type) (enc : TypeId × Value → H) :
    ReturnsInHanded {} Try.checked os 5 .any (Rows.headTakesSpec.pre6 enc Try.prog Try.f5 Rows.headTakesRow.domain false) (Rows.headTakesSpec.post enc Try.prog Try.f5 false true false false) := by
  refine returnsInHanded_of_change_sized (C := Try.checked) own started (by kernel_rfl) Try.func5
    (ChangeSpec.witness6 (enc := enc) (C := Try.checked) false ⟨#[], #[.slice none 0 0], []⟩ 8 (by kernel_rfl) (by kernel_rfl) (by kernel_rfl) (by kernel_rfl)) ?_
  intro W base args ds gs before hval0 hW _ hsz0 _
  have hval : ∀ (j : Nat) t v, Try.f5.params[j]? = some t → args[j]? = some v → Value.okWide Try.prog W .any base t v := hval0
  have hsz : (DataW.weightsEach Try.prog (Try.f5.params.toList ++ Rows.headTakesSpec.plain.varTypes Try.prog) (ds ++ gs)).all (· ≤ reachBytes) = true := hsz0
  have hW' := hW
  obtain ⟨p, q, hA0, hV, rfl, hfz, hnd⟩ := hW
  have hA : DataW.TrodAll enc Try.prog W 0 (fun _ => true) true Try.f5.params.toList args.toList ds p := hA0
  rw [Try.params5] at hA hval hsz
  obtain ⟨v0, vs0, d0, ds0, p0, q0, hargs, rfl, rfl, h0, r0⟩ := trodAll_cons hA
  obtain ⟨rfl, rfl, rfl⟩ := trodAll_nil r0
  obtain rfl : args = #[v0] := by cases args; simp_all
  obtain ⟨rfl, rfl⟩ := trodVars_none hV
  clear hsz0
  obtain ⟨a0, len0, cap0, rfl⟩ := okWide_slice Try.underlying23 (hval 0 23 v0 rfl rfl)
  have k0 := h0
  have lt0 : ∀ x ∈ p0, x.block < W.heap.size := by obtain ⟨m, hm⟩ := k0; exact DataW.trod_lt m _ _ _ hm
  obtain ⟨l0, w0, c0⟩ := open_bs Try.underlying23 Try.underlying5 (by kernel_rfl) (by kernel_rfl) h0 hsz 0 rfl rfl
  clear hA0 hval0 hsz
  refine (walk a0 len0 cap0 l0 W w0 c0).mono fun e W' ⟨he, bel⟩ => ?_
  subst he
  exact ⟨_, rfl, _, _, _, [], _, [], hW', trodAll_mk1 (shut_bool Try.underlying4 _), (trodAll_cons_mk (Below.trod laidOut (by kernel_rfl) (of_decide_eq_true (by kernel_rfl)) k0 bel lt0) trodAll_mk0), rfl, bel.frame _, fun h => by cases h⟩

theorem proved : Rows.HeadTakesSaid :=
  OpenClaim.holds_of_wide 5 Try.f5 rfl rfl rfl rfl rfl rfl rfl ⟨rfl, rfl, rfl, rfl, rfl⟩ rfl rfl rfl rfl rfl (by kernel_rfl) Try.func5 (by kernel_rfl)
    (of_decide_eq_true (by kernel_rfl)) (by unfold Func.isWrapper; first | (rw [if_pos (by decide +kernel)]; kernel_rfl) | (rw [if_neg (by decide +kernel)]; exact ⟨rfl, rfl⟩))
    (fun os started H enc _ => lifted os started H enc)
#print axioms proved
end Go.Proofs.Ytfhmmlpcdgcmoaa.HeadTakes
