/- For every head and all bytes: what Take reads Put writes as it was, and what Put writes Take reads as it was; where Put refuses a head it does so by Check's error. Of more than a thousand bytes nothing is asked. No conditions. -/
import Derived.Test.YtfhmmlpcdgcmoaaRows
import Derived.Test.YtfhmmlpcdgcmoaaOpen
import Derived.Test.YtfhmmlpcdgcmoaaHdPut
import Derived.Test.YtfhmmlpcdgcmoaaHdNum
import Derived.Test.YtfhmmlpcdgcmoaaHdSame
import Derived.Test.YtfhmmlpcdgcmoaaNumSame
import Derived.Test.YtfhmmlpcdgcmoaaOpenHd
import Derived.Test.YtfhmmlpcdgcmoaaRegionS
namespace Go.Proofs.Ytfhmmlpcdgcmoaa.HeadBack
open Go.ChangeShapes Go.WideShapes Go.ChangeAt Go.RowKit
open Go.ChangeMaps (open_string shut_string)
set_option linter.unusedVariables false
theorem own : ownKnob Try.prog.godebug = none := by kernel_rfl
theorem laidOut : laidOutB Try.prog = true := by kernel_rfl
set_option maxRecDepth 100000 in
set_option maxHeartbeats 2000000 in
theorem walk (x : Hd.H) (a : Option Addr) (len cap : Nat) (l : List UInt8) (w : World) (_ : (Lit.int .i64 x.w).wf = true ∧ (Lit.int .i64 x.h).wf = true ∧ (Lit.int .i64 x.d).wf = true ∧ (Lit.int .i64 x.c).wf = true ∧ (Lit.int .i64 x.l).wf = true) (h : Bs w a len cap l) (hr : cap ≤ 140737488351232) :
    Calls Try.prog 6 #[x.val, .slice a len cap] w fun e w' => e = .returned (.bool true) ∧ Below w.heap.size w w' := by
  have hle := h.hle
  have HL := Lib.hid h.hlen
  have H := Lib.hid h
  clear h
  have HPU : Hid (∀ (y : Hd.H) w, Hd.bad y = 0 → Calls Try.prog 22 #[y.val] w fun e w' => ∃ a cap, e = .returned (.tuple #[.slice a 13 cap, .nilIface]) ∧ Bs w' a 13 cap (Hd.enc y) ∧ Below w.heap.size w w') := Lib.hid (fun y w hz => (Hd.put_any y w).mono (fun e w' hp => by unfold Hd.HpPost at hp; rwa [if_pos hz] at hp))
  have HPB : Hid (∀ w, Hd.bad x ≠ 0 → Calls Try.prog 22 #[x.val] w fun e w' => e = .returned (.tuple #[.slice none 0 0, Hd.errV (Hd.bad x)]) ∧ Below w.heap.size w w') := Lib.hid (fun w hz => (Hd.put_any x w).mono (fun e w' hp => by unfold Hd.HpPost at hp; rwa [if_neg hz] at hp))
  have HTK : Hid (∀ W, Below w.heap.size w W → Calls Try.prog 17 #[.slice a len cap] W (Hd.HtPost W l)) := Lib.hid (fun W hb => Hd.take_any a len cap l W (H.out.mono hb) (by omega))
  have HTE : Hid (∀ a c w, Hd.bad x = 0 → Bs w a 13 c (Hd.enc x) → Calls Try.prog 17 #[.slice a 13 c] w fun e w' => e = .returned (.tuple #[x.val, .nilIface]) ∧ Below w.heap.size w w') := Lib.hid (fun a c w hz hs => by
    have h1 := Hd.take_any a 13 c _ w hs (by omega)
    unfold Hd.HtPost at h1
    rw [Hd.take_enc hz] at h1
    exact h1)
  have HP3 : Hid (∀ w, Calls Try.prog 22 #[Hd.three.val] w fun e w' => ∃ a cap, e = .returned (.tuple #[.slice a 13 cap, .nilIface]) ∧ Below w.heap.size w w') := Lib.hid (fun w => (HPU.out Hd.three w (by decide)).mono (fun e w' ⟨a, c, h1, h2, h3⟩ => ⟨a, c, h1, h3⟩))
  have HPX0 := Lib.hid (fun w hz => HPU.out x w hz)
  have HCK := Lib.hid (fun w => Hd.check_any x w)
  have HNM := Lib.hid (fun w => Hd.num_errV (Hd.bad x) w)
  have HBX := Lib.hid (Hd.bx_new w x)
  have HAL := Lib.hid (below_alloc w (.cells #[.int .i64 x.w, .int .i64 x.h, .int .i64 x.d, .int .i64 x.c, .int .i64 x.l] 29))
  have HSX := Lib.hid (fun w => hd_same x w)
  have HXN := Lib.hid (fun w => Hd.bx_new w x)
  have HXA := Lib.hid (fun w => below_alloc w (.cells #[.int .i64 x.w, .int .i64 x.h, .int .i64 x.d, .int .i64 x.c, .int .i64 x.l] 29))
  generalize Hd.bad x = bd at *
  generalize Hd.enc x = en at *
  obtain ⟨xw, xh, xd, xc, xl⟩ := x
  unfold Hd.H.val at HPB HTE HCK HSX HPX0
  simp only at HPB HTE HCK HSX HBX HAL HXN HXA HPX0
  show Calls Try.prog 6 #[.agg #[.int .i64 xw, .int .i64 xh, .int .i64 xd, .int .i64 xc, .int .i64 xl], .slice a len cap] w _
  go_enter Try.func6, Try.ntmps6
  go_wp2_with fail
  refine (Hd.three_any _).mono ?_
  rintro e w1 ⟨rfl, hb1⟩
  have HX1 := Lib.hid (HBX.out.below hb1)
  have HB1 := Lib.hid (below_then HAL.out hb1)
  clear hb1 HBX HAL
  go_wp2_with fail
  refine (HP3.out _).mono ?_
  rintro e w2 ⟨a2, c2, rfl, hb2⟩
  have HX2 := Lib.hid (HX1.out.below hb2)
  have HB2 := Lib.hid (below_then HB1.out hb2)
  clear hb2 HX1 HB1 HP3
  by_cases hbig : 1000 < len
  · have d1 : decide ((1000 : Int) < (len : Int)) = true := by simp; omega
    clear hbig
    go_wp2
    go_ret
    exact ⟨rfl, HB2.out⟩
  have d1 : decide ((1000 : Int) < (len : Int)) = false := by simp; omega
  clear hbig
  have HT2 := Lib.hid (HTK.out w2 HB2.out)
  have hback := fun y => Hd.take_back (l := l) (x := y)
  unfold Hd.HtPost at HT2
  generalize Hd.take l = tk at *
  obtain ⟨n, y⟩ := tk
  simp only at HT2
  have HBK := Lib.hid hback
  have HYN := Lib.hid (fun w => Hd.bx_new w y)
  have HYA := Lib.hid (fun w => below_alloc w (.cells #[.int .i64 y.w, .int .i64 y.h, .int .i64 y.d, .int .i64 y.c, .int .i64 y.l] 29))
  clear hback HTK
  have key : ∀ w8, Hid (Hd.Bx w8 w.heap.size ⟨xw, xh, xd, xc, xl⟩) → Hid (Below w.heap.size w w8) → True := fun _ _ _ => trivial
  clear key
  by_cases hn : n = 0
  rotate_left
  · rw [Hd.errV_pos hn] at HT2
    clear hn HBK HPU
    obtain ⟨yw, yh, yd, yc, yl⟩ := y
    unfold Hd.H.val at HT2
    simp only at HT2 HYN HYA
    go_wp2_with fail
    refine HT2.out.mono ?_
    rintro e w3 ⟨rfl, hb3⟩
    have HX8 := Lib.hid ((HX2.out.below hb3).below (HYA.out w3))
    have HB8 := Lib.hid (below_then (below_then HB2.out hb3) (HYA.out w3))
    clear hb3 HT2 HX2 HB2
    obtain ⟨c0, c1, c2, c3, c4⟩ := HX8.out.cells
    simp only at c0 c1 c2 c3 c4
    go_wp2_with fail
    by_cases hz : bd = 0
    · have HPX := Lib.hid (fun w => HPX0.out w hz)
      have HTX := Lib.hid (fun a c w => HTE.out a c w hz)
      clear hz HPB HTE HCK HNM
      refine (HPX.out _).mono ?_
      rintro e wa ⟨aa, ca, rfl, hsa, hba⟩
      have HXa := Lib.hid (HX8.out.below hba)
      have HBa := Lib.hid (below_then HB8.out hba)
      have HTa := Lib.hid (HTX.out aa ca wa hsa)
      clear hsa hba HPX HTX c0 c1 c2 c3 c4
      go_wp2_with fail
      refine HTa.out.mono ?_
      rintro e wb ⟨rfl, hbb⟩
      have HXb := Lib.hid ((HXa.out.below hbb).below (HXA.out wb))
      have HBb := Lib.hid (below_then (below_then HBa.out hbb) (HXA.out wb))
      obtain ⟨c0, c1, c2, c3, c4⟩ := HXb.out.cells
      obtain ⟨z0, z1, z2, z3, z4⟩ := (HXN.out wb).cells
      simp only at c0 c1 c2 c3 c4 z0 z1 z2 z3 z4
      have heq := HSX.out
      clear hbb HTa HXa HBa HXb
      go_wp2
      go_ret
      exact ⟨rfl, HBb.out⟩
    · have HPX := Lib.hid (fun w => HPB.out w hz)
      have HEV := Lib.hid (Hd.errV_pos hz)
      rw [HEV.out] at HPX HCK HNM
      clear hz HPB HTE HEV
      refine (HPX.out _).mono ?_
      rintro e wa ⟨rfl, hba⟩
      have HXa := Lib.hid (HX8.out.below hba)
      have HBa := Lib.hid (below_then HB8.out hba)
      clear hba HPX c0 c1 c2 c3 c4
      obtain ⟨c0, c1, c2, c3, c4⟩ := HXa.out.cells
      simp only at c0 c1 c2 c3 c4
      have hbb : ((bd : Int) == (bd : Int)) = true := beq_self_eq_true _
      have HLT := Lib.hid HXa.out.lt
      go_wp2_with fail
      go_region_held3 (fun w' => w'.cell? ⟨w.heap.size, 0, none⟩ = some (.int .i64 xw) ∧ w'.cell? ⟨w.heap.size, 1, none⟩ = some (.int .i64 xh) ∧ w'.cell? ⟨w.heap.size, 2, none⟩ = some (.int .i64 xd) ∧ w'.cell? ⟨w.heap.size, 3, none⟩ = some (.int .i64 xc) ∧ w'.cell? ⟨w.heap.size, 4, none⟩ = some (.int .i64 xl)) (first | (with_reducible exact ⟨c0, c1, c2, c3, c4⟩) | (with_reducible exact ⟨e0, e1, e2, e3, e4⟩) | go_keep)
        (first
          | (go_at_call 11; (with_reducible refine (HNM.out _).mono ?_); rintro e w' ⟨rfl, rfl⟩)
          | (go_at_call 12; (with_reducible refine (HCK.out _).mono ?_); rintro e wc ⟨rfl, hbc⟩; have HBc := Lib.hid (below_then HBa.out.drew hbc); have hq : w.heap.size < wa.drew.heap.size := HLT.out; have e0 := (hbc.cell (p := ⟨w.heap.size, 0, none⟩) hq).trans c0; have e1 := (hbc.cell (p := ⟨w.heap.size, 1, none⟩) hq).trans c1; have e2 := (hbc.cell (p := ⟨w.heap.size, 2, none⟩) hq).trans c2; have e3 := (hbc.cell (p := ⟨w.heap.size, 3, none⟩) hq).trans c3; have e4 := (hbc.cell (p := ⟨w.heap.size, 4, none⟩) hq).trans c4; clear hbc))
      all_goals
        go_wp2
        go_ret
        exact ⟨rfl, HBc.out⟩
  · obtain ⟨hyb, hye⟩ := HBK.out y (by rw [hn])
    rw [Hd.errV_zero hn] at HT2
    have HPY := Lib.hid (fun w => HPU.out y w hyb)
    rw [hye] at HPY
    clear hn HBK HPU hyb hye
    obtain ⟨yw, yh, yd, yc, yl⟩ := y
    unfold Hd.H.val at HT2 HPY
    simp only at HT2 HYN HYA HPY
    go_wp2_with fail
    refine HT2.out.mono ?_
    rintro e w3 ⟨rfl, hb3⟩
    have HX4 := Lib.hid ((HX2.out.below hb3).below (HYA.out w3))
    have HB4 := Lib.hid (below_then (below_then HB2.out hb3) (HYA.out w3))
    clear hb3 HT2 HX2 HB2
    go_wp2_with fail
    refine (HPY.out _).mono ?_
    rintro e w5 ⟨a5, q5, rfl, hs5, hb5⟩
    have HX8 := Lib.hid (HX4.out.below hb5)
    have HB8 := Lib.hid (below_then HB4.out hb5)
    have HSM := Lib.hid (same_any a5 a 13 q5 len cap l l w5 hs5 (H.out.mono HB8.out))
    rw [show (l == l) = true from beq_self_eq_true _] at HSM
    clear hs5 hb5 HX4 HB4 HPY
    obtain ⟨c0, c1, c2, c3, c4⟩ := HX8.out.cells
    simp only at c0 c1 c2 c3 c4
    go_wp2_with fail
    refine HSM.out.mono ?_
    rintro e w' ⟨rfl, rfl⟩
    go_wp2_with fail
    by_cases hz : bd = 0
    · have HPX := Lib.hid (fun w => HPX0.out w hz)
      have HTX := Lib.hid (fun a c w => HTE.out a c w hz)
      clear hz HPB HTE HCK HNM
      refine (HPX.out _).mono ?_
      rintro e wa ⟨aa, ca, rfl, hsa, hba⟩
      have HXa := Lib.hid (HX8.out.below hba)
      have HBa := Lib.hid (below_then HB8.out hba)
      have HTa := Lib.hid (HTX.out aa ca wa hsa)
      clear hsa hba HPX HTX c0 c1 c2 c3 c4
      go_wp2_with fail
      refine HTa.out.mono ?_
      rintro e wb ⟨rfl, hbb⟩
      have HXb := Lib.hid ((HXa.out.below hbb).below (HXA.out wb))
      have HBb := Lib.hid (below_then (below_then HBa.out hbb) (HXA.out wb))
      obtain ⟨c0, c1, c2, c3, c4⟩ := HXb.out.cells
      obtain ⟨z0, z1, z2, z3, z4⟩ := (HXN.out wb).cells
      simp only at c0 c1 c2 c3 c4 z0 z1 z2 z3 z4
      have heq := HSX.out
      clear hbb HTa HXa HBa HXb
      go_wp2
      go_ret
      exact ⟨rfl, HBb.out⟩
    · have HPX := Lib.hid (fun w => HPB.out w hz)
      have HEV := Lib.hid (Hd.errV_pos hz)
      rw [HEV.out] at HPX HCK HNM
      clear hz HPB HTE HEV
      refine (HPX.out _).mono ?_
      rintro e wa ⟨rfl, hba⟩
      have HXa := Lib.hid (HX8.out.below hba)
      have HBa := Lib.hid (below_then HB8.out hba)
      clear hba HPX c0 c1 c2 c3 c4
      obtain ⟨c0, c1, c2, c3, c4⟩ := HXa.out.cells
      simp only at c0 c1 c2 c3 c4
      have hbb : ((bd : Int) == (bd : Int)) = true := beq_self_eq_true _
      have HLT := Lib.hid HXa.out.lt
      go_wp2_with fail
      go_region_held3 (fun w' => w'.cell? ⟨w.heap.size, 0, none⟩ = some (.int .i64 xw) ∧ w'.cell? ⟨w.heap.size, 1, none⟩ = some (.int .i64 xh) ∧ w'.cell? ⟨w.heap.size, 2, none⟩ = some (.int .i64 xd) ∧ w'.cell? ⟨w.heap.size, 3, none⟩ = some (.int .i64 xc) ∧ w'.cell? ⟨w.heap.size, 4, none⟩ = some (.int .i64 xl)) (first | (with_reducible exact ⟨c0, c1, c2, c3, c4⟩) | (with_reducible exact ⟨e0, e1, e2, e3, e4⟩) | go_keep)
        (first
          | (go_at_call 11; (with_reducible refine (HNM.out _).mono ?_); rintro e w' ⟨rfl, rfl⟩)
          | (go_at_call 12; (with_reducible refine (HCK.out _).mono ?_); rintro e wc ⟨rfl, hbc⟩; have HBc := Lib.hid (below_then HBa.out.drew hbc); have hq : w.heap.size < wa.drew.heap.size := HLT.out; have e0 := (hbc.cell (p := ⟨w.heap.size, 0, none⟩) hq).trans c0; have e1 := (hbc.cell (p := ⟨w.heap.size, 1, none⟩) hq).trans c1; have e2 := (hbc.cell (p := ⟨w.heap.size, 2, none⟩) hq).trans c2; have e3 := (hbc.cell (p := ⟨w.heap.size, 3, none⟩) hq).trans c3; have e4 := (hbc.cell (p := ⟨w.heap.size, 4, none⟩) hq).trans c4; clear hbc))
      all_goals
        go_wp2
        go_ret
        exact ⟨rfl, HBc.out⟩
set_option maxRecDepth 100000 in
theorem lifted (os : Os) (started : os.Started) (H : Type) (enc : TypeId × Value → H) :
    ReturnsInHanded {} Try.checked os 6 .any (Rows.headBackSpec.pre6 enc Try.prog Try.f6 Rows.headBackRow.domain false) (Rows.headBackSpec.post enc Try.prog Try.f6 false true false false) := by
  refine returnsInHanded_of_change_sized (C := Try.checked) own started (by kernel_rfl) Try.func6
    (ChangeSpec.witness6 (enc := enc) (C := Try.checked) false ⟨#[], #[.agg #[.int .i64 0, .int .i64 0, .int .i64 0, .int .i64 0, .int .i64 0], .slice none 0 0], []⟩ 8 (by kernel_rfl) (by kernel_rfl) (by kernel_rfl) (by kernel_rfl)) ?_
  intro W base args ds gs before hval0 hW _ hsz0 _
  have hval : ∀ (j : Nat) t v, Try.f6.params[j]? = some t → args[j]? = some v → Value.okWide Try.prog W .any base t v := hval0
  have hsz : (DataW.weightsEach Try.prog (Try.f6.params.toList ++ Rows.headBackSpec.plain.varTypes Try.prog) (ds ++ gs)).all (· ≤ reachBytes) = true := hsz0
  have hW' := hW
  obtain ⟨p, q, hA0, hV, rfl, hfz, hnd⟩ := hW
  have hA : DataW.TrodAll enc Try.prog W 0 (fun _ => true) true Try.f6.params.toList args.toList ds p := hA0
  rw [Try.params6] at hA hval hsz
  obtain ⟨v0, vs0, d0, ds0, p0, q0, hargs, rfl, rfl, h0, r0⟩ := trodAll_cons hA
  obtain ⟨v1, vs1, d1, ds1, p1, q1, rfl, rfl, rfl, h1, r1⟩ := trodAll_cons r0
  obtain ⟨rfl, rfl, rfl⟩ := trodAll_nil r1
  obtain rfl : args = #[v0, v1] := by cases args; simp_all
  obtain ⟨rfl, rfl⟩ := trodVars_none hV
  clear hsz0
  have k0 := h0
  have lt0 : ∀ x ∈ p0, x.block < W.heap.size := by obtain ⟨m, hm⟩ := k0; exact DataW.trod_lt m _ _ _ hm
  obtain ⟨x0, rfl, w0⟩ := open_hd Try.underlying29 (by kernel_rfl) Try.underlying3 Try.underlying3 Try.underlying3 Try.underlying3 Try.underlying3 (by kernel_rfl) (by kernel_rfl) (by kernel_rfl) (by kernel_rfl) (by kernel_rfl) rfl rfl rfl rfl rfl (hval 0 29 v0 rfl rfl) h0
  obtain ⟨a1, len1, cap1, rfl⟩ := okWide_slice Try.underlying23 (hval 1 23 v1 rfl rfl)
  have k1 := h1
  have lt1 : ∀ x ∈ p1, x.block < W.heap.size := by obtain ⟨m, hm⟩ := k1; exact DataW.trod_lt m _ _ _ hm
  obtain ⟨l1, w1, c1⟩ := open_bs Try.underlying23 Try.underlying5 (by kernel_rfl) (by kernel_rfl) h1 hsz 1 rfl rfl
  clear hA0 hval0 hsz
  refine (walk x0 a1 len1 cap1 l1 W w0 w1 c1).mono fun e W' ⟨he, bel⟩ => ?_
  subst he
  exact ⟨_, rfl, _, _, _, [], _, [], hW', trodAll_mk1 (shut_bool Try.underlying4 _), (trodAll_cons_mk (Below.trod laidOut (by kernel_rfl) (of_decide_eq_true (by kernel_rfl)) k0 bel lt0) (trodAll_cons_mk (Below.trod laidOut (by kernel_rfl) (of_decide_eq_true (by kernel_rfl)) k1 bel lt1) trodAll_mk0)), rfl, bel.frame _, fun h => by cases h⟩

theorem proved : Rows.HeadBackSaid :=
  OpenClaim.holds_of_wide 6 Try.f6 rfl rfl rfl rfl rfl rfl rfl ⟨rfl, rfl, rfl, rfl, rfl⟩ rfl rfl rfl rfl rfl (by kernel_rfl) Try.func6 (by kernel_rfl)
    (of_decide_eq_true (by kernel_rfl)) (by unfold Func.isWrapper; first | (rw [if_pos (by decide +kernel)]; kernel_rfl) | (rw [if_neg (by decide +kernel)]; exact ⟨rfl, rfl⟩))
    (fun os started H enc _ => lifted os started H enc)
#print axioms proved
end Go.Proofs.Ytfhmmlpcdgcmoaa.HeadBack
