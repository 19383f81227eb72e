/- For all passes, columns and rows: Place answers -1, -1 where there is no such pass or place, and else a place that the document's table gives to that pass, as far from the pass's first one as the column and row say; the first and the second one stand next to each other; the fixed example holds. The variable passes holds what the text lays. No conditions. -/
import Derived.Test.YtkplopfbgaiegaaDoorCards
import Derived.Test.YtkplopfbgaiegaaDoorTie
import Derived.ProofKit
import Derived.Handy
import Derived.Lay
import Derived.SevenTiedAt
import Derived.Test.YtkplopfbgaiegaaDoorRows
import Derived.Test.YtkplopfbgaiegaaDoorOpen
import Derived.Test.YtkplopfbgaiegaaDoorLcSize
import Derived.Test.YtkplopfbgaiegaaDoorLcFirst
namespace Go.Proofs.YtkplopfbgaiegaaDoor.LacePlaces
open Go.ChangeShapes Go.WideShapes Go.ChangeAt Go.RowKit
open Go.ChangeMaps (open_string shut_string)
set_option linter.unusedVariables false
theorem own : ownKnob Tryd.prog.godebug = none := by kernel_rfl
theorem laidOut : laidOutB Tryd.prog = true := by kernel_rfl
theorem only_pass (p : Nat) (hp : p < 7) : Lc.only p (Lc.px p) (Lc.py p) (Lc.px p + Lc.pdx p) (Lc.py p + Lc.pdy p) := by
  obtain ⟨_, _, d1, d2, l1, l2⟩ := Lc.dx_dvd p hp
  constructor
  · intro x hx hne e
    have := ((Lc.pt_iff x _ p hp).1 e).1
    by_cases h : x < Lc.pdx p
    · rw [Nat.mod_eq_of_lt h] at this; exact hne this
    · have e2 : x = (x - Lc.pdx p) + Lc.pdx p := by omega
      rw [e2, Nat.add_mod_right, Nat.mod_eq_of_lt (by omega)] at this
      omega
  · intro x hx hne e
    have := ((Lc.pt_iff _ x p hp).1 e).2
    by_cases h : x < Lc.pdy p
    · rw [Nat.mod_eq_of_lt h] at this; exact hne this
    · have e2 : x = (x - Lc.pdy p) + Lc.pdy p := by omega
      rw [e2, Nat.add_mod_right, Nat.mod_eq_of_lt (by omega)] at this
      omega
theorem there (p x y : Nat) (hp : p < 7) : Lc.pt (Lc.px p + x * Lc.pdx p) (Lc.py p + y * Lc.pdy p) = p := by
  obtain ⟨_, _, d1, d2, l1, l2⟩ := Lc.dx_dvd p hp
  exact (Lc.pt_iff _ _ p hp).2 ⟨by rw [Nat.add_mul_mod_self_right, Nat.mod_eq_of_lt l1], by rw [Nat.add_mul_mod_self_right, Nat.mod_eq_of_lt l2]⟩
theorem w_sub {C p d : Nat} (h : p + d = C) (hC : C ≤ 1000000) : wrap64 ((C : Int) - (p : Int)) = (d : Int) := by
  rw [IntWalk.wrap64_in _ ⟨by omega, by omega⟩]; omega
theorem w_add {C p d : Nat} (h : p + d = C) (hC : C ≤ 1000000) : wrap64 ((p : Int) + (d : Int)) = (C : Int) := by
  rw [IntWalk.wrap64_in _ ⟨by omega, by omega⟩]; omega
theorem w_id {C : Nat} (hC : C ≤ 1000000) : wrap64 (C : Int) = (C : Int) := IntWalk.wrap64_in _ ⟨by omega, by omega⟩
set_option maxRecDepth 100000 in
set_option maxHeartbeats 4000000 in
theorem walk (p c r : Int) (w : World) (ha : (Lit.int .i64 p).wf = true) (hb : (Lit.int .i64 c).wf = true) (hc : (Lit.int .i64 r).wf = true) (hL : laidMetH Tryd.prog [("burnish/lace.passes", Rows.laid_burnish_lace_passes)] w) :
    Calls Tryd.prog 5 #[.int .i64 p, .int .i64 c, .int .i64 r] w fun e w' => e = .returned (.bool true) ∧ Below w.heap.size w w' := by
  have HLP := Lib.hid (Lc.lp_of_laid hL)
  have HEX := Lib.hid (show Lc.plc 2 1 0 = (4, 4) by decide)
  have HP := Lib.hid (fun p c r w h => Lc.Place_any p c r w h)
  clear hL ha hb hc
  by_cases hg : 0 ≤ p ∧ p < 7 ∧ 0 ≤ c ∧ c < 65535 ∧ 0 ≤ r ∧ r < 65535
  rotate_left
  · have HS := Lib.hid (show Lc.plc p c r = (-1, -1) from if_neg hg)
    have hk : decide (p < 0) = true ∨ (decide (p < 0) = false ∧ decide (6 < p) = true) ∨ (decide (p < 0) = false ∧ decide (6 < p) = false ∧ decide (c < 0) = true) ∨ (decide (p < 0) = false ∧ decide (6 < p) = false ∧ decide (c < 0) = false ∧ decide (r < 0) = true) ∨
        (decide (p < 0) = false ∧ decide (6 < p) = false ∧ decide (c < 0) = false ∧ decide (r < 0) = false ∧ decide (65535 ≤ c) = true) ∨ (decide (p < 0) = false ∧ decide (6 < p) = false ∧ decide (c < 0) = false ∧ decide (r < 0) = false ∧ decide (65535 ≤ c) = false ∧ decide (65535 ≤ r) = true) := by
      simp
      omega
    clear hg
    rcases hk with k1 | ⟨k1, k2⟩ | ⟨k1, k2, k3⟩ | ⟨k1, k2, k3, k4⟩ | ⟨k1, k2, k3, k4, k5⟩ | ⟨k1, k2, k3, k4, k5, k6⟩
    all_goals
      go_enter Tryd.func5, Tryd.ntmps5
      go_wp2_with fail
      refine (HP.out _ _ _ _ HLP.out).mono ?_
      rw [HEX.out]
      rintro e w1 ⟨rfl, hb1⟩
      go_wp2_with fail
      refine (HP.out p c r _ (HLP.out.below hb1)).mono ?_
      rw [HS.out]
      rintro e w2 ⟨rfl, hb2⟩
      go_wp2
      go_ret
      exact ⟨rfl, below_then hb1 hb2⟩
  obtain ⟨g1, g2, g3, g4, g5, g6⟩ := id hg
  obtain ⟨a, rfl⟩ : ∃ a : Nat, p = (a : Int) := ⟨p.toNat, by omega⟩
  obtain ⟨x, rfl⟩ : ∃ x : Nat, c = (x : Int) := ⟨c.toNat, by omega⟩
  obtain ⟨y, rfl⟩ : ∃ y : Nat, r = (y : Int) := ⟨r.toNat, by omega⟩
  have ha : a < 7 := by omega
  obtain ⟨s1, s2, s3, s4, s5, s6⟩ := Lc.p_small a ha
  have HS : Hid (Lc.plc a x y = (((Lc.px a + x * Lc.pdx a : Nat) : Int), ((Lc.py a + y * Lc.pdy a : Nat) : Int))) := Lib.hid ((if_pos hg).trans (by simp only [Int.toNat_natCast]))
  have HS0 : Hid (Lc.plc a 0 0 = (((Lc.px a : Nat) : Int), ((Lc.py a : Nat) : Int))) := Lib.hid ((if_pos (by omega)).trans (by simp))
  have HS1 : Hid (Lc.plc a 1 1 = (((Lc.px a + Lc.pdx a : Nat) : Int), ((Lc.py a + Lc.pdy a : Nat) : Int))) := Lib.hid ((if_pos (by omega)).trans (by simp))
  have HT := Lib.hid (there a x y ha)
  have HT0 : Hid (Lc.pt (Lc.px a) (Lc.py a) = a) := Lib.hid (by have := there a 0 0 ha; simpa using this)
  have HF := Lib.hid (fun w => Lc.first_any a _ _ _ _ (only_pass a ha) (by omega) (by omega) w)
  have HRF := Lib.hid (fun x y w => Lc.refPass_any x y w)
  have b1 : x * Lc.pdx a ≤ 65535 * 8 := Nat.mul_le_mul (by omega) s2
  have b2 : y * Lc.pdy a ≤ 65535 * 8 := Nat.mul_le_mul (by omega) s5
  have e1 : (x : Int) * (Lc.pdx a : Int) = ((x * Lc.pdx a : Nat) : Int) := (Int.natCast_mul _ _).symm
  have e2 : (y : Int) * (Lc.pdy a : Int) = ((y * Lc.pdy a : Nat) : Int) := (Int.natCast_mul _ _).symm
  generalize x * Lc.pdx a = mx at *
  generalize y * Lc.pdy a = my at *
  generalize Lc.px a = px at *
  generalize Lc.py a = py at *
  generalize Lc.pdx a = dx at *
  generalize Lc.pdy a = dy at *
  have k1 : decide ((a : Int) < 0) = false := by simp
  have k2 : decide ((6 : Int) < (a : Int)) = false := by simp; omega
  have k3 : decide ((x : Int) < 0) = false := by simp
  have k4 : decide ((y : Int) < 0) = false := by simp
  have k5 : decide ((65535 : Int) ≤ (x : Int)) = false := by simp; omega
  have k6 : decide ((65535 : Int) ≤ (y : Int)) = false := by simp; omega
  generalize hX : px + mx = X at *
  generalize hY : py + my = Y at *
  generalize hC : px + dx = C at *
  generalize hD : py + dy = D at *
  have bC : C ≤ 1000000 := by omega
  have bD : D ≤ 1000000 := by omega
  have bX : X ≤ 1000000 := by omega
  have bY : Y ≤ 1000000 := by omega
  have bmx : mx ≤ 1000000 := by omega
  have bmy : my ≤ 1000000 := by omega
  have k7 : decide ((X : Int) < 0) = false := by simp
  have k8 : decide ((Y : Int) < 0) = false := by simp
  have k9 : decide (px < C) = true := by simp; omega
  have k10 : decide (py < D) = true := by simp; omega
  have e3 : wrap64 ((C : Int) - (px : Int)) = (dx : Int) := w_sub hC bC
  have e4 : wrap64 ((D : Int) - (py : Int)) = (dy : Int) := w_sub hD bD
  have e5 : wrap64 ((x : Int) * (dx : Int)) = (mx : Int) := by rw [e1]; exact w_id bmx
  have e6 : wrap64 ((y : Int) * (dy : Int)) = (my : Int) := by rw [e2]; exact w_id bmy
  have e7 : wrap64 ((px : Int) + (mx : Int)) = (X : Int) := w_add hX bX
  have e8 : wrap64 ((py : Int) + (my : Int)) = (Y : Int) := w_add hY bY
  clear bC bD bX bY bmx bmy
  clear hg g1 g2 g3 g4 g5 g6 s1 s2 s3 s4 s5 s6 b1 b2 hX hY hC hD e1 e2
  go_enter Tryd.func5, Tryd.ntmps5
  go_wp2_with fail
  refine (HP.out _ _ _ _ HLP.out).mono ?_
  rw [HEX.out]
  rintro e w1 ⟨rfl, hb1⟩
  have HL1 := Lib.hid (HLP.out.below hb1)
  have HB1 := Lib.hid hb1
  clear hb1 HEX HLP
  go_wp2_with fail
  refine (HP.out _ _ _ _ HL1.out).mono ?_
  rw [HS.out]
  rintro e w2 ⟨rfl, hb2⟩
  have HL2 := Lib.hid (HL1.out.below hb2)
  have HB2 := Lib.hid (below_then HB1.out hb2)
  clear hb2 HS HL1 HB1
  go_wp2_with fail
  refine (HRF.out _ _ _).mono ?_
  rw [HT.out]
  rintro e w3 ⟨rfl, hb3⟩
  have HL3 := Lib.hid (HL2.out.below hb3)
  have HB3 := Lib.hid (below_then HB2.out hb3)
  clear hb3 HL2 HB2 HT
  go_wp2_with fail
  refine (HP.out _ _ _ _ HL3.out).mono ?_
  rw [HS0.out]
  rintro e w4 ⟨rfl, hb4⟩
  have HL4 := Lib.hid (HL3.out.below hb4)
  have HB4 := Lib.hid (below_then HB3.out hb4)
  clear hb4 HS0 HL3 HB3
  go_wp2_with fail
  refine (HP.out _ _ _ _ HL4.out).mono ?_
  rw [HS1.out]
  rintro e w5 ⟨rfl, hb5⟩
  have HB5 := Lib.hid (below_then HB4.out hb5)
  clear hb5 HS1 HL4 HB4 HP
  go_wp2_with fail
  refine (HRF.out _ _ _).mono ?_
  rw [HT0.out]
  rintro e w6 ⟨rfl, hb6⟩
  have HB6 := Lib.hid (below_then HB5.out hb6)
  clear hb6 HB5 HRF HT0
  go_wp2_with fail
  refine (HF.out _).mono ?_
  rintro e w7 ⟨rfl, hb7⟩
  have HB7 := Lib.hid (below_then HB6.out hb7)
  clear hb7 HB6 HF
  go_wp2
  go_ret
  exact ⟨rfl, HB7.out⟩
set_option maxRecDepth 100000 in
theorem lifted (os : Os) (started : os.Started) (H : Type) (enc : TypeId × Value → H) :
    ReturnsInHanded {} Tryd.checked os 5 .any (fun w args => (Rows.lacePlacesSpec.pre enc Tryd.prog Tryd.f5 Rows.lacePlacesRow.domain false w args ∧ laidMetH Tryd.prog [("burnish/lace.passes", Rows.laid_burnish_lace_passes)] w) ∧ sizedMet enc Tryd.prog Tryd.f5 (OpenSpec.ofChange Rows.lacePlacesSpec) false w args)
      (Rows.lacePlacesSpec.post enc Tryd.prog Tryd.f5 false true false false) := by
  refine returnsInHanded_of_change_and (C := Tryd.checked) (X := fun w _ => laidMetH Tryd.prog [("burnish/lace.passes", Rows.laid_burnish_lace_passes)] w) (fun _ _ _ hh h => h.of_heap hh) own started (by kernel_rfl) Tryd.func5
    (ChangeSpec.witness_shaped (enc := enc) (C := Tryd.checked) (os := os) (X := fun w _ => laidMetH Tryd.prog [("burnish/lace.passes", Rows.laid_burnish_lace_passes)] w) false (World.laidAll Tryd.prog os [("burnish/lace.passes", Rows.laid_burnish_lace_passes)]) #[.int .i64 0, .int .i64 0, .int .i64 0] 8 (World.laidAll_os _ _ _)
      (World.shaped_of_ZipB (by kernel_rfl) (by kernel_rfl)) (by kernel_rfl) (by kernel_rfl) (by kernel_rfl)
      (by rw [MakeChecks.laidMetH_plain _ _ _ (by kernel_rfl)]; exact laidMet_laidAll _ (by kernel_rfl) (by kernel_rfl))) ?_
  intro W base args ds gs before hval0 hW _ hsz0 hL _
  have hval : ∀ (j : Nat) t v, Tryd.f5.params[j]? = some t → args[j]? = some v → Value.okWide Tryd.prog W .any base t v := hval0
  have hsz : (DataW.weightsEach Tryd.prog (Tryd.f5.params.toList ++ Rows.lacePlacesSpec.plain.varTypes Tryd.prog) (ds ++ gs)).all (· ≤ reachBytes) = true := hsz0
  have hW' := hW
  obtain ⟨p, q, hA0, hV, rfl, hfz, hnd⟩ := hW
  have hA : DataW.TrodAll enc Tryd.prog W 0 (fun _ => true) true Tryd.f5.params.toList args.toList ds p := hA0
  rw [Tryd.params5] at hA hval hsz
  obtain ⟨v0, vs0, d0, ds0, p0, q0, hargs, rfl, rfl, h0, r0⟩ := trodAll_cons hA
  obtain ⟨v1, vs1, d1, ds1, p1, q1, rfl, rfl, rfl, h1, r1⟩ := trodAll_cons r0
  obtain ⟨v2, vs2, d2, ds2, p2, q2, rfl, rfl, rfl, h2, r2⟩ := trodAll_cons r1
  obtain ⟨rfl, rfl, rfl⟩ := trodAll_nil r2
  obtain rfl : args = #[v0, v1, v2] := by cases args; simp_all
  obtain ⟨rfl, rfl⟩ := trodVars_none hV
  clear hsz0
  obtain ⟨a0, rfl, rfl, rfl, w0⟩ := open_int Tryd.underlying3 (hval 0 3 v0 rfl rfl) h0
  obtain ⟨a1, rfl, rfl, rfl, w1⟩ := open_int Tryd.underlying3 (hval 1 3 v1 rfl rfl) h1
  obtain ⟨a2, rfl, rfl, rfl, w2⟩ := open_int Tryd.underlying3 (hval 2 3 v2 rfl rfl) h2
  clear hA0 hval0 hsz
  refine (walk a0 a1 a2 W w0 w1 w2 hL).mono fun e W' ⟨he, bel⟩ => ?_
  subst he
  exact ⟨_, rfl, _, _, _, [], _, [], hW', trodAll_mk1 (shut_bool Tryd.underlying4 _), (trodAll_cons_mk (shut_int Tryd.underlying3 w0) (trodAll_cons_mk (shut_int Tryd.underlying3 w1) (trodAll_cons_mk (shut_int Tryd.underlying3 w2) trodAll_mk0))), rfl, bel.frame _, fun h => by cases h⟩

theorem proved : Rows.LacePlacesSaid :=
  OpenClaim.holds_of_wide 5 Tryd.f5 rfl rfl rfl rfl rfl rfl rfl ⟨rfl, rfl, rfl, rfl, rfl⟩ rfl rfl rfl rfl rfl (by kernel_rfl) Tryd.func5 (by kernel_rfl)
    (of_decide_eq_true (by kernel_rfl)) (by unfold Func.isWrapper; first | (rw [if_pos (by decide +kernel)]; kernel_rfl) | (rw [if_neg (by decide +kernel)]; exact ⟨rfl, rfl⟩))
    (fun os started H enc _ => lifted os started H enc)
theorem card : Rows.LacePlacesCardSaid :=
  Claim7.holds_tied_plain_at .later [] [.wider] true (true, "d289062f036057e2d8458251c4b1c413202f3667d8f9587d942d68f48c50c390") true proved (fun _ h => by cases h) (by kernel_rfl) (fun _ h => by cases h) lacePlaces_row_tie rfl ⟨rfl, rfl⟩ (by kernel_rfl) rfl
    (fun f fn hf hfn => by
      obtain rfl : f = 5 := Option.some.inj ((show Tryd.prog.funcNamed "burnish/burnishlaw15.LacePlaces" = some 5 by kernel_rfl).symm.trans hf) |>.symm
      obtain rfl : fn = Tryd.f5 := (Option.some.inj (Tryd.func5.symm.trans hfn)).symm
      exact ⟨by kernel_rfl, fun j t ht => by
        rw [Tryd.params5] at ht
        have hm : t ∈ [3, 3, 3] := by simpa using Array.mem_of_getElem? ht
        have hall : ([3, 3, 3].all fun u => !Tryd.prog.wantsStandIn u) = true := by kernel_rfl
        exact (show Tryd.prog.wantsStandIn t = false by simpa using List.all_eq_true.1 hall t hm)⟩)
    (by kernel_rfl)
#print axioms proved
#print axioms card
end Go.Proofs.YtkplopfbgaiegaaDoor.LacePlaces
