/- For all widths, heights and laces: Spread answers the places of all pixels pass by pass as the document lays them, or ErrForm where it has no answer; the fixed example holds. Of sides that are both great nothing is asked. The variable passes holds what the text lays. No conditions. -/
import Derived.Test.YtkplopfbgaiegaaDoorCards
import Derived.Test.YtkplopfbgaiegaaDoorTie
import Derived.ProofKit
import Derived.Handy
import Derived.Lay
import Derived.SevenTiedAt
import Derived.Test.YtkplopfbgaiegaaDoorRows
import Derived.Test.YtkplopfbgaiegaaDoorOpen
import Derived.Test.YtkplopfbgaiegaaDoorLcSpread
import Derived.Test.YtkplopfbgaiegaaDoorIntsEq
import Derived.Test.YtkplopfbgaiegaaDoorNumIs
import Derived.Test.YtkplopfbgaiegaaDoorHdCheck
namespace Go.Proofs.YtkplopfbgaiegaaDoor.LaceSpreads
open Go.ChangeShapes Go.WideShapes Go.ChangeAt Go.RowKit
open Go.ChangeMaps (open_string shut_string)
set_option linter.unusedVariables false
theorem own : ownKnob Tryd.prog.godebug = none := by kernel_rfl
theorem laidOut : laidOutB Tryd.prog = true := by kernel_rfl
open Lc
theorem il_wf {L : List Nat} (h : ∀ v ∈ L, v ≤ 1000000) : Wf (il L) := fun x hx => by
  obtain ⟨v, hv, rfl⟩ := List.mem_map.1 hx
  have := h v hv
  simp only [Lit.wf, IntKind.min, IntKind.max, IntKind.signed, IntKind.bits, Bool.and_eq_true, decide_eq_true_eq, if_true]
  simp; omega
theorem all_small (m n : Nat) (l : Int) (hb : m * n ≤ 262144) : Wf (il (all (parts m n l) m)) := il_wf (fun v hv => by
  by_cases hl : l = 0
  · subst hl
    rw [all_plain] at hv
    have := rlst_lt _ _ _ _ hv
    omega
  · have := laced_lt m n v l hl hv
    omega)
set_option maxRecDepth 100000 in
set_option maxHeartbeats 4000000 in
theorem walk (a b l : Int) (w : World) (ha : (Lit.int .i64 a).wf = true) (hb : (Lit.int .i64 b).wf = true) (hc : (Lit.int .i64 l).wf = true) (hL : laidMetH Tryd.prog [("burnish/lace.passes", Rows.laid_burnish_lace_passes)] w) :
    Calls Tryd.prog 6 #[.int .i64 a, .int .i64 b, .int .i64 l] w fun e w' => e = .returned (.bool true) ∧ Below w.heap.size w w' := by
  have HLP := Lib.hid (lp_of_laid hL)
  have HEX := Lib.hid (show il (all (parts 2 2 1) 2) = [0, 1, 2, 3] by decide)
  have HS2 := Lib.hid (fun w h => spread_good 2 2 1 w h ⟨by omega, by omega, by omega, by omega, by omega, .inr rfl⟩)
  clear hL hc
  go_enter Tryd.func6, Tryd.ntmps6
  go_wp2_with fail
  refine (HS2.out _ HLP.out).mono ?_
  rintro e w1 ⟨v, rfl, own1, hb1⟩
  rw [HEX.out] at own1
  have HB1 := Lib.hid hb1
  have HL1 := Lib.hid (HLP.out.below hb1)
  obtain ⟨va, vc, rfl, hi⟩ := own_is own1 (by unfold Wf; decide)
  have hal := below_alloc w1 (.cells #[.int .i64 0, .int .i64 1, .int .i64 2, .int .i64 3] 3)
  have HI := Lib.hid (hi.mono hal)
  have HN := Lib.hid (is_new w1 [0, 1, 2, 3] 3 4 rfl (by unfold Wf; decide) _ rfl)
  have HB2 := Lib.hid (below_then HB1.out hal)
  have HL2 := Lib.hid (HL1.out.below hal)
  clear hb1 own1 hi hal HS2 HEX HLP HB1 HL1
  go_wp2_with fail
  refine (ints_any va (some ⟨w1.heap.size, 0, none⟩) 4 vc 4 4 [0, 1, 2, 3] [0, 1, 2, 3] _ HI.out HN.out (by omega) (by omega)).mono ?_
  rintro e w2 ⟨rfl, k, rfl⟩
  rw [show decide (([0, 1, 2, 3] : List Int) = [0, 1, 2, 3]) = true by decide]
  have HB3 := Lib.hid (HB2.out.trans ((drewN_is _ k).mono HB2.out.size))
  have HL3 := Lib.hid (HL2.out.below (drewN_is _ k))
  clear HI HN HB2 HL2
  revert HB3 HL3
  generalize World.drewN _ k = w3
  intro HB3 HL3
  have hk : decide ((300 : Int) < a) = false ∨ (decide ((300 : Int) < a) = true ∧ decide ((30 : Int) < b) = false) ∨ (decide ((300 : Int) < a) = true ∧ decide ((30 : Int) < b) = true ∧ decide (a ≤ 262144) = false) ∨
      (decide ((300 : Int) < a) = true ∧ decide ((30 : Int) < b) = true ∧ decide (a ≤ 262144) = true ∧ decide (b ≤ 262144) = false) ∨ (decide ((300 : Int) < a) = true ∧ decide ((30 : Int) < b) = true ∧ decide (a ≤ 262144) = true ∧ decide (b ≤ 262144) = true) := by
    simp only [decide_eq_true_eq, decide_eq_false_iff_not]
    omega
  have hmain : (goodS a b l → (∃ m n : Nat, a = m ∧ b = n ∧ m * n ≤ 262144)) := fun h => by
    obtain ⟨m, hm⟩ : ∃ m : Nat, a = (m : Int) := ⟨a.toNat, by have := h.1; omega⟩
    obtain ⟨n, hn⟩ : ∃ n : Nat, b = (n : Int) := ⟨b.toNat, by have := h.2.1; omega⟩
    refine ⟨m, n, hm, hn, ?_⟩
    have := h.2.2.2.2.1
    rw [hm, hn, ← Int.natCast_mul] at this
    omega
  by_cases hg : goodS a b l
  · obtain ⟨m, n, rfl, rfl, hmn⟩ := hmain hg
    have HWF := Lib.hid (all_small m n l hmn)
    have HSP := Lib.hid (fun w h => spread_good m n l w h hg)
    have HRS := Lib.hid (fun w => refSp_good m n l w hg)
    have hln : (il (all (parts m n l) m)).length ≤ 262144 := by rw [il_length, all_len]; exact hmn
    clear hg hmain hmn ha hb
    generalize il (all (parts m n l) m) = L at *
    rcases hk with k1 | ⟨k1, k2⟩ | ⟨k1, k2, k3⟩ | ⟨k1, k2, k3, k4⟩ | ⟨k1, k2, k3, k4⟩
    rotate_right
    · go_wp2
      go_ret
      exact ⟨rfl, HB3.out⟩
    all_goals
      go_wp2_with fail
      refine (HSP.out _ HL3.out).mono ?_
      rintro e w4 ⟨v, rfl, own4, hb4⟩
      obtain ⟨xa, xc, rfl, hi⟩ := own_is own4 HWF.out
      have HI4 := Lib.hid hi
      have HB4 := Lib.hid (below_then HB3.out hb4)
      clear own4 hi hb4
      go_wp2_with fail
      refine (HRS.out _).mono ?_
      rintro e w5 ⟨v, rfl, own5, hb5⟩
      obtain ⟨ya, yc, rfl, hi⟩ := own_is own5 HWF.out
      have HI5 := Lib.hid hi
      have HI45 := Lib.hid (HI4.out.mono hb5)
      have HB5 := Lib.hid (below_then HB4.out hb5)
      clear own5 hi hb5 HI4 HB4
      go_wp2_with fail
      refine (ints_any xa ya L.length xc L.length yc L L _ HI45.out HI5.out (by omega) (by omega)).mono ?_
      rintro e w6 ⟨rfl, k, rfl⟩
      rw [show decide (L = L) = true by simp]
      have HB6 := Lib.hid (HB5.out.trans ((drewN_is _ k).mono HB5.out.size))
      go_wp2
      go_ret
      exact ⟨rfl, HB6.out⟩
  · have HSP := Lib.hid (fun w => spread_bad a b l w ha hb hg)
    have HRS := Lib.hid (fun w => refSp_bad a b l w hg)
    have HIS := Lib.hid (fun w => is_yes 6 (by decide) w)
    clear hmain ha hb
    have hgb : ¬ (goodS a b l) := hg
    clear hg
    rcases hk with k1 | ⟨k1, k2⟩ | ⟨k1, k2, k3⟩ | ⟨k1, k2, k3, k4⟩ | ⟨k1, k2, k3, k4⟩
    rotate_right
    · go_wp2
      go_ret
      exact ⟨rfl, HB3.out⟩
    all_goals
      go_wp2_with fail
      refine (HSP.out _).mono ?_
      rintro e w4 ⟨v, rfl, own4, hb4⟩
      obtain ⟨xa, xc, rfl, hi⟩ := own_is own4 (by unfold Wf; simp)
      have HI4 := Lib.hid hi
      have HB4 := Lib.hid (below_then HB3.out hb4)
      clear own4 hi hb4
      go_wp2_with fail
      refine (HRS.out _).mono ?_
      rintro e w5 ⟨v, rfl, own5, hb5⟩
      obtain ⟨ya, yc, rfl, hi⟩ := own_is own5 (by unfold Wf; simp)
      have HI5 := Lib.hid hi
      have HI45 := Lib.hid (HI4.out.mono hb5)
      have HB5 := Lib.hid (below_then HB4.out hb5)
      clear own5 hi hb5 HI4 HB4
      go_wp2_with fail
      refine (ints_any xa ya 0 xc 0 yc [] [] _ HI45.out HI5.out (by omega) (by omega)).mono ?_
      rintro e w6 ⟨rfl, k, rfl⟩
      rw [show decide (([] : List Int) = []) = true by decide]
      have HB6 := Lib.hid (HB5.out.trans ((drewN_is _ k).mono HB5.out.size))
      go_wp2_with fail
      refine (HIS.out _).mono ?_
      rintro e w7 ⟨rfl, rfl⟩
      go_wp2
      go_ret
      exact ⟨rfl, HB6.out⟩
set_option maxRecDepth 100000 in
theorem lifted (os : Os) (started : os.Started) (H : Type) (enc : TypeId × Value → H) :
    ReturnsInHanded {} Tryd.checked os 6 .any (fun w args => (Rows.laceSpreadsSpec.pre enc Tryd.prog Tryd.f6 Rows.laceSpreadsRow.domain false w args ∧ laidMetH Tryd.prog [("burnish/lace.passes", Rows.laid_burnish_lace_passes)] w) ∧ sizedMet enc Tryd.prog Tryd.f6 (OpenSpec.ofChange Rows.laceSpreadsSpec) false w args)
      (Rows.laceSpreadsSpec.post enc Tryd.prog Tryd.f6 false true false false) := by
  refine returnsInHanded_of_change_and (C := Tryd.checked) (X := fun w _ => laidMetH Tryd.prog [("burnish/lace.passes", Rows.laid_burnish_lace_passes)] w) (fun _ _ _ hh h => h.of_heap hh) own started (by kernel_rfl) Tryd.func6
    (ChangeSpec.witness_shaped (enc := enc) (C := Tryd.checked) (os := os) (X := fun w _ => laidMetH Tryd.prog [("burnish/lace.passes", Rows.laid_burnish_lace_passes)] w) false (World.laidAll Tryd.prog os [("burnish/lace.passes", Rows.laid_burnish_lace_passes)]) #[.int .i64 0, .int .i64 0, .int .i64 0] 8 (World.laidAll_os _ _ _)
      (World.shaped_of_ZipB (by kernel_rfl) (by kernel_rfl)) (by kernel_rfl) (by kernel_rfl) (by kernel_rfl)
      (by rw [MakeChecks.laidMetH_plain _ _ _ (by kernel_rfl)]; exact laidMet_laidAll _ (by kernel_rfl) (by kernel_rfl))) ?_
  intro W base args ds gs before hval0 hW _ hsz0 hL _
  have hval : ∀ (j : Nat) t v, Tryd.f6.params[j]? = some t → args[j]? = some v → Value.okWide Tryd.prog W .any base t v := hval0
  have hsz : (DataW.weightsEach Tryd.prog (Tryd.f6.params.toList ++ Rows.laceSpreadsSpec.plain.varTypes Tryd.prog) (ds ++ gs)).all (· ≤ reachBytes) = true := hsz0
  have hW' := hW
  obtain ⟨p, q, hA0, hV, rfl, hfz, hnd⟩ := hW
  have hA : DataW.TrodAll enc Tryd.prog W 0 (fun _ => true) true Tryd.f6.params.toList args.toList ds p := hA0
  rw [Tryd.params6] at hA hval hsz
  obtain ⟨v0, vs0, d0, ds0, p0, q0, hargs, rfl, rfl, h0, r0⟩ := trodAll_cons hA
  obtain ⟨v1, vs1, d1, ds1, p1, q1, rfl, rfl, rfl, h1, r1⟩ := trodAll_cons r0
  obtain ⟨v2, vs2, d2, ds2, p2, q2, rfl, rfl, rfl, h2, r2⟩ := trodAll_cons r1
  obtain ⟨rfl, rfl, rfl⟩ := trodAll_nil r2
  obtain rfl : args = #[v0, v1, v2] := by cases args; simp_all
  obtain ⟨rfl, rfl⟩ := trodVars_none hV
  clear hsz0
  obtain ⟨a0, rfl, rfl, rfl, w0⟩ := open_int Tryd.underlying3 (hval 0 3 v0 rfl rfl) h0
  obtain ⟨a1, rfl, rfl, rfl, w1⟩ := open_int Tryd.underlying3 (hval 1 3 v1 rfl rfl) h1
  obtain ⟨a2, rfl, rfl, rfl, w2⟩ := open_int Tryd.underlying3 (hval 2 3 v2 rfl rfl) h2
  clear hA0 hval0 hsz
  refine (walk a0 a1 a2 W w0 w1 w2 hL).mono fun e W' ⟨he, bel⟩ => ?_
  subst he
  exact ⟨_, rfl, _, _, _, [], _, [], hW', trodAll_mk1 (shut_bool Tryd.underlying4 _), (trodAll_cons_mk (shut_int Tryd.underlying3 w0) (trodAll_cons_mk (shut_int Tryd.underlying3 w1) (trodAll_cons_mk (shut_int Tryd.underlying3 w2) trodAll_mk0))), rfl, bel.frame _, fun h => by cases h⟩

theorem proved : Rows.LaceSpreadsSaid :=
  OpenClaim.holds_of_wide 6 Tryd.f6 rfl rfl rfl rfl rfl rfl rfl ⟨rfl, rfl, rfl, rfl, rfl⟩ rfl rfl rfl rfl rfl (by kernel_rfl) Tryd.func6 (by kernel_rfl)
    (of_decide_eq_true (by kernel_rfl)) (by unfold Func.isWrapper; first | (rw [if_pos (by decide +kernel)]; kernel_rfl) | (rw [if_neg (by decide +kernel)]; exact ⟨rfl, rfl⟩))
    (fun os started H enc _ => lifted os started H enc)
theorem card : Rows.LaceSpreadsCardSaid :=
  Claim7.holds_tied_plain_at .later [] [.wider] true (true, "d289062f036057e2d8458251c4b1c413202f3667d8f9587d942d68f48c50c390") true proved (fun _ h => by cases h) (by kernel_rfl) (fun _ h => by cases h) laceSpreads_row_tie rfl ⟨rfl, rfl⟩ (by kernel_rfl) rfl
    (fun f fn hf hfn => by
      obtain rfl : f = 6 := Option.some.inj ((show Tryd.prog.funcNamed "burnish/burnishlaw15.LaceSpreads" = some 6 by kernel_rfl).symm.trans hf) |>.symm
      obtain rfl : fn = Tryd.f6 := (Option.some.inj (Tryd.func6.symm.trans hfn)).symm
      exact ⟨by kernel_rfl, fun j t ht => by
        rw [Tryd.params6] at ht
        have hm : t ∈ [3, 3, 3] := by simpa using Array.mem_of_getElem? ht
        have hall : ([3, 3, 3].all fun u => !Tryd.prog.wantsStandIn u) = true := by kernel_rfl
        exact (show Tryd.prog.wantsStandIn t = false by simpa using List.all_eq_true.1 hall t hm)⟩)
    (by kernel_rfl)
#print axioms proved
#print axioms card
end Go.Proofs.YtkplopfbgaiegaaDoor.LaceSpreads
