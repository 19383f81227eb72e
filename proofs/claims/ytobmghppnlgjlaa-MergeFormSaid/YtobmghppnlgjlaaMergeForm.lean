/- For all counts and any longest length: the best lengths are in form, whole where two symbols stand or more, none above the longest, and 0 just where the count is 0; and which arguments are refused. No conditions. -/
import Derived.Test.YtobmghppnlgjlaaRows
import Derived.Test.YtobmghppnlgjlaaOpen
import Derived.Test.YtobmghppnlgjlaaMergeLaw
import Derived.Test.YtobmghppnlgjlaaNumIs
import Derived.Test.YtobmghppnlgjlaaRef04a
namespace Go.Proofs.Ytobmghppnlgjlaa.MergeForm
open Go.ChangeShapes Go.WideShapes Go.ChangeAt Go.RowKit
open Go.ChangeMaps (open_string shut_string)
set_option linter.unusedVariables false
theorem own : ownKnob Try.prog.godebug = none := by kernel_rfl
theorem laidOut : laidOutB Try.prog = true := by kernel_rfl
set_option maxRecDepth 100000 in
set_option maxHeartbeats 4000000 in
theorem walk (a : Option Addr) (len cap : Nat) (l : List Int) (L : Int) (w : World) (h : Is .i64 w a len cap l) (hr : cap * 8 ≤ 140737488351232) (hw : (Lit.int .i64 L).wf = true) :
    Calls Try.prog 4 #[.slice a len cap, .int .i64 L] w fun e w' => e = .returned (.bool true) ∧ Below w.heap.size w w' := by
  have hle := h.hle
  have HL := Lib.hid h.hlen
  have H := Lib.hid h
  clear h hw
  go_enter Try.func4, Try.ntmps4
  go_wp2_with fail
  refine (alive_any w).mono ?_
  rintro e w1 ⟨rfl, hb1⟩
  have HB1 := Lib.hid hb1
  clear hb1
  go_wp2_with fail
  refine (lengths_any a len cap l L w1 (H.out.mono HB1.out) (by omega)).mono ?_
  rintro e w2 ⟨hb2, (⟨hok, rfl⟩ | ⟨hok, hol, rfl⟩ | ⟨hok, hol, v, rfl, own2⟩)⟩
  · have HB2 := Lib.hid (below_then HB1.out hb2)
    have HOK := Lib.hid (show Mg.within l 300 1099511627776 = false from hok)
    clear hok hb2 HB1
    go_wp2_with fail
    refine (good_any a len cap l 300 w2 (H.out.mono HB2.out) (by omega) (by omega)).mono ?_
    rintro e w' ⟨rfl, rfl⟩
    rw [HOK.out]
    go_wp2_with fail
    refine (is_yes 6 rfl _).mono ?_
    rintro e w3 ⟨rfl, rfl⟩
    go_wp2
    go_ret
    exact ⟨rfl, HB2.out⟩
  · have HB2 := Lib.hid (below_then HB1.out hb2)
    have HOK := Lib.hid (show Mg.within l 300 1099511627776 = true from hok)
    unfold Mg.okL at hol
    have hol2 := of_decide_eq_false hol
    clear hok hb2 HB1 hol
    go_wp2_with fail
    refine (good_any a len cap l 300 w2 (H.out.mono HB2.out) (by omega) (by omega)).mono ?_
    rintro e w' ⟨rfl, rfl⟩
    rw [HOK.out]
    by_cases hlo : L < 1
    · have d1 : decide (L < 1) = true := by simpa using hlo
      clear hol2 hlo
      go_wp2_with fail
      refine (is_yes 7 rfl _).mono ?_
      rintro e w3 ⟨rfl, rfl⟩
      go_wp2
      go_ret
      exact ⟨rfl, HB2.out⟩
    have d1 : decide (L < 1) = false := by simpa using hlo
    by_cases hhi : 16 < L
    · have d2 : decide (16 < L) = true := by simpa using hhi
      clear hol2 hlo hhi
      go_wp2_with fail
      refine (is_yes 7 rfl _).mono ?_
      rintro e w3 ⟨rfl, rfl⟩
      go_wp2
      go_ret
      exact ⟨rfl, HB2.out⟩
    have d2 : decide (16 < L) = false := by simpa using hhi
    obtain ⟨n, rfl⟩ := Int.eq_ofNat_of_zero_le (show 0 ≤ L by omega)
    rw [Int.toNat_natCast] at hol2
    go_wp2_with fail
    refine (used_any a len cap l w2 (H.out.mono HB2.out) (by omega)).mono ?_
    rintro e w' ⟨rfl, rfl⟩
    have d3 : decide (wrap64 ((2 : Int) ^ n) < (Mg.used l : Int)) = true := by
      rw [wrap_pow n (by omega)]
      generalize 2 ^ n = p at *
      simp; omega
    clear hol2
    go_wp2_with fail
    refine (is_yes 7 rfl _).mono ?_
    rintro e w3 ⟨rfl, rfl⟩
    go_wp2
    go_ret
    exact ⟨rfl, HB2.out⟩
  have HB2 := Lib.hid (below_then HB1.out hb2)
  obtain ⟨n, rfl, hn1, hn16, hun⟩ := okL_nat hol
  have hw0 := fun k hk => (Mg.within_at hok k hk).1
  have hlen := Mg.within_len hok
  rw [Int.toNat_natCast, HL.out] at own2
  have hwf := lensOf_wf l n hw0 hn1 hn16 hun
  have HRG := Lib.hid (fun j (hj : j < len) => Mg.lensOf_range hw0 hn1 hun j (by rw [HL.out]; exact hj))
  have HFR := Lib.hid (Mg.lensOf_free hw0 hn1 hn16 (by omega) hun)
  have hml : (Mg.lensOf l n).length = len := by rw [Mg.lensOf_length, HL.out]
  have HML := Lib.hid hml
  obtain ⟨va, vc, rfl, hi2⟩ := own_is own2 hwf
  have HI2 := Lib.hid hi2
  have H2 := Lib.hid (H.out.mono HB2.out)
  have HOK := Lib.hid (show Mg.within l 300 1099511627776 = true from hok)
  have d3 : decide (wrap64 ((2 : Int) ^ n) < (Mg.used l : Int)) = false := by
    rw [wrap_pow n hn16]
    generalize 2 ^ n = p at *
    simp; omega
  have d1 : decide ((n : Int) < 1) = false := by simp; omega
  have d2 : decide (16 < (n : Int)) = false := by simp; omega
  have hule := Mg.used_le l
  clear own2 hi2 hb2 hol hok hw0 hwf HB1 hml hun hlen
  generalize Mg.lensOf l n = m at *
  go_wp2_with fail
  refine (good_any a len cap l 300 w2 H2.out (by omega) (by omega)).mono ?_
  rintro e w' ⟨rfl, rfl⟩
  rw [HOK.out]
  go_wp2_with fail
  refine (used_any a len cap l w2 H2.out (by omega)).mono ?_
  rintro e w' ⟨rfl, rfl⟩
  have dll : ((len : Int) != (len : Int)) = false := by simp
  go_wp2
  go_loopw [63] (fun i wr => ∃ p : Nat, p ≤ len ∧ i = .int .i64 p ∧ wr = w2) (fun i _ => len - (intOf i).toNat)
  case atStart => exact ⟨0, by omega, rfl, rfl⟩
  case round =>
    obtain ⟨p, hp, rfl, rfl⟩ := hrel
    by_cases hlt : p < len
    · obtain ⟨b1, o1, rfl, _, c1⟩ := H2.out.at' p hlt
      obtain ⟨b2, o2, rfl, _, c2⟩ := HI2.out.at' p hlt
      have hrg := HRG.out p hlt
      have hH2 := H2.out
      have HU := Lib.hid (used_any (some ⟨b1, o1, none⟩) len cap l wr H2.out (by omega))
      generalize l.getD p 0 = c at *
      generalize m.getD p 0 = z at *
      obtain ⟨g1, g2, g3, g4⟩ := hrg
      have e1 : decide (z < 0) = false := by simp; omega
      have e2 : decide ((n : Int) < z) = false := by simp; omega
      have e4 : Mg.used l = 1 → decide (1 < z) = false := fun h => by have := g4 h; simp; omega
      have e3 : (z == 0) = (c == 0) := by
        by_cases hc : c = 0
        · have hz := g3.2 hc; rw [hz, hc]
        · have hz : ¬ z = 0 := fun h => hc (g3.1 h)
          rw [beq_false_of_ne hc, beq_false_of_ne hz]
      clear g1 g2 g3 g4
      cases hcb : (c == 0)
      · rw [hcb] at e3
        go_wp2_with fail
        refine HU.out.mono ?_
        rintro e w' ⟨rfl, rfl⟩
        by_cases hu1 : Mg.used l = 1
        · have d5 := e4 hu1
          have du : (((Mg.used l : Nat) : Int) == 1) = true := by simp; omega
          clear e4 hu1
          go_wp2
          go_roundw
          case rel => exact ⟨p + 1, by omega, by go_num, trivial⟩
          case measure => simp [intOf]; omega
        · have du : (((Mg.used l : Nat) : Int) == 1) = false := by simp; omega
          clear e4 hu1
          go_wp2
          go_roundw
          case rel => exact ⟨p + 1, by omega, by go_num, trivial⟩
          case measure => simp [intOf]; omega
      · rw [hcb] at e3
        go_wp2_with fail
        refine HU.out.mono ?_
        rintro e w' ⟨rfl, rfl⟩
        by_cases hu1 : Mg.used l = 1
        · have d5 := e4 hu1
          have du : (((Mg.used l : Nat) : Int) == 1) = true := by simp; omega
          clear e4 hu1
          go_wp2
          go_roundw
          case rel => exact ⟨p + 1, by omega, by go_num, trivial⟩
          case measure => simp [intOf]; omega
        · have du : (((Mg.used l : Nat) : Int) == 1) = false := by simp; omega
          clear e4 hu1
          go_wp2
          go_roundw
          case rel => exact ⟨p + 1, by omega, by go_num, trivial⟩
          case measure => simp [intOf]; omega
    · obtain rfl : len = p := by omega
      go_wp2_with fail
      refine (refFree_any va len vc m wr HI2.out (by omega)).mono ?_
      rintro e w' ⟨rfl, rfl⟩
      rw [HFR.out.1]
      go_wp2_with fail
      refine (used_any a len cap l wr H2.out (by omega)).mono ?_
      rintro e w' ⟨rfl, rfl⟩
      have hiff := HFR.out.2
      by_cases hu : 1 < Mg.used l
      · have f1 : (Cn.freeN m == 0) = true := by rw [hiff.2 hu]; rfl
        have f2 : decide (1 < ((Mg.used l : Nat) : Int)) = true := by simp; omega
        clear hiff hu HFR
        go_wp2
        go_ret
        exact ⟨rfl, HB2.out⟩
      · have f1 : (Cn.freeN m == 0) = false := beq_false_of_ne (fun h => hu (hiff.1 h))
        have f2 : decide (1 < ((Mg.used l : Nat) : Int)) = false := by simp; omega
        clear hiff hu HFR
        go_wp2
        go_ret
        exact ⟨rfl, HB2.out⟩
set_option maxRecDepth 100000 in
theorem lifted (os : Os) (started : os.Started) (H : Type) (enc : TypeId × Value → H) :
    ReturnsInHanded {} Try.checked os 4 .any (Rows.mergeFormSpec.pre6 enc Try.prog Try.f4 Rows.mergeFormRow.domain false) (Rows.mergeFormSpec.post enc Try.prog Try.f4 false true false false) := by
  refine returnsInHanded_of_change_sized (C := Try.checked) own started (by kernel_rfl) Try.func4
    (ChangeSpec.witness6 (enc := enc) (C := Try.checked) false ⟨#[], #[.slice none 0 0, .int .i64 0], []⟩ 8 (by kernel_rfl) (by kernel_rfl) (by kernel_rfl) (by kernel_rfl)) ?_
  intro W base args ds gs before hval0 hW _ hsz0 _
  have hval : ∀ (j : Nat) t v, Try.f4.params[j]? = some t → args[j]? = some v → Value.okWide Try.prog W .any base t v := hval0
  have hsz : (DataW.weightsEach Try.prog (Try.f4.params.toList ++ Rows.mergeFormSpec.plain.varTypes Try.prog) (ds ++ gs)).all (· ≤ reachBytes) = true := hsz0
  have hW' := hW
  obtain ⟨p, q, hA0, hV, rfl, hfz, hnd⟩ := hW
  have hA : DataW.TrodAll enc Try.prog W 0 (fun _ => true) true Try.f4.params.toList args.toList ds p := hA0
  rw [Try.params4] at hA hval hsz
  obtain ⟨v0, vs0, d0, ds0, p0, q0, hargs, rfl, rfl, h0, r0⟩ := trodAll_cons hA
  obtain ⟨v1, vs1, d1, ds1, p1, q1, rfl, rfl, rfl, h1, r1⟩ := trodAll_cons r0
  obtain ⟨rfl, rfl, rfl⟩ := trodAll_nil r1
  obtain rfl : args = #[v0, v1] := by cases args; simp_all
  obtain ⟨rfl, rfl⟩ := trodVars_none hV
  clear hsz0
  obtain ⟨a0, len0, cap0, rfl⟩ := okWide_slice Try.underlying22 (hval 0 22 v0 rfl rfl)
  have k0 := h0
  have lt0 : ∀ x ∈ p0, x.block < W.heap.size := by obtain ⟨m, hm⟩ := k0; exact DataW.trod_lt m _ _ _ hm
  obtain ⟨l0, w0, c0⟩ := open_is (by' := 8) Try.underlying22 Try.underlying3 (by kernel_rfl) (by kernel_rfl) h0 hsz 0 rfl rfl
  obtain ⟨a1, rfl, rfl, rfl, w1⟩ := open_int Try.underlying3 (hval 1 3 v1 rfl rfl) h1
  clear hA0 hval0 hsz
  refine (walk a0 len0 cap0 l0 a1 W w0 c0 w1).mono fun e W' ⟨he, bel⟩ => ?_
  subst he
  exact ⟨_, rfl, _, _, _, [], _, [], hW', trodAll_mk1 (shut_bool Try.underlying4 _), (trodAll_cons_mk (Below.trod laidOut (by kernel_rfl) (of_decide_eq_true (by kernel_rfl)) k0 bel lt0) (trodAll_cons_mk (shut_int Try.underlying3 w1) trodAll_mk0)), rfl, bel.frame _, fun h => by cases h⟩

theorem proved : Rows.MergeFormSaid :=
  OpenClaim.holds_of_wide 4 Try.f4 rfl rfl rfl rfl rfl rfl rfl ⟨rfl, rfl, rfl, rfl, rfl⟩ rfl rfl rfl rfl rfl (by kernel_rfl) Try.func4 (by kernel_rfl)
    (of_decide_eq_true (by kernel_rfl)) (by unfold Func.isWrapper; first | (rw [if_pos (by decide +kernel)]; kernel_rfl) | (rw [if_neg (by decide +kernel)]; exact ⟨rfl, rfl⟩))
    (fun os started H enc _ => lifted os started H enc)
#print axioms proved
end Go.Proofs.Ytobmghppnlgjlaa.MergeForm
