/- For all counts and lengths: what they cost, or that they are refused, is as the document says. No conditions. -/
import Derived.Test.YtobmghppnlgjlaaRows
import Derived.Test.YtobmghppnlgjlaaOpen
import Derived.Test.YtobmghppnlgjlaaMergeSmall
import Derived.Test.YtobmghppnlgjlaaIsLit
import Derived.Test.YtobmghppnlgjlaaPair
import Derived.Test.YtobmghppnlgjlaaNumIs
namespace Go.Proofs.Ytobmghppnlgjlaa.MergeCosts
open Go.ChangeShapes Go.WideShapes Go.ChangeAt Go.RowKit
open Go.ChangeMaps (open_string shut_string)
set_option linter.unusedVariables false
theorem own : ownKnob Try.prog.godebug = none := by kernel_rfl
theorem laidOut : laidOutB Try.prog = true := by kernel_rfl
/-- What the law asks of k lengths. -/
def goodK (l m : List Int) (k : Nat) : Bool := Mg.within l 300 1099511627776 && decide (l.length = m.length) && (m.take k).all fun x => decide (0 ≤ x ∧ x ≤ 16)
theorem goodK_succ (l m : List Int) (k : Nat) (h : k < m.length) : goodK l m (k + 1) = (goodK l m k && decide (0 ≤ m.getD k 0) && decide (m.getD k 0 ≤ 16)) := by
  unfold goodK
  have e : m.take (k + 1) = m.take k ++ [m.getD k 0] := by rw [List.take_succ_eq_append_getElem h]; simp [List.getD, List.getElem?_eq_getElem h]
  rw [e, List.all_append]
  generalize m.getD k 0 = z
  by_cases h1 : 0 ≤ z <;> by_cases h2 : z ≤ 16 <;> simp [h1, h2]
theorem goodK_full (l m : List Int) : goodK l m m.length = Mg.costB l m := by
  unfold goodK Mg.costB
  rw [List.take_length]
  by_cases h : l.length = m.length
  · rw [decide_eq_true h, Bool.and_true, Bool.true_and]
    cases h1 : Mg.within l 300 1099511627776
    · rfl
    · have := Mg.within_len h1
      unfold Mg.within
      rw [decide_eq_true (show m.length ≤ 300 by omega)]; rfl
  · rw [decide_eq_false h]; simp
set_option maxRecDepth 100000 in
set_option maxHeartbeats 4000000 in
theorem walk (a : Option Addr) (len cap : Nat) (l : List Int) (b : Option Addr) (len' cap' : Nat) (m : List Int) (w : World) (h : Is .i64 w a len cap l) (hr : cap * 8 ≤ 140737488351232) (h' : Is .i64 w b len' cap' m) (hr' : cap' * 8 ≤ 140737488351232) :
    Calls Try.prog 8 #[.slice a len cap, .slice b len' cap'] w fun e w' => e = .returned (.bool true) ∧ Below w.heap.size w w' := by
  have hle := h.hle
  have hle' := h'.hle
  have HL := Lib.hid h.hlen
  have HM := Lib.hid h'.hlen
  have H := Lib.hid h
  have H' := Lib.hid h'
  clear h h'
  go_enter Try.func8, Try.ntmps8
  have hA := is_lit w [3, 4] 2 3 #[Value.int .i64 3, .int .i64 4] rfl rfl (wf_small (by decide))
  have hB := is_lit_at (w.alloc (.cells #[Value.int .i64 3, .int .i64 4] 3)) (w.heap.size + 1) (Array.size_push _) [2, 1] 2 3 #[Value.int .i64 2, .int .i64 1] rfl rfl (wf_small (by decide))
  have HB := Lib.hid hB
  have HA := Lib.hid (hA.mono (below_alloc _ (.cells #[Value.int .i64 2, .int .i64 1] 3)))
  have HB2 := Lib.hid (below_alloc2 w (.cells #[Value.int .i64 3, .int .i64 4] 3) (.cells #[Value.int .i64 2, .int .i64 1] 3))
  clear hA hB
  go_wp2_with fail
  refine (cost_any _ _ 2 2 2 2 [3, 4] [2, 1] _ HA.out HB.out (by omega) (by omega)).mono ?_
  rintro e w1 ⟨rfl, rfl⟩
  rw [show Mg.costV [3, 4] [2, 1] = .tuple #[.int .i64 10, .nilIface] from by unfold Mg.costV; rw [if_pos (by decide +kernel)]; rfl]
  revert HB2
  generalize World.alloc _ _ = w1
  intro HB2
  clear HA HB
  go_wp2_with fail
  refine (cost_any a b len cap len' cap' l m w1 (H.out.mono HB2.out) (H'.out.mono HB2.out) (by omega) (by omega)).mono ?_
  rintro e w2 ⟨rfl, rfl⟩
  have HG0 : Hid (goodK l m 0 = (Mg.within l 300 1099511627776 && decide (len = len'))) := Lib.hid (by unfold goodK; rw [HL.out, HM.out]; simp)
  have HGS := Lib.hid (fun k (hk : k < len') => goodK_succ l m k (by rw [HM.out]; exact hk))
  have HGF := Lib.hid (show goodK l m len' = Mg.costB l m from by rw [← HM.out]; exact goodK_full l m)
  by_cases hg : Mg.costB l m = true
  · have hgg := hg
    unfold Mg.costB at hgg
    rw [Bool.and_eq_true, Bool.and_eq_true, decide_eq_true_eq, HL.out, HM.out] at hgg
    obtain ⟨hll, hw1, hw2⟩ := hgg
    subst hll
    rw [show Mg.costV l m = .tuple #[.int .i64 (Mg.dot l m len), .nilIface] by unfold Mg.costV; rw [if_pos hg, HL.out]]
    have HGT := Lib.hid hg
    have HW := Lib.hid hw1
    have HL300 := Lib.hid (show len ≤ 300 by have := Mg.within_len hw1; rw [HL.out] at this; exact this)
    have HIL := Lib.hid (fun k (hk : k < len) => Mg.within_at hw1 k (by rw [HL.out]; exact hk))
    have HIM := Lib.hid (fun k (hk : k < len) => Mg.within_at hw2 k (by rw [HM.out]; exact hk))
    clear hg hw1 hw2
    go_wp2_with fail
    refine (good_any a len cap l 300 w1 (H.out.mono HB2.out) (by omega) (by omega)).mono ?_
    rintro e w' ⟨rfl, rfl⟩
    rw [HW.out]
    have d1 : ((len : Int) == (len : Int)) = true := by simp
    go_wp2
    go_loop [9, 41] (fun g i => ∃ k : Nat, k ≤ len ∧ i = .int .i64 k ∧ g = .bool (goodK l m k)) (fun _ i => len - (intOf i).toNat)
    case atStart => exact ⟨0, by omega, rfl, by rw [HG0.out, HW.out]; simp⟩
    case round =>
      obtain ⟨k, hk, rfl, rfl⟩ := hrel
      by_cases hlt : k < len
      · obtain ⟨b2, off2, rfl, _, c2⟩ := (H'.out.mono HB2.out).at' k hlt
        have HE := HGS.out k hlt
        generalize m.getD k 0 = z at *
        generalize goodK l m k = g0 at *
        cases g0
        · have HE2 := Lib.hid (HE.trans rfl : goodK l m (k + 1) = false)
          clear HE
          go_wp2
          go_round
          case rel => exact ⟨k + 1, by omega, by go_num, by rw [HE2.out]⟩
          case measure => simp [intOf]; omega
        · by_cases h0 : 0 ≤ z
          · have d0 : decide (0 ≤ z) = true := by simpa using h0
            by_cases h16 : z ≤ 16
            · have d16 : decide (z ≤ 16) = true := by simpa using h16
              have HE2 := Lib.hid (show goodK l m (k + 1) = true by rw [HE, d0, d16]; rfl)
              clear HE
              go_wp2
              go_round
              case rel => exact ⟨k + 1, by omega, by go_num, by rw [HE2.out]⟩
              case measure => simp [intOf]; omega
            · have d16 : decide (z ≤ 16) = false := by simpa using h16
              have HE2 := Lib.hid (show goodK l m (k + 1) = false by rw [HE, d0, d16]; rfl)
              clear HE
              go_wp2
              go_round
              case rel => exact ⟨k + 1, by omega, by go_num, by rw [HE2.out]⟩
              case measure => simp [intOf]; omega
          · have d0 : decide (0 ≤ z) = false := by simpa using h0
            have HE2 := Lib.hid (show goodK l m (k + 1) = false by rw [HE, d0]; rfl)
            clear HE
            go_wp2
            go_round
            case rel => exact ⟨k + 1, by omega, by go_num, by rw [HE2.out]⟩
            case measure => simp [intOf]; omega
      · obtain rfl : len = k := by omega
        rw [HGF.out, HGT.out]
        go_wp2_with fail
        refine (lawCost_any a b len cap len cap' l m w1 (H.out.mono HB2.out) (H'.out.mono HB2.out) (by omega) HL300.out HIL.out HIM.out (by omega)).mono ?_
        rintro e w2 ⟨rfl, dn, rfl⟩
        go_wp2
        go_ret
        exact ⟨by simp, HB2.out.trans ((drewN_is _ dn).mono HB2.out.size)⟩
  · rw [show Mg.costV l m = .tuple #[.int .i64 0, .iface 34 (.int .i64 6)] by unfold Mg.costV; rw [if_neg hg]]
    have HGN := Lib.hid (show Mg.costB l m = false by simpa using hg)
    clear hg
    go_wp2_with fail
    refine (good_any a len cap l 300 w1 (H.out.mono HB2.out) (by omega) (by omega)).mono ?_
    rintro e w' ⟨rfl, rfl⟩
    cases hw : Mg.within l 300 1099511627776
    · have HW := Lib.hid hw
      clear hw
      go_wp2
      go_loop [9, 41] (fun g i => ∃ k : Nat, k ≤ len' ∧ i = .int .i64 k ∧ g = .bool (goodK l m k)) (fun _ i => len' - (intOf i).toNat)
      case atStart => exact ⟨0, by omega, rfl, by rw [HG0.out, HW.out]; rfl⟩
      case round =>
        obtain ⟨k, hk, rfl, rfl⟩ := hrel
        by_cases hlt : k < len'
        · obtain ⟨b2, off2, rfl, _, c2⟩ := (H'.out.mono HB2.out).at' k hlt
          have HE := HGS.out k hlt
          generalize m.getD k 0 = z at *
          generalize goodK l m k = g0 at *
          cases g0
          · have HE2 := Lib.hid (HE.trans rfl : goodK l m (k + 1) = false)
            clear HE
            go_wp2
            go_round
            case rel => exact ⟨k + 1, by omega, by go_num, by rw [HE2.out]⟩
            case measure => simp [intOf]; omega
          · by_cases h0 : 0 ≤ z
            · have d0 : decide (0 ≤ z) = true := by simpa using h0
              by_cases h16 : z ≤ 16
              · have d16 : decide (z ≤ 16) = true := by simpa using h16
                have HE2 := Lib.hid (show goodK l m (k + 1) = true by rw [HE, d0, d16]; rfl)
                clear HE
                go_wp2
                go_round
                case rel => exact ⟨k + 1, by omega, by go_num, by rw [HE2.out]⟩
                case measure => simp [intOf]; omega
              · have d16 : decide (z ≤ 16) = false := by simpa using h16
                have HE2 := Lib.hid (show goodK l m (k + 1) = false by rw [HE, d0, d16]; rfl)
                clear HE
                go_wp2
                go_round
                case rel => exact ⟨k + 1, by omega, by go_num, by rw [HE2.out]⟩
                case measure => simp [intOf]; omega
            · have d0 : decide (0 ≤ z) = false := by simpa using h0
              have HE2 := Lib.hid (show goodK l m (k + 1) = false by rw [HE, d0]; rfl)
              clear HE
              go_wp2
              go_round
              case rel => exact ⟨k + 1, by omega, by go_num, by rw [HE2.out]⟩
              case measure => simp [intOf]; omega
        · obtain rfl : len' = k := by omega
          rw [HGF.out, HGN.out]
          go_wp2_with fail
          refine (is_yes 6 rfl _).mono ?_
          rintro e w2 ⟨rfl, rfl⟩
          go_wp2
          go_ret
          exact ⟨rfl, HB2.out⟩
    · have HW := Lib.hid hw
      clear hw
      by_cases hll : len = len'
      · subst hll
        have d1 : ((len : Int) == (len : Int)) = true := by simp
        go_wp2
        go_loop [9, 41] (fun g i => ∃ k : Nat, k ≤ len ∧ i = .int .i64 k ∧ g = .bool (goodK l m k)) (fun _ i => len - (intOf i).toNat)
        case atStart => exact ⟨0, by omega, rfl, by rw [HG0.out, HW.out]; simp⟩
        case round =>
          obtain ⟨k, hk, rfl, rfl⟩ := hrel
          by_cases hlt : k < len
          · obtain ⟨b2, off2, rfl, _, c2⟩ := (H'.out.mono HB2.out).at' k hlt
            have HE := HGS.out k hlt
            generalize m.getD k 0 = z at *
            generalize goodK l m k = g0 at *
            cases g0
            · have HE2 := Lib.hid (HE.trans rfl : goodK l m (k + 1) = false)
              clear HE
              go_wp2
              go_round
              case rel => exact ⟨k + 1, by omega, by go_num, by rw [HE2.out]⟩
              case measure => simp [intOf]; omega
            · by_cases h0 : 0 ≤ z
              · have d0 : decide (0 ≤ z) = true := by simpa using h0
                by_cases h16 : z ≤ 16
                · have d16 : decide (z ≤ 16) = true := by simpa using h16
                  have HE2 := Lib.hid (show goodK l m (k + 1) = true by rw [HE, d0, d16]; rfl)
                  clear HE
                  go_wp2
                  go_round
                  case rel => exact ⟨k + 1, by omega, by go_num, by rw [HE2.out]⟩
                  case measure => simp [intOf]; omega
                · have d16 : decide (z ≤ 16) = false := by simpa using h16
                  have HE2 := Lib.hid (show goodK l m (k + 1) = false by rw [HE, d0, d16]; rfl)
                  clear HE
                  go_wp2
                  go_round
                  case rel => exact ⟨k + 1, by omega, by go_num, by rw [HE2.out]⟩
                  case measure => simp [intOf]; omega
              · have d0 : decide (0 ≤ z) = false := by simpa using h0
                have HE2 := Lib.hid (show goodK l m (k + 1) = false by rw [HE, d0]; rfl)
                clear HE
                go_wp2
                go_round
                case rel => exact ⟨k + 1, by omega, by go_num, by rw [HE2.out]⟩
                case measure => simp [intOf]; omega
          · obtain rfl : len = k := by omega
            rw [HGF.out, HGN.out]
            go_wp2_with fail
            refine (is_yes 6 rfl _).mono ?_
            rintro e w2 ⟨rfl, rfl⟩
            go_wp2
            go_ret
            exact ⟨rfl, HB2.out⟩
      · have d1 : ((len : Int) == (len' : Int)) = false := by simp; omega
        have HG1 := Lib.hid (show goodK l m 0 = false by rw [HG0.out, decide_eq_false hll, Bool.and_false])
        clear hll
        go_wp2
        go_loop [9, 41] (fun g i => ∃ k : Nat, k ≤ len' ∧ i = .int .i64 k ∧ g = .bool (goodK l m k)) (fun _ i => len' - (intOf i).toNat)
        case atStart => exact ⟨0, by omega, rfl, by rw [HG1.out]⟩
        case round =>
          obtain ⟨k, hk, rfl, rfl⟩ := hrel
          by_cases hlt : k < len'
          · obtain ⟨b2, off2, rfl, _, c2⟩ := (H'.out.mono HB2.out).at' k hlt
            have HE := HGS.out k hlt
            generalize m.getD k 0 = z at *
            generalize goodK l m k = g0 at *
            cases g0
            · have HE2 := Lib.hid (HE.trans rfl : goodK l m (k + 1) = false)
              clear HE
              go_wp2
              go_round
              case rel => exact ⟨k + 1, by omega, by go_num, by rw [HE2.out]⟩
              case measure => simp [intOf]; omega
            · by_cases h0 : 0 ≤ z
              · have d0 : decide (0 ≤ z) = true := by simpa using h0
                by_cases h16 : z ≤ 16
                · have d16 : decide (z ≤ 16) = true := by simpa using h16
                  have HE2 := Lib.hid (show goodK l m (k + 1) = true by rw [HE, d0, d16]; rfl)
                  clear HE
                  go_wp2
                  go_round
                  case rel => exact ⟨k + 1, by omega, by go_num, by rw [HE2.out]⟩
                  case measure => simp [intOf]; omega
                · have d16 : decide (z ≤ 16) = false := by simpa using h16
                  have HE2 := Lib.hid (show goodK l m (k + 1) = false by rw [HE, d0, d16]; rfl)
                  clear HE
                  go_wp2
                  go_round
                  case rel => exact ⟨k + 1, by omega, by go_num, by rw [HE2.out]⟩
                  case measure => simp [intOf]; omega
              · have d0 : decide (0 ≤ z) = false := by simpa using h0
                have HE2 := Lib.hid (show goodK l m (k + 1) = false by rw [HE, d0]; rfl)
                clear HE
                go_wp2
                go_round
                case rel => exact ⟨k + 1, by omega, by go_num, by rw [HE2.out]⟩
                case measure => simp [intOf]; omega
          · obtain rfl : len' = k := by omega
            rw [HGF.out, HGN.out]
            go_wp2_with fail
            refine (is_yes 6 rfl _).mono ?_
            rintro e w2 ⟨rfl, rfl⟩
            go_wp2
            go_ret
            exact ⟨rfl, HB2.out⟩
set_option maxRecDepth 100000 in
theorem lifted (os : Os) (started : os.Started) (H : Type) (enc : TypeId × Value → H) :
    ReturnsInHanded {} Try.checked os 8 .any (Rows.mergeCostsSpec.pre6 enc Try.prog Try.f8 Rows.mergeCostsRow.domain false) (Rows.mergeCostsSpec.post enc Try.prog Try.f8 false true false false) := by
  refine returnsInHanded_of_change_sized (C := Try.checked) own started (by kernel_rfl) Try.func8
    (ChangeSpec.witness6 (enc := enc) (C := Try.checked) false ⟨#[], #[.slice none 0 0, .slice none 0 0], []⟩ 8 (by kernel_rfl) (by kernel_rfl) (by kernel_rfl) (by kernel_rfl)) ?_
  intro W base args ds gs before hval0 hW _ hsz0 _
  have hval : ∀ (j : Nat) t v, Try.f8.params[j]? = some t → args[j]? = some v → Value.okWide Try.prog W .any base t v := hval0
  have hsz : (DataW.weightsEach Try.prog (Try.f8.params.toList ++ Rows.mergeCostsSpec.plain.varTypes Try.prog) (ds ++ gs)).all (· ≤ reachBytes) = true := hsz0
  have hW' := hW
  obtain ⟨p, q, hA0, hV, rfl, hfz, hnd⟩ := hW
  have hA : DataW.TrodAll enc Try.prog W 0 (fun _ => true) true Try.f8.params.toList args.toList ds p := hA0
  rw [Try.params8] at hA hval hsz
  obtain ⟨v0, vs0, d0, ds0, p0, q0, hargs, rfl, rfl, h0, r0⟩ := trodAll_cons hA
  obtain ⟨v1, vs1, d1, ds1, p1, q1, rfl, rfl, rfl, h1, r1⟩ := trodAll_cons r0
  obtain ⟨rfl, rfl, rfl⟩ := trodAll_nil r1
  obtain rfl : args = #[v0, v1] := by cases args; simp_all
  obtain ⟨rfl, rfl⟩ := trodVars_none hV
  clear hsz0
  obtain ⟨a0, len0, cap0, rfl⟩ := okWide_slice Try.underlying22 (hval 0 22 v0 rfl rfl)
  have k0 := h0
  have lt0 : ∀ x ∈ p0, x.block < W.heap.size := by obtain ⟨m, hm⟩ := k0; exact DataW.trod_lt m _ _ _ hm
  obtain ⟨l0, w0, c0⟩ := open_is (by' := 8) Try.underlying22 Try.underlying3 (by kernel_rfl) (by kernel_rfl) h0 hsz 0 rfl rfl
  obtain ⟨a1, len1, cap1, rfl⟩ := okWide_slice Try.underlying22 (hval 1 22 v1 rfl rfl)
  have k1 := h1
  have lt1 : ∀ x ∈ p1, x.block < W.heap.size := by obtain ⟨m, hm⟩ := k1; exact DataW.trod_lt m _ _ _ hm
  obtain ⟨l1, w1, c1⟩ := open_is (by' := 8) Try.underlying22 Try.underlying3 (by kernel_rfl) (by kernel_rfl) h1 hsz 1 rfl rfl
  clear hA0 hval0 hsz
  refine (walk a0 len0 cap0 l0 a1 len1 cap1 l1 W w0 c0 w1 c1).mono fun e W' ⟨he, bel⟩ => ?_
  subst he
  exact ⟨_, rfl, _, _, _, [], _, [], hW', trodAll_mk1 (shut_bool Try.underlying4 _), (trodAll_cons_mk (Below.trod laidOut (by kernel_rfl) (of_decide_eq_true (by kernel_rfl)) k0 bel lt0) (trodAll_cons_mk (Below.trod laidOut (by kernel_rfl) (of_decide_eq_true (by kernel_rfl)) k1 bel lt1) trodAll_mk0)), rfl, bel.frame _, fun h => by cases h⟩

theorem proved : Rows.MergeCostsSaid :=
  OpenClaim.holds_of_wide 8 Try.f8 rfl rfl rfl rfl rfl rfl rfl ⟨rfl, rfl, rfl, rfl, rfl⟩ rfl rfl rfl rfl rfl (by kernel_rfl) Try.func8 (by kernel_rfl)
    (of_decide_eq_true (by kernel_rfl)) (by unfold Func.isWrapper; first | (rw [if_pos (by decide +kernel)]; kernel_rfl) | (rw [if_neg (by decide +kernel)]; exact ⟨rfl, rfl⟩))
    (fun os started H enc _ => lifted os started H enc)
#print axioms proved
end Go.Proofs.Ytobmghppnlgjlaa.MergeCosts
