/- For all numbers (of more than 200 nothing is asked): Depth answers the least depth to which all of them can be narrowed. No conditions. -/
import Derived.Test.YtkjdekaipphlpaaRows
import Derived.Test.YtkjdekaipphlpaaOpen
import Derived.Test.YtkjdekaipphlpaaSmDepth
import Derived.Test.YtkjdekaipphlpaaSmRefNarrow
import Derived.Test.YtkjdekaipphlpaaIsLit
namespace Go.Proofs.Ytkjdekaipphlpaa.SampleDepths
open Go.ChangeShapes Go.WideShapes Go.ChangeAt Go.RowKit
open Go.ChangeMaps (open_string shut_string)
set_option linter.unusedVariables false
theorem own : ownKnob Try.prog.godebug = none := by kernel_rfl
theorem laidOut : laidOutB Try.prog = true := by kernel_rfl
open Sm
/-- What the law wants behind so many of its depths. -/
def dsAt (i : Nat) : Nat := if i = 0 then 8 else if i = 1 then 4 else if i = 2 then 2 else 1
def wantAt (l : List Int) : Nat → Nat
  | 0 => 16
  | i + 1 => if holds l (dsAt i) then dsAt i else wantAt l i
theorem want_dep (l : List Int) : wantAt l 4 = dep l := rfl
theorem want_le (l : List Int) : ∀ i, wantAt l i ≤ 16
  | 0 => by simp [wantAt]
  | i + 1 => by
    have := want_le l i
    unfold wantAt
    split
    · unfold dsAt; split <;> (try split) <;> (try split) <;> omega
    · exact this
theorem nar_fits (n : Int) {d : Nat} (hd : Dp d) : decide (0 ≤ nar n d) = fits n d := by
  unfold nar
  by_cases h : fits n d = true
  · rw [if_pos ⟨dp_deep hd, by rwa [Int.toNat_natCast]⟩, Int.toNat_natCast, h]
    obtain ⟨k, hk, e⟩ := (fits_iff hd).1 h
    rw [e]
    have := (fac_pos hd).1
    rw [Int.mul_ediv_cancel _ (by omega)]
    simp
  · have h2 : fits n d = false := by simpa using h
    rw [if_neg (fun hh => h (by have := hh.2; rwa [Int.toNat_natCast] at this)), h2]; rfl
theorem ds_dp (i : Nat) : Dp (dsAt i) := by unfold dsAt Dp; split <;> (try split) <;> (try split) <;> omega
theorem wf_lit {l : List Int} (h : ∀ x ∈ l, 0 ≤ x ∧ x ≤ 1000000000) : Wf l := fun n hn => by
  have := h n hn
  simp [Lit.wf, IntKind.min, IntKind.max, IntKind.signed, IntKind.bits]
  omega
set_option maxRecDepth 100000 in
set_option maxHeartbeats 4000000 in
theorem walk (a : Option Addr) (len cap : Nat) (l : List Int) (w : World) (h : Is .i64 w a len cap l) (hr : cap * 8 ≤ 140737488351232) :
    Calls Try.prog 7 #[.slice a len cap] w fun e w' => e = .returned (.bool true) ∧ Below w.heap.size w w' := by
  have hle := h.hle
  have HL := Lib.hid h.hlen
  have hL1 := is_lit w [0, 65535] 2 3 #[Value.int .i64 0, .int .i64 65535] rfl rfl (wf_lit (by decide))
  have HD1 := Lib.hid (depth_any _ _ _ _ _ hL1 (by omega))
  rw [show dep [0, 65535] = 1 by decide +kernel] at HD1
  have HB1 := Lib.hid (below_alloc w (.cells #[Value.int .i64 0, .int .i64 65535] 3))
  have H := Lib.hid h
  clear h hL1
  go_enter Try.func7, Try.ntmps7
  go_wp2_with fail
  refine HD1.out.mono ?_
  rintro e w1 ⟨rfl, hb1⟩
  have HB2 := Lib.hid (below_then HB1.out hb1)
  clear HD1 HB1 hb1
  have hL2 := is_lit w1 [257] 1 3 #[Value.int .i64 257] rfl rfl (wf_lit (by decide))
  have HD2 := Lib.hid (depth_any _ _ _ _ _ hL2 (by omega))
  rw [show dep [257] = 8 by decide +kernel] at HD2
  have HB3 := Lib.hid (below_then HB2.out (below_alloc w1 (.cells #[Value.int .i64 257] 3)))
  clear hL2
  go_wp2_with fail
  refine HD2.out.mono ?_
  rintro e w2 ⟨rfl, hb2⟩
  have HB4 := Lib.hid (below_then HB3.out hb2)
  clear HD2 HB2 HB3 hb2
  have hL3 := is_lit w2 [1] 1 3 #[Value.int .i64 1] rfl rfl (wf_lit (by decide))
  have HD3 := Lib.hid (depth_any _ _ _ _ _ hL3 (by omega))
  rw [show dep [1] = 16 by decide +kernel] at HD3
  have HB5 := Lib.hid (below_then HB4.out (below_alloc w2 (.cells #[Value.int .i64 1] 3)))
  clear hL3
  go_wp2_with fail
  refine HD3.out.mono ?_
  rintro e w3 ⟨rfl, hb3⟩
  have HB6 := Lib.hid (below_then HB5.out hb3)
  have H3 := Lib.hid (H.out.mono HB6.out)
  clear HD3 HB4 HB5 hb3 H
  by_cases hbig : 200 < len
  · have d1 : decide ((200 : Int) < (len : Int)) = true := by simp; omega
    clear hbig
    go_wp2
    go_ret
    exact ⟨rfl, HB6.out⟩
  have d1 : decide ((200 : Int) < (len : Int)) = false := by simp; omega
  have hL4 := is_lit w3 [8, 4, 2, 1] 4 3 #[Value.int .i64 8, .int .i64 4, .int .i64 2, .int .i64 1] rfl rfl (wf_lit (by decide))
  have HL4 := Lib.hid hL4
  have hal := below_alloc w3 (.cells #[Value.int .i64 8, .int .i64 4, .int .i64 2, .int .i64 1] 3)
  have H4 := Lib.hid (H3.out.mono hal)
  have HB7 := Lib.hid (below_then HB6.out hal)
  have hlen : len ≤ 200 := by omega
  clear hbig hL4 hal H3 HB6
  go_wp2
  revert HL4 H4 HB7
  generalize w3.alloc (.cells #[Value.int .i64 8, .int .i64 4, .int .i64 2, .int .i64 1] 3) = w4
  generalize w3.heap.size = q4
  intro HL4 H4 HB7
  go_loop [3, 27] (fun x i => ∃ k : Nat, k ≤ 4 ∧ i = .int .i64 k ∧ x = .int .i64 (wantAt l k : Nat)) (fun _ i => 4 - (intOf i).toNat)
  case atStart => exact ⟨0, by omega, rfl, rfl⟩
  case round =>
    obtain ⟨k, hk, rfl, rfl⟩ := hrel
    by_cases hlt : k < 4
    · have HW := Lib.hid (show wantAt l (k + 1) = if holds l (dsAt k) then dsAt k else wantAt l k from rfl)
      obtain ⟨b, off, hbo, hb, hcell⟩ := HL4.out.at' k hlt
      cases hbo
      have hds : ([8, 4, 2, 1] : List Int).getD k 0 = (dsAt k : Nat) := by
        have : k = 0 ∨ k = 1 ∨ k = 2 ∨ k = 3 := by omega
        rcases this with rfl | rfl | rfl | rfl <;> rfl
      rw [hds, Nat.zero_add] at hcell
      have hdp := ds_dp k
      have hNF := Lib.hid (fun n => nar_fits n hdp)
      have hd16 := dp_le hdp
      clear hdp hds
      generalize wantAt l k = wk at *
      generalize dsAt k = D at *
      go_wp2
      go_loop [6, 33] (fun x i => ∃ j : Nat, j ≤ len ∧ i = .int .i64 j ∧ x = .bool (holds (l.take j) D)) (fun _ i => len - (intOf i).toNat)
      case atStart => exact ⟨0, by omega, rfl, rfl⟩
      case round =>
        obtain ⟨j, hj, rfl, rfl⟩ := hrel
        by_cases hlj : j < len
        · obtain ⟨b, off, rfl, hb, hcell⟩ := H4.out.at' j hlj
          have HHT := Lib.hid (holds_take l D j (by rw [HL.out]; exact hlj))
          have HRN := Lib.hid (fun w => refNarrow_any (l.getD j 0) D w)
          have HNF := Lib.hid (hNF.out (l.getD j 0))
          generalize l.getD j 0 = n at *
          generalize nar n D = v at *
          generalize fits n D = f at *
          generalize holds (l.take j) D = h1 at *
          cases h1
          · go_wp2
            go_round
            case rel => exact ⟨j + 1, by omega, by go_num, by rw [HHT.out]; rfl⟩
            case measure => simp [intOf]; omega
          · go_wp2_with fail
            refine (HRN.out _).mono ?_
            rintro e w' ⟨rfl, rfl⟩
            go_wp2
            go_round
            case rel => exact ⟨j + 1, by omega, by go_num, by rw [HHT.out, HNF.out]; rfl⟩
            case measure => simp [intOf]; omega
        · obtain rfl : len = j := by omega
          have HF : Hid (holds (l.take len) D = holds l D) := Lib.hid (by rw [List.take_of_length_le (by rw [HL.out]; exact Nat.le_refl _)])
          rw [HF.out]
          by_cases hh : holds l D = true
          · rw [hh]
            go_wp2
            go_round
            case rel => exact ⟨k + 1, by omega, by go_num, int_eq (by rw [HW.out, if_pos hh])⟩
            case measure => simp [intOf]; omega
          · have hh2 : holds l D = false := by simpa using hh
            rw [hh2]
            go_wp2
            go_round
            case rel => exact ⟨k + 1, by omega, by go_num, int_eq (by rw [HW.out, if_neg hh])⟩
            case measure => simp [intOf]; omega
    · obtain rfl : k = 4 := by omega
      have HW := Lib.hid (want_dep l)
      rw [HW.out]
      go_wp2_with fail
      refine (depth_any a len cap l _ H4.out (by omega)).mono ?_
      rintro e w5 ⟨rfl, hb5⟩
      have HB8 := Lib.hid (below_then HB7.out hb5)
      have ee : ((dep l : Int) == (dep l : Int)) = true := beq_self_eq_true _
      clear hb5
      go_wp2
      go_ret
      exact ⟨by simp, HB8.out⟩
set_option maxRecDepth 100000 in
theorem lifted (os : Os) (started : os.Started) (H : Type) (enc : TypeId × Value → H) :
    ReturnsInHanded {} Try.checked os 7 .any (Rows.sampleDepthsSpec.pre6 enc Try.prog Try.f7 Rows.sampleDepthsRow.domain false) (Rows.sampleDepthsSpec.post enc Try.prog Try.f7 false true false false) := by
  refine returnsInHanded_of_change_sized (C := Try.checked) own started (by kernel_rfl) Try.func7
    (ChangeSpec.witness6 (enc := enc) (C := Try.checked) false ⟨#[], #[.slice none 0 0], []⟩ 8 (by kernel_rfl) (by kernel_rfl) (by kernel_rfl) (by kernel_rfl)) ?_
  intro W base args ds gs before hval0 hW _ hsz0 _
  have hval : ∀ (j : Nat) t v, Try.f7.params[j]? = some t → args[j]? = some v → Value.okWide Try.prog W .any base t v := hval0
  have hsz : (DataW.weightsEach Try.prog (Try.f7.params.toList ++ Rows.sampleDepthsSpec.plain.varTypes Try.prog) (ds ++ gs)).all (· ≤ reachBytes) = true := hsz0
  have hW' := hW
  obtain ⟨p, q, hA0, hV, rfl, hfz, hnd⟩ := hW
  have hA : DataW.TrodAll enc Try.prog W 0 (fun _ => true) true Try.f7.params.toList args.toList ds p := hA0
  rw [Try.params7] at hA hval hsz
  obtain ⟨v0, vs0, d0, ds0, p0, q0, hargs, rfl, rfl, h0, r0⟩ := trodAll_cons hA
  obtain ⟨rfl, rfl, rfl⟩ := trodAll_nil r0
  obtain rfl : args = #[v0] := by cases args; simp_all
  obtain ⟨rfl, rfl⟩ := trodVars_none hV
  clear hsz0
  obtain ⟨a0, len0, cap0, rfl⟩ := okWide_slice Try.underlying22 (hval 0 22 v0 rfl rfl)
  have k0 := h0
  have lt0 : ∀ x ∈ p0, x.block < W.heap.size := by obtain ⟨m, hm⟩ := k0; exact DataW.trod_lt m _ _ _ hm
  obtain ⟨l0, w0, c0⟩ := open_is (by' := 8) Try.underlying22 Try.underlying3 (by kernel_rfl) (by kernel_rfl) h0 hsz 0 rfl rfl
  clear hA0 hval0 hsz
  refine (walk a0 len0 cap0 l0 W w0 c0).mono fun e W' ⟨he, bel⟩ => ?_
  subst he
  exact ⟨_, rfl, _, _, _, [], _, [], hW', trodAll_mk1 (shut_bool Try.underlying4 _), (trodAll_cons_mk (Below.trod laidOut (by kernel_rfl) (of_decide_eq_true (by kernel_rfl)) k0 bel lt0) trodAll_mk0), rfl, bel.frame _, fun h => by cases h⟩

theorem proved : Rows.SampleDepthsSaid :=
  OpenClaim.holds_of_wide 7 Try.f7 rfl rfl rfl rfl rfl rfl rfl ⟨rfl, rfl, rfl, rfl, rfl⟩ rfl rfl rfl rfl rfl (by kernel_rfl) Try.func7 (by kernel_rfl)
    (of_decide_eq_true (by kernel_rfl)) (by unfold Func.isWrapper; first | (rw [if_pos (by decide +kernel)]; kernel_rfl) | (rw [if_neg (by decide +kernel)]; exact ⟨rfl, rfl⟩))
    (fun os started H enc _ => lifted os started H enc)
#print axioms proved
end Go.Proofs.Ytkjdekaipphlpaa.SampleDepths
