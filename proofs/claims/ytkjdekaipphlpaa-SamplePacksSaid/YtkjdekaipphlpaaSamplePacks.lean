/- For all numbers (of more than 500 nothing is asked) and every depth: Pack answers the row that the document says, or refuses them as it says, and leaves the numbers as they were. No conditions. -/
import Derived.Test.YtkjdekaipphlpaaRows
import Derived.Test.YtkjdekaipphlpaaOpen
import Derived.Test.YtkjdekaipphlpaaSmPack
import Derived.Test.YtkjdekaipphlpaaSmRefPack
import Derived.Test.YtkjdekaipphlpaaNumIs
import Derived.Test.YtkjdekaipphlpaaNumSame
import Derived.Test.YtkjdekaipphlpaaNumInts
import Derived.Test.YtkjdekaipphlpaaIsLit
namespace Go.Proofs.Ytkjdekaipphlpaa.SamplePacks
open Go.ChangeShapes Go.WideShapes Go.ChangeAt Go.RowKit
open Go.ChangeMaps (open_string shut_string)
set_option linter.unusedVariables false
theorem own : ownKnob Try.prog.godebug = none := by kernel_rfl
theorem laidOut : laidOutB Try.prog = true := by kernel_rfl
open Sm
theorem wf_lit {l : List Int} (h : ∀ x ∈ l, 0 ≤ x ∧ x ≤ 1000000000) : Wf l := fun n hn => by
  have := h n hn
  simp [Lit.wf, IntKind.min, IntKind.max, IntKind.signed, IntKind.bits]
  omega
set_option maxRecDepth 100000 in
set_option maxHeartbeats 4000000 in
theorem walk (a : Option Addr) (len cap : Nat) (l : List Int) (d : Int) (w : World) (h : Is .i64 w a len cap l) (hr : cap * 8 ≤ 140737488351232) (_ : (Lit.int .i64 d).wf = true) :
    Calls Try.prog 3 #[.slice a len cap, .int .i64 d] w fun e w' => e = .returned (.bool true) ∧ Below w.heap.size w w' := by
  have hle := h.hle
  have HL := Lib.hid h.hlen
  have hwf := h.wf
  have hL1 := is_lit w [1, 2, 3] 3 3 #[Value.int .i64 1, .int .i64 2, .int .i64 3] rfl rfl (wf_lit (by decide))
  have HP1 := Lib.hid (pack_any _ _ _ _ 2 _ (.inr (.inl rfl)) hL1 (by omega))
  have HB1 := Lib.hid (below_alloc w (.cells #[Value.int .i64 1, .int .i64 2, .int .i64 3] 3))
  have H := Lib.hid h
  have HWF := Lib.hid hwf
  clear h hL1 hwf
  go_enter Try.func3, Try.ntmps3
  go_wp2_with fail
  refine HP1.out.mono ?_
  rintro e w1 (⟨_, v1, rfl, own1, hb1⟩ | ⟨hx, _, _⟩)
  rotate_left
  · exact absurd hx (by decide)
  rw [show row 2 [1, 2, 3] = [0x6c] by decide +kernel] at own1
  obtain ⟨va, vc, rfl, hbs⟩ := own_bs own1 (by decide)
  obtain ⟨b, off, rfl, hbl, hcell⟩ := hbs.at' 0 (by decide)
  have hc0 : w1.cell? ⟨b, off, none⟩ = some (.int .u8 108) := hcell
  have HB2 := Lib.hid (below_then HB1.out hb1)
  have H2 := Lib.hid (H.out.mono HB2.out)
  clear own1 hb1 HP1 HB1 H hbs hcell
  by_cases hbig : 500 < len
  · have d1 : decide ((500 : Int) < (len : Int)) = true := by simp; omega
    clear hbig
    go_wp2
    go_ret
    exact ⟨rfl, HB2.out⟩
  have d1 : decide ((500 : Int) < (len : Int)) = false := by simp; omega
  have hlen : len ≤ 500 := by omega
  clear hbig
  go_wp2_with fail
  refine (copyI_any a len cap l w1 H2.out (by omega)).mono ?_
  rintro e w2 ⟨g, rfl, own2, hb2⟩
  have HB3 := Lib.hid (below_then HB2.out hb2)
  have H3 := Lib.hid (H2.out.mono hb2)
  have HO := Lib.hid own2
  have his := is_of_own own2 (l := l ++ [-77]) (wf_mark HWF.out) 0 len (len + 1) (by omega) (by omega)
  rw [List.drop_zero, List.take_append_of_le_length (by rw [HL.out]; exact Nat.le_refl _), List.take_of_length_le (by rw [HL.out]; exact Nat.le_refl _)] at his
  have HIC := Lib.hid his
  clear own2 hb2 his HB2 H2 hc0 hbl
  have e6 : ((6 : Int) == 6) = true := rfl
  by_cases hd : deep d = true
  rotate_left
  · have HD : Hid (deep d = false) := Lib.hid (by simpa using hd)
    clear hd
    go_wp2_with fail
    refine (pack_bad _ _ _ d _ (.inl HD.out)).mono ?_
    rintro e w' ⟨rfl, rfl⟩
    go_wp2_with fail
    refine (refPack_bad _ _ _ d _ HD.out).mono ?_
    rintro e w' ⟨rfl, rfl⟩
    go_wp2_with fail
    refine (same_any _ _ _ _ _ _ [] [] _ (bs_nil _) (bs_nil _)).mono ?_
    rintro e w' ⟨rfl, rfl⟩
    go_wp2_with fail
    refine (num_err 6 rfl _).mono ?_
    rintro e w' ⟨rfl, rfl⟩
    go_wp2_with fail
    refine (keptI_any g len a cap l _ w1.heap.size (by omega) HWF.out HO.out H3.out).mono ?_
    rintro e w' ⟨rfl, dn, rfl⟩
    have HFB := Lib.hid (HB3.out.trans ((drewN_is w2 dn).mono HB3.out.size))
    go_wp2
    go_ret
    exact ⟨rfl, HFB.out⟩
  obtain ⟨D, rfl, hD⟩ := deep_dp hd
  have HPK := Lib.hid (fun w h => pack_any (some ⟨g, 0, none⟩) len (len + 1) l D w hD h (by omega))
  have HRP := Lib.hid (fun w h => refPack_any a len cap l D w hD h (by omega))
  have HD16 := Lib.hid (dp_le hD)
  clear hd hD
  go_wp2_with fail
  refine (HPK.out _ HIC.out).mono ?_
  rintro e w3 (⟨hin, v, rfl, own3, hb3⟩ | ⟨hin, rfl, hb3⟩)
  · have HIN := Lib.hid hin
    have HB4 := Lib.hid (below_then HB3.out hb3)
    have HOW := Lib.hid own3
    have HO4 := Lib.hid (own_below HO.out hb3)
    have H4 := Lib.hid (H3.out.mono hb3)
    clear own3 hb3 hin HO H3 HIC HB3
    go_wp2_with fail
    refine (HRP.out _ H4.out).mono ?_
    rintro e w4 (⟨_, u, rfl, own4, hb4⟩ | ⟨hx, _, _⟩)
    rotate_left
    · rw [HIN.out] at hx; simp at hx
    have HB5 := Lib.hid (below_then HB4.out hb4)
    have hrl : (row D l).length ≤ 281474976710656 := by
      have h1 := row_length D l
      have h2 : l.length * D ≤ 500 * 16 := Nat.mul_le_mul (by rw [HL.out]; omega) HD16.out.2
      omega
    obtain ⟨va, vc, rfl, hbs⟩ := own_bs (own_below HOW.out hb4) hrl
    obtain ⟨ua, uc, rfl, hbs2⟩ := own_bs own4 hrl
    have HV := Lib.hid hbs
    have HU := Lib.hid hbs2
    have HO5 := Lib.hid (own_below HO4.out hb4)
    have H5 := Lib.hid (H4.out.mono hb4)
    have HSM := Lib.hid (show (row D l == row D l) = true from beq_self_eq_true _)
    clear own4 hb4 hrl hbs hbs2 HOW HO4 H4 HB4 HRP HPK
    go_wp2_with fail
    refine (same_any _ _ _ _ _ _ _ _ _ HV.out HU.out).mono ?_
    rintro e w' ⟨rfl, rfl⟩
    rw [HSM.out]
    go_wp2_with fail
    refine (num_nil _).mono ?_
    rintro e w' ⟨rfl, rfl⟩
    go_wp2_with fail
    refine (keptI_any g len a cap l _ w1.heap.size (by omega) HWF.out HO5.out H5.out).mono ?_
    rintro e w' ⟨rfl, dn, rfl⟩
    have HFB := Lib.hid (HB5.out.trans ((drewN_is w4 dn).mono HB5.out.size))
    go_wp2
    go_ret
    exact ⟨rfl, HFB.out⟩
  · have HIN := Lib.hid hin
    have HB4 := Lib.hid (below_then HB3.out hb3)
    have HO4 := Lib.hid (own_below HO.out hb3)
    have H4 := Lib.hid (H3.out.mono hb3)
    clear hb3 hin HO H3 HIC HB3
    go_wp2_with fail
    refine (HRP.out _ H4.out).mono ?_
    rintro e w4 (⟨hx, _⟩ | ⟨_, rfl, hb4⟩)
    · rw [HIN.out] at hx; simp at hx
    have HB5 := Lib.hid (below_then HB4.out hb4)
    have HO5 := Lib.hid (own_below HO4.out hb4)
    have H5 := Lib.hid (H4.out.mono hb4)
    clear hb4 HO4 H4 HB4 HRP HPK
    go_wp2_with fail
    refine (same_any _ _ _ _ _ _ [] [] _ (bs_nil _) (bs_nil _)).mono ?_
    rintro e w' ⟨rfl, rfl⟩
    go_wp2_with fail
    refine (num_err 7 rfl _).mono ?_
    rintro e w' ⟨rfl, rfl⟩
    go_wp2_with fail
    refine (keptI_any g len a cap l _ w1.heap.size (by omega) HWF.out HO5.out H5.out).mono ?_
    rintro e w' ⟨rfl, dn, rfl⟩
    have HFB := Lib.hid (HB5.out.trans ((drewN_is w4 dn).mono HB5.out.size))
    go_wp2
    go_ret
    exact ⟨rfl, HFB.out⟩
set_option maxRecDepth 100000 in
theorem lifted (os : Os) (started : os.Started) (H : Type) (enc : TypeId × Value → H) :
    ReturnsInHanded {} Try.checked os 3 .any (Rows.samplePacksSpec.pre6 enc Try.prog Try.f3 Rows.samplePacksRow.domain false) (Rows.samplePacksSpec.post enc Try.prog Try.f3 false true false false) := by
  refine returnsInHanded_of_change_sized (C := Try.checked) own started (by kernel_rfl) Try.func3
    (ChangeSpec.witness6 (enc := enc) (C := Try.checked) false ⟨#[], #[.slice none 0 0, .int .i64 0], []⟩ 8 (by kernel_rfl) (by kernel_rfl) (by kernel_rfl) (by kernel_rfl)) ?_
  intro W base args ds gs before hval0 hW _ hsz0 _
  have hval : ∀ (j : Nat) t v, Try.f3.params[j]? = some t → args[j]? = some v → Value.okWide Try.prog W .any base t v := hval0
  have hsz : (DataW.weightsEach Try.prog (Try.f3.params.toList ++ Rows.samplePacksSpec.plain.varTypes Try.prog) (ds ++ gs)).all (· ≤ reachBytes) = true := hsz0
  have hW' := hW
  obtain ⟨p, q, hA0, hV, rfl, hfz, hnd⟩ := hW
  have hA : DataW.TrodAll enc Try.prog W 0 (fun _ => true) true Try.f3.params.toList args.toList ds p := hA0
  rw [Try.params3] at hA hval hsz
  obtain ⟨v0, vs0, d0, ds0, p0, q0, hargs, rfl, rfl, h0, r0⟩ := trodAll_cons hA
  obtain ⟨v1, vs1, d1, ds1, p1, q1, rfl, rfl, rfl, h1, r1⟩ := trodAll_cons r0
  obtain ⟨rfl, rfl, rfl⟩ := trodAll_nil r1
  obtain rfl : args = #[v0, v1] := by cases args; simp_all
  obtain ⟨rfl, rfl⟩ := trodVars_none hV
  clear hsz0
  obtain ⟨a0, len0, cap0, rfl⟩ := okWide_slice Try.underlying22 (hval 0 22 v0 rfl rfl)
  have k0 := h0
  have lt0 : ∀ x ∈ p0, x.block < W.heap.size := by obtain ⟨m, hm⟩ := k0; exact DataW.trod_lt m _ _ _ hm
  obtain ⟨l0, w0, c0⟩ := open_is (by' := 8) Try.underlying22 Try.underlying3 (by kernel_rfl) (by kernel_rfl) h0 hsz 0 rfl rfl
  obtain ⟨a1, rfl, rfl, rfl, w1⟩ := open_int Try.underlying3 (hval 1 3 v1 rfl rfl) h1
  clear hA0 hval0 hsz
  refine (walk a0 len0 cap0 l0 a1 W w0 c0 w1).mono fun e W' ⟨he, bel⟩ => ?_
  subst he
  exact ⟨_, rfl, _, _, _, [], _, [], hW', trodAll_mk1 (shut_bool Try.underlying4 _), (trodAll_cons_mk (Below.trod laidOut (by kernel_rfl) (of_decide_eq_true (by kernel_rfl)) k0 bel lt0) (trodAll_cons_mk (shut_int Try.underlying3 w1) trodAll_mk0)), rfl, bel.frame _, fun h => by cases h⟩

theorem proved : Rows.SamplePacksSaid :=
  OpenClaim.holds_of_wide 3 Try.f3 rfl rfl rfl rfl rfl rfl rfl ⟨rfl, rfl, rfl, rfl, rfl⟩ rfl rfl rfl rfl rfl (by kernel_rfl) Try.func3 (by kernel_rfl)
    (of_decide_eq_true (by kernel_rfl)) (by unfold Func.isWrapper; first | (rw [if_pos (by decide +kernel)]; kernel_rfl) | (rw [if_neg (by decide +kernel)]; exact ⟨rfl, rfl⟩))
    (fun os started H enc _ => lifted os started H enc)
#print axioms proved
end Go.Proofs.Ytkjdekaipphlpaa.SamplePacks
