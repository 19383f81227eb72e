/- For all bytes (of more than 500 nothing is asked), every depth and every count: Unpack answers the numbers that the document says, or refuses the row as it says, and leaves the row as it was. No conditions. -/
import Derived.Test.YtkjdekaipphlpaaRows
import Derived.Test.YtkjdekaipphlpaaOpen
import Derived.Test.YtkjdekaipphlpaaSmUnpack
import Derived.Test.YtkjdekaipphlpaaSmRefUnpack
import Derived.Test.YtkjdekaipphlpaaNumIs
import Derived.Test.YtkjdekaipphlpaaNumInts
import Derived.Test.YtkjdekaipphlpaaNum
import Derived.Test.YtkjdekaipphlpaaIsLit
namespace Go.Proofs.Ytkjdekaipphlpaa.SampleUnpacks
open Go.ChangeShapes Go.WideShapes Go.ChangeAt Go.RowKit
open Go.ChangeMaps (open_string shut_string)
set_option linter.unusedVariables false
theorem own : ownKnob Try.prog.godebug = none := by kernel_rfl
theorem laidOut : laidOutB Try.prog = true := by kernel_rfl
open Sm
theorem wf_lit {l : List Int} (h : ∀ x ∈ l, 0 ≤ x ∧ x ≤ 1000000000) : Wf l := fun n hn => by
  have := h n hn
  simp [Lit.wf, IntKind.min, IntKind.max, IntKind.signed, IntKind.bits]
  omega
set_option maxRecDepth 100000 in
set_option maxHeartbeats 4000000 in
theorem walk (a : Option Addr) (len cap : Nat) (l : List UInt8) (d n : Int) (w : World) (h : Bs w a len cap l) (hr : cap ≤ 140737488351232) (_ : (Lit.int .i64 d).wf = true) (_ : (Lit.int .i64 n).wf = true) :
    Calls Try.prog 4 #[.slice a len cap, .int .i64 d, .int .i64 n] w fun e w' => e = .returned (.bool true) ∧ Below w.heap.size w w' := by
  have hle := h.hle
  have HL := Lib.hid h.hlen
  have hL1 := bs_new w w.heap.size rfl [0x6c] 5 (0, 0) 1 rfl (by decide) #[Value.int .u8 108] rfl
  have HP1 := Lib.hid (unpack_good _ _ _ _ 2 3 _ (.inr (.inl rfl)) (by omega) hL1 (by decide))
  have HB1 := Lib.hid (below_alloc w (.cells #[Value.int .u8 108] 5))
  have H := Lib.hid h
  clear h hL1
  go_enter Try.func4, Try.ntmps4
  go_wp2_with fail
  refine HP1.out.mono ?_
  rintro e w1 ⟨v1, rfl, own1, hb1⟩
  rw [show vals 2 (Bt.rbits true [0x6c]) 3 = [1, 2, 3] by decide +kernel] at own1
  have HB2 := Lib.hid (below_then HB1.out hb1)
  have hal := below_alloc w1 (.cells #[Value.int .i64 1, .int .i64 2, .int .i64 3] 3)
  obtain ⟨va, vc, rfl, hv⟩ := own_is (own_below own1 hal) (wf_lit (by decide))
  have hL2 := is_lit w1 [1, 2, 3] 3 3 #[Value.int .i64 1, .int .i64 2, .int .i64 3] rfl rfl (wf_lit (by decide))
  have HIE := Lib.hid (ints_any _ _ _ _ _ _ _ _ _ hv hL2 (by omega) (by omega))
  have HB3 := Lib.hid (below_then HB2.out hal)
  have H3 := Lib.hid (H.out.mono HB3.out)
  clear own1 hb1 HP1 HB1 H hal hv hL2 HB2
  go_wp2_with fail
  refine HIE.out.mono ?_
  rintro e w' ⟨rfl, dn0, rfl⟩
  revert HB3 H3
  generalize w1.alloc (.cells #[Value.int .i64 1, .int .i64 2, .int .i64 3] 3) = w2
  intro HB3 H3
  have HB4 := Lib.hid (HB3.out.trans ((drewN_is w2 dn0).mono HB3.out.size))
  have H4 := Lib.hid (H3.out.mono (drewN_is w2 dn0))
  clear HIE HB3 H3
  generalize w2.drewN dn0 = w3 at *
  by_cases hbig : 500 < len
  · have d1 : decide ((500 : Int) < (len : Int)) = true := by simp; omega
    clear hbig
    go_wp2
    go_ret
    exact ⟨rfl, HB4.out⟩
  have d1 : decide ((500 : Int) < (len : Int)) = false := by simp; omega
  have hlen : len ≤ 500 := by omega
  clear hbig
  go_wp2_with fail
  refine (copy_any a len cap l w3 H4.out (by omega)).mono ?_
  rintro e w4 ⟨g, rfl, own4, hb4⟩
  have HB5 := Lib.hid (below_then HB4.out hb4)
  have H5 := Lib.hid (H4.out.mono hb4)
  have HO := Lib.hid own4
  have hbc := bs_of_own own4 (by omega) len (by omega)
  rw [List.take_append_of_le_length (by rw [HL.out]; exact Nat.le_refl _), List.take_of_length_le (by rw [HL.out]; exact Nat.le_refl _)] at hbc
  have HBC := Lib.hid hbc
  clear own4 hb4 hbc HB4 H4
  by_cases hok : deep d = true ∧ 0 ≤ n ∧ n ≤ 1048576
  rotate_left
  · have hbad : deep d = false ∨ n < 0 ∨ 1048576 < n := by
      cases hq : deep d
      · exact .inl rfl
      · right; rw [hq] at hok; simp only [true_and] at hok; omega
    have HBAD := Lib.hid hbad
    have HBAD2 : Hid (deep d = false ∨ n < 0 ∨ 1048576 < n ∨ (len : Int) ≠ (n * d + 7) / 8) := Lib.hid (by
      rcases hbad with h | h | h
      · exact .inl h
      · exact .inr (.inl h)
      · exact .inr (.inr (.inl h)))
    clear hok hbad
    go_wp2_with fail
    refine (unpack_bad _ len _ d n _ (by omega) HBAD2.out).mono ?_
    rintro e w' ⟨rfl, rfl⟩
    go_wp2_with fail
    refine (refUnpack_out _ _ _ d n _ HBAD.out).mono ?_
    rintro e w' ⟨rfl, rfl⟩
    go_wp2_with fail
    refine (ints_any _ _ _ _ _ _ [] [] _ (is_nil _) (is_nil _) (by omega) (by omega)).mono ?_
    rintro e w' ⟨rfl, dn, rfl⟩
    have H6 := Lib.hid (H5.out.mono (drewN_is w4 dn))
    have HO6 := Lib.hid (own_below HO.out (drewN_is w4 dn))
    have HB6 := Lib.hid (HB5.out.trans ((drewN_is w4 dn).mono HB5.out.size))
    go_wp2_with fail
    refine (is_yes 6 rfl _).mono ?_
    rintro e w' ⟨rfl, rfl⟩
    go_wp2_with fail
    refine (kept_any g len a cap l _ w3.heap.size (by omega) HO6.out H6.out).mono ?_
    rintro e w' ⟨rfl, rfl⟩
    go_wp2
    go_ret
    exact ⟨rfl, HB6.out⟩
  obtain ⟨hd, hn0, hn1⟩ := hok
  obtain ⟨D, rfl, hD⟩ := deep_dp hd
  obtain ⟨N, rfl⟩ := Int.eq_ofNat_of_zero_le hn0
  have hN : N ≤ 1048576 := by omega
  have HRU := Lib.hid (fun w h => refUnpack_any a len cap l D N w hD hN h hlen)
  have hD16 := dp_le hD
  have HNL := Lib.hid (show l.length = len from HL.out)
  have ezz : (N : Int) * (D : Int) = ((N * D : Nat) : Int) := by simp
  by_cases hfit : len = (N * D + 7) / 8
  · have HUG := Lib.hid (fun w h => unpack_good (some ⟨g, 0, none⟩) len (len + 2) l D N w hD hN h hfit)
    have HFIT := Lib.hid hfit
    clear hd hn0 hn1 hD hfit ezz
    go_wp2_with fail
    refine (HUG.out _ HBC.out).mono ?_
    rintro e w5 ⟨v, rfl, own5, hb5⟩
    have HB6 := Lib.hid (below_then HB5.out hb5)
    have H6 := Lib.hid (H5.out.mono hb5)
    have HO6 := Lib.hid (own_below HO.out hb5)
    have HV := Lib.hid own5
    clear own5 hb5 HB5 H5 HO HBC HUG
    go_wp2_with fail
    refine (HRU.out _ H6.out).mono ?_
    rintro e w6 (⟨_, u, rfl, own6, hb6⟩ | ⟨hx, _, _⟩)
    rotate_left
    · exact absurd (HNL.out.trans HFIT.out) hx
    have HWFV := Lib.hid (vals_wf D (by omega) (Bt.rbits true l) N)
    obtain ⟨va, vc, rfl, hv⟩ := own_is (own_below HV.out hb6) HWFV.out
    obtain ⟨ua, uc, rfl, hu⟩ := own_is own6 HWFV.out
    have HVI := Lib.hid hv
    have HUI := Lib.hid hu
    have HB7 := Lib.hid (below_then HB6.out hb6)
    have H7 := Lib.hid (H6.out.mono hb6)
    have HO7 := Lib.hid (own_below HO6.out hb6)
    clear own6 hb6 HB6 H6 HO6 hv hu HV HRU
    go_wp2_with fail
    refine (ints_any _ _ _ _ _ _ _ _ _ HVI.out HUI.out (by omega) (by omega)).mono ?_
    rintro e w' ⟨rfl, dn, rfl⟩
    have H8 := Lib.hid (H7.out.mono (drewN_is w6 dn))
    have HO8 := Lib.hid (own_below HO7.out (drewN_is w6 dn))
    have HB8 := Lib.hid (HB7.out.trans ((drewN_is w6 dn).mono HB7.out.size))
    clear H7 HO7 HB7 HVI HUI
    go_wp2_with fail
    refine (kept_any g len a cap l _ w3.heap.size (by omega) HO8.out H8.out).mono ?_
    rintro e w' ⟨rfl, rfl⟩
    go_wp2
    go_ret
    exact ⟨rfl, HB8.out⟩
  · have HBAD2 : Hid (deep D = false ∨ (N : Int) < 0 ∨ (1048576 : Int) < N ∨ (len : Int) ≠ ((N : Int) * D + 7) / 8) := Lib.hid (.inr (.inr (.inr (by rw [ezz]; omega))))
    have HFIT := Lib.hid hfit
    clear hd hn0 hn1 hD hfit ezz
    go_wp2_with fail
    refine (unpack_bad _ len _ D N _ (by omega) HBAD2.out).mono ?_
    rintro e w' ⟨rfl, rfl⟩
    go_wp2_with fail
    refine (HRU.out _ H5.out).mono ?_
    rintro e w6 (⟨hx, _⟩ | ⟨_, rfl, hb6⟩)
    · exact absurd (HNL.out.symm.trans hx) HFIT.out
    have HB7 := Lib.hid (below_then HB5.out hb6)
    have H7 := Lib.hid (H5.out.mono hb6)
    have HO7 := Lib.hid (own_below HO.out hb6)
    clear hb6 HB5 H5 HO HRU HBC
    go_wp2_with fail
    refine (ints_any _ _ _ _ _ _ [] [] _ (is_nil _) (is_nil _) (by omega) (by omega)).mono ?_
    rintro e w' ⟨rfl, dn, rfl⟩
    have H8 := Lib.hid (H7.out.mono (drewN_is w6 dn))
    have HO8 := Lib.hid (own_below HO7.out (drewN_is w6 dn))
    have HB8 := Lib.hid (HB7.out.trans ((drewN_is w6 dn).mono HB7.out.size))
    clear H7 HO7 HB7
    go_wp2_with fail
    refine (is_yes 6 rfl _).mono ?_
    rintro e w' ⟨rfl, rfl⟩
    go_wp2_with fail
    refine (kept_any g len a cap l _ w3.heap.size (by omega) HO8.out H8.out).mono ?_
    rintro e w' ⟨rfl, rfl⟩
    go_wp2
    go_ret
    exact ⟨rfl, HB8.out⟩
set_option maxRecDepth 100000 in
theorem lifted (os : Os) (started : os.Started) (H : Type) (enc : TypeId × Value → H) :
    ReturnsInHanded {} Try.checked os 4 .any (Rows.sampleUnpacksSpec.pre6 enc Try.prog Try.f4 Rows.sampleUnpacksRow.domain false) (Rows.sampleUnpacksSpec.post enc Try.prog Try.f4 false true false false) := by
  refine returnsInHanded_of_change_sized (C := Try.checked) own started (by kernel_rfl) Try.func4
    (ChangeSpec.witness6 (enc := enc) (C := Try.checked) false ⟨#[], #[.slice none 0 0, .int .i64 0, .int .i64 0], []⟩ 8 (by kernel_rfl) (by kernel_rfl) (by kernel_rfl) (by kernel_rfl)) ?_
  intro W base args ds gs before hval0 hW _ hsz0 _
  have hval : ∀ (j : Nat) t v, Try.f4.params[j]? = some t → args[j]? = some v → Value.okWide Try.prog W .any base t v := hval0
  have hsz : (DataW.weightsEach Try.prog (Try.f4.params.toList ++ Rows.sampleUnpacksSpec.plain.varTypes Try.prog) (ds ++ gs)).all (· ≤ reachBytes) = true := hsz0
  have hW' := hW
  obtain ⟨p, q, hA0, hV, rfl, hfz, hnd⟩ := hW
  have hA : DataW.TrodAll enc Try.prog W 0 (fun _ => true) true Try.f4.params.toList args.toList ds p := hA0
  rw [Try.params4] at hA hval hsz
  obtain ⟨v0, vs0, d0, ds0, p0, q0, hargs, rfl, rfl, h0, r0⟩ := trodAll_cons hA
  obtain ⟨v1, vs1, d1, ds1, p1, q1, rfl, rfl, rfl, h1, r1⟩ := trodAll_cons r0
  obtain ⟨v2, vs2, d2, ds2, p2, q2, rfl, rfl, rfl, h2, r2⟩ := trodAll_cons r1
  obtain ⟨rfl, rfl, rfl⟩ := trodAll_nil r2
  obtain rfl : args = #[v0, v1, v2] := by cases args; simp_all
  obtain ⟨rfl, rfl⟩ := trodVars_none hV
  clear hsz0
  obtain ⟨a0, len0, cap0, rfl⟩ := okWide_slice Try.underlying23 (hval 0 23 v0 rfl rfl)
  have k0 := h0
  have lt0 : ∀ x ∈ p0, x.block < W.heap.size := by obtain ⟨m, hm⟩ := k0; exact DataW.trod_lt m _ _ _ hm
  obtain ⟨l0, w0, c0⟩ := open_bs Try.underlying23 Try.underlying5 (by kernel_rfl) (by kernel_rfl) h0 hsz 0 rfl rfl
  obtain ⟨a1, rfl, rfl, rfl, w1⟩ := open_int Try.underlying3 (hval 1 3 v1 rfl rfl) h1
  obtain ⟨a2, rfl, rfl, rfl, w2⟩ := open_int Try.underlying3 (hval 2 3 v2 rfl rfl) h2
  clear hA0 hval0 hsz
  refine (walk a0 len0 cap0 l0 a1 a2 W w0 c0 w1 w2).mono fun e W' ⟨he, bel⟩ => ?_
  subst he
  exact ⟨_, rfl, _, _, _, [], _, [], hW', trodAll_mk1 (shut_bool Try.underlying4 _), (trodAll_cons_mk (Below.trod laidOut (by kernel_rfl) (of_decide_eq_true (by kernel_rfl)) k0 bel lt0) (trodAll_cons_mk (shut_int Try.underlying3 w1) (trodAll_cons_mk (shut_int Try.underlying3 w2) trodAll_mk0))), rfl, bel.frame _, fun h => by cases h⟩

theorem proved : Rows.SampleUnpacksSaid :=
  OpenClaim.holds_of_wide 4 Try.f4 rfl rfl rfl rfl rfl rfl rfl ⟨rfl, rfl, rfl, rfl, rfl⟩ rfl rfl rfl rfl rfl (by kernel_rfl) Try.func4 (by kernel_rfl)
    (of_decide_eq_true (by kernel_rfl)) (by unfold Func.isWrapper; first | (rw [if_pos (by decide +kernel)]; kernel_rfl) | (rw [if_neg (by decide +kernel)]; exact ⟨rfl, rfl⟩))
    (fun os started H enc _ => lifted os started H enc)
#print axioms proved
end Go.Proofs.Ytkjdekaipphlpaa.SampleUnpacks
