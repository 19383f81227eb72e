/- For all numbers (of more than 5000 nothing is asked), every depth and every byte: what Pack packs, with any left bits, Unpack answers again. No conditions. -/
import Derived.Test.YtkjdekaipphlpaaRows
import Derived.Test.YtkjdekaipphlpaaOpen
import Derived.Test.YtkjdekaipphlpaaSmPack
import Derived.Test.YtkjdekaipphlpaaSmUnpack
import Derived.Test.YtkjdekaipphlpaaSmLow
import Derived.Test.YtkjdekaipphlpaaNumInts
import Derived.Test.YtkjdekaipphlpaaIsLit
namespace Go.Proofs.Ytkjdekaipphlpaa.SampleBack
open Go.ChangeShapes Go.WideShapes Go.ChangeAt Go.RowKit
open Go.ChangeMaps (open_string shut_string)
set_option linter.unusedVariables false
theorem own : ownKnob Try.prog.godebug = none := by kernel_rfl
theorem laidOut : laidOutB Try.prog = true := by kernel_rfl
open Sm
theorem wf_lit {l : List Int} (h : ∀ x ∈ l, 0 ≤ x ∧ x ≤ 1000000000) : Wf l := fun n hn => by
  have := h n hn
  simp [Lit.wf, IntKind.min, IntKind.max, IntKind.signed, IntKind.bits]
  omega
set_option maxRecDepth 100000 in
set_option maxHeartbeats 4000000 in
theorem walk (a : Option Addr) (len cap : Nat) (l : List Int) (d f : Int) (w : World) (h : Is .i64 w a len cap l) (hr : cap * 8 ≤ 140737488351232) (_ : (Lit.int .i64 d).wf = true) (hf : (Lit.int .u8 f).wf = true) :
    Calls Try.prog 5 #[.slice a len cap, .int .i64 d, .int .u8 f] w fun e w' => e = .returned (.bool true) ∧ Below w.heap.size w w' := by
  have hle := h.hle
  have HL := Lib.hid h.hlen
  have hf2 : 0 ≤ f ∧ f ≤ 255 := by simpa [Lit.wf, IntKind.min, IntKind.max, IntKind.signed, IntKind.bits] using hf
  obtain ⟨F, rfl⟩ := Int.eq_ofNat_of_zero_le hf2.1
  have hF : F < 256 := by omega
  have hL1 := is_lit w [1, 2, 3] 3 3 #[Value.int .i64 1, .int .i64 2, .int .i64 3] rfl rfl (wf_lit (by decide))
  have HP1 := Lib.hid (pack_any _ _ _ _ 2 _ (.inr (.inl rfl)) hL1 (by omega))
  have HB1 := Lib.hid (below_alloc w (.cells #[Value.int .i64 1, .int .i64 2, .int .i64 3] 3))
  have H := Lib.hid h
  have HH0 := Lib.hid h
  clear h hL1 hf hf2
  go_enter Try.func5, Try.ntmps5
  go_wp2_with fail
  refine HP1.out.mono ?_
  rintro e w1 (⟨_, v1, rfl, own1, hb1⟩ | ⟨hx, _, _⟩)
  rotate_left
  · exact absurd hx (by decide)
  rw [show row 2 [1, 2, 3] = [0x6c] by decide +kernel] at own1
  obtain ⟨va, vc, rfl, _⟩ := own_bs own1 (by decide)
  have HB2 := Lib.hid (below_then HB1.out hb1)
  have H2 := Lib.hid (H.out.mono HB2.out)
  have hz1 := HB2.out.size
  clear own1 hb1 HP1 HB1 H
  by_cases hbig : 5000 < len
  · have d1 : decide ((5000 : Int) < (len : Int)) = true := by simp; omega
    clear hbig
    go_wp2
    go_ret
    exact ⟨rfl, HB2.out⟩
  have d1 : decide ((5000 : Int) < (len : Int)) = false := by simp; omega
  have hlen : len ≤ 5000 := by omega
  clear hbig
  by_cases hd : deep d = true
  rotate_left
  · have HD : Hid (deep d = false) := Lib.hid (by simpa using hd)
    clear hd
    go_wp2_with fail
    refine (pack_bad _ _ _ d _ (.inl HD.out)).mono ?_
    rintro e w' ⟨rfl, rfl⟩
    go_wp2
    go_ret
    exact ⟨rfl, HB2.out⟩
  obtain ⟨D, rfl, hD⟩ := deep_dp hd
  have HPK := Lib.hid (fun w h => pack_any a len cap l D w hD h (by omega))
  clear hd
  go_wp2_with fail
  refine (HPK.out _ H2.out).mono ?_
  rintro e w2 (⟨hin, v, rfl, own2, hb2⟩ | ⟨hin, rfl, hb2⟩)
  rotate_left
  · have HB3 := Lib.hid (below_then HB2.out hb2)
    clear hb2
    go_wp2
    go_ret
    exact ⟨rfl, HB3.out⟩
  have HB3 := Lib.hid (below_then HB2.out hb2)
  have H3 := Lib.hid (H2.out.mono hb2)
  have HO := Lib.hid own2
  have HIN := Lib.hid hin
  have hrl := row_length D l
  have HD := Lib.hid hD
  clear hb2 own2 hin HB2 H2 HPK
  rw [HL.out] at hrl
  have HRL := Lib.hid hrl
  have hz : len * D ≤ 5000 * 16 := Nat.mul_le_mul hlen (dp_le hD).2
  have hrl8 : (row D l).length ≤ 281474976710656 := by omega
  by_cases hk0 : (len * D) % 8 = 0
  · obtain ⟨va2, vc2, rfl, hbv⟩ := own_bs HO.out hrl8
    have HUN : Hid (Calls Try.prog 14 #[.slice va2 (row D l).length vc2, .int .i64 D, .int .i64 len] w2 fun e w' => ∃ v, e = .returned (.tuple #[v, .nilIface]) ∧ (∃ b, w'.ownsRow b 3 1 v len (ivs l)) ∧ Below w.heap.size w w') := Lib.hid (by
      refine (unpack_good va2 _ vc2 (row D l) D len w2 HD.out (by omega) hbv hrl).mono ?_
      rintro e w' ⟨v, rfl, own, hb⟩
      have := back_row D l HIN.out
      rw [HL.out] at this
      rw [this] at own
      exact ⟨v, rfl, ⟨_, own⟩, below_then HB3.out hb⟩)
    clear hbv hrl HRL hz hrl8 HO
    generalize (row D l).length = rl at *
    rcases hD with rfl | rfl | rfl | rfl | rfl
    all_goals
      simp only [Int.natCast_one, Int.cast_ofNat_Int] at HUN ⊢
      go_wp2_with fail
      refine HUN.out.mono ?_
      rintro e w3 ⟨v3, rfl, ⟨b3, own3⟩, hb3⟩
      obtain ⟨va3, vc3, rfl, hi3⟩ := own_is own3 HH0.out.wf
      have HI3 := Lib.hid hi3
      have HH3 := Lib.hid (HH0.out.mono hb3)
      have HB9 := Lib.hid hb3
      clear own3 hi3 hb3
      go_wp2_with fail
      refine (ints_any _ _ _ _ _ _ l l _ HI3.out HH3.out (by omega) (by omega)).mono ?_
      rintro e w' ⟨rfl, dn, rfl⟩
      have HFB := Lib.hid (HB9.out.trans ((drewN_is w3 dn).mono HB9.out.size))
      go_wp2
      go_ret
      exact ⟨by simp, HFB.out⟩
  obtain ⟨q, hq⟩ : ∃ q, q = len * D / 8 := ⟨_, rfl⟩
  have hq1 : (row D l).length = q + 1 := by omega
  rw [hq1] at HO
  rcases own_nil_or HO.out with ⟨_, hx⟩ | ⟨g, cap2, rfl, hlc, hbg, hgl, _⟩
  · omega
  have o1 : w2.cell? ⟨g, q, none⟩ = some (.int .u8 (gb (row D l) q)) := by
    rw [HO.out.cellAt q (by omega), bvs_get _ _ (by rw [hq1]; omega)]
  have o2 : w2.frozen? ⟨g, q, none⟩ = false := own_frozen HO.out q
  have hx8 := gb_lt (row D l) q
  have HUN : Hid (∀ V : Int, V = ((gb (row D l) q ||| (F &&& (2 ^ (8 - len * D % 8) - 1)) : Nat) : Int) → Calls Try.prog 14 #[.slice (some ⟨g, 0, none⟩) (q + 1) cap2, .int .i64 D, .int .i64 len] (w2.setCell ⟨g, q, none⟩ (.int .u8 V)) fun e w' => ∃ v, e = .returned (.tuple #[v, .nilIface]) ∧ (∃ b, w'.ownsRow b 3 1 v len (ivs l)) ∧ Below w.heap.size w w') := Lib.hid (fun V hV => by
    have hlow := and_low F (8 - len * D % 8)
    have hbk := back_low D l HIN.out (F &&& (2 ^ (8 - len * D % 8) - 1)) (by rw [HL.out]; omega) (by rw [HL.out]; exact hlow)
    rw [HL.out, ← hq] at hbk
    have hm8 : F &&& (2 ^ (8 - len * D % 8) - 1) < 256 := Nat.lt_of_le_of_lt Nat.and_le_left hF
    have hv8 : gb (row D l) q ||| (F &&& (2 ^ (8 - len * D % 8) - 1)) < 256 := Nat.or_lt_two_pow (n := 8) hx8 hm8
    rw [hV]
    generalize (gb (row D l) q ||| (F &&& (2 ^ (8 - len * D % 8) - 1))) = y at *
    have hs := (HO.out.stored q (.int .u8 ((y : Nat) : Int))).1
    have es : (bvs (row D l)).set q (.int .u8 ((y : Nat) : Int)) = bvs ((row D l).set q (UInt8.ofNat y)) := by
      rw [← bvs_set, Nat.mod_eq_of_lt hv8]
    rw [es] at hs
    obtain ⟨va2, vc2, e2, hbv⟩ := own_bs hs (by omega)
    cases e2
    refine (unpack_good _ _ _ ((row D l).set q (UInt8.ofNat y)) D len _ HD.out (by omega) hbv (by omega)).mono ?_
    rintro e w' ⟨v, rfl, own, hb⟩
    rw [hbk] at own
    exact ⟨v, rfl, ⟨_, own⟩, below_then (HB3.out.setCell (p := ⟨g, q, none⟩) (Nat.le_trans hz1 hbg) _) hb⟩)
  clear hrl hq1 hq HRL hrl8
  generalize gb (row D l) q = x at *
  rcases hD with rfl | rfl | rfl | rfl | rfl
  all_goals first | (exfalso; omega) | skip
  all_goals
    simp only [Int.natCast_one, Int.cast_ofNat_Int, Nat.mul_one] at HUN hk0 hz ⊢
    go_wp2_with fail
    refine (HUN.out _ (low_val _ _ _ hx8 hF (by omega))).mono ?_
    rintro e w3 ⟨v3, rfl, ⟨b3, own3⟩, hb3⟩
    obtain ⟨va3, vc3, rfl, hi3⟩ := own_is own3 HH0.out.wf
    have HI3 := Lib.hid hi3
    have HH3 := Lib.hid (HH0.out.mono hb3)
    have HB9 := Lib.hid hb3
    clear own3 hi3 hb3
    go_wp2_with fail
    refine (ints_any _ _ _ _ _ _ l l _ HI3.out HH3.out (by omega) (by omega)).mono ?_
    rintro e w' ⟨rfl, dn, rfl⟩
    have HFB := Lib.hid (HB9.out.trans ((drewN_is w3 dn).mono HB9.out.size))
    go_wp2
    go_ret
    exact ⟨by simp, HFB.out⟩
set_option maxRecDepth 100000 in
theorem lifted (os : Os) (started : os.Started) (H : Type) (enc : TypeId × Value → H) :
    ReturnsInHanded {} Try.checked os 5 .any (Rows.sampleBackSpec.pre6 enc Try.prog Try.f5 Rows.sampleBackRow.domain false) (Rows.sampleBackSpec.post enc Try.prog Try.f5 false true false false) := by
  refine returnsInHanded_of_change_sized (C := Try.checked) own started (by kernel_rfl) Try.func5
    (ChangeSpec.witness6 (enc := enc) (C := Try.checked) false ⟨#[], #[.slice none 0 0, .int .i64 0, .int .u8 0], []⟩ 8 (by kernel_rfl) (by kernel_rfl) (by kernel_rfl) (by kernel_rfl)) ?_
  intro W base args ds gs before hval0 hW _ hsz0 _
  have hval : ∀ (j : Nat) t v, Try.f5.params[j]? = some t → args[j]? = some v → Value.okWide Try.prog W .any base t v := hval0
  have hsz : (DataW.weightsEach Try.prog (Try.f5.params.toList ++ Rows.sampleBackSpec.plain.varTypes Try.prog) (ds ++ gs)).all (· ≤ reachBytes) = true := hsz0
  have hW' := hW
  obtain ⟨p, q, hA0, hV, rfl, hfz, hnd⟩ := hW
  have hA : DataW.TrodAll enc Try.prog W 0 (fun _ => true) true Try.f5.params.toList args.toList ds p := hA0
  rw [Try.params5] at hA hval hsz
  obtain ⟨v0, vs0, d0, ds0, p0, q0, hargs, rfl, rfl, h0, r0⟩ := trodAll_cons hA
  obtain ⟨v1, vs1, d1, ds1, p1, q1, rfl, rfl, rfl, h1, r1⟩ := trodAll_cons r0
  obtain ⟨v2, vs2, d2, ds2, p2, q2, rfl, rfl, rfl, h2, r2⟩ := trodAll_cons r1
  obtain ⟨rfl, rfl, rfl⟩ := trodAll_nil r2
  obtain rfl : args = #[v0, v1, v2] := by cases args; simp_all
  obtain ⟨rfl, rfl⟩ := trodVars_none hV
  clear hsz0
  obtain ⟨a0, len0, cap0, rfl⟩ := okWide_slice Try.underlying22 (hval 0 22 v0 rfl rfl)
  have k0 := h0
  have lt0 : ∀ x ∈ p0, x.block < W.heap.size := by obtain ⟨m, hm⟩ := k0; exact DataW.trod_lt m _ _ _ hm
  obtain ⟨l0, w0, c0⟩ := open_is (by' := 8) Try.underlying22 Try.underlying3 (by kernel_rfl) (by kernel_rfl) h0 hsz 0 rfl rfl
  obtain ⟨a1, rfl, rfl, rfl, w1⟩ := open_int Try.underlying3 (hval 1 3 v1 rfl rfl) h1
  obtain ⟨a2, rfl, rfl, rfl, w2⟩ := open_int Try.underlying5 (hval 2 5 v2 rfl rfl) h2
  clear hA0 hval0 hsz
  refine (walk a0 len0 cap0 l0 a1 a2 W w0 c0 w1 w2).mono fun e W' ⟨he, bel⟩ => ?_
  subst he
  exact ⟨_, rfl, _, _, _, [], _, [], hW', trodAll_mk1 (shut_bool Try.underlying4 _), (trodAll_cons_mk (Below.trod laidOut (by kernel_rfl) (of_decide_eq_true (by kernel_rfl)) k0 bel lt0) (trodAll_cons_mk (shut_int Try.underlying3 w1) (trodAll_cons_mk (shut_int Try.underlying5 w2) trodAll_mk0))), rfl, bel.frame _, fun h => by cases h⟩

theorem proved : Rows.SampleBackSaid :=
  OpenClaim.holds_of_wide 5 Try.f5 rfl rfl rfl rfl rfl rfl rfl ⟨rfl, rfl, rfl, rfl, rfl⟩ rfl rfl rfl rfl rfl (by kernel_rfl) Try.func5 (by kernel_rfl)
    (of_decide_eq_true (by kernel_rfl)) (by unfold Func.isWrapper; first | (rw [if_pos (by decide +kernel)]; kernel_rfl) | (rw [if_neg (by decide +kernel)]; exact ⟨rfl, rfl⟩))
    (fun os started H enc _ => lifted os started H enc)
#print axioms proved
end Go.Proofs.Ytkjdekaipphlpaa.SampleBack
