/- For all bytes and every size, sums.Take answers the number, the error and the rest that the document does; put again they come to the bytes; the rest is new memory, and the bytes are left as they were. No conditions. -/
import Derived.Test.YtpehficaadckgaaRows
import Derived.Test.YtpehficaadckgaaOpen
import Derived.Test.YtpehficaadckgaaSumsTakeOf
import Derived.Test.YtpehficaadckgaaNumSame
import Derived.Test.YtpehficaadckgaaApart2
namespace Go.Proofs.Ytpehficaadckgaa.SumsTake
open Go.ChangeShapes Go.WideShapes Go.ChangeAt Go.RowKit
open Go.ChangeMaps (open_string shut_string)
set_option linter.unusedVariables false
theorem own : ownKnob Try.prog.godebug = none := by kernel_rfl
theorem laidOut : laidOutB Try.prog = true := by kernel_rfl
theorem take_three : Pt.num (([1, 44, 7] : List UInt8).take 2) = 300 := by decide
set_option maxHeartbeats 1000000 in
theorem walk (a : Option Addr) (len cap : Nat) (l : List UInt8) (size : Int) (w : World) (h : Bs w a len cap l) (hr : cap ≤ 140737488351232) (hw : (Lit.int .i64 size).wf = true) :
    Calls Try.prog 8 #[.slice a len cap, .int .i64 size] w fun e w' => e = .returned (.bool true) ∧ Below w.heap.size w w' := by
  have hle := h.hle
  have HL := Lib.hid h.hlen
  have H := Lib.hid h
  clear h
  go_enter Try.func8, Try.ntmps8
  go_wp2_with fail
  have hb0 := bs_new w _ rfl [1, 44, 7] 5 (0, 0) 3 rfl (by omega) _ rfl
  refine (take_ok _ _ _ 2 [1, 44, 7] _ hb0 (by omega) (by omega) (by omega) (by omega)).mono ?_
  rintro e w1 ⟨v1, rfl, ho1, hb1⟩
  obtain ⟨a1, c1, rfl⟩ := own_val ho1
  have hb1 := below_then (below_alloc w _) hb1
  rw [take_three]
  clear hb0 ho1
  go_wp2_with fail
  refine (copy_any _ _ _ l _ (H.out.mono hb1) (by omega)).mono ?_
  rintro e w2 ⟨g, rfl, hown2, hb2⟩
  have hz2 := hb1.size
  have hown2 := own_base (base' := w.heap.size) hown2 (fun g' hg' => Nat.le_trans hz2 (hown2.lt g' hg').1)
  have hb2 := below_then hb1 hb2
  have O2 := Lib.hid hown2
  clear hown2 hb1 hz2
  by_cases hsz : size < 1 ∨ 4 < size
  · have HZ := Lib.hid hsz
    clear hsz
    go_wp2_with fail
    refine (take_form _ _ _ _ _ HZ.out).mono ?_
    rintro e w' ⟨rfl, rfl⟩
    go_wp2_with fail
    refine (refTake_form _ _ _ _ _ HZ.out).mono ?_
    rintro e w' ⟨rfl, rfl⟩
    go_wp2_with fail
    refine (num_err 6 rfl _).mono ?_
    rintro e w' ⟨rfl, rfl⟩
    go_wp2_with fail
    refine (kept_any g len _ _ l _ _ (by omega) O2.out (H.out.mono hb2)).mono ?_
    rintro e w' ⟨rfl, rfl⟩
    go_wp2_with fail
    go_ret
    exact ⟨rfl, hb2⟩
  obtain ⟨s, rfl⟩ := Int.eq_ofNat_of_zero_le (show 0 ≤ size by omega)
  have h1 : 1 ≤ s := by omega
  have h4 : s ≤ 4 := by omega
  clear hsz
  by_cases hls : len < s
  · go_wp2_with fail
    refine (take_end _ _ _ s _ h1 h4 hls).mono ?_
    rintro e w' ⟨rfl, rfl⟩
    go_wp2_with fail
    refine (refTake_end _ _ _ s _ h1 h4 hls).mono ?_
    rintro e w' ⟨rfl, rfl⟩
    go_wp2_with fail
    refine (num_err 8 rfl _).mono ?_
    rintro e w' ⟨rfl, rfl⟩
    go_wp2_with fail
    refine (kept_any g len _ _ l _ _ (by omega) O2.out (H.out.mono hb2)).mono ?_
    rintro e w' ⟨rfl, rfl⟩
    go_wp2_with fail
    go_ret
    exact ⟨rfl, hb2⟩
  · have hm := bs_of_own O2.out (by omega) len (by omega)
    rw [List.take_append_of_le_length (by rw [HL.out]; exact Nat.le_refl _), List.take_of_length_le (by rw [HL.out]; exact Nat.le_refl _)] at hm
    go_wp2_with fail
    refine (take_ok _ _ _ s l _ hm (by omega) h1 h4 (by omega)).mono ?_
    rintro e w3 ⟨v3, rfl, ho3, hb3⟩
    have O3 := Lib.hid (own_below O2.out hb3)
    have hg3 : ∀ g', v3.ownBlock = some g' → (Value.slice (some ⟨g, 0, none⟩) len (len + 2)).ownBlock ≠ some g' := by
      intro g' hg' he
      have h1 := (ho3.lt g' hg').1
      have h2 := (O2.out.lt g rfl).2
      simp only [Value.ownBlock, Option.some.injEq] at he
      omega
    have hz2 := hb2.size
    have ho3 := own_base (base' := w.heap.size) ho3 (fun g' hg' => Nat.le_trans hz2 (ho3.lt g' hg').1)
    have hb3 := below_then hb2 hb3
    obtain ⟨a3, c3, rfl, hbs3⟩ := own_bs ho3 (by omega)
    have R3 := Lib.hid ho3
    have B3 := Lib.hid hbs3
    have HG := Lib.hid hg3
    clear hm O2 hb2 hz2 ho3 hbs3 hg3
    go_wp2_with fail
    refine (refTake_ok _ _ _ s l _ (H.out.mono hb3) h1 h4 (by omega)).mono ?_
    rintro e w' ⟨rfl, rfl⟩
    have HQ : Hid (Pt.num (l.take s) < 256 ^ s) := Lib.hid (by have := Pt.num_lt (l.take s); rwa [show (l.take s).length = s by rw [List.length_take, HL.out]; omega] at this)
    have HDN : Hid (Pt.dig s (Pt.num (l.take s)) = l.take s) := Lib.hid (by have := Pt.dig_num (l.take s); rwa [show (l.take s).length = s by rw [List.length_take, HL.out]; omega] at this)
    generalize Pt.num (l.take s) = q at *
    go_wp2_with fail
    refine (num_nil _).mono ?_
    rintro e w' ⟨rfl, rfl⟩
    go_wp2_with fail
    refine (kept_any g len _ _ l _ _ (by omega) O3.out (H.out.mono hb3)).mono ?_
    rintro e w' ⟨rfl, rfl⟩
    go_wp2_with fail
    refine (put_ok _ _ _ [] s q _ (bs_nil _) (by omega) (by omega) HQ.out).mono ?_
    rintro e w4 ⟨g4, rfl, ho4, hb4⟩
    rw [HDN.out] at ho4
    have O4 := Lib.hid (own_below O3.out hb4)
    have R4 := Lib.hid (own_below R3.out hb4)
    have B4 := B3.out.mono hb4
    have hb4 := below_then hb3 hb4
    obtain ⟨a5, c5, e5, hbs5⟩ := own_bs ho4 (by omega)
    simp only [Value.slice.injEq] at e5
    obtain ⟨rfl, _, rfl⟩ := e5
    have k1 := conv_bs (P := Try.prog) hbs5 22 9 5 Try.underlying22 Try.underlying5 Try.underlying9
    have k2 := conv_bs (P := Try.prog) B4 22 9 5 Try.underlying22 Try.underlying5 Try.underlying9
    have k3 := conv_bs (P := Try.prog) (H.out.mono hb4) 22 9 5 Try.underlying22 Try.underlying5 Try.underlying9
    rw [Nat.zero_add, List.nil_append] at k1
    have kj : ((str (l.take s) ++ str (l.drop s)).toList == (str l).toList) = true := by
      rw [ByteArray.toList_eq, ByteArray.data_append, Array.toList_append, str_data, str_data, str_list, List.take_append_drop]
      simp
    have kz1 : (str (l.take s)).size ≤ 140737488351232 := by rw [str_size, List.length_take]; omega
    have kz2 : (str (l.drop s)).size ≤ 140737488351232 := by rw [str_size, List.length_drop, HL.out]; omega
    clear hbs5 B4 ho4 hb3 O3 R3 B3
    go_wp2_with fail
    have C4 := own_prefix O4.out len (by omega)
    have ep : (bvs (l ++ [165, 90])).take len = bvs l := by
      rw [bvs_append, List.take_append_of_le_length (by rw [bvs_length, HL.out]; exact Nat.le_refl _), List.take_of_length_le (by rw [bvs_length, HL.out]; exact Nat.le_refl _)]
    rw [ep] at C4
    refine (apart2 w.heap.size _ _ _ _ _ (l.drop s) l _ rfl hb4.size R4.out C4 HG.out (by omega) (by omega)).mono ?_
    rintro e w5 ⟨rfl, hb5⟩
    go_wp2_with fail
    go_ret
    exact ⟨rfl, hb4.trans hb5⟩
set_option maxRecDepth 100000 in
theorem lifted (os : Os) (started : os.Started) (H : Type) (enc : TypeId × Value → H) :
    ReturnsInHanded {} Try.checked os 8 .any (Rows.sumsTakeSpec.pre6 enc Try.prog Try.f8 Rows.sumsTakeRow.domain false) (Rows.sumsTakeSpec.post enc Try.prog Try.f8 false true false false) := by
  refine returnsInHanded_of_change_sized (C := Try.checked) own started (by kernel_rfl) Try.func8
    (ChangeSpec.witness6 (enc := enc) (C := Try.checked) false ⟨#[], #[.slice none 0 0, .int .i64 0], []⟩ 8 (by kernel_rfl) (by kernel_rfl) (by kernel_rfl) (by kernel_rfl)) ?_
  intro W base args ds gs before hval0 hW _ hsz0 _
  have hval : ∀ (j : Nat) t v, Try.f8.params[j]? = some t → args[j]? = some v → Value.okWide Try.prog W .any base t v := hval0
  have hsz : (DataW.weightsEach Try.prog (Try.f8.params.toList ++ Rows.sumsTakeSpec.plain.varTypes Try.prog) (ds ++ gs)).all (· ≤ reachBytes) = true := hsz0
  have hW' := hW
  obtain ⟨p, q, hA0, hV, rfl, hfz, hnd⟩ := hW
  have hA : DataW.TrodAll enc Try.prog W 0 (fun _ => true) true Try.f8.params.toList args.toList ds p := hA0
  rw [Try.params8] at hA hval hsz
  obtain ⟨v0, vs0, d0, ds0, p0, q0, hargs, rfl, rfl, h0, r0⟩ := trodAll_cons hA
  obtain ⟨v1, vs1, d1, ds1, p1, q1, rfl, rfl, rfl, h1, r1⟩ := trodAll_cons r0
  obtain ⟨rfl, rfl, rfl⟩ := trodAll_nil r1
  obtain rfl : args = #[v0, v1] := by cases args; simp_all
  obtain ⟨rfl, rfl⟩ := trodVars_none hV
  clear hsz0
  obtain ⟨a0, len0, cap0, rfl⟩ := okWide_slice Try.underlying22 (hval 0 22 v0 rfl rfl)
  have k0 := h0
  have lt0 : ∀ x ∈ p0, x.block < W.heap.size := by obtain ⟨m, hm⟩ := k0; exact DataW.trod_lt m _ _ _ hm
  obtain ⟨l0, w0, c0⟩ := open_bs Try.underlying22 Try.underlying5 (by kernel_rfl) (by kernel_rfl) h0 hsz 0 rfl rfl
  obtain ⟨a1, rfl, rfl, rfl, w1⟩ := open_int Try.underlying3 (hval 1 3 v1 rfl rfl) h1
  clear hA0 hval0 hsz
  refine (walk a0 len0 cap0 l0 a1 W w0 c0 w1).mono fun e W' ⟨he, bel⟩ => ?_
  subst he
  exact ⟨_, rfl, _, _, _, [], _, [], hW', trodAll_mk1 (shut_bool Try.underlying4 _), (trodAll_cons_mk (Below.trod laidOut (by kernel_rfl) (of_decide_eq_true (by kernel_rfl)) k0 bel lt0) (trodAll_cons_mk (shut_int Try.underlying3 w1) trodAll_mk0)), rfl, bel.frame _, fun h => by cases h⟩

theorem proved : Rows.SumsTakeSaid :=
  OpenClaim.holds_of_wide 8 Try.f8 rfl rfl rfl rfl rfl rfl rfl ⟨rfl, rfl, rfl, rfl, rfl⟩ rfl rfl rfl rfl rfl (by kernel_rfl) Try.func8 (by kernel_rfl)
    (of_decide_eq_true (by kernel_rfl)) (by unfold Func.isWrapper; first | (rw [if_pos (by decide +kernel)]; kernel_rfl) | (rw [if_neg (by decide +kernel)]; exact ⟨rfl, rfl⟩))
    (fun os started H enc _ => lifted os started H enc)
#print axioms proved
end Go.Proofs.Ytpehficaadckgaa.SumsTake
