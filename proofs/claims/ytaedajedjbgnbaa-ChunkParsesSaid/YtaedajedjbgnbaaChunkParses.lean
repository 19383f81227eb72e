/- For all bytes Parse answers the chunks, or the error, that the document does, leaves the bytes as they were, and its chunks stay as they are when the bytes are written over. Of more than 10000 bytes nothing is asked. No conditions. -/
import Derived.Test.YtaedajedjbgnbaaRows
import Derived.Test.YtaedajedjbgnbaaOpen
import Derived.Test.YtaedajedjbgnbaaCkSame
import Derived.Test.YtaedajedjbgnbaaCkRefParse
import Derived.Test.YtaedajedjbgnbaaNumErr
import Derived.Test.YtaedajedjbgnbaaOver
namespace Go.Proofs.Ytaedajedjbgnbaa.ChunkParses
open Go.ChangeShapes Go.WideShapes Go.ChangeAt Go.RowKit
open Go.ChangeMaps (open_string shut_string)
set_option linter.unusedVariables false
theorem own : ownKnob Try.prog.godebug = none := by kernel_rfl
theorem laidOut : laidOutB Try.prog = true := by kernel_rfl
set_option maxRecDepth 100000 in
set_option maxHeartbeats 4000000 in
theorem walk (a : Option Addr) (len cap : Nat) (l : List UInt8) (w : World) (h : Bs w a len cap l) (hr : cap ≤ 140737488351232) :
    Calls Try.prog 3 #[.slice a len cap] w fun e w' => e = .returned (.bool true) ∧ Below w.heap.size w w' := by
  have hle := h.hle
  have HL := Lib.hid h.hlen
  have H := Lib.hid h
  clear h
  go_enter Try.func3, Try.ntmps3
  go_wp2_with fail
  refine (alive12_any w).mono ?_
  rintro e w1 ⟨rfl, hb1⟩
  have HB1 := Lib.hid hb1
  clear hb1
  by_cases hbig : 10000 < len
  · have dx : decide (10000 < (len : Int)) = true := by simp; omega
    clear hbig
    go_wp2
    go_ret
    exact ⟨rfl, HB1.out⟩
  have dx : decide (10000 < (len : Int)) = false := by simp; omega
  go_wp2_with fail
  refine (copy_any _ _ _ l _ (H.out.mono HB1.out) (by omega)).mono ?_
  rintro e w2 ⟨g, rfl, own2, hb2⟩
  have HB2 := Lib.hid (below_then HB1.out hb2)
  have hm2 := bs_of_own own2 (by omega) len (by omega)
  rw [List.take_append_of_le_length (by rw [HL.out]; exact Nat.le_refl _), List.take_of_length_le (by rw [HL.out]; exact Nat.le_refl _)] at hm2
  have HM2 := Lib.hid hm2
  have HO2 := Lib.hid own2
  have hgl := (own2.lt g rfl).2
  clear own2 hb2 hm2
  go_wp2_with fail
  refine (parse_any _ _ _ l w2 HM2.out).mono ?_
  rintro e w3 ⟨hb3, hok, hbad⟩
  have HO3 := Lib.hid (own_below HO2.out hb3)
  have HB3 := Lib.hid (below_then HB2.out hb3)
  have hz3 := hb3.size
  have HRP := Lib.hid (refParse_any a len cap l w3 (H.out.mono HB3.out))
  by_cases h0 : (Ck.parse l).1 = 0
  · obtain ⟨v, ms, rfl, hls, hc⟩ := hok h0
    have HLS3 := Lib.hid hls
    have HC := Lib.hid hc
    have H0 := Lib.hid h0
    clear hok hbad hls hc hb3 h0 HO2 HM2
    go_wp2_with fail
    refine HRP.out.mono ?_
    rintro e w4 ⟨hb4, hok, _⟩
    obtain ⟨v4, ms4, rfl, hls4, hc4⟩ := hok H0.out
    have HLS4 := Lib.hid (HLS3.out.below hb4)
    have HRS4 := Lib.hid hls4
    have HCE := Lib.hid (show cps ms = cps ms4 by rw [HC.out, hc4])
    have HO4 := Lib.hid (own_below HO3.out hb4)
    have HB4 := Lib.hid (below_then HB3.out hb4)
    have hz4 := hb4.size
    obtain ⟨a3, c3, rfl, hcs3⟩ := HLS4.out.cs
    obtain ⟨a4, c4, rfl, hcs4⟩ := hls4.cs
    have hml : ms.length ≤ 140737488355328 ∧ ms4.length ≤ 140737488355328 := by
      obtain ⟨hgd, _, hsz⟩ := Ck.wr_parse H0.out
      have h1 := Ck.length_le_size (Ck.parse l).2
      have h2 := congrArg List.length HC.out
      have h3 := congrArg List.length hc4
      rw [cps_length] at h2 h3
      omega
    have HSM := Lib.hid (refSame_any a3 a4 _ c3 _ c4 ms ms4 w4 hcs3 hcs4 hml.1 hml.2)
    rw [show decide (cps ms = cps ms4) = true from decide_eq_true HCE.out] at HSM
    have HML := Lib.hid hml
    clear hok hb4 hls4 hc4 hcs3 hcs4 hml HRP HC H0 HLS3 HO3
    go_wp2_with fail
    refine HSM.out.mono ?_
    rintro e w5 ⟨rfl, n5, rfl⟩
    go_wp2_with fail
    refine (num_nil _).mono ?_
    rintro e w' ⟨rfl, rfl⟩
    have hbd := drewN_is w4 n5
    have HB5 := Lib.hid (HB4.out.trans (hbd.mono HB4.out.size))
    have HO5 := Lib.hid (own_below HO4.out hbd)
    have HLS5 := Lib.hid (HLS4.out.below hbd)
    have HRS5 := Lib.hid (HRS4.out.below hbd)
    have hz5 : (w4.drewN n5).heap.size = w4.heap.size := rfl
    go_wp2_with fail
    refine (kept_any g len a cap l _ _ (by omega) HO5.out (H.out.mono HB5.out)).mono ?_
    rintro e w' ⟨rfl, rfl⟩
    obtain ⟨w6, hw6⟩ : ∃ w6, w4.drewN n5 = w6 := ⟨_, rfl⟩
    rw [hw6] at HB5 HO5 HLS5 HRS5 hz5 ⊢
    have hov := own_prefix HO5.out len (by omega)
    have ep : (bvs (l ++ [165, 90])).take len = bvs l := by
      rw [bvs_append, List.take_append_of_le_length (by rw [bvs_length, HL.out]; exact Nat.le_refl _), List.take_of_length_le (by rw [bvs_length, HL.out]; exact Nat.le_refl _)]
    rw [ep] at hov
    have HOV := Lib.hid (over_any w1.heap.size _ len l w6 hov)
    clear hov ep hbd hw6 HSM HLS4 HRS4 HO4 HB4
    go_wp2_with fail
    refine HOV.out.mono ?_
    rintro e w7 ⟨rfl, hc7⟩
    have hg1 := (HO5.out.lt g rfl).1
    have HB7 : Hid (Below w.heap.size w w7) := Lib.hid (HB5.out.trans (hc7.below HB5.out.size (fun k hk => by
      simp only [Value.ownBlock, Option.some.injEq] at hk
      have := HB1.out.size
      omega)))
    have hl7 := HLS5.out.ch hc7 (fun k hk => by simp only [Value.ownBlock, Option.some.injEq] at hk; omega)
    have hr7 := HRS5.out.ch hc7 (fun k hk => by simp only [Value.ownBlock, Option.some.injEq] at hk; omega)
    obtain ⟨a5, c5, e5, hcs5⟩ := hl7.cs
    obtain ⟨a6, c6, e6, hcs6⟩ := hr7.cs
    simp only [Value.slice.injEq, true_and] at e5 e6
    obtain ⟨rfl, rfl⟩ := e5
    obtain ⟨rfl, rfl⟩ := e6
    have HSM := Lib.hid (refSame_any a3 a4 _ c3 _ c4 ms ms4 w7 hcs5 hcs6 HML.out.1 HML.out.2)
    rw [show decide (cps ms = cps ms4) = true from decide_eq_true HCE.out] at HSM
    clear hc7 hl7 hr7 hcs5 hcs6 HOV hz5
    go_wp2_with fail
    refine HSM.out.mono ?_
    rintro e w8 ⟨rfl, n8, rfl⟩
    have HB8 := Lib.hid (HB7.out.trans ((drewN_is w7 n8).mono HB7.out.size))
    go_wp2
    go_ret
    exact ⟨rfl, HB8.out⟩
  · have he := hbad h0
    obtain ⟨n, hn⟩ : ∃ n, (Ck.parse l).1 = n := ⟨_, rfl⟩
    rw [hn] at he h0
    subst he
    have HN := Lib.hid hn
    have HN0 := Lib.hid h0
    clear hok hbad hb3 hn h0 HO2 HM2
    go_wp2_with fail
    refine HRP.out.mono ?_
    rintro e w4 ⟨hb4, _, hbad⟩
    have he := hbad (by rw [HN.out]; exact HN0.out)
    rw [HN.out] at he
    subst he
    have HO4 := Lib.hid (own_below HO3.out hb4)
    have HB4 := Lib.hid (below_then HB3.out hb4)
    have hz4 := hb4.size
    have HSM := Lib.hid (fun w' => refSame_any none none 0 0 0 0 [] [] w' (cs_nil w') (cs_nil w') (by omega) (by omega))
    rw [show decide (cps [] = cps []) = true from decide_eq_true rfl] at HSM
    clear hbad hb4 HRP HO3
    go_wp2_with fail
    refine (HSM.out _).mono ?_
    rintro e w5 ⟨rfl, n5, rfl⟩
    have hnn : (((n : Nat) : Int) == 0) = false := by simp; exact HN0.out
    have HNU := Lib.hid (num_err (n : Int) hnn (w4.drewN n5))
    clear hnn
    go_wp2_with fail
    refine HNU.out.mono ?_
    rintro e w' ⟨rfl, rfl⟩
    have hbd := drewN_is w4 n5
    have HB5 := Lib.hid (HB4.out.trans (hbd.mono HB4.out.size))
    have HO5 := Lib.hid (own_below HO4.out hbd)
    go_wp2_with fail
    refine (kept_any g len a cap l _ _ (by omega) HO5.out (H.out.mono HB5.out)).mono ?_
    rintro e w' ⟨rfl, rfl⟩
    obtain ⟨w6, hw6⟩ : ∃ w6, w4.drewN n5 = w6 := ⟨_, rfl⟩
    rw [hw6] at HB5 HO5 ⊢
    have hov := own_prefix HO5.out len (by omega)
    have ep : (bvs (l ++ [165, 90])).take len = bvs l := by
      rw [bvs_append, List.take_append_of_le_length (by rw [bvs_length, HL.out]; exact Nat.le_refl _), List.take_of_length_le (by rw [bvs_length, HL.out]; exact Nat.le_refl _)]
    rw [ep] at hov
    have HOV := Lib.hid (over_any w1.heap.size _ len l w6 hov)
    clear hov ep hbd hw6 HO4 HB4 HNU
    go_wp2_with fail
    refine HOV.out.mono ?_
    rintro e w7 ⟨rfl, hc7⟩
    have hg1 := (HO5.out.lt g rfl).1
    have HB7 : Hid (Below w.heap.size w w7) := Lib.hid (HB5.out.trans (hc7.below HB5.out.size (fun k hk => by
      simp only [Value.ownBlock, Option.some.injEq] at hk
      have := HB1.out.size
      omega)))
    clear hc7 HOV
    go_wp2_with fail
    refine (HSM.out _).mono ?_
    rintro e w8 ⟨rfl, n8, rfl⟩
    have HB8 := Lib.hid (HB7.out.trans ((drewN_is w7 n8).mono HB7.out.size))
    go_wp2
    go_ret
    exact ⟨rfl, HB8.out⟩
set_option maxRecDepth 100000 in
theorem lifted (os : Os) (started : os.Started) (H : Type) (enc : TypeId × Value → H) :
    ReturnsInHanded {} Try.checked os 3 .any (Rows.chunkParsesSpec.pre6 enc Try.prog Try.f3 Rows.chunkParsesRow.domain false) (Rows.chunkParsesSpec.post enc Try.prog Try.f3 false true false false) := by
  refine returnsInHanded_of_change_sized (C := Try.checked) own started (by kernel_rfl) Try.func3
    (ChangeSpec.witness6 (enc := enc) (C := Try.checked) false ⟨#[], #[.slice none 0 0], []⟩ 8 (by kernel_rfl) (by kernel_rfl) (by kernel_rfl) (by kernel_rfl)) ?_
  intro W base args ds gs before hval0 hW _ hsz0 _
  have hval : ∀ (j : Nat) t v, Try.f3.params[j]? = some t → args[j]? = some v → Value.okWide Try.prog W .any base t v := hval0
  have hsz : (DataW.weightsEach Try.prog (Try.f3.params.toList ++ Rows.chunkParsesSpec.plain.varTypes Try.prog) (ds ++ gs)).all (· ≤ reachBytes) = true := hsz0
  have hW' := hW
  obtain ⟨p, q, hA0, hV, rfl, hfz, hnd⟩ := hW
  have hA : DataW.TrodAll enc Try.prog W 0 (fun _ => true) true Try.f3.params.toList args.toList ds p := hA0
  rw [Try.params3] at hA hval hsz
  obtain ⟨v0, vs0, d0, ds0, p0, q0, hargs, rfl, rfl, h0, r0⟩ := trodAll_cons hA
  obtain ⟨rfl, rfl, rfl⟩ := trodAll_nil r0
  obtain rfl : args = #[v0] := by cases args; simp_all
  obtain ⟨rfl, rfl⟩ := trodVars_none hV
  clear hsz0
  obtain ⟨a0, len0, cap0, rfl⟩ := okWide_slice Try.underlying22 (hval 0 22 v0 rfl rfl)
  have k0 := h0
  have lt0 : ∀ x ∈ p0, x.block < W.heap.size := by obtain ⟨m, hm⟩ := k0; exact DataW.trod_lt m _ _ _ hm
  obtain ⟨l0, w0, c0⟩ := open_bs Try.underlying22 Try.underlying5 (by kernel_rfl) (by kernel_rfl) h0 hsz 0 rfl rfl
  clear hA0 hval0 hsz
  refine (walk a0 len0 cap0 l0 W w0 c0).mono fun e W' ⟨he, bel⟩ => ?_
  subst he
  exact ⟨_, rfl, _, _, _, [], _, [], hW', trodAll_mk1 (shut_bool Try.underlying4 _), (trodAll_cons_mk (Below.trod laidOut (by kernel_rfl) (of_decide_eq_true (by kernel_rfl)) k0 bel lt0) trodAll_mk0), rfl, bel.frame _, fun h => by cases h⟩

theorem proved : Rows.ChunkParsesSaid :=
  OpenClaim.holds_of_wide 3 Try.f3 rfl rfl rfl rfl rfl rfl rfl ⟨rfl, rfl, rfl, rfl, rfl⟩ rfl rfl rfl rfl rfl (by kernel_rfl) Try.func3 (by kernel_rfl)
    (of_decide_eq_true (by kernel_rfl)) (by unfold Func.isWrapper; first | (rw [if_pos (by decide +kernel)]; kernel_rfl) | (rw [if_neg (by decide +kernel)]; exact ⟨rfl, rfl⟩))
    (fun os started H enc _ => lifted os started H enc)
#print axioms proved
end Go.Proofs.Ytaedajedjbgnbaa.ChunkParses
