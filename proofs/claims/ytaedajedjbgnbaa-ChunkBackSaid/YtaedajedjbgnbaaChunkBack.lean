/- For all chunks and all bytes: what Parse answers of bytes is written as these bytes again, and chunks that Write takes are parsed from what it answers. Of chunks or bytes beyond 10000 bytes nothing is asked. No conditions. -/
import Derived.Test.YtaedajedjbgnbaaRows
import Derived.Test.YtaedajedjbgnbaaOpen
import Derived.Test.YtaedajedjbgnbaaCkSame
import Derived.Test.YtaedajedjbgnbaaCkMath
import Derived.Test.YtaedajedjbgnbaaNumSame
import Derived.Test.YtaedajedjbgnbaaOpenCk
namespace Go.Proofs.Ytaedajedjbgnbaa.ChunkBack
open Go.ChangeShapes Go.WideShapes Go.ChangeAt Go.RowKit
open Go.ChangeMaps (open_string shut_string)
set_option linter.unusedVariables false
theorem own : ownKnob Try.prog.godebug = none := by kernel_rfl
theorem laidOut : laidOutB Try.prog = true := by kernel_rfl
set_option maxRecDepth 100000 in
set_option maxHeartbeats 4000000 in
theorem walk (a : Option Addr) (len cap : Nat) (l : List Ckm) (b : Option Addr) (blen bcap : Nat) (m : List UInt8) (w : World) (h : Cs w a len cap l) (hr : cap * 40 ≤ 140737488351232) (hd : ∀ c ∈ l, c.n.length ≤ 140737488351232 ∧ c.s.cap ≤ 140737488351232) (h' : Bs w b blen bcap m) (hr' : bcap ≤ 140737488351232) :
    Calls Try.prog 5 #[.slice a len cap, .slice b blen bcap] w fun e w' => e = .returned (.bool true) ∧ Below w.heap.size w w' := by
  have hle := h.hle
  have hle' := h'.hle
  have HL := Lib.hid h.hlen
  have HL' := Lib.hid h'.hlen
  have H := Lib.hid h
  have H' := Lib.hid h'
  have HD := Lib.hid hd
  clear h h' hd
  go_enter Try.func5, Try.ntmps5
  go_wp2_with fail
  refine (alive12_any w).mono ?_
  rintro e w1 ⟨rfl, hb1⟩
  have HB1 := Lib.hid hb1
  clear hb1
  go_wp2_with fail
  refine (large_any a len cap l w1 (H.out.mono HB1.out) (by omega) (fun c hc => ⟨(HD.out c hc).1, by have h1 := (HD.out c hc).2; have h2 := (H.out.data hc).hle; omega⟩)).mono ?_
  rintro e w2 ⟨rfl, hb2⟩
  have HB2 := Lib.hid (below_then HB1.out hb2)
  clear hb2 HB1
  by_cases hbig : 10000 < Ck.lg (cps l) ∨ 10000 < blen
  · have hd1 : decide (10000 < Ck.lg (cps l)) = true ∨ (decide (10000 < Ck.lg (cps l)) = false ∧ decide (10000 < (blen : Int)) = true) := by
      by_cases h1 : 10000 < Ck.lg (cps l)
      · exact .inl (by simpa using h1)
      · exact .inr ⟨by simpa using h1, by simp; omega⟩
    clear hbig
    rcases hd1 with hd1 | ⟨hd1, hd2⟩
    · rw [hd1]
      clear hd1
      go_wp2
      go_ret
      exact ⟨rfl, HB2.out⟩
    · rw [hd1]
      clear hd1
      go_wp2
      go_ret
      exact ⟨rfl, HB2.out⟩
  have hd1 : decide (10000 < Ck.lg (cps l)) = false := by simp; omega
  have hd2 : decide (10000 < (blen : Int)) = false := by simp; omega
  rw [hd1]
  have hlg : Ck.lg (cps l) ≤ 10000 := by omega
  have HLG := Lib.hid hlg
  clear hd1 hbig hlg
  go_wp2_with fail
  refine (parse_any b blen bcap m w2 (H'.out.mono HB2.out)).mono ?_
  rintro e w3 ⟨hb3, hok, hbad⟩
  have HB3 := Lib.hid (below_then HB2.out hb3)
  clear HB2
  have HDL : Hid (∀ c ∈ l, c.n.length ≤ 140737488351232 ∧ c.s.len ≤ 140737488351232) := Lib.hid (fun c hc => ⟨(HD.out c hc).1, by have h1 := (HD.out c hc).2; have h2 := (H.out.data hc).hle; omega⟩)
  clear hd2
  by_cases h0 : (Ck.parse m).1 = 0
  rotate_left
  · have he := hbad h0
    obtain ⟨n, hn⟩ : ∃ n, (Ck.parse m).1 = n := ⟨_, rfl⟩
    rw [hn] at he
    subst he
    obtain ⟨W7, hW7⟩ : ∃ W, w3 = W := ⟨_, rfl⟩
    subst hW7
    have HB7 := HB3
    clear hok hbad hb3 h0 hn
    go_wp2_with fail
    refine (write_any a len cap l w3 (H.out.mono HB7.out) (by omega) HDL.out).mono ?_
    rintro e w8 hp
    unfold WrPost at hp
    by_cases hg : Ck.good (cps l) = true
    rotate_left
    · rw [if_neg hg] at hp
      obtain ⟨rfl, hb8⟩ := hp
      have HB8 := Lib.hid (below_then HB7.out hb8)
      clear hb8 hg
      go_wp2
      go_ret
      exact ⟨rfl, HB8.out⟩
    rw [if_pos hg] at hp
    have hf : 8 + Ck.size (cps l) ≤ 1048576 := by have := Ck.size_le_lg (cps l); have := HLG.out; omega
    rw [if_pos hf] at hp
    obtain ⟨v8, rfl, ho8, hb8⟩ := hp
    have HB8 := Lib.hid (below_then HB7.out hb8)
    have HPW := Lib.hid (Ck.parse_wr (cps l) hg hf)
    obtain ⟨a8, c8, rfl, hs8⟩ := own_bs ho8 (by omega)
    have HS8 := Lib.hid hs8
    clear ho8 hb8 hs8 hg hf
    go_wp2_with fail
    refine (parse_any _ _ _ _ w8 HS8.out).mono ?_
    rintro e w9 ⟨hb9, hok, _⟩
    obtain ⟨v9, ms9, rfl, hls9, hc9⟩ := hok (by rw [HPW.out])
    rw [HPW.out] at hc9
    have HB9 := Lib.hid (below_then HB8.out hb9)
    obtain ⟨a9, c9, rfl, hcs9⟩ := hls9.cs
    have hm9 : ms9.length ≤ 140737488355328 := by
      have := congrArg List.length hc9
      rw [cps_length, cps_length, HL.out] at this
      omega
    have HSM := Lib.hid (refSame_any a9 a ms9.length c9 len cap ms9 l w9 hcs9 (H.out.mono HB9.out) hm9 (by omega))
    rw [show decide (cps ms9 = cps l) = true from decide_eq_true hc9] at HSM
    clear hok hb9 hls9 hc9 hcs9 HS8
    go_wp2_with fail
    refine HSM.out.mono ?_
    rintro e w' ⟨rfl, n, rfl⟩
    have HBF := Lib.hid (HB9.out.trans ((drewN_is w9 n).mono HB9.out.size))
    go_wp2
    go_ret
    exact ⟨rfl, HBF.out⟩
  · obtain ⟨v, ms, rfl, hls, hc⟩ := hok h0
    obtain ⟨hgd, hwr, hsz⟩ := Ck.wr_parse h0
    rw [← hc] at hgd hwr hsz
    obtain ⟨a4, c4, rfl, hcs4⟩ := hls.cs
    have hnm : ∀ c ∈ ms, c.n.length ≤ 140737488351232 ∧ c.s.len ≤ 140737488351232 := fun c hm => by
      have h1 := Ck.named_len (Ck.goodL_named (by rw [← Ck.good_goodL]; exact hgd) c.c (List.mem_map.2 ⟨c, hm, rfl⟩))
      have h2 : c.n.length = 4 := h1
      have := hls.sm c hm
      omega
    have hml : ms.length * 40 ≤ 140737488351232 := by
      have := Ck.length_le_size (cps ms)
      rw [cps_length] at this
      omega
    have hw5 := write_any a4 ms.length c4 ms w3 hcs4 hml hnm
    have HW5 := Lib.hid hw5
    have HP5 := Lib.hid (And.intro hgd (And.intro hsz hwr))
    clear hok hbad hls hcs4 hnm hw5 hgd hwr hsz hc hb3 h0
    go_wp2_with fail
    refine HW5.out.mono ?_
    rintro e w5 hp
    unfold WrPost at hp
    rw [if_pos HP5.out.1, if_pos HP5.out.2.1] at hp
    obtain ⟨v5, rfl, ho5, hb5⟩ := hp
    have hsz5 := HP5.out.2.1
    rw [HP5.out.2.2] at ho5
    have HB7 := Lib.hid (below_then HB3.out hb5)
    obtain ⟨a5, c5, rfl, hs5⟩ := own_bs ho5 (by omega)
    have HSA := Lib.hid (same_any a5 b _ c5 blen bcap m m w5 hs5 (H'.out.mono HB7.out))
    rw [show (m == m) = true from beq_self_eq_true m] at HSA
    clear ho5 hb5 hs5 hsz5 HW5
    go_wp2_with fail
    refine HSA.out.mono ?_
    rintro e w' ⟨rfl, rfl⟩
    go_wp2_with fail
    refine (write_any a len cap l w5 (H.out.mono HB7.out) (by omega) HDL.out).mono ?_
    rintro e w8 hp
    unfold WrPost at hp
    by_cases hg : Ck.good (cps l) = true
    rotate_left
    · rw [if_neg hg] at hp
      obtain ⟨rfl, hb8⟩ := hp
      have HB8 := Lib.hid (below_then HB7.out hb8)
      clear hb8 hg
      go_wp2
      go_ret
      exact ⟨rfl, HB8.out⟩
    rw [if_pos hg] at hp
    have hf : 8 + Ck.size (cps l) ≤ 1048576 := by have := Ck.size_le_lg (cps l); have := HLG.out; omega
    rw [if_pos hf] at hp
    obtain ⟨v8, rfl, ho8, hb8⟩ := hp
    have HB8 := Lib.hid (below_then HB7.out hb8)
    have HPW := Lib.hid (Ck.parse_wr (cps l) hg hf)
    obtain ⟨a8, c8, rfl, hs8⟩ := own_bs ho8 (by omega)
    have HS8 := Lib.hid hs8
    clear ho8 hb8 hs8 hg hf
    go_wp2_with fail
    refine (parse_any _ _ _ _ w8 HS8.out).mono ?_
    rintro e w9 ⟨hb9, hok, _⟩
    obtain ⟨v9, ms9, rfl, hls9, hc9⟩ := hok (by rw [HPW.out])
    rw [HPW.out] at hc9
    have HB9 := Lib.hid (below_then HB8.out hb9)
    obtain ⟨a9, c9, rfl, hcs9⟩ := hls9.cs
    have hm9 : ms9.length ≤ 140737488355328 := by
      have := congrArg List.length hc9
      rw [cps_length, cps_length, HL.out] at this
      omega
    have HSM := Lib.hid (refSame_any a9 a ms9.length c9 len cap ms9 l w9 hcs9 (H.out.mono HB9.out) hm9 (by omega))
    rw [show decide (cps ms9 = cps l) = true from decide_eq_true hc9] at HSM
    clear hok hb9 hls9 hc9 hcs9 HS8
    go_wp2_with fail
    refine HSM.out.mono ?_
    rintro e w' ⟨rfl, n, rfl⟩
    have HBF := Lib.hid (HB9.out.trans ((drewN_is w9 n).mono HB9.out.size))
    go_wp2
    go_ret
    exact ⟨rfl, HBF.out⟩
set_option maxRecDepth 100000 in
theorem lifted (os : Os) (started : os.Started) (H : Type) (enc : TypeId × Value → H) :
    ReturnsInHanded {} Try.checked os 5 .any (Rows.chunkBackSpec.pre6 enc Try.prog Try.f5 Rows.chunkBackRow.domain false) (Rows.chunkBackSpec.post enc Try.prog Try.f5 false true false false) := by
  refine returnsInHanded_of_change_sized (C := Try.checked) own started (by kernel_rfl) Try.func5
    (ChangeSpec.witness6 (enc := enc) (C := Try.checked) false ⟨#[], #[.slice none 0 0, .slice none 0 0], []⟩ 8 (by kernel_rfl) (by kernel_rfl) (by kernel_rfl) (by kernel_rfl)) ?_
  intro W base args ds gs before hval0 hW _ hsz0 _
  have hval : ∀ (j : Nat) t v, Try.f5.params[j]? = some t → args[j]? = some v → Value.okWide Try.prog W .any base t v := hval0
  have hsz : (DataW.weightsEach Try.prog (Try.f5.params.toList ++ Rows.chunkBackSpec.plain.varTypes Try.prog) (ds ++ gs)).all (· ≤ reachBytes) = true := hsz0
  have hW' := hW
  obtain ⟨p, q, hA0, hV, rfl, hfz, hnd⟩ := hW
  have hA : DataW.TrodAll enc Try.prog W 0 (fun _ => true) true Try.f5.params.toList args.toList ds p := hA0
  rw [Try.params5] at hA hval hsz
  obtain ⟨v0, vs0, d0, ds0, p0, q0, hargs, rfl, rfl, h0, r0⟩ := trodAll_cons hA
  obtain ⟨v1, vs1, d1, ds1, p1, q1, rfl, rfl, rfl, h1, r1⟩ := trodAll_cons r0
  obtain ⟨rfl, rfl, rfl⟩ := trodAll_nil r1
  obtain rfl : args = #[v0, v1] := by cases args; simp_all
  obtain ⟨rfl, rfl⟩ := trodVars_none hV
  clear hsz0
  obtain ⟨a0, len0, cap0, rfl⟩ := okWide_slice Try.underlying25 (hval 0 25 v0 rfl rfl)
  have k0 := h0
  have lt0 : ∀ x ∈ p0, x.block < W.heap.size := by obtain ⟨m, hm⟩ := k0; exact DataW.trod_lt m _ _ _ hm
  obtain ⟨l0, w0, c0, x0⟩ := open_cks Try.underlying25 Try.underlying39 Try.underlying9 Try.underlying22 Try.underlying5 (by kernel_rfl) (by kernel_rfl) (by kernel_rfl) (by kernel_rfl) rfl rfl (by kernel_rfl) (by kernel_rfl) h0 hsz 0 rfl rfl
  obtain ⟨a1, len1, cap1, rfl⟩ := okWide_slice Try.underlying22 (hval 1 22 v1 rfl rfl)
  have k1 := h1
  have lt1 : ∀ x ∈ p1, x.block < W.heap.size := by obtain ⟨m, hm⟩ := k1; exact DataW.trod_lt m _ _ _ hm
  obtain ⟨l1, w1, c1⟩ := open_bs Try.underlying22 Try.underlying5 (by kernel_rfl) (by kernel_rfl) h1 hsz 1 rfl rfl
  clear hA0 hval0 hsz
  refine (walk a0 len0 cap0 l0 a1 len1 cap1 l1 W w0 c0 x0 w1 c1).mono fun e W' ⟨he, bel⟩ => ?_
  subst he
  exact ⟨_, rfl, _, _, _, [], _, [], hW', trodAll_mk1 (shut_bool Try.underlying4 _), (trodAll_cons_mk (Below.trod laidOut (by kernel_rfl) (of_decide_eq_true (by kernel_rfl)) k0 bel lt0) (trodAll_cons_mk (Below.trod laidOut (by kernel_rfl) (of_decide_eq_true (by kernel_rfl)) k1 bel lt1) trodAll_mk0)), rfl, bel.frame _, fun h => by cases h⟩

theorem proved : Rows.ChunkBackSaid :=
  OpenClaim.holds_of_wide 5 Try.f5 rfl rfl rfl rfl rfl rfl rfl ⟨rfl, rfl, rfl, rfl, rfl⟩ rfl rfl rfl rfl rfl (by kernel_rfl) Try.func5 (by kernel_rfl)
    (of_decide_eq_true (by kernel_rfl)) (by unfold Func.isWrapper; first | (rw [if_pos (by decide +kernel)]; kernel_rfl) | (rw [if_neg (by decide +kernel)]; exact ⟨rfl, rfl⟩))
    (fun os started H enc _ => lifted os started H enc)
#print axioms proved
end Go.Proofs.Ytaedajedjbgnbaa.ChunkBack
