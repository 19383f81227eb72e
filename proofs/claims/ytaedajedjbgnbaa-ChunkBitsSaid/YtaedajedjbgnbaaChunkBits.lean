/- For all chunks in form and every number of a bit, but one of a length: with that bit changed the chunks' bytes are refused. Of chunks that come to more than 10000 bytes nothing is asked. No conditions. -/
import Derived.Test.YtaedajedjbgnbaaRows
import Derived.Test.YtaedajedjbgnbaaOpen
import Derived.Test.YtaedajedjbgnbaaCkSame
import Derived.Test.YtaedajedjbgnbaaCkBits
import Derived.Test.YtaedajedjbgnbaaOpenCk
namespace Go.Proofs.Ytaedajedjbgnbaa.ChunkBits
open Go.ChangeShapes Go.WideShapes Go.ChangeAt Go.RowKit
open Go.ChangeMaps (open_string shut_string)
set_option linter.unusedVariables false
theorem own : ownKnob Try.prog.godebug = none := by kernel_rfl
theorem laidOut : laidOutB Try.prog = true := by kernel_rfl
theorem k_of (t : Int) (M : Nat) (h1 : 1 ≤ M) (h2 : M ≤ 1048576) : ∃ K : Nat, K < 8 * M ∧ wrap64 ((IntKind.u64.wrap t).tmod (8 * (M : Int))) = (K : Int) := by
  have h0 : 0 ≤ IntKind.u64.wrap t := by
    simp only [IntKind.wrap, IntKind.signed, IntKind.bits]
    exact Int.emod_nonneg _ (by decide)
  have h3 := Int.tmod_nonneg (8 * (M : Int)) h0
  have h4 := Int.tmod_lt_of_pos (IntKind.u64.wrap t) (show (0 : Int) < 8 * (M : Int) by omega)
  generalize (IntKind.u64.wrap t).tmod (8 * (M : Int)) = r at *
  exact ⟨r.toNat, by omega, by rw [IntWalk.wrap64_in _ ⟨by omega, by omega⟩]; omega⟩
set_option maxRecDepth 100000 in
set_option maxHeartbeats 4000000 in
theorem walk (a : Option Addr) (len cap : Nat) (l : List Ckm) (at' : Int) (w : World) (h : Cs w a len cap l) (hr : cap * 40 ≤ 140737488351232) (hd : ∀ c ∈ l, c.n.length ≤ 140737488351232 ∧ c.s.cap ≤ 140737488351232) (hw : (Lit.int .i64 at').wf = true) :
    Calls Try.prog 6 #[.slice a len cap, .int .i64 at'] w fun e w' => e = .returned (.bool true) ∧ Below w.heap.size w w' := by
  have hle := h.hle
  have HL := Lib.hid h.hlen
  have H := Lib.hid h
  have HDL : Hid (∀ c ∈ l, c.n.length ≤ 140737488351232 ∧ c.s.len ≤ 140737488351232) := Lib.hid (fun c hc => ⟨(hd c hc).1, by have h1 := (hd c hc).2; have h2 := (h.data hc).hle; omega⟩)
  clear h hd hw
  go_enter Try.func6, Try.ntmps6
  go_wp2_with fail
  refine (alive12_any w).mono ?_
  rintro e w1 ⟨rfl, hb1⟩
  have HB1 := Lib.hid hb1
  clear hb1
  go_wp2_with fail
  refine (large_any a len cap l w1 (H.out.mono HB1.out) (by omega) HDL.out).mono ?_
  rintro e w2 ⟨rfl, hb2⟩
  have HB2 := Lib.hid (below_then HB1.out hb2)
  clear hb2 HB1
  by_cases hbig : 10000 < Ck.lg (cps l)
  · rw [show decide (10000 < Ck.lg (cps l)) = true by simpa using hbig]
    clear hbig
    go_wp2
    go_ret
    exact ⟨rfl, HB2.out⟩
  rw [show decide (10000 < Ck.lg (cps l)) = false by simpa using hbig]
  have hlg : Ck.lg (cps l) ≤ 10000 := by omega
  have HLG := Lib.hid hlg
  clear hbig hlg
  go_wp2_with fail
  refine (refGood_any a len cap l w2 (H.out.mono HB2.out) (by omega) HDL.out).mono ?_
  rintro e w' ⟨rfl, rfl⟩
  by_cases hg : Ck.good (cps l) = true
  rotate_left
  · rw [show Ck.good (cps l) = false by simpa using hg]
    clear hg
    go_wp2
    go_ret
    exact ⟨rfl, HB2.out⟩
  rw [hg]
  have hf : 8 + Ck.size (cps l) ≤ 1048576 := by have := Ck.size_le_lg (cps l); have := HLG.out; omega
  have HW := Lib.hid (refWrite_any a len cap l w2 (H.out.mono HB2.out) hg hf (by omega))
  have HG := Lib.hid hg
  have HF := Lib.hid hf
  clear hg hf
  go_wp2_with fail
  refine HW.out.mono ?_
  rintro e w3 ⟨v3, rfl, ho3, hb3⟩
  have HB3 := Lib.hid (below_then HB2.out hb3)
  obtain ⟨M, hM⟩ : ∃ M, 8 + Ck.size (cps l) = M := ⟨_, rfl⟩
  rw [hM] at ho3
  have hM1 : M ≤ 1048576 := by have := HF.out; omega
  have hM0 : 8 ≤ M := by omega
  obtain ⟨K, hK, hKw⟩ := k_of at' M (by omega) hM1
  rcases own_nil_or ho3 with ⟨_, h0⟩ | ⟨g3, c3, rfl, hc3, hg3, _⟩
  · omega
  have HO3 := Lib.hid ho3
  have HM := Lib.hid hM
  clear ho3 hb3 hM HW
  go_wp2
  rw [hKw]
  clear hKw
  go_loopw [7, 33] (fun x i wr => ∃ k : Nat, k ≤ len ∧ i = .int .i64 k ∧ x = .int .i64 (8 + Ck.size ((cps l).take k) : Nat) ∧ Hid (∀ i, i < k → ¬ (8 + Ck.size ((cps l).take i) ≤ K / 8 ∧ K / 8 < 8 + Ck.size ((cps l).take i) + 4)) ∧ Hid (Below w3.heap.size w3 wr)) (fun _ i _ => len - (intOf i).toNat)
  case atStart => exact ⟨0, by omega, rfl, by simp [Ck.size], Lib.hid (fun i hi => absurd hi (by omega)), Lib.hid (Below.refl _ _)⟩
  case round =>
    obtain ⟨k, hk, rfl, rfl, HT, HBR⟩ := hrel
    by_cases hlt : k < len
    · have hkl : k < l.length := by rw [HL.out]; exact hlt
      obtain ⟨b, off, rfl, hb, c0, c1, hs⟩ := ((H.out.mono HB3.out).mono HBR.out).at' k hlt
      have hkc : k < (cps l).length := by rw [cps_length]; exact hkl
      have HSN := Lib.hid (Ck.size_snoc (cps l) k hkc)
      have hst := Ck.size_take_le (cps l) (k + 1)
      rw [cps_nth l k hkl] at HSN
      rw [HSN.out] at hst
      have hcc : (nck l k).c = ((nck l k).n, (nck l k).s.l) := rfl
      rw [hcc] at HSN hst
      generalize nck l k = c at *
      obtain ⟨nm, sa, sn, sc, sd⟩ := c
      unfold Sl.val at c1
      simp only at *
      have hsl : sd.length = sn := hs.hlen
      have hf2 := HF.out
      rw [hsl] at HSN hst
      have HBR2 := Lib.hid (HBR.out.alloc HBR.out.size (.cells #[.string (str nm), .slice sa sn sc] 39))
      obtain ⟨q, hq⟩ : ∃ q, Ck.size ((cps l).take k) = q := ⟨_, rfl⟩
      rw [hq] at HSN hst ⊢
      have HQ := Lib.hid hq
      clear hs hsl hcc hf2 hq hb
      have hq2 : q + (12 + sn) ≤ 1048576 := by have := HF.out; omega
      by_cases h1 : 8 + q ≤ K / 8 ∧ K / 8 < 8 + q + 4
      · have d1 : decide (8 + (q : Int) ≤ (K : Int) / 8) = true := by simp; omega
        have d2 : decide ((K : Int) / 8 < 8 + (q : Int) + 4) = true := by simp; omega
        have HBF := Lib.hid (HB3.out.trans (HBR2.out.mono HB3.out.size))
        clear h1
        go_wp2
        go_ret
        exact ⟨rfl, HBF.out⟩
      · have HN : Hid (∀ i, i < k + 1 → ¬ (8 + Ck.size ((cps l).take i) ≤ K / 8 ∧ K / 8 < 8 + Ck.size ((cps l).take i) + 4)) := Lib.hid (fun i hi => by
          by_cases e : i = k
          · rw [e, HQ.out]; exact h1
          · exact HT.out i (by omega))
        have HE := Lib.hid (show ((8 + Ck.size ((cps l).take (k + 1)) : Nat) : Int) = 8 + (q : Int) + (12 + (sn : Int)) by rw [HSN.out]; omega)
        have hor : (decide (8 + (q : Int) ≤ (K : Int) / 8) = false) ∨ (decide (8 + (q : Int) ≤ (K : Int) / 8) = true ∧ decide ((K : Int) / 8 < 8 + (q : Int) + 4) = false) := by
          by_cases h2 : 8 + q ≤ K / 8
          · exact .inr ⟨by simp; omega, by simp; omega⟩
          · exact .inl (by simp; omega)
        clear h1 HT HSN
        rcases hor with d1 | ⟨d1, d2⟩
        · go_wp2
          go_roundw
          case rel => exact ⟨k + 1, by omega, by go_num, by rw [HE.out], HN, HBR2⟩
          case measure => simp [intOf]; omega
        · go_wp2
          go_roundw
          case rel => exact ⟨k + 1, by omega, by go_num, by rw [HE.out], HN, HBR2⟩
          case measure => simp [intOf]; omega
    · obtain rfl : len = k := by omega
      have HOR := Lib.hid (own_below HO3.out HBR.out)
      have hcell : wr.cell? ⟨g3, K / 8, none⟩ = some (.int .u8 (gb (Ck.wr (cps l)) (K / 8))) := by
        rw [HOR.out.cellAt (K / 8) (by omega), bvs_get _ _ (by have := Ck.wr_length _ HG.out; have := HM.out; omega)]
      have hfr : wr.frozen? ⟨g3, K / 8, none⟩ = false := by
        rcases HOR.out.2 with ⟨h', _⟩ | ⟨g', cap', cur, h', hb, hg, _⟩
        · simp at h'
        · simp only [Value.slice.injEq, Option.some.injEq, Addr.mk.injEq, and_true, true_and] at h'
          obtain ⟨rfl, rfl⟩ := h'
          exact frozen_of_row wr g3 _ _ _ hg
      have hKM : K / 8 < M := by omega
      have hg0 := gb_lt (Ck.wr (cps l)) (K / 8)
      obtain ⟨J, hJ⟩ : ∃ J, K / 8 = J := ⟨_, rfl⟩
      have hJi : ((K : Int) / 8) = (J : Int) := by omega
      rw [hJ] at hcell hfr hKM hg0
      obtain ⟨x, hx⟩ : ∃ x, gb (Ck.wr (cps l)) J = x := ⟨_, rfl⟩
      rw [hx] at hcell hg0
      have HX := Lib.hid hx
      have HJ := Lib.hid hJ
      clear hx hJ
      obtain ⟨p2, hp2⟩ : ∃ p, 2 ^ (K % 8) = p := ⟨_, rfl⟩
      have hp3 : p2 < 256 ∧ 0 < p2 := by
        have h1 : (2 : Nat) ^ (K % 8) ≤ 2 ^ 7 := Nat.pow_le_pow_right (by decide) (by omega)
        have h2 : 0 < (2 : Nat) ^ (K % 8) := Nat.pow_pos (by decide)
        omega
      have hxb : bits .xor .u8 (x : Int) (2 ^ (K % 8) % 256) = ((x ^^^ p2 : Nat) : Int) := by
        have e1 : ((2 : Int) ^ (K % 8) % 256) = ((p2 : Nat) : Int) := by
          have : ((2 : Int) ^ (K % 8)) = ((p2 : Nat) : Int) := by rw [← hp2]; simp
          rw [this]; omega
        rw [e1]
        exact u8_xor_nat x p2 hg0 hp3.1
      obtain ⟨y, hy⟩ : ∃ y, x ^^^ p2 = y := ⟨_, rfl⟩
      have hy8 : y < 256 := by rw [← hy]; exact Nat.xor_lt_two_pow (n := 8) hg0 hp3.1
      have hyx : y ≠ x := fun e => by
        have h1 : x ^^^ p2 = x := hy.trans e
        have h2 := congrArg (x ^^^ ·) h1
        simp only [← Nat.xor_assoc, Nat.xor_self, Nat.zero_xor] at h2
        omega
      rw [hy] at hxb
      have HYX := Lib.hid hyx
      have hst := (HOR.out.stored J (.int .u8 ((y : Nat) : Int))).1
      have e2 : (bvs (Ck.wr (cps l))).set J (.int .u8 ((y : Nat) : Int)) = bvs ((Ck.wr (cps l)).set J (UInt8.ofNat y)) := by rw [← bvs_set, Nat.mod_eq_of_lt hy8]
      rw [e2] at hst
      have hbs := bs_of_own hst (by omega) M (Nat.le_refl _)
      have hwl := Ck.wr_length _ HG.out
      rw [List.take_of_length_le (by rw [List.length_set, hwl, HM.out]; exact Nat.le_refl _)] at hbs
      have HPA := Lib.hid (parse_any _ _ _ _ _ hbs)
      have HER : Hid ((Ck.parse ((Ck.wr (cps l)).set J (UInt8.ofNat y))).1 ≠ 0) := Lib.hid (Ck.parse_hit (cps l) J _ HG.out (fun c hc => by have := Ck.data_le_size _ c hc; have := HF.out; omega) (by rw [HM.out]; exact hKM) (fun i hi => by
        have := HT.out i (by rw [cps_length, HL.out] at hi; exact hi)
        rw [HJ.out] at this
        exact this) (fun e => HYX.out (by
          rw [← HX.out]
          have h1 := congrArg UInt8.toNat e
          rw [UInt8.toNat_ofNat', Nat.mod_eq_of_lt (by omega)] at h1
          exact h1)))
      have HBS := Lib.hid (Below.setCell (p := ⟨g3, J, none⟩) (HB3.out.trans (HBR.out.mono HB3.out.size)) (show w.heap.size ≤ g3 by have := HB2.out.size; omega) (.int .u8 ((y : Nat) : Int)))
      clear hst e2 hbs hwl hyx hy hp2 hp3 HOR HT HX HJ
      go_wp2_with fail
      refine HPA.out.mono ?_
      rintro e w5 ⟨hb5, _, hbad⟩
      have he := hbad HER.out
      obtain ⟨n, hn⟩ : ∃ n, (Ck.parse ((Ck.wr (cps l)).set J (UInt8.ofNat y))).1 = n := ⟨_, rfl⟩
      rw [hn] at he
      subst he
      have HBF := Lib.hid (HBS.out.trans (hb5.mono HBS.out.size))
      clear hbad hb5 hn HPA HER
      go_wp2
      go_ret
      exact ⟨rfl, HBF.out⟩
set_option maxRecDepth 100000 in
theorem lifted (os : Os) (started : os.Started) (H : Type) (enc : TypeId × Value → H) :
    ReturnsInHanded {} Try.checked os 6 .any (Rows.chunkBitsSpec.pre6 enc Try.prog Try.f6 Rows.chunkBitsRow.domain false) (Rows.chunkBitsSpec.post enc Try.prog Try.f6 false true false false) := by
  refine returnsInHanded_of_change_sized (C := Try.checked) own started (by kernel_rfl) Try.func6
    (ChangeSpec.witness6 (enc := enc) (C := Try.checked) false ⟨#[], #[.slice none 0 0, .int .i64 0], []⟩ 8 (by kernel_rfl) (by kernel_rfl) (by kernel_rfl) (by kernel_rfl)) ?_
  intro W base args ds gs before hval0 hW _ hsz0 _
  have hval : ∀ (j : Nat) t v, Try.f6.params[j]? = some t → args[j]? = some v → Value.okWide Try.prog W .any base t v := hval0
  have hsz : (DataW.weightsEach Try.prog (Try.f6.params.toList ++ Rows.chunkBitsSpec.plain.varTypes Try.prog) (ds ++ gs)).all (· ≤ reachBytes) = true := hsz0
  have hW' := hW
  obtain ⟨p, q, hA0, hV, rfl, hfz, hnd⟩ := hW
  have hA : DataW.TrodAll enc Try.prog W 0 (fun _ => true) true Try.f6.params.toList args.toList ds p := hA0
  rw [Try.params6] at hA hval hsz
  obtain ⟨v0, vs0, d0, ds0, p0, q0, hargs, rfl, rfl, h0, r0⟩ := trodAll_cons hA
  obtain ⟨v1, vs1, d1, ds1, p1, q1, rfl, rfl, rfl, h1, r1⟩ := trodAll_cons r0
  obtain ⟨rfl, rfl, rfl⟩ := trodAll_nil r1
  obtain rfl : args = #[v0, v1] := by cases args; simp_all
  obtain ⟨rfl, rfl⟩ := trodVars_none hV
  clear hsz0
  obtain ⟨a0, len0, cap0, rfl⟩ := okWide_slice Try.underlying25 (hval 0 25 v0 rfl rfl)
  have k0 := h0
  have lt0 : ∀ x ∈ p0, x.block < W.heap.size := by obtain ⟨m, hm⟩ := k0; exact DataW.trod_lt m _ _ _ hm
  obtain ⟨l0, w0, c0, x0⟩ := open_cks Try.underlying25 Try.underlying39 Try.underlying9 Try.underlying22 Try.underlying5 (by kernel_rfl) (by kernel_rfl) (by kernel_rfl) (by kernel_rfl) rfl rfl (by kernel_rfl) (by kernel_rfl) h0 hsz 0 rfl rfl
  obtain ⟨a1, rfl, rfl, rfl, w1⟩ := open_int Try.underlying3 (hval 1 3 v1 rfl rfl) h1
  clear hA0 hval0 hsz
  refine (walk a0 len0 cap0 l0 a1 W w0 c0 x0 w1).mono fun e W' ⟨he, bel⟩ => ?_
  subst he
  exact ⟨_, rfl, _, _, _, [], _, [], hW', trodAll_mk1 (shut_bool Try.underlying4 _), (trodAll_cons_mk (Below.trod laidOut (by kernel_rfl) (of_decide_eq_true (by kernel_rfl)) k0 bel lt0) (trodAll_cons_mk (shut_int Try.underlying3 w1) trodAll_mk0)), rfl, bel.frame _, fun h => by cases h⟩

theorem proved : Rows.ChunkBitsSaid :=
  OpenClaim.holds_of_wide 6 Try.f6 rfl rfl rfl rfl rfl rfl rfl ⟨rfl, rfl, rfl, rfl, rfl⟩ rfl rfl rfl rfl rfl (by kernel_rfl) Try.func6 (by kernel_rfl)
    (of_decide_eq_true (by kernel_rfl)) (by unfold Func.isWrapper; first | (rw [if_pos (by decide +kernel)]; kernel_rfl) | (rw [if_neg (by decide +kernel)]; exact ⟨rfl, rfl⟩))
    (fun os started H enc _ => lifted os started H enc)
#print axioms proved
end Go.Proofs.Ytaedajedjbgnbaa.ChunkBits
