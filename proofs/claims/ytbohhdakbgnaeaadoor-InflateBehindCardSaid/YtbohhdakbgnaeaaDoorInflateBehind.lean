/- For any bytes and any bytes behind (each of at most 1000, as the law itself asks) and any most: where Inflate answers an error it answers no bytes and 0; else its bytes are what Tokens' tokens come to, it reads at least one byte and no more than there are, bytes behind what it read don't matter, one byte fewer is ErrEnd, and as many bytes at most as came out are enough. inflate.lengthOrder holds what the program's text lays (the tied card). -/
import Derived.Test.YtbohhdakbgnaeaaDoorCards
import Derived.Test.YtbohhdakbgnaeaaDoorTie
import Derived.ProofKit
import Derived.Handy
import Derived.Lay
import Derived.SevenTiedAt
import Derived.Test.YtbohhdakbgnaeaaDoorRows
import Derived.Test.YtbohhdakbgnaeaaDoorZ20
namespace Go.Proofs.YtbohhdakbgnaeaaDoor.InflateBehind
open Go.ChangeShapes Go.WideShapes Go.ChangeAt Go.RowKit
open Go.ChangeMaps (open_string shut_string)
set_option linter.unusedVariables false
theorem own : ownKnob Tryd.prog.godebug = none := by kernel_rfl
theorem laidOut : laidOutB Tryd.prog = true := by kernel_rfl
set_option maxRecDepth 100000 in
set_option maxHeartbeats 8000000 in
theorem walk (a : Option Addr) (len cap : Nat) (l : List UInt8) (a' : Option Addr) (len' cap' : Nat) (l' : List UInt8) (m : Int) (w : World) (h : Bs w a len cap l) (hr : cap ≤ 140737488351232) (h' : Bs w a' len' cap' l') (hr' : cap' ≤ 140737488351232) (hw : (Lit.int .i64 m).wf = true) (hL : laidMetH Tryd.prog [("burnish/inflate.lengthOrder", Rows.laid_burnish_inflate_lengthOrder)] w) :
    Calls Tryd.prog 3 #[.slice a len cap, .slice a' len' cap', .int .i64 m] w fun e w' => e = .returned (.bool true) ∧ Below w.heap.size w w' := by
  obtain ⟨hlo, hw0⟩ := lo_of_laid hL
  have HLO : Hid (∀ w', Below w.heap.size w w' → Lo w' ∧ 0 < w'.heap.size) := Lib.hid (fun w' hb => ⟨hlo.kept (Ch.of_below (T := fun _ => False) hb) (fun h => h) hw0, Nat.lt_of_lt_of_le hw0 hb.size⟩)
  have hle := h.hle
  have hle' := h'.hle
  have HL := Lib.hid h.hlen
  have HL' := Lib.hid h'.hlen
  have H := Lib.hid h
  have H' := Lib.hid h'
  clear h h' hL hw hlo hw0
  have HA := Lib.hid (alive_any w)
  go_enter Tryd.func3, Tryd.ntmps3
  go_wp2_with fail
  refine HA.out.mono ?_
  rintro e w1 ⟨rfl, hb1⟩
  have HB1 := Lib.hid hb1
  clear hb1 HA
  by_cases hbig : 1000 < len
  · have d1 : decide ((1000 : Int) < (len : Int)) = true := by simp; omega
    go_wp2
    go_ret
    exact ⟨rfl, HB1.out⟩
  have d1 : decide ((1000 : Int) < (len : Int)) = false := by simp; omega
  by_cases hbig2 : 1000 < len'
  · have d2 : decide ((1000 : Int) < (len' : Int)) = true := by simp; omega
    go_wp2
    go_ret
    exact ⟨rfl, HB1.out⟩
  have d2 : decide ((1000 : Int) < (len' : Int)) = false := by simp; omega
  by_cases hm : 0 ≤ m ∧ m ≤ 4194304
  rotate_left
  · have HI := Lib.hid (inflate_range a len cap m w1 hm)
    clear hm
    go_wp2_with fail
    refine HI.out.mono ?_
    rintro e w' ⟨rfl, rfl⟩
    go_wp2
    go_ret
    exact ⟨rfl, HB1.out⟩
  obtain ⟨most, rfl⟩ := Int.eq_ofNat_of_zero_le hm.1
  have hmm : most ≤ 4194304 := by omega
  clear hm
  have HIN : Hid (∀ w2 (a2 : Option Addr) (len2 cap2 : Nat) (b : List UInt8) (k : Nat), Below w.heap.size w w2 → Bs w2 a2 len2 cap2 b → len2 ≤ 3000 → k ≤ 4194304 → Calls Tryd.prog 8 #[.slice a2 len2 cap2, .int .i64 (k : Nat)] w2 (InfPost w2 (infR k b))) := Lib.hid (fun w2 a2 len2 cap2 b k hb hbs hl hk => inflate_dyn (HLO.out w2 hb).1 (HLO.out w2 hb).2 a2 len2 cap2 hbs (by have := hbs.hlen; omega) hk)
  have HTK := Lib.hid (fun w2 hb => tokens_dyn (most := most) (HLO.out w2 hb).1 (HLO.out w2 hb).2 a len cap (H.out.mono hb) (by rw [HL.out]; omega) hmm)
  have HI := Lib.hid (HIN.out w1 a len cap l most HB1.out (H.out.mono HB1.out) (by omega) hmm)
  cases hR : infR most l with
  | err n =>
    rw [hR] at HI
    clear hR
    go_wp2_with fail
    refine HI.out.mono ?_
    rintro e w2 ⟨_, rfl, hch⟩
    have HB2 := Lib.hid (below_then HB1.out (below_of_ch hch))
    clear hch HI
    go_wp2
    go_ret
    exact ⟨rfl, HB2.out⟩
  | ok s q =>
    rw [hR] at HI
    have hq := infR_le hR
    have hval := infR_exp hR hmm
    have htok := infR_toks hR
    have HE := Lib.hid (infR_ext hR l')
    have HC := Lib.hid (infR_cut hR)
    have HD := Lib.hid (infR_down hR)
    have HT1 : Hid (∀ w2, Below w.heap.size w w2 → Calls Tryd.prog 9 #[.slice a len cap, .int .i64 (most : Nat)] w2 (TokPost w2 (.ok s q))) := Lib.hid (fun w2 hb => by rw [← hR]; exact HTK.out w2 hb)
    clear hR HTK
    obtain ⟨t, ts⟩ := s
    dsimp only at *
    rw [HL.out] at hq
    obtain ⟨n, hn⟩ : ∃ n, (q + 7) / 8 = n := ⟨_, rfl⟩
    have hn1 : 1 ≤ n ∧ n ≤ len := by omega
    have HQ := Lib.hid hn
    rw [hn] at HE HC
    have HV := Lib.hid (And.intro hval htok)
    clear hq hval htok hn
    go_wp2_with fail
    refine HI.out.mono ?_
    rintro e w2 ⟨v2, rfl, own2, hch2⟩
    dsimp only at *
    rw [HQ.out]
    have HB2 := Lib.hid (below_then HB1.out (below_of_ch hch2))
    have HTK2 := Lib.hid (HT1.out w2 HB2.out)
    have O2 := Lib.hid own2
    clear own2 hch2 HI HT1
    go_wp2_with fail
    refine HTK2.out.mono ?_
    rintro e w3 ⟨v3, rfl, own3, hts, htl, hch3⟩
    dsimp only at *
    obtain ⟨a3, c3, rfl, hts3⟩ := own_ts2 own3 (fun i hi => by
      have := Tk.tok_range (HV.out.2 i hi)
      exact ⟨wf_int (by omega), wf_int (by omega)⟩)
    have HB3 := Lib.hid (below_then HB2.out (below_of_ch hch3))
    have O3 := Lib.hid (own_below O2.out (below_of_ch hch3))
    have HX := Lib.hid (expand_any a3 ts.length c3 ts (most : Int) w3 hts3 (by omega))
    rw [HV.out.1] at HX
    have htl2 := htl
    clear own3 hch3 hts3 O2 HTK2 hts
    go_wp2_with fail
    refine HX.out.mono ?_
    rintro e w4 ⟨hb4, ⟨h0, _⟩ | ⟨_, v4, rfl, own4⟩⟩
    · exact absurd rfl h0
    dsimp only at own4
    obtain ⟨a4, c4, rfl, hbs4⟩ := own_bs own4 (by omega)
    obtain ⟨a2, c2, rfl, hbs2⟩ := own_bs (own_below O3.out hb4) (by omega)
    have H4 := Lib.hid (And.intro hbs4 (And.intro hbs2 (below_then HB3.out hb4)))
    clear own4 hb4 hbs4 hbs2 O3 HX HB3
    have hsame : (t == t) = true := by simp
    go_wp2_with fail
    refine (same_any _ _ _ _ _ _ _ _ _ H4.out.1 H4.out.2.1).mono ?_
    rintro e w' ⟨rfl, rfl⟩
    rw [hsame]
    obtain ⟨b0, off0, e0, _, _⟩ := H.out.at' 0 (by omega)
    subst e0
    have own0 := own_new w4 w4.heap.size 5 #[] [] (Nat.le_refl _) (by simp) 0 rfl rfl
    have hz4 := H4.out.2.2.size
    have bw4 := below_then H4.out.2.2 (below_alloc w4 (.cells #[] 5))
    have hsl : SrcRow (w4.alloc (.cells #[] 5)) (some ⟨b0, off0, none⟩) n cap (bvs (l.take n)) 1 := (((H.out.mono bw4).take n hn1.2).src)
    go_wp2_with (at_builtin; refine wpl_append tyB rfl _ _ rfl own0 hsl rfl rfl (by omega) (by omega) (by simp) ?_)
    intro v5 w5 own5 g5 _
    have b5 : Below w4.heap.size w4 w5 := (below_alloc w4 _).grown g5 (by simp) (fun k hk => (own0.lt k hk).1)
    have B5 := Lib.hid b5
    have hsl2 := (H'.out.mono (below_then H4.out.2.2 b5)).src
    clear own0 hsl bw4 g5
    go_wp2_with (at_builtin; refine wpl_append tyB rfl _ _ rfl own5 hsl2 rfl rfl (by omega) (by omega) (by have := B5.out.size; omega) ?_)
    intro v6 w6 own6 g6 _
    have b6 : Below w4.heap.size w4 w6 := B5.out.grown g6 B5.out.size (fun k hk => (own5.lt k hk).1)
    rw [← bvs_append, ← bvs_append, List.nil_append] at own6
    obtain ⟨a6, c6, rfl, hbs6⟩ := own_bs own6 (by omega)
    have HI6 := Lib.hid (HIN.out w6 a6 _ c6 _ most (below_then H4.out.2.2 b6) hbs6 (by omega) hmm)
    rw [HE.out] at HI6
    have H6 := Lib.hid (And.intro (H4.out.2.1.mono b6) (below_then H4.out.2.2 b6))
    clear own5 own6 hsl2 g6 b5 b6 B5 hbs6 H4 hz4
    go_wp2_with fail
    refine HI6.out.mono ?_
    rintro e w7 ⟨v7, rfl, own7, hch7⟩
    dsimp only at own7
    dsimp only
    rw [HQ.out]
    obtain ⟨a7, c7, rfl, hbs7⟩ := own_bs own7 (by omega)
    have H7 := Lib.hid (And.intro hbs7 (And.intro (H6.out.1.mono (below_of_ch hch7)) (below_then H6.out.2 (below_of_ch hch7))))
    clear own7 hch7 hbs7 H6 HI6
    go_wp2_with fail
    have HI7 := Lib.hid (HIN.out w7 (some ⟨b0, off0, none⟩) (n - 1) cap (l.take (n - 1)) most H7.out.2.2 ((H.out.mono H7.out.2.2).take (n - 1) (by omega)) (by omega) hmm)
    rw [HC.out] at HI7
    refine HI7.out.mono ?_
    rintro e w8 ⟨_, rfl, hch8⟩
    have H8 := Lib.hid (And.intro (H7.out.1.mono (below_of_ch hch8)) (And.intro (H7.out.2.1.mono (below_of_ch hch8)) (below_then H7.out.2.2 (below_of_ch hch8))))
    clear hch8 HI7 H7
    go_wp2_with fail
    have HI8 := Lib.hid (HIN.out w8 (some ⟨b0, off0, none⟩) len cap l t.length H8.out.2.2 (H.out.mono H8.out.2.2) (by omega) htl)
    rw [HD.out] at HI8
    refine HI8.out.mono ?_
    rintro e w9 ⟨v9, rfl, own9, hch9⟩
    dsimp only at own9
    dsimp only
    rw [HQ.out]
    obtain ⟨a9, c9, rfl, hbs9⟩ := own_bs own9 (by omega)
    have H9 := Lib.hid (And.intro hbs9 (And.intro (H8.out.1.mono (below_of_ch hch9)) (And.intro (H8.out.2.1.mono (below_of_ch hch9)) (below_then H8.out.2.2 (below_of_ch hch9)))))
    clear own9 hch9 hbs9 H8 HI8
    go_wp2_with fail
    refine (same_any _ _ _ _ _ _ _ _ _ H9.out.2.1 H9.out.2.2.1).mono ?_
    rintro e w' ⟨rfl, rfl⟩
    rw [hsame]
    go_wp2_with fail
    refine (is_yes 8 rfl _).mono ?_
    rintro e w' ⟨rfl, rfl⟩
    go_wp2_with fail
    refine (same_any _ _ _ _ _ _ _ _ _ H9.out.1 H9.out.2.2.1).mono ?_
    rintro e w' ⟨rfl, rfl⟩
    rw [hsame]
    go_wp2
    go_ret
    exact ⟨rfl, H9.out.2.2.2⟩
set_option maxRecDepth 100000 in
theorem lifted (os : Os) (started : os.Started) (H : Type) (enc : TypeId × Value → H) :
    ReturnsInHanded {} Tryd.checked os 3 .any (fun w args => (Rows.inflateBehindSpec.pre enc Tryd.prog Tryd.f3 Rows.inflateBehindRow.domain false w args ∧ laidMetH Tryd.prog [("burnish/inflate.lengthOrder", Rows.laid_burnish_inflate_lengthOrder)] w) ∧ sizedMet enc Tryd.prog Tryd.f3 (OpenSpec.ofChange Rows.inflateBehindSpec) false w args)
      (Rows.inflateBehindSpec.post enc Tryd.prog Tryd.f3 false true false false) := by
  refine returnsInHanded_of_change_and (C := Tryd.checked) (X := fun w _ => laidMetH Tryd.prog [("burnish/inflate.lengthOrder", Rows.laid_burnish_inflate_lengthOrder)] w) (fun _ _ _ hh h => h.of_heap hh) own started (by kernel_rfl) Tryd.func3
    (ChangeSpec.witness_shaped (enc := enc) (C := Tryd.checked) (os := os) (X := fun w _ => laidMetH Tryd.prog [("burnish/inflate.lengthOrder", Rows.laid_burnish_inflate_lengthOrder)] w) false (World.laidAll Tryd.prog os [("burnish/inflate.lengthOrder", Rows.laid_burnish_inflate_lengthOrder)]) #[.slice none 0 0, .slice none 0 0, .int .i64 0] 8 (World.laidAll_os _ _ _)
      (World.shaped_of_ZipB (by kernel_rfl) (by kernel_rfl)) (by kernel_rfl) (by kernel_rfl) (by kernel_rfl)
      (by rw [MakeChecks.laidMetH_plain _ _ _ (by kernel_rfl)]; exact laidMet_laidAll _ (by kernel_rfl) (by kernel_rfl))) ?_
  intro W base args ds gs before hval0 hW _ hsz0 hL _
  have hval : ∀ (j : Nat) t v, Tryd.f3.params[j]? = some t → args[j]? = some v → Value.okWide Tryd.prog W .any base t v := hval0
  have hsz : (DataW.weightsEach Tryd.prog (Tryd.f3.params.toList ++ Rows.inflateBehindSpec.plain.varTypes Tryd.prog) (ds ++ gs)).all (· ≤ reachBytes) = true := hsz0
  have hW' := hW
  obtain ⟨p, q, hA0, hV, rfl, hfz, hnd⟩ := hW
  have hA : DataW.TrodAll enc Tryd.prog W 0 (fun _ => true) true Tryd.f3.params.toList args.toList ds p := hA0
  rw [Tryd.params3] at hA hval hsz
  obtain ⟨v0, vs0, d0, ds0, p0, q0, hargs, rfl, rfl, h0, r0⟩ := trodAll_cons hA
  obtain ⟨v1, vs1, d1, ds1, p1, q1, rfl, rfl, rfl, h1, r1⟩ := trodAll_cons r0
  obtain ⟨v2, vs2, d2, ds2, p2, q2, rfl, rfl, rfl, h2, r2⟩ := trodAll_cons r1
  obtain ⟨rfl, rfl, rfl⟩ := trodAll_nil r2
  obtain rfl : args = #[v0, v1, v2] := by cases args; simp_all
  obtain ⟨rfl, rfl⟩ := trodVars_none hV
  clear hsz0
  obtain ⟨a0, len0, cap0, rfl⟩ := okWide_slice Tryd.underlying22 (hval 0 22 v0 rfl rfl)
  have k0 := h0
  have lt0 : ∀ x ∈ p0, x.block < W.heap.size := by obtain ⟨m, hm⟩ := k0; exact DataW.trod_lt m _ _ _ hm
  obtain ⟨l0, w0, c0⟩ := open_bs Tryd.underlying22 Tryd.underlying5 (by kernel_rfl) (by kernel_rfl) h0 hsz 0 rfl rfl
  obtain ⟨a1, len1, cap1, rfl⟩ := okWide_slice Tryd.underlying22 (hval 1 22 v1 rfl rfl)
  have k1 := h1
  have lt1 : ∀ x ∈ p1, x.block < W.heap.size := by obtain ⟨m, hm⟩ := k1; exact DataW.trod_lt m _ _ _ hm
  obtain ⟨l1, w1, c1⟩ := open_bs Tryd.underlying22 Tryd.underlying5 (by kernel_rfl) (by kernel_rfl) h1 hsz 1 rfl rfl
  obtain ⟨a2, rfl, rfl, rfl, w2⟩ := open_int Tryd.underlying3 (hval 2 3 v2 rfl rfl) h2
  clear hA0 hval0 hsz
  refine (walk a0 len0 cap0 l0 a1 len1 cap1 l1 a2 W w0 c0 w1 c1 w2 hL).mono fun e W' ⟨he, bel⟩ => ?_
  subst he
  exact ⟨_, rfl, _, _, _, [], _, [], hW', trodAll_mk1 (shut_bool Tryd.underlying4 _), (trodAll_cons_mk (Below.trod laidOut (by kernel_rfl) (of_decide_eq_true (by kernel_rfl)) k0 bel lt0) (trodAll_cons_mk (Below.trod laidOut (by kernel_rfl) (of_decide_eq_true (by kernel_rfl)) k1 bel lt1) (trodAll_cons_mk (shut_int Tryd.underlying3 w2) trodAll_mk0))), rfl, bel.frame _, fun h => by cases h⟩

theorem proved : Rows.InflateBehindSaid :=
  OpenClaim.holds_of_wide 3 Tryd.f3 rfl rfl rfl rfl rfl rfl rfl ⟨rfl, rfl, rfl, rfl, rfl⟩ rfl rfl rfl rfl rfl (by kernel_rfl) Tryd.func3 (by kernel_rfl)
    (of_decide_eq_true (by kernel_rfl)) (by unfold Func.isWrapper; first | (rw [if_pos (by decide +kernel)]; kernel_rfl) | (rw [if_neg (by decide +kernel)]; exact ⟨rfl, rfl⟩))
    (fun os started H enc _ => lifted os started H enc)
theorem card : Rows.InflateBehindCardSaid :=
  Claim7.holds_tied_plain_at .later [] [.data] true (true, "323f4d27744a4d86804b10305e3aa92a8683e815e80cdf6a4a576ba4e3bafd76") true proved (fun _ h => by cases h) (by kernel_rfl) (fun _ h => by cases h) inflateBehind_row_tie rfl ⟨rfl, rfl⟩ (by kernel_rfl) rfl
    (fun f fn hf hfn => by
      obtain rfl : f = 3 := Option.some.inj ((show Tryd.prog.funcNamed "burnish/burnishlaw06.InflateBehind" = some 3 by kernel_rfl).symm.trans hf) |>.symm
      obtain rfl : fn = Tryd.f3 := (Option.some.inj (Tryd.func3.symm.trans hfn)).symm
      exact ⟨by kernel_rfl, fun j t ht => by
        rw [Tryd.params3] at ht
        have hm : t ∈ [22, 22, 3] := by simpa using Array.mem_of_getElem? ht
        have hall : ([22, 22, 3].all fun u => !Tryd.prog.wantsStandIn u) = true := by kernel_rfl
        exact (show Tryd.prog.wantsStandIn t = false by simpa using List.all_eq_true.1 hall t hm)⟩)
    (by kernel_rfl)
#print axioms proved
#print axioms card
end Go.Proofs.YtbohhdakbgnaeaaDoor.InflateBehind
