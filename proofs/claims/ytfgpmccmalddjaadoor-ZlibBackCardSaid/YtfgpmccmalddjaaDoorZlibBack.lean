/- For any bytes (of at most 300, as the law itself asks) that the document's own reader takes for packed ones, any bytes behind (at most 100) and any number: wrapped with their tokens' window they are unwrapped to their text, whatever stands behind, and with a bit of the sum turned they are malformed. inflate.lengthOrder holds what the program's text lays (the tied card). -/
import Derived.Test.YtfgpmccmalddjaaDoorCards
import Derived.Test.YtfgpmccmalddjaaDoorTie
import Derived.ProofKit
import Derived.Handy
import Derived.Lay
import Derived.SevenTiedAt
import Derived.Test.YtfgpmccmalddjaaDoorRows
import Derived.Test.YtfgpmccmalddjaaDoorZ30
namespace Go.Proofs.YtfgpmccmalddjaaDoor.ZlibBack
open Go.ChangeShapes Go.WideShapes Go.ChangeAt Go.RowKit
open Go.ChangeMaps (open_string shut_string)
set_option linter.unusedVariables false
theorem own : ownKnob Tryd.prog.godebug = none := by kernel_rfl
theorem laidOut : laidOutB Tryd.prog = true := by kernel_rfl
theorem own_frB {w : World} {base : Nat} {e : TypeId} {size n cap g : Nat} {xs : List Value} (h : w.ownsRow base e size (.slice (some ⟨g, 0, none⟩) n cap) n xs) (o : Nat) : w.frozen? ⟨g, o, none⟩ = false := by
  rcases h.2 with ⟨h', _⟩ | ⟨g', cap', cur, h', hb, hg, _⟩
  · simp at h'
  · simp only [Value.slice.injEq, Option.some.injEq, Addr.mk.injEq, and_true, true_and] at h'
    obtain ⟨rfl, rfl⟩ := h'
    exact frozen_of_row w g o _ _ hg
set_option maxRecDepth 100000 in
set_option maxHeartbeats 8000000 in
theorem walk (a : Option Addr) (len cap : Nat) (l : List UInt8) (m : Int) (a' : Option Addr) (len' cap' : Nat) (l' : List UInt8) (w : World) (h : Bs w a len cap l) (hr : cap ≤ 140737488351232) (hw : (Lit.int .i64 m).wf = true) (h' : Bs w a' len' cap' l') (hr' : cap' ≤ 140737488351232) (hL : laidMetH Tryd.prog [("burnish/inflate.lengthOrder", Rows.laid_burnish_inflate_lengthOrder)] w) :
    Calls Tryd.prog 3 #[.slice a len cap, .int .i64 m, .slice a' len' cap'] w fun e w' => e = .returned (.bool true) ∧ Below w.heap.size w w' := by
  obtain ⟨hlo, hw0⟩ := lo_of_laid hL
  have HLO : Hid (∀ w', Below w.heap.size w w' → Lo w' ∧ 1 < w'.heap.size) := Lib.hid (fun w' hb => ⟨hlo.kept (Ch.of_below (T := fun _ => False) hb) (fun h => h) hw0, Nat.lt_of_lt_of_le hw0 hb.size⟩)
  have hle := h.hle
  have hle' := h'.hle
  have HL := Lib.hid h.hlen
  have HL' := Lib.hid h'.hlen
  have H := Lib.hid h
  have H' := Lib.hid h'
  have HA := Lib.hid (alive07_any w hlo hw0)
  clear h h' hL hw hlo hw0
  go_enter Tryd.func3, Tryd.ntmps3
  go_wp2_with fail
  refine HA.out.mono ?_
  rintro e w1 ⟨rfl, hb1⟩
  have HB1 := Lib.hid hb1
  clear hb1 HA
  by_cases hbig : 300 < len
  · have d1 : decide ((300 : Int) < (len : Int)) = true := by simp; omega
    go_wp2
    go_ret
    exact ⟨rfl, HB1.out⟩
  have d1 : decide ((300 : Int) < (len : Int)) = false := by simp; omega
  by_cases hbig2 : 100 < len'
  · have d2 : decide ((100 : Int) < (len' : Int)) = true := by simp; omega
    go_wp2
    go_ret
    exact ⟨rfl, HB1.out⟩
  have d2 : decide ((100 : Int) < (len' : Int)) = false := by simp; omega
  have HT := Lib.hid (rtokens_any (fun wr D B gr a cap u q most s v hz hrn => rlen_any hrn hz) w1 a len cap 20000 l (H.out.mono HB1.out) (by omega) (by omega))
  go_wp2_with fail
  refine HT.out.mono ?_
  rintro e w2 ⟨hb2, v2, n, bad, rfl, hbad | ⟨rfl, s, q, hR, own2, rfl⟩⟩
  · have HB2 := Lib.hid (below_then HB1.out hb2)
    have d3 : (bad != 0) = true := by simpa using hbad
    clear hb2 HT hbad
    go_wp2
    go_ret
    exact ⟨rfl, HB2.out⟩
  have hq := infR_le hR
  have hval := infR_exp hR (by omega)
  have htok := infR_toks hR
  have HE := Lib.hid (infR_ext hR)
  have hup := infR_val hR
  have hsz := Tk.upto_le 20000 s.2 s.2.length s.1 hup
  have hct := Tk.upto_count 20000 s.2 s.2.length s.1 hup
  clear hR hup
  obtain ⟨t, ts⟩ := s
  dsimp only at *
  rw [HL.out] at hq
  obtain ⟨n, hn⟩ : ∃ n, (q + 7) / 8 = n := ⟨_, rfl⟩
  have hn1 : 1 ≤ n ∧ n ≤ len := by omega
  rw [hn] at HE ⊢
  have HQ := Lib.hid hn
  have hb300 : len ≤ 300 := by omega
  have hb100 : len' ≤ 100 := by omega
  obtain ⟨a2, c2, rfl, hts2⟩ := own_ts2 own2 (fun i hi => by
    have := Tk.tok_range (htok i hi)
    exact ⟨wf_int (by omega), wf_int (by omega)⟩)
  have HB2 := Lib.hid (below_then HB1.out hb2)
  have T2 := Lib.hid hts2
  have HV := Lib.hid (And.intro hval htok)
  have HX := Lib.hid (refExpand_any a2 ts.length c2 ts ((20000 : Nat) : Int) w2 hts2 (by omega))
  rw [hval] at HX
  have htl : ts.length ≤ 20000 := by omega
  have HNX : Hid ((l.take n).length = n) := Lib.hid (by rw [List.length_take, HL.out]; omega)
  clear own2 hb2 hts2 HT hval htok hq hn hct hbig hbig2
  go_wp2_with fail
  refine HX.out.mono ?_
  rintro e w3 ⟨hb3, v3, rfl, own3⟩
  dsimp only at own3
  obtain ⟨a3, c3, rfl, hbs3⟩ := own_bs own3 (by omega)
  have T3 := Lib.hid hbs3
  have HB3 := Lib.hid (below_then HB2.out hb3)
  have HW := Lib.hid (window_any a2 ts.length c2 ts w3 (T2.out.mono hb3) (by omega))
  clear own3 hb3 hbs3 HX T2
  go_wp2_with fail
  refine HW.out.mono ?_
  rintro e w4 ⟨⟨j, hwin, rfl⟩, hb4⟩
  have T4 := Lib.hid (T3.out.mono hb4)
  have HB4 := Lib.hid (below_then HB3.out hb4)
  have HJ := Lib.hid hwin
  have HWR := Lib.hid (wrap_yes j hwin.1 a n cap (l.take n) a3 t.length c3 t w4 ((H.out.mono HB4.out).take n hn1.2) T4.out (by omega))
  obtain ⟨wn, hwn⟩ : ∃ wn : Nat, 256 * 2 ^ j = wn := ⟨_, rfl⟩
  rw [hwn] at HWR
  rw [hwn]
  clear hb4 T3 HW hwin hwn
  go_wp2_with fail
  refine HWR.out.mono ?_
  rintro e w5 ⟨g, rfl, own5, hb5⟩
  have hxl := Zl.wrapped_len j (l.take n) t
  rw [HNX.out] at hxl
  obtain ⟨x, hx⟩ : ∃ x, Zl.wrapped j (l.take n) t = x := ⟨_, rfl⟩
  rw [hx] at hxl own5 ⊢
  obtain ⟨N, hN⟩ : ∃ N, x.length = N := ⟨_, rfl⟩
  rw [hN] at hxl own5 ⊢
  have HD4 : Hid ((Pt.dig 4 (Ad.adler t)).length = 4) := Lib.hid (Pt.dig_length _ 4)
  have HU1 : Hid (∀ w' (a9 : Option Addr) (c9 : Nat), Below w.heap.size w w' → Bs w' a9 (N + len') c9 (x ++ l') → Calls Tryd.prog 13 #[.slice a9 (N + len') c9, .int .i64 ((20000 : Nat) : Int)] w' (UwPost w' (t, ts) n (Ad.adler t))) := Lib.hid (fun w' a9 c9 hb hbs => by
    have e1 : x ++ l' = Zl.hd j ++ (l.take n ++ (Pt.dig 4 (Ad.adler t) ++ l')) := by rw [← hx]; simp [Zl.wrapped]
    rw [e1] at hbs
    have k1 := unwrap_yes j (HLO.out w' hb).1 (HLO.out w' hb).2 a9 (N + len') c9 hbs (by have := HL'.out; have := HD4.out; have := HNX.out; simp only [List.length_append]; omega) (by omega) (HE.out (Pt.dig 4 (Ad.adler t) ++ l')) HV.out.2 (by show t.length ≤ 4194304; omega) ⟨HJ.out.1, HJ.out.2.2⟩ (by have := HD4.out; have := HNX.out; have := HQ.out; simp only [List.length_append]; omega)
    rw [HQ.out, List.drop_left' HNX.out, List.take_left' HD4.out, Zl.num_dig4 _ (Zl.adler_lt t)] at k1
    exact k1)
  have HU2 : Hid (∀ w' (a9 : Option Addr) (c9 jj k : Nat), jj < 4 → k < 8 → Below w.heap.size w w' → Bs w' a9 N c9 (x.set (N - 1 - jj) (UInt8.ofNat (gb x (N - 1 - jj) ^^^ 2 ^ k))) → Calls Tryd.prog 13 #[.slice a9 N c9, .int .i64 ((20000 : Nat) : Int)] w' fun e w'' => e = .returned (.tuple #[.slice none 0 0, .int .i64 0, .iface 39 (.int .i64 2)]) ∧ Below w'.heap.size w' w'') := Lib.hid (fun w' a9 c9 jj k hjj hk hb hbs => by
    rw [hxl, ← hx] at hbs
    have e0 : 2 + n + 4 - 1 - jj = 2 + (l.take n).length + 4 - 1 - jj := by rw [HNX.out]
    rw [e0, Zl.wrapped_get j _ t jj hjj, Zl.wrapped_set j _ t jj hjj] at hbs
    rw [hxl]
    obtain ⟨d, hd⟩ : ∃ d, (Pt.dig 4 (Ad.adler t)).set (3 - jj) (UInt8.ofNat (gb (Pt.dig 4 (Ad.adler t)) (3 - jj) ^^^ 2 ^ k)) = d := ⟨_, rfl⟩
    have hne := Zl.turned t jj k hjj hk
    have hd4 : d.length = 4 := by rw [← hd, List.length_set]; exact HD4.out
    rw [hd] at hbs hne
    have k1 := unwrap_yes j (HLO.out w' hb).1 (HLO.out w' hb).2 a9 (2 + n + 4) c9 hbs (by have := HNX.out; simp only [List.length_append]; omega) (by omega) (HE.out d) HV.out.2 (by show t.length ≤ 4194304; omega) ⟨HJ.out.1, HJ.out.2.2⟩ (by have := HNX.out; have := HQ.out; simp only [List.length_append]; omega)
    rw [HQ.out, List.drop_left' HNX.out, List.take_of_length_le (by omega)] at k1
    refine k1.mono ?_
    rintro e w'' ⟨hb2, ⟨h1, _⟩ | ⟨_, h2⟩⟩
    · exact absurd h1 hne
    · exact ⟨h2, hb2⟩)
  have HB5 := Lib.hid (below_then HB4.out hb5)
  have T5 := Lib.hid (T4.out.mono hb5)
  have O5 := Lib.hid own5
  obtain ⟨a5, c5, e5, hbs5⟩ := own_bs own5 (by omega)
  simp only [Value.slice.injEq] at e5
  obtain ⟨rfl, _, rfl⟩ := e5
  have B5 := Lib.hid hbs5
  have hN2 : N ≤ 306 := by omega
  have hN7 : 7 ≤ N := by omega
  have HXN := Lib.hid hN
  have HNN := Lib.hid hxl
  have G5 := Lib.hid (own5.lt g rfl)
  have hz4 := HB4.out.size
  clear hxl hx hN own5 hb5 hbs5 T4 HWR HE HV HJ HL HNX
  have own0 := own_new w5 w5.heap.size 5 #[] [] (Nat.le_refl _) (by simp) 0 rfl rfl
  have bw5 := below_then HB5.out (below_alloc w5 (.cells #[] 5))
  have hsl := (B5.out.mono (below_alloc w5 (.cells #[] 5))).src
  go_wp2_with (at_builtin; refine wpl_append tyB rfl _ _ rfl own0 hsl rfl rfl (by omega) (by omega) (by simp) ?_)
  intro v6 w6 own6 g6 _
  have b6 : Below w5.heap.size w5 w6 := (below_alloc w5 _).grown g6 (by simp) (fun k hk => (own0.lt k hk).1)
  have B6 := Lib.hid b6
  have hsl2 := (H'.out.mono (below_then HB5.out b6)).src
  clear own0 hsl bw5 g6
  go_wp2_with (at_builtin; refine wpl_append tyB rfl _ _ rfl own6 hsl2 rfl rfl (by omega) (by omega) (by have := B6.out.size; omega) ?_)
  intro v7 w7 own7 g7 _
  have b7 : Below w5.heap.size w5 w7 := B6.out.grown g7 B6.out.size (fun k hk => (own6.lt k hk).1)
  rw [← bvs_append, ← bvs_append, List.nil_append] at own7
  obtain ⟨a7, c7, rfl, hbs7⟩ := own_bs own7 (by omega)
  have B7 := Lib.hid hbs7
  have hb7 := Lib.hid b7
  clear own6 own7 hsl2 g7 b6 b7 B6 hbs7
  have HU := Lib.hid (HU1.out w7 a7 c7 (below_then HB5.out hb7.out) B7.out)
  clear HU1 B7
  go_wp2_with fail
  refine HU.out.mono ?_
  rintro e w8 ⟨hb8, ⟨hz1, v8, rfl, own8⟩ | ⟨h1, _⟩⟩
  rotate_left
  · exact absurd rfl h1
  rw [← HNN.out]
  dsimp only at own8
  obtain ⟨a8, c8, rfl, hbs8⟩ := own_bs own8 (by omega)
  have hb58 := below_then hb7.out hb8
  have O8 := Lib.hid (own_below O5.out hb58)
  have S8 := Lib.hid (same_any a8 a3 t.length c8 t.length c3 t t w8 hbs8 (T5.out.mono hb58))
  have HB8 := Lib.hid (below_then HB5.out hb58)
  have G8 : Hid (w4.heap.size ≤ g ∧ g < w8.heap.size) := Lib.hid ⟨G5.out.1, Nat.lt_of_lt_of_le G5.out.2 hb58.size⟩
  have hsame : (t == t) = true := by simp
  clear hb8 hz1 own8 hbs8 hb58 HU hb7 O5 B5 T5 G5 HB5
  go_wp2_with fail
  refine S8.out.mono ?_
  rintro e w' ⟨rfl, rfl⟩
  rw [hsame]
  clear S8 hsame
  obtain ⟨M, hM, hM2⟩ : ∃ M : Nat, IntKind.u64.wrap m = (M : Int) ∧ (M : Int) < 18446744073709551616 := by
    have h0 : 0 ≤ IntKind.u64.wrap m ∧ IntKind.u64.wrap m < 18446744073709551616 := by
      simp only [IntKind.wrap, IntKind.signed, IntKind.bits]
      first | omega | (simp; omega)
    obtain ⟨M, hM⟩ := Int.eq_ofNat_of_zero_le h0.1
    exact ⟨M, hM, by omega⟩
  obtain ⟨jj, hj4, hjj⟩ : ∃ jj : Nat, (M : Int).tmod 4 = (jj : Int) ∧ jj < 4 := ⟨M % 4, by rw [Int.tmod_eq_emod_of_nonneg (by omega)]; omega, by omega⟩
  obtain ⟨kk, hk8, hkk⟩ : ∃ kk : Nat, (M : Int).tmod 8 = (kk : Int) ∧ kk < 8 := ⟨M % 8, by rw [Int.tmod_eq_emod_of_nonneg (by omega)]; omega, by omega⟩
  obtain ⟨i, hi⟩ : ∃ i : Nat, N - 1 - jj = i := ⟨_, rfl⟩
  have hiN : i < N := by omega
  have hi2 : (N : Int) - 1 - (jj : Int) = (i : Int) := by omega
  have HI := Lib.hid hi
  have hcell : w8.cell? ⟨g, i, none⟩ = some (.int .u8 (gb x i)) := by rw [O8.out.cellAt i (by omega), bvs_get x i (by have := HXN.out; omega)]
  have hfr : w8.frozen? ⟨g, i, none⟩ = false := own_frB O8.out i
  have hx8 := Zl.xor_ne (gb x i) kk (gb_lt x i) hkk
  have hpw : (2 : Int) ^ kk % 256 = ((2 ^ kk : Nat) : Int) := by
    rcases (show kk = 0 ∨ kk = 1 ∨ kk = 2 ∨ kk = 3 ∨ kk = 4 ∨ kk = 5 ∨ kk = 6 ∨ kk = 7 by omega) with rfl | rfl | rfl | rfl | rfl | rfl | rfl | rfl <;> rfl
  have h2p : 2 ^ kk < 256 := Nat.lt_of_lt_of_le (Nat.pow_lt_pow_right (by omega) hkk) (by decide)
  obtain ⟨y, hy⟩ : ∃ y, gb x i ^^^ 2 ^ kk = y := ⟨_, rfl⟩
  have hxv : bits .xor .u8 (gb x i : Int) ((2 : Int) ^ kk % 256) = ((y : Nat) : Int) := by rw [hpw, u8_xor_nat _ _ (gb_lt x i) h2p, hy]
  have hy8 : y < 256 := by rw [← hy]; exact hx8.2
  have own9 := (O8.out.stored i (.int .u8 ((y : Nat) : Int))).1
  have e9 : (bvs x).set i (.int .u8 ((y : Nat) : Int)) = bvs (x.set (N - 1 - jj) (UInt8.ofNat (gb x (N - 1 - jj) ^^^ 2 ^ kk))) := by rw [HI.out, hy, ← bvs_set, Nat.mod_eq_of_lt hy8]
  rw [e9] at own9
  have HB9 := Lib.hid (below_of_ch ((Ch.of_below (T := fun _ => False) HB8.out).set (p := ⟨g, i, none⟩) (.inr (Nat.le_trans hz4 G8.out.1)) (.int .u8 ((y : Nat) : Int))))
  obtain ⟨a9, c9, e8, hbs9⟩ := own_bs own9 (by omega)
  simp only [Value.slice.injEq] at e8
  obtain ⟨rfl, _, rfl⟩ := e8
  have HU := Lib.hid (HU2.out _ _ _ jj kk hjj hkk HB9.out hbs9)
  clear hi hM2 hx8 hpw h2p hy e9 own9 hbs9 O8 HU2
  go_wp2_with fail
  refine HU.out.mono ?_
  rintro e w10 ⟨rfl, hb10⟩
  have HB10 := Lib.hid (below_then HB9.out hb10)
  clear hb10 HU
  go_wp2_with fail
  refine (is_yes 2 rfl _).mono ?_
  rintro e w' ⟨rfl, rfl⟩
  go_wp2
  go_ret
  exact ⟨rfl, HB10.out⟩
set_option maxRecDepth 100000 in
theorem lifted (os : Os) (started : os.Started) (H : Type) (enc : TypeId × Value → H) :
    ReturnsInHanded {} Tryd.checked os 3 .any (fun w args => (Rows.zlibBackSpec.pre enc Tryd.prog Tryd.f3 Rows.zlibBackRow.domain false w args ∧ laidMetH Tryd.prog [("burnish/inflate.lengthOrder", Rows.laid_burnish_inflate_lengthOrder)] w) ∧ sizedMet enc Tryd.prog Tryd.f3 (OpenSpec.ofChange Rows.zlibBackSpec) false w args)
      (Rows.zlibBackSpec.post enc Tryd.prog Tryd.f3 false true false false) := by
  refine returnsInHanded_of_change_and (C := Tryd.checked) (X := fun w _ => laidMetH Tryd.prog [("burnish/inflate.lengthOrder", Rows.laid_burnish_inflate_lengthOrder)] w) (fun _ _ _ hh h => h.of_heap hh) own started (by kernel_rfl) Tryd.func3
    (ChangeSpec.witness_shaped (enc := enc) (C := Tryd.checked) (os := os) (X := fun w _ => laidMetH Tryd.prog [("burnish/inflate.lengthOrder", Rows.laid_burnish_inflate_lengthOrder)] w) false (World.laidAll Tryd.prog os [("burnish/inflate.lengthOrder", Rows.laid_burnish_inflate_lengthOrder)]) #[.slice none 0 0, .int .i64 0, .slice none 0 0] 8 (World.laidAll_os _ _ _)
      (World.shaped_of_ZipB (by kernel_rfl) (by kernel_rfl)) (by kernel_rfl) (by kernel_rfl) (by kernel_rfl)
      (by rw [MakeChecks.laidMetH_plain _ _ _ (by kernel_rfl)]; exact laidMet_laidAll _ (by kernel_rfl) (by kernel_rfl))) ?_
  intro W base args ds gs before hval0 hW _ hsz0 hL _
  have hval : ∀ (j : Nat) t v, Tryd.f3.params[j]? = some t → args[j]? = some v → Value.okWide Tryd.prog W .any base t v := hval0
  have hsz : (DataW.weightsEach Tryd.prog (Tryd.f3.params.toList ++ Rows.zlibBackSpec.plain.varTypes Tryd.prog) (ds ++ gs)).all (· ≤ reachBytes) = true := hsz0
  have hW' := hW
  obtain ⟨p, q, hA0, hV, rfl, hfz, hnd⟩ := hW
  have hA : DataW.TrodAll enc Tryd.prog W 0 (fun _ => true) true Tryd.f3.params.toList args.toList ds p := hA0
  rw [Tryd.params3] at hA hval hsz
  obtain ⟨v0, vs0, d0, ds0, p0, q0, hargs, rfl, rfl, h0, r0⟩ := trodAll_cons hA
  obtain ⟨v1, vs1, d1, ds1, p1, q1, rfl, rfl, rfl, h1, r1⟩ := trodAll_cons r0
  obtain ⟨v2, vs2, d2, ds2, p2, q2, rfl, rfl, rfl, h2, r2⟩ := trodAll_cons r1
  obtain ⟨rfl, rfl, rfl⟩ := trodAll_nil r2
  obtain rfl : args = #[v0, v1, v2] := by cases args; simp_all
  obtain ⟨rfl, rfl⟩ := trodVars_none hV
  clear hsz0
  obtain ⟨a0, len0, cap0, rfl⟩ := okWide_slice Tryd.underlying22 (hval 0 22 v0 rfl rfl)
  have k0 := h0
  have lt0 : ∀ x ∈ p0, x.block < W.heap.size := by obtain ⟨m, hm⟩ := k0; exact DataW.trod_lt m _ _ _ hm
  obtain ⟨l0, w0, c0⟩ := open_bs Tryd.underlying22 Tryd.underlying5 (by kernel_rfl) (by kernel_rfl) h0 hsz 0 rfl rfl
  obtain ⟨a1, rfl, rfl, rfl, w1⟩ := open_int Tryd.underlying3 (hval 1 3 v1 rfl rfl) h1
  obtain ⟨a2, len2, cap2, rfl⟩ := okWide_slice Tryd.underlying22 (hval 2 22 v2 rfl rfl)
  have k2 := h2
  have lt2 : ∀ x ∈ p2, x.block < W.heap.size := by obtain ⟨m, hm⟩ := k2; exact DataW.trod_lt m _ _ _ hm
  obtain ⟨l2, w2, c2⟩ := open_bs Tryd.underlying22 Tryd.underlying5 (by kernel_rfl) (by kernel_rfl) h2 hsz 2 rfl rfl
  clear hA0 hval0 hsz
  refine (walk a0 len0 cap0 l0 a1 a2 len2 cap2 l2 W w0 c0 w1 w2 c2 hL).mono fun e W' ⟨he, bel⟩ => ?_
  subst he
  exact ⟨_, rfl, _, _, _, [], _, [], hW', trodAll_mk1 (shut_bool Tryd.underlying4 _), (trodAll_cons_mk (Below.trod laidOut (by kernel_rfl) (of_decide_eq_true (by kernel_rfl)) k0 bel lt0) (trodAll_cons_mk (shut_int Tryd.underlying3 w1) (trodAll_cons_mk (Below.trod laidOut (by kernel_rfl) (of_decide_eq_true (by kernel_rfl)) k2 bel lt2) trodAll_mk0))), rfl, bel.frame _, fun h => by cases h⟩

theorem proved : Rows.ZlibBackSaid :=
  OpenClaim.holds_of_wide 3 Tryd.f3 rfl rfl rfl rfl rfl rfl rfl ⟨rfl, rfl, rfl, rfl, rfl⟩ rfl rfl rfl rfl rfl (by kernel_rfl) Tryd.func3 (by kernel_rfl)
    (of_decide_eq_true (by kernel_rfl)) (by unfold Func.isWrapper; first | (rw [if_pos (by decide +kernel)]; kernel_rfl) | (rw [if_neg (by decide +kernel)]; exact ⟨rfl, rfl⟩))
    (fun os started H enc _ => lifted os started H enc)
theorem card : Rows.ZlibBackCardSaid :=
  Claim7.holds_tied_plain_at .later [] [.data] true (true, "1e34e93364b57536727b0940d9aaaca810b18f7ceca76cbea995e08c9f2bf502") true proved (fun _ h => by cases h) (by kernel_rfl) (fun _ h => by cases h) zlibBack_row_tie rfl ⟨rfl, rfl⟩ (by kernel_rfl) rfl
    (fun f fn hf hfn => by
      obtain rfl : f = 3 := Option.some.inj ((show Tryd.prog.funcNamed "burnish/burnishlaw07.ZlibBack" = some 3 by kernel_rfl).symm.trans hf) |>.symm
      obtain rfl : fn = Tryd.f3 := (Option.some.inj (Tryd.func3.symm.trans hfn)).symm
      exact ⟨by kernel_rfl, fun j t ht => by
        rw [Tryd.params3] at ht
        have hm : t ∈ [22, 3, 22] := by simpa using Array.mem_of_getElem? ht
        have hall : ([22, 3, 22].all fun u => !Tryd.prog.wantsStandIn u) = true := by kernel_rfl
        exact (show Tryd.prog.wantsStandIn t = false by simpa using List.all_eq_true.1 hall t hm)⟩)
    (by kernel_rfl)
#print axioms proved
#print axioms card
end Go.Proofs.YtfgpmccmalddjaaDoor.ZlibBack
