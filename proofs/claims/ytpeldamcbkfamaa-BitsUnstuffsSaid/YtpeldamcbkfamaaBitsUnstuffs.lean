/- For all bytes and all bytes behind them (of at most 2^16 and 2^10, as the law itself asks): stuffed bytes come back, whatever stands behind them, and each ff in them has a byte 00 behind it. No conditions. -/
import Derived.Test.YtpeldamcbkfamaaRows
import Derived.Test.YtpeldamcbkfamaaOpen
import Derived.Test.YtpeldamcbkfamaaUnstuff
import Derived.Test.YtpeldamcbkfamaaNumSame
import Derived.Test.YtpeldamcbkfamaaApart3
namespace Go.Proofs.Ytpeldamcbkfamaa.BitsUnstuffs
open Go.ChangeShapes Go.WideShapes Go.ChangeAt Go.RowKit
open Go.ChangeMaps (open_string shut_string)
set_option linter.unusedVariables false
theorem own : ownKnob Try.prog.godebug = none := by kernel_rfl
theorem laidOut : laidOutB Try.prog = true := by kernel_rfl
theorem st_ff : Sf.st [255] = [255, 0] := by decide
theorem un_mark : Sf.U [255, 217] = [] ∧ Sf.T [255, 217] = 0 := by decide
set_option maxHeartbeats 2000000 in
set_option maxRecDepth 100000 in
theorem walk (a : Option Addr) (len cap : Nat) (l : List UInt8) (a' : Option Addr) (len' cap' : Nat) (l' : List UInt8) (w : World) (h : Bs w a len cap l) (hr : cap ≤ 140737488351232) (h' : Bs w a' len' cap' l') (hr' : cap' ≤ 140737488351232) :
    Calls Try.prog 7 #[.slice a len cap, .slice a' len' cap'] w fun e w' => e = .returned (.bool true) ∧ Below w.heap.size w w' := by
  have hle := h.hle
  have hle' := h'.hle
  have HL := Lib.hid h.hlen
  have H := Lib.hid h
  have HL' := Lib.hid h'.hlen
  have H' := Lib.hid h'
  clear h h'
  by_cases hbig : 65536 < len
  · have d1 : decide ((65536 : Int) < ↑len) = true := by simp; omega
    go_enter Try.func7, Try.ntmps7
    go_wp2
    go_ret
    exact ⟨rfl, Below.refl _ _⟩
  have d1 : decide ((65536 : Int) < ↑len) = false := by simp; omega
  by_cases hbig2 : 1024 < len'
  · have d2 : decide ((1024 : Int) < ↑len') = true := by simp; omega
    go_enter Try.func7, Try.ntmps7
    go_wp2
    go_ret
    exact ⟨rfl, Below.refl _ _⟩
  have d2 : decide ((1024 : Int) < ↑len') = false := by simp; omega
  go_enter Try.func7, Try.ntmps7
  go_wp2_with fail
  refine (stuff_any _ _ _ [255] _ (bs_new w _ rfl [255] 5 _ 1 rfl (by omega) _ rfl) (by omega)).mono ?_
  rintro e w1 ⟨x, rfl, own1, hb1⟩
  rw [st_ff] at own1
  rw [show ([255, 0] : List UInt8).length = 2 from rfl] at own1
  obtain ⟨xa, xc, rfl, hxs⟩ := own_bs own1 (by omega)
  have k1 := conv_bs (P := Try.prog) hxs 36 9 5 Try.underlying36 Try.underlying5 Try.underlying9
  have kj : ((str [255, 0]).toList == [255, 0]) = true := by rw [str_list]; rfl
  have hb1 := below_then (below_alloc _ _) hb1
  clear own1 hxs
  go_wp2_with fail
  refine (stuff_any _ _ _ l _ (H.out.mono hb1) (by omega)).mono ?_
  rintro e w2 ⟨s, rfl, own2, hb2⟩
  have hb2 := below_then hb1 hb2
  have hsl := Sf.st_length l
  have hSl : (Sf.st l).length ≤ 131072 := by have := HL.out; omega
  have hSl2 : len ≤ (Sf.st l).length := by have := HL.out; omega
  have HM := Lib.hid (Sf.st_marks l)
  have HUa := Lib.hid (Sf.un_st l [255, 217])
  have HUb := Lib.hid (Sf.un_st l l')
  obtain ⟨q, hq⟩ : ∃ q, Sf.st l = q := ⟨_, rfl⟩
  rw [hq] at own2 hSl hSl2 HM HUa HUb
  obtain ⟨n, hn⟩ : ∃ n, q.length = n := ⟨_, rfl⟩
  rw [hn] at own2 hSl hSl2 HM HUa HUb
  obtain ⟨sa, sc, rfl, hss⟩ := own_bs own2 (by omega)
  have HS := Lib.hid hss
  have HN := Lib.hid hn
  clear k1 kj hsl hq own2 hss hb1 hn
  have own0 := own_new w2 w2.heap.size 5 #[] [] (Nat.le_refl _) (by simp) 0 rfl rfl
  have s1 := (HS.out.mono (below_alloc w2 (.cells #[] 5))).src
  go_wp2_with (at_builtin; refine wpl_append tyB rfl _ _ rfl own0 s1 rfl rfl (by omega) (by omega) (by simp) ?_)
  intro v3 w3 own3 hg3 _
  have b23 : Below w2.heap.size w2 w3 := (below_alloc w2 _).grown hg3 (by simp) (fun k hk => (own0.lt k hk).1)
  have O3 := Lib.hid own3
  clear own0 s1 own3 hg3
  have own4 := O3.out.alloc (.cells #[Value.int .u8 255, Value.int .u8 217] 5)
  have s2 := (bs_new w3 _ rfl [255, 217] 5 (0, 0) 2 rfl (by omega) #[Value.int .u8 255, Value.int .u8 217] rfl).src
  have hz3 : w2.heap.size ≤ (w3.alloc (.cells #[Value.int .u8 255, Value.int .u8 217] 5)).heap.size := by have := b23.size; simp; omega
  go_wp2_with (at_builtin; refine wpl_append tyB rfl _ _ rfl own4 s2 rfl rfl (by omega) (by omega) hz3 ?_)
  intro v4 w4 own5 hg4 _
  have b24 : Below w2.heap.size w2 w4 := (b23.alloc b23.size _).grown hg4 hz3 (fun k hk => (own4.lt k hk).1)
  have HS4 : Hid (Bs w4 sa n sc q) := Lib.hid (HS.out.mono b24)
  have hb4 := below_then hb2 b24
  rw [show (bvs [] : List Value) = [] from rfl, List.nil_append, ← bvs_append] at own5
  obtain ⟨ya, yc, rfl, hys⟩ := own_bs own5 (by omega)
  have HY := Lib.hid hys
  clear own4 s2 own5 hg4 hys O3 HS hz3 b23 b24 hb2
  go_wp2_with fail
  refine (unstuff_any _ _ _ _ _ HY.out (by omega)).mono ?_
  rintro e w5 ⟨u, rfl, own6, hb5⟩
  rw [HUa.out.1, un_mark.1, List.append_nil] at own6
  rw [HUa.out.2, un_mark.2, Nat.add_zero]
  rw [HL.out] at own6
  obtain ⟨ua, uc, rfl, hus⟩ := own_bs own6 (by omega)
  have HUS := Lib.hid hus
  have HS5 := Lib.hid (HS4.out.mono hb5)
  have hb5 := below_then hb4 hb5
  clear HY HUa own6 hus HS4 hb4
  have own0 := own_new w5 w5.heap.size 5 #[] [] (Nat.le_refl _) (by simp) 0 rfl rfl
  have s1 := (HS5.out.mono (below_alloc w5 (.cells #[] 5))).src
  go_wp2_with (at_builtin; refine wpl_append tyB rfl _ _ rfl own0 s1 rfl rfl (by omega) (by omega) (by simp) ?_)
  intro v6 w6 own7 hg6 _
  have b56 : Below w5.heap.size w5 w6 := (below_alloc w5 _).grown hg6 (by simp) (fun k hk => (own0.lt k hk).1)
  have O6 := Lib.hid own7
  have hb6 := below_then hb5 b56
  have s2 := (H'.out.mono hb6).src
  have hz6 := b56.size
  clear own0 s1 own7 hg6
  go_wp2_with (at_builtin; refine wpl_append tyB rfl _ _ rfl O6.out s2 rfl rfl (by omega) (by omega) hz6 ?_)
  intro v7 w7 own8 hg7 _
  have b57 : Below w5.heap.size w5 w7 := b56.grown hg7 hz6 (fun k hk => (O6.out.lt k hk).1)
  have hb7 := below_then hb5 b57
  have HS7 := Lib.hid (HS5.out.mono b57)
  have HU7 := Lib.hid (HUS.out.mono b57)
  rw [show (bvs [] : List Value) = [] from rfl, List.nil_append, ← bvs_append] at own8
  obtain ⟨za, zc, rfl, hzs⟩ := own_bs own8 (by omega)
  have HZ := Lib.hid hzs
  clear s2 own8 hg7 hzs O6 HS5 HUS hb6 b56 b57 hb5 hz6
  go_wp2_with fail
  refine (unstuff_any _ _ _ _ _ HZ.out (by omega)).mono ?_
  rintro e w8 ⟨v, rfl, own9, hb8⟩
  rw [HUb.out.1] at own9
  rw [HUb.out.2]
  have hlv : (l ++ Sf.U l').length = len + (Sf.U l').length := by rw [List.length_append, HL.out]
  rw [hlv] at own9
  have hUl := (Sf.st_un l'.length l' (Nat.le_refl _))
  have hx1 : (Sf.U l').length ≤ 1024 := by have := HL'.out; omega
  have hx2 : Sf.T l' ≤ 1024 := by have := HL'.out; omega
  obtain ⟨va, vc, rfl, hvs⟩ := own_bs own9 (by omega)
  have HV := Lib.hid (show Bs w8 va len vc l by
    have := hvs.take len (by omega)
    rwa [List.take_append_of_le_length (by rw [HL.out]; exact Nat.le_refl _), List.take_of_length_le (by rw [HL.out]; exact Nat.le_refl _)] at this)
  have hvc := hvs.hle
  have HS8 := Lib.hid (HS7.out.mono hb8)
  have HU8 := Lib.hid (HU7.out.mono hb8)
  have hb8 := below_then hb7 hb8
  have H8 := Lib.hid (H.out.mono hb8)
  have hsame : (l == l) = true := by simp
  clear hUl hlv own9 hvs HS7 HU7 hb7 HUb HZ
  generalize Sf.T l' = t at *
  generalize (Sf.U l').length = ul at *
  have c1 : decide (n + t < n) = false := by simp
  have c2 : decide (len + ul < len) = false := by simp
  go_wp2_with fail
  refine (same_any _ _ _ _ _ _ _ _ _ HU8.out H8.out).mono ?_
  rintro e w' ⟨rfl, rfl⟩
  rw [hsame]
  go_wp2_with fail
  refine (same_any _ _ _ _ _ _ _ _ _ HV.out H8.out).mono ?_
  rintro e w' ⟨rfl, rfl⟩
  rw [hsame]
  clear hsame HV HU8 H8 H H'
  go_wp2
  go_loop [77] (fun i => ∃ k : Nat, k ≤ n ∧ i = .int .i64 k) (fun i => n - (intOf i).toNat)
  case atStart => exact ⟨0, by omega, rfl⟩
  case round =>
    obtain ⟨k, hk, rfl⟩ := hrel
    by_cases hlt : k < n
    · obtain ⟨b, off, rfl, hbl, hcell⟩ := HS8.out.at' k hlt
      have hg := gb_lt q k
      by_cases h255 : gb q k = 255
      · have hm := HM.out k hlt ((Sf.byte_eq q k 255 (by omega)).1 h255)
        have hcell1 := cell_again HS8.out (k + 1) hm.1
        rw [(Sf.byte_eq q (k + 1) 0 (by omega)).2 hm.2] at hcell1
        rw [h255] at hcell
        have hk1 := hm.1
        have e1 : ((k : Int) == (n : Int) - 1) = false := by simp; omega
        clear hm h255 hg
        go_wp2
        go_round
        case rel => exact ⟨k + 1, by omega, by go_num⟩
        case measure => simp [intOf]; omega
      · have d255 : ((gb q k : Int) == 255) = false := by simp; omega
        clear h255 hg
        generalize gb q k = x at *
        go_wp2
        go_round
        case rel => exact ⟨k + 1, by omega, by go_num⟩
        case measure => simp [intOf]; omega
    · obtain rfl : n = k := by omega
      go_wp2
      go_ret
      exact ⟨rfl, hb8⟩
set_option maxRecDepth 100000 in
theorem lifted (os : Os) (started : os.Started) (H : Type) (enc : TypeId × Value → H) :
    ReturnsInHanded {} Try.checked os 7 .any (Rows.bitsUnstuffsSpec.pre6 enc Try.prog Try.f7 Rows.bitsUnstuffsRow.domain false) (Rows.bitsUnstuffsSpec.post enc Try.prog Try.f7 false true false false) := by
  refine returnsInHanded_of_change_sized (C := Try.checked) own started (by kernel_rfl) Try.func7
    (ChangeSpec.witness6 (enc := enc) (C := Try.checked) false ⟨#[], #[.slice none 0 0, .slice none 0 0], []⟩ 8 (by kernel_rfl) (by kernel_rfl) (by kernel_rfl) (by kernel_rfl)) ?_
  intro W base args ds gs before hval0 hW _ hsz0 _
  have hval : ∀ (j : Nat) t v, Try.f7.params[j]? = some t → args[j]? = some v → Value.okWide Try.prog W .any base t v := hval0
  have hsz : (DataW.weightsEach Try.prog (Try.f7.params.toList ++ Rows.bitsUnstuffsSpec.plain.varTypes Try.prog) (ds ++ gs)).all (· ≤ reachBytes) = true := hsz0
  have hW' := hW
  obtain ⟨p, q, hA0, hV, rfl, hfz, hnd⟩ := hW
  have hA : DataW.TrodAll enc Try.prog W 0 (fun _ => true) true Try.f7.params.toList args.toList ds p := hA0
  rw [Try.params7] at hA hval hsz
  obtain ⟨v0, vs0, d0, ds0, p0, q0, hargs, rfl, rfl, h0, r0⟩ := trodAll_cons hA
  obtain ⟨v1, vs1, d1, ds1, p1, q1, rfl, rfl, rfl, h1, r1⟩ := trodAll_cons r0
  obtain ⟨rfl, rfl, rfl⟩ := trodAll_nil r1
  obtain rfl : args = #[v0, v1] := by cases args; simp_all
  obtain ⟨rfl, rfl⟩ := trodVars_none hV
  clear hsz0
  obtain ⟨a0, len0, cap0, rfl⟩ := okWide_slice Try.underlying36 (hval 0 36 v0 rfl rfl)
  have k0 := h0
  have lt0 : ∀ x ∈ p0, x.block < W.heap.size := by obtain ⟨m, hm⟩ := k0; exact DataW.trod_lt m _ _ _ hm
  obtain ⟨l0, w0, c0⟩ := open_bs Try.underlying36 Try.underlying5 (by kernel_rfl) (by kernel_rfl) h0 hsz 0 rfl rfl
  obtain ⟨a1, len1, cap1, rfl⟩ := okWide_slice Try.underlying36 (hval 1 36 v1 rfl rfl)
  have k1 := h1
  have lt1 : ∀ x ∈ p1, x.block < W.heap.size := by obtain ⟨m, hm⟩ := k1; exact DataW.trod_lt m _ _ _ hm
  obtain ⟨l1, w1, c1⟩ := open_bs Try.underlying36 Try.underlying5 (by kernel_rfl) (by kernel_rfl) h1 hsz 1 rfl rfl
  clear hA0 hval0 hsz
  refine (walk a0 len0 cap0 l0 a1 len1 cap1 l1 W w0 c0 w1 c1).mono fun e W' ⟨he, bel⟩ => ?_
  subst he
  exact ⟨_, rfl, _, _, _, [], _, [], hW', trodAll_mk1 (shut_bool Try.underlying4 _), (trodAll_cons_mk (Below.trod laidOut (by kernel_rfl) (of_decide_eq_true (by kernel_rfl)) k0 bel lt0) (trodAll_cons_mk (Below.trod laidOut (by kernel_rfl) (of_decide_eq_true (by kernel_rfl)) k1 bel lt1) trodAll_mk0)), rfl, bel.frame _, fun h => by cases h⟩

theorem proved : Rows.BitsUnstuffsSaid :=
  OpenClaim.holds_of_wide 7 Try.f7 rfl rfl rfl rfl rfl rfl rfl ⟨rfl, rfl, rfl, rfl, rfl⟩ rfl rfl rfl rfl rfl (by kernel_rfl) Try.func7 (by kernel_rfl)
    (of_decide_eq_true (by kernel_rfl)) (by unfold Func.isWrapper; first | (rw [if_pos (by decide +kernel)]; kernel_rfl) | (rw [if_neg (by decide +kernel)]; exact ⟨rfl, rfl⟩))
    (fun os started H enc _ => lifted os started H enc)
#print axioms proved
end Go.Proofs.Ytpeldamcbkfamaa.BitsUnstuffs
