/- For every number: chunks that come to a byte less than 2^20, or to 2^20, are written, and parsed again; with a byte more they are refused, and so are more bytes than 2^20. No conditions. -/
import Derived.Test.YtaedajedjbgnbaaRows
import Derived.Test.YtaedajedjbgnbaaOpen
import Derived.Test.YtaedajedjbgnbaaCkSame
import Derived.Test.YtaedajedjbgnbaaCkMath
import Derived.Test.YtaedajedjbgnbaaNumIs
import Derived.Test.YtaedajedjbgnbaaMadeB
namespace Go.Proofs.Ytaedajedjbgnbaa.ChunkLimits
open Go.ChangeShapes Go.WideShapes Go.ChangeAt Go.RowKit
open Go.ChangeMaps (open_string shut_string)
set_option linter.unusedVariables false
theorem own : ownKnob Try.prog.godebug = none := by kernel_rfl
theorem laidOut : laidOutB Try.prog = true := by kernel_rfl
theorem y_of (t : Int) : ∃ (y : Int) (N : Nat), -1 ≤ y ∧ y ≤ 1 ∧ (N : Int) = 1048544 + y ∧ wrap64 (wrap64 ((IntKind.u64.wrap t).tmod 3) - 1) = y ∧ wrap64 (1048544 + y) = (N : Int) := by
  have h0 : 0 ≤ IntKind.u64.wrap t := by
    simp only [IntKind.wrap, IntKind.signed, IntKind.bits]
    exact Int.emod_nonneg _ (by decide)
  have h1 := Int.tmod_nonneg 3 h0
  have h2 := Int.tmod_lt_of_pos (IntKind.u64.wrap t) (show (0 : Int) < 3 by decide)
  generalize (IntKind.u64.wrap t).tmod 3 = r at *
  have e1 : wrap64 r = r := IntWalk.wrap64_in _ ⟨by omega, by omega⟩
  refine ⟨r - 1, (1048544 + (r - 1)).toNat, by omega, by omega, by omega, ?_, ?_⟩
  · rw [e1]; exact IntWalk.wrap64_in _ ⟨by omega, by omega⟩
  · rw [IntWalk.wrap64_in _ ⟨by omega, by omega⟩]; omega
def lmL (N : Nat) : List Ck.C := [([116, 69, 88, 116], List.replicate N 0), (Ck.iend, [])]
theorem lmL_good (N : Nat) : Ck.good (lmL N) = true := by
  rw [Ck.good_goodL]
  have h1 : Ck.named [116, 69, 88, 116] = true := by decide
  have h2 : Ck.named Ck.iend = true := by decide
  have h3 : (([116, 69, 88, 116] : List UInt8) == Ck.iend) = false := by decide
  simp [lmL, Ck.goodL, h1, h2, h3]
theorem lmL_size (N : Nat) : Ck.size (lmL N) = N + 24 := by simp [lmL, Ck.size]; omega
set_option maxRecDepth 100000 in
set_option maxHeartbeats 4000000 in
theorem walk (a : Int) (w : World) (ha : (Lit.int .i64 a).wf = true) :
    Calls Try.prog 9 #[.int .i64 a] w fun e w' => e = .returned (.bool true) ∧ Below w.heap.size w w' := by
  obtain ⟨y, N, hy1, hy2, hN, hy, hyN⟩ := y_of a
  clear ha
  go_enter Try.func9, Try.ntmps9
  go_wp2_with fail
  refine (alive12_any w).mono ?_
  rintro e w1 ⟨rfl, hb1⟩
  have HB1 := Lib.hid hb1
  have hz1 := hb1.size
  have HNY := Lib.hid hN
  have hN1 : 1048543 ≤ N := by omega
  have hN2 : N ≤ 1048545 := by omega
  clear hb1 hN
  go_wp2_with (at_make; refine wpl_make_bytes rfl _ _ rfl w.heap.size .i64 .i64 _ _ N rfl rfl (by have := HNY.out; omega) (by have := HNY.out; omega) (by omega) hz1 ?_)
  intro w2 own2 hb2
  have HB2 := Lib.hid (below_then HB1.out hb2)
  have HO2 := Lib.hid own2
  obtain ⟨g2, hg2⟩ : ∃ g, w1.heap.size = g := ⟨_, rfl⟩
  rw [hg2] at HO2 ⊢
  have hb3 := below_alloc w2 (.cells #[.string { data := #[116, 69, 88, 116] }, .slice (some ⟨g2, 0, none⟩) N N, .string { data := #[73, 69, 78, 68] }, .slice none 0 0] 39)
  have hd2 := bs_of_own HO2.out (by omega) N (Nat.le_refl _)
  rw [List.take_of_length_le (by simp)] at hd2
  have hcs : Cs (w2.alloc (.cells #[.string { data := #[116, 69, 88, 116] }, .slice (some ⟨g2, 0, none⟩) N N, .string { data := #[73, 69, 78, 68] }, .slice none 0 0] 39)) (some ⟨w2.heap.size, 0, none⟩) 2 2 [⟨[116, 69, 88, 116], ⟨some ⟨g2, 0, none⟩, N, N, List.replicate N 0⟩⟩, ⟨Ck.iend, ⟨none, 0, 0, []⟩⟩] := by
    refine ⟨rfl, Nat.le_refl _, fun h => by simp at h, fun i hi => ⟨w2.heap.size, 0, rfl, by simp, ?_⟩⟩
    rcases (show i = 0 ∨ i = 1 by omega) with rfl | rfl
    · exact ⟨(cell_of_row _ _ 0 _ _ (0, 0) (heap_alloc_last w2 _)).trans rfl, (cell_of_row _ _ 1 _ _ (0, 0) (heap_alloc_last w2 _)).trans rfl, hd2.mono hb3⟩
    · exact ⟨(cell_of_row _ _ 2 _ _ (0, 0) (heap_alloc_last w2 _)).trans rfl, (cell_of_row _ _ 3 _ _ (0, 0) (heap_alloc_last w2 _)).trans rfl, bs_nil _⟩
  have hwr := write_any _ 2 2 _ _ hcs (by omega) (fun c hc => by
    simp only [List.mem_cons, List.not_mem_nil, or_false] at hc
    rcases hc with rfl | rfl
    · simp; omega
    · simp [Ck.iend])
  have hce : cps [⟨[116, 69, 88, 116], ⟨some ⟨g2, 0, none⟩, N, N, List.replicate N 0⟩⟩, ⟨Ck.iend, ⟨none, 0, 0, []⟩⟩] = lmL N := rfl
  rw [hce] at hwr
  have HW := Lib.hid hwr
  have HB3 := Lib.hid (below_then HB2.out hb3)
  clear own2 hb2 hg2 hb3 hd2 hcs hwr hce HO2 HB1 HB2
  go_wp2_with fail
  refine HW.out.mono ?_
  rintro e w4 hp
  unfold WrPost at hp
  rw [if_pos (lmL_good N), lmL_size] at hp
  by_cases hpos : 0 < y
  · rw [if_neg (by have := HNY.out; omega)] at hp
    obtain ⟨rfl, hb4⟩ := hp
    have HB4 := Lib.hid (below_then HB3.out hb4)
    have dp : decide (0 < y) = true := by simpa using hpos
    have hM : 1048576 + y = ((1048577 : Nat) : Int) := by omega
    obtain ⟨M, hMd⟩ : ∃ M, (1048577 : Nat) = M := ⟨_, rfl⟩
    rw [hMd] at hM
    have HM := Lib.hid hM
    have hM1 : 1048576 < M := by omega
    have hM2 : M ≤ 1048577 := by omega
    have hz4 := HB4.out.size
    clear hb4 hpos hMd hM
    go_wp2_with (at_make; refine wpl_make_bytes rfl _ _ rfl w.heap.size .i64 .i64 _ _ M rfl rfl HM.out HM.out (by omega) hz4 ?_)
    intro w5 own5 hb5
    have HB5 := Lib.hid (below_then HB4.out hb5)
    have hd5 := bs_of_own own5 (by omega) M (Nat.le_refl _)
    rw [List.take_of_length_le (by simp)] at hd5
    have HPA := Lib.hid (parse_any _ M M _ w5 hd5)
    have HPL : Hid (Ck.parse (List.replicate M 0) = (4, [])) := Lib.hid (by unfold Ck.parse; rw [if_pos (by simp; omega)])
    clear own5 hb5 hd5
    go_wp2_with fail
    refine HPA.out.mono ?_
    rintro e w6 ⟨hb6, _, hbad⟩
    have he := hbad (by rw [HPL.out]; decide)
    rw [HPL.out] at he
    subst he
    have HB6 := Lib.hid (below_then HB5.out hb6)
    clear hbad hb6
    go_wp2_with fail
    refine (is_yes 4 rfl _).mono ?_
    rintro e w' ⟨rfl, rfl⟩
    go_wp2_with fail
    refine (is_yes 4 rfl _).mono ?_
    rintro e w' ⟨rfl, rfl⟩
    go_wp2
    go_ret
    exact ⟨rfl, HB6.out⟩
  · rw [if_pos (by have := HNY.out; omega)] at hp
    obtain ⟨v4, rfl, ho4, hb4⟩ := hp
    have HB4 := Lib.hid (below_then HB3.out hb4)
    have dp : decide (0 < y) = false := by simpa using hpos
    have hfit : 8 + Ck.size (lmL N) ≤ 1048576 := by rw [lmL_size]; have := HNY.out; omega
    have HPW := Lib.hid (Ck.parse_wr (lmL N) (lmL_good N) hfit)
    obtain ⟨M, hMd⟩ : ∃ M, 8 + Ck.size (lmL N) = M := ⟨_, rfl⟩
    rw [hMd] at ho4
    have hlen : (((M : Nat) : Int) == 1048576 + y) = true := by
      rw [lmL_size] at hMd
      have := HNY.out
      simp; omega
    obtain ⟨a4, c4, rfl, hs4⟩ := own_bs ho4 (by omega)
    have HPA := Lib.hid (parse_any _ _ _ _ w4 hs4)
    clear ho4 hb4 hs4 hpos hMd hfit HW
    go_wp2_with fail
    refine HPA.out.mono ?_
    rintro e w5 ⟨hb5, hok, _⟩
    obtain ⟨v5, ms, rfl, hls, hc5⟩ := hok (by rw [HPW.out])
    rw [HPW.out] at hc5
    have HB5 := Lib.hid (below_then HB4.out hb5)
    have hml : ms.length = 2 := by have := congrArg List.length hc5; rwa [cps_length] at this
    obtain ⟨a5, c5, rfl, hcs⟩ := hls.cs
    rw [hml] at hcs ⊢
    obtain ⟨b5, o5, rfl, _, _, x5, hd5⟩ := hcs.at' 0 (by omega)
    have hn5 : (nck ms 0).s.l = List.replicate N 0 := by
      have := cps_nth ms 0 (by omega)
      rw [hc5] at this
      exact (Prod.mk.inj this).2.symm
    have hln : (nck ms 0).s.len = N := by
      have := Bs.hlen hd5
      rw [hn5, List.length_replicate] at this
      exact this.symm
    have h5 := hcs.hle
    rw [Nat.zero_mul, Nat.add_zero] at x5
    generalize nck ms 0 = ck at *
    obtain ⟨nm, sa, sl, sc, sd⟩ := ck
    unfold Sl.val at x5
    simp only at x5 hln
    subst hln
    clear hls hc5 hok hb5 hcs hd5 hn5 hml HPA HPW
    go_wp2
    go_ret
    exact ⟨rfl, HB5.out⟩
set_option maxRecDepth 100000 in
theorem lifted (os : Os) (started : os.Started) (H : Type) (enc : TypeId × Value → H) :
    ReturnsInHanded {} Try.checked os 9 .any (Rows.chunkLimitsSpec.pre6 enc Try.prog Try.f9 Rows.chunkLimitsRow.domain false) (Rows.chunkLimitsSpec.post enc Try.prog Try.f9 false true false false) := by
  refine returnsInHanded_of_change_sized (C := Try.checked) own started (by kernel_rfl) Try.func9
    (ChangeSpec.witness6 (enc := enc) (C := Try.checked) false ⟨#[], #[.int .i64 0], []⟩ 8 (by kernel_rfl) (by kernel_rfl) (by kernel_rfl) (by kernel_rfl)) ?_
  intro W base args ds gs before hval0 hW _ hsz0 _
  have hval : ∀ (j : Nat) t v, Try.f9.params[j]? = some t → args[j]? = some v → Value.okWide Try.prog W .any base t v := hval0
  have hsz : (DataW.weightsEach Try.prog (Try.f9.params.toList ++ Rows.chunkLimitsSpec.plain.varTypes Try.prog) (ds ++ gs)).all (· ≤ reachBytes) = true := hsz0
  have hW' := hW
  obtain ⟨p, q, hA0, hV, rfl, hfz, hnd⟩ := hW
  have hA : DataW.TrodAll enc Try.prog W 0 (fun _ => true) true Try.f9.params.toList args.toList ds p := hA0
  rw [Try.params9] at hA hval hsz
  obtain ⟨v0, vs0, d0, ds0, p0, q0, hargs, rfl, rfl, h0, r0⟩ := trodAll_cons hA
  obtain ⟨rfl, rfl, rfl⟩ := trodAll_nil r0
  obtain rfl : args = #[v0] := by cases args; simp_all
  obtain ⟨rfl, rfl⟩ := trodVars_none hV
  clear hsz0
  obtain ⟨a0, rfl, rfl, rfl, w0⟩ := open_int Try.underlying3 (hval 0 3 v0 rfl rfl) h0
  clear hA0 hval0 hsz
  refine (walk a0 W w0).mono fun e W' ⟨he, bel⟩ => ?_
  subst he
  exact ⟨_, rfl, _, _, _, [], _, [], hW', trodAll_mk1 (shut_bool Try.underlying4 _), (trodAll_cons_mk (shut_int Try.underlying3 w0) trodAll_mk0), rfl, bel.frame _, fun h => by cases h⟩

theorem proved : Rows.ChunkLimitsSaid :=
  OpenClaim.holds_of_wide 9 Try.f9 rfl rfl rfl rfl rfl rfl rfl ⟨rfl, rfl, rfl, rfl, rfl⟩ rfl rfl rfl rfl rfl (by kernel_rfl) Try.func9 (by kernel_rfl)
    (of_decide_eq_true (by kernel_rfl)) (by unfold Func.isWrapper; first | (rw [if_pos (by decide +kernel)]; kernel_rfl) | (rw [if_neg (by decide +kernel)]; exact ⟨rfl, rfl⟩))
    (fun os started H enc _ => lifted os started H enc)
#print axioms proved
end Go.Proofs.Ytaedajedjbgnbaa.ChunkLimits
