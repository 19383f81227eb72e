/- For every two numbers: a text of 2^20 zero bytes has a finder that tells its length, a longer one has none and is too large, and a nil finder finds nothing and has the length 0. math/bits.deBruijn64tab holds what the library's text lays (the tied card). -/
import Derived.Test.YtedncnaeojomcaaDoorCards
import Derived.Test.YtedncnaeojomcaaDoorTie
import Derived.ProofKit
import Derived.Handy
import Derived.Lay
import Derived.SevenTiedAt
import Derived.Test.YtedncnaeojomcaaDoorRows
import Derived.Test.YtedncnaeojomcaaDoorOpen
import Derived.Test.YtedncnaeojomcaaDoorLzNil
import Derived.Test.YtedncnaeojomcaaDoorLzFinder0
import Derived.Test.YtedncnaeojomcaaDoorLzAlive
import Derived.Test.YtedncnaeojomcaaDoorNumErr
import Derived.Test.YtedncnaeojomcaaDoorTyB
import Derived.Test.YtedncnaeojomcaaDoorNumIs
namespace Go.Proofs.YtedncnaeojomcaaDoor.MatchLimits
open Go.ChangeShapes Go.WideShapes Go.ChangeAt Go.RowKit
open Go.ChangeMaps (open_string shut_string)
set_option linter.unusedVariables false
theorem own : ownKnob Tryd.prog.godebug = none := by kernel_rfl
theorem laidOut : laidOutB Tryd.prog = true := by kernel_rfl
open Go.Shelf
attribute [local go_sem] Oper.semAt_some
theorem size_of (t : Int) : ∃ N : Nat, 1048576 ≤ N ∧ N ≤ 1048578 ∧ wrap64 (1048576 + wrap64 ((IntKind.u64.wrap t).tmod 3)) = (N : Int) := by
  have h0 : 0 ≤ IntKind.u64.wrap t := by
    show 0 ≤ t % (2 ^ 64 : Int)
    exact Int.emod_nonneg _ (by decide)
  have h1 := Int.tmod_nonneg 3 h0
  have h2 := Int.tmod_lt_of_pos (IntKind.u64.wrap t) (show (0 : Int) < 3 by decide)
  generalize (IntKind.u64.wrap t).tmod 3 = r at *
  obtain ⟨m, rfl⟩ := Int.eq_ofNat_of_zero_le h1
  refine ⟨1048576 + m, by omega, by omega, ?_⟩
  have e1 : wrap64 ((m : Nat) : Int) = (m : Int) := IntWalk.wrap64_in _ ⟨by omega, by omega⟩
  have e2 : wrap64 (1048576 + ((m : Nat) : Int)) = 1048576 + (m : Int) := IntWalk.wrap64_in _ ⟨by omega, by omega⟩
  rw [e1, e2]; omega
theorem made_bytes (n : Nat) : (madeCells #[.int .u8 0] (n * 1)).toList = bvs (List.replicate n 0) := by
  rw [made_all _ _ (.int .u8 0) (by simp) (fun i hi => by
    match i, hi with
    | 0, _ => rfl), Nat.mul_one]
  simp [bvs]
set_option maxRecDepth 100000 in
set_option maxHeartbeats 4000000 in
theorem walk (m p : Int) (w : World) (hm : (Lit.int .i64 m).wf = true) (hp : (Lit.int .i64 p).wf = true) (hL : laidMetH Tryd.prog [("math/bits.deBruijn64tab", Rows.laid_math_bits_deBruijn64tab)] w) :
    Calls Tryd.prog 6 #[.int .i64 m, .int .i64 p] w fun e w' => e = .returned (.bool true) ∧ Below w.heap.size w w' := by
  obtain ⟨hdb, hdl⟩ := db_of_laid hL
  have HDB : Hid (∀ w', Below w.heap.size w w' → Db w' ∧ 0 < w'.heap.size) := Lib.hid (fun w' hb => ⟨hdb.kept hb hdl, Nat.lt_of_lt_of_le hdl hb.size⟩)
  clear hm hp hL hdb hdl
  refine (callsIn_wide (n := 4)).1 ?_
  have hro : (Fence.wide).round = none := rfl
  refine callsIn_of_wp_marks Tryd.func6 rfl trivial ?_ hro
  simp only [Tryd.ntmps6, List.size_toArray, List.length_cons, List.length_nil, Nat.reduceAdd, Nat.reduceSub, Array.replicate_succ, Array.replicate_zero, List.push_toArray, List.append_toArray, List.nil_append, List.cons_append]
  gi_wp2_with fail
  refine ⟨trivial, (callsIn_wide.2 (alive08_any w (HDB.out _ (Below.refl _ _)).1 (HDB.out _ (Below.refl _ _)).2)).mono ?_⟩
  rintro e w1 ⟨rfl, hb1⟩
  have HB1 := Lib.hid hb1
  obtain ⟨N, hN1, hN3, hN⟩ := size_of m
  clear hb1
  gi_wp2_with (gi_at_make; refine wplIn_make_full tyB rfl _ _ rfl w1.heap.size .i64 .i64 _ _ N rfl rfl hN hN (by omega) (by omega) (Nat.le_refl _) ?_)
  intro w2 own2 g2
  rw [← Nat.mul_one N, made_bytes, Nat.mul_one] at own2
  have hb2 : Below w1.heap.size w1 w2 := (Below.refl _ _).grown g2 (Nat.le_refl _) (by simp)
  have HB2 := Lib.hid (below_then HB1.out hb2)
  have hbs := bs_of_own own2 (by omega) N (by omega)
  rw [List.take_of_length_le (by simp)] at hbs
  have HBS := Lib.hid hbs
  clear hN own2 g2 hb2 hbs
  by_cases hbig : 1048576 < N
  · have d1 : decide ((1048576 : Int) < (N : Int)) = true := by simp; omega
    gi_wp2_with fail
    refine ⟨trivial, (callsIn_wide.2 (newFinder_no _ N N w2 hbig)).mono ?_⟩
    rintro e w' ⟨rfl, rfl⟩
    gi_wp2_with fail
    refine ⟨trivial, (callsIn_wide.2 (is_yes 4 rfl w2)).mono ?_⟩
    rintro e w' ⟨rfl, rfl⟩
    have HX := HB2
    gi_wp2_with fail
    refine ⟨trivial, (callsIn_wide.2 (longest_nil w2 p)).mono ?_⟩
    rw [lastT_nil]
    rintro e w4 ⟨rfl, hb4⟩
    have HB4 := Lib.hid (below_then HX.out hb4)
    clear hb4 HX
    gi_wp2_with fail
    have hb5 := below_alloc2 w4 (.cells #[.int .i64 0, .int .i64 0] 33) (.cells #[.int .i64 0] 3)
    have hk5 : Boxed ((w4.alloc (.cells #[.int .i64 0, .int .i64 0] 33)).alloc (.cells #[.int .i64 0] 3)) (w4.heap.size + 1) 3 (.int .i64 0) := heap_alloc2_new _ _ _
    revert hb5 hk5
    generalize (w4.alloc (.cells #[.int .i64 0, .int .i64 0] 33)).alloc (.cells #[.int .i64 0] 3) = W5
    intro hb5 hk5
    refine ⟨trivial, (nearest_in Fence.wide 3 trivial rfl (.pointer none) p W5 (.inl rfl)).mono ?_⟩
    rintro e w' ⟨rfl, rfl⟩
    gi_wp2_with fail
    have hb7 := below_alloc2 W5 (.cells #[.pointer none] 25) (.cells #[.int .i64 p] 3)
    have hA7 : Boxed ((W5.alloc (.cells #[.pointer none] 25)).alloc (.cells #[.int .i64 p] 3)) W5.heap.size 25 (.pointer none) := heap_alloc2_old _ _ _
    have hB7 : Boxed ((W5.alloc (.cells #[.pointer none] 25)).alloc (.cells #[.int .i64 p] 3)) (W5.heap.size + 1) 3 (.int .i64 p) := heap_alloc2_new _ _ _
    revert hb7 hA7 hB7
    generalize (W5.alloc (.cells #[.pointer none] 25)).alloc (.cells #[.int .i64 p] 3) = W7
    intro hb7 hA7 hB7
    have hk7 : Boxed W7 (w4.heap.size + 1) 3 (.int .i64 0) := (hb7.block _ hk5.lt).trans hk5
    have hit := near_iter_nil W5.heap.size (W5.heap.size + 1) p (fun _ _ => True) (fun _ _ => trivial) (fun _ _ _ _ _ _ => trivial) (fun _ _ => trivial) (fun _ => False) (fun _ _ => False) W7 hA7 hB7
    have HB7 := Lib.hid (below_then HB4.out (below_then hb5 hb7))
    have HZ : Hid (w4.heap.size + 1 < W7.heap.size) := Lib.hid hk7.lt
    clear hb5 hk5 hb7 hA7 hB7
    apply range_iterF (F := Fence.wide) (n := 4) (P := Tryd.prog) (gf := 38) (lb := #[.pointer (some ⟨W5.heap.size, 0, none⟩), .pointer (some ⟨W5.heap.size + 1, 0, none⟩)]) (encs := nEnc) (hseq := hit)
      (I := fun _ W => Below w.heap.size w W ∧ Boxed W (w4.heap.size + 1) 3 (.int .i64 0)) (Ix := fun _ _ _ => False)
    case has =>
      intro k x A K hK
      simp only [nEnc]
      gi_wp2
      exact hK
    case hro => exact hro
    case h1 => omega
    case hg => rfl
    case hF => trivial
    case eg => exact enters_of Tryd.func38 (by kernel_rfl) rfl
    case hKt => exact fun _ _ => trivial
    case hKb => exact fun _ _ _ _ _ _ => trivial
    case hps => exact fun _ => rfl
    case hI =>
      rintro s A C row ⟨h1, h2⟩ hg hr
      have hz := HZ.out
      have hz2 := HB7.out.size
      exact ⟨h1.grown hg h1.size (fun r e => Nat.le_trans hz2 (hr r e)), (hg.block _ h2.lt (fun e => by have := hr _ e.symm; omega)).trans h2⟩
    case hX => exact fun _ _ _ _ _ h _ _ => h
    case h0 => exact ⟨HB7.out, hk7⟩
    case hbo => exact fun _ _ _ _ _ h => h.elim
    case hout => exact fun _ _ _ h => h.elim
    case hend =>
      rintro ys W rfl ⟨h1, h2⟩ hK
      have ck := h2.cell
      have HBW := Lib.hid (h1.grown (grownBy_putObj' W W7.heap.size (.deferred none)) h1.size (fun r e => by cases e; exact HB7.out.size))
      clear h1 h2 hit hk7
      gi_wp2_with fail
      refine ⟨trivial, (callsIn_wide.2 (len_nil W)).mono ?_⟩
      rintro e w' ⟨rfl, rfl⟩
      gi_wp2
      refine ⟨by simp, .inl ⟨_, _, rfl, run_takeDeferred hK, ?_⟩⟩
      exact ⟨_, results_tmp rfl _ _ _, rfl, by exact HBW.out⟩
  · have d1 : decide ((1048576 : Int) < (N : Int)) = false := by simp; omega
    have hdb2 := HDB.out w2 HB2.out
    gi_wp2_with fail
    refine ⟨trivial, (callsIn_wide.2 (newFinder_all _ N N _ w2 HBS.out (by omega) hdb2.1 hdb2.2)).mono ?_⟩
    rintro e w3 ⟨gf, eb, v, Rs, rfl, hfd, _, _, hb3⟩
    have HX : Hid (Below w.heap.size w w3) := Lib.hid (below_then HB2.out hb3)
    have HFD := Lib.hid hfd
    clear hfd hb3 hdb2 HBS
    gi_wp2_with fail
    refine ⟨trivial, (callsIn_wide.2 (len_any HFD.out)).mono ?_⟩
    rintro e w' ⟨rfl, rfl⟩
    gi_wp2_with fail
    refine ⟨trivial, (callsIn_wide.2 (longest_nil w3 p)).mono ?_⟩
    rw [lastT_nil]
    rintro e w4 ⟨rfl, hb4⟩
    have HB4 := Lib.hid (below_then HX.out hb4)
    clear hb4 HX
    gi_wp2_with fail
    have hb5 := below_alloc2 w4 (.cells #[.int .i64 0, .int .i64 0] 33) (.cells #[.int .i64 0] 3)
    have hk5 : Boxed ((w4.alloc (.cells #[.int .i64 0, .int .i64 0] 33)).alloc (.cells #[.int .i64 0] 3)) (w4.heap.size + 1) 3 (.int .i64 0) := heap_alloc2_new _ _ _
    revert hb5 hk5
    generalize (w4.alloc (.cells #[.int .i64 0, .int .i64 0] 33)).alloc (.cells #[.int .i64 0] 3) = W5
    intro hb5 hk5
    refine ⟨trivial, (nearest_in Fence.wide 3 trivial rfl (.pointer none) p W5 (.inl rfl)).mono ?_⟩
    rintro e w' ⟨rfl, rfl⟩
    gi_wp2_with fail
    have hb7 := below_alloc2 W5 (.cells #[.pointer none] 25) (.cells #[.int .i64 p] 3)
    have hA7 : Boxed ((W5.alloc (.cells #[.pointer none] 25)).alloc (.cells #[.int .i64 p] 3)) W5.heap.size 25 (.pointer none) := heap_alloc2_old _ _ _
    have hB7 : Boxed ((W5.alloc (.cells #[.pointer none] 25)).alloc (.cells #[.int .i64 p] 3)) (W5.heap.size + 1) 3 (.int .i64 p) := heap_alloc2_new _ _ _
    revert hb7 hA7 hB7
    generalize (W5.alloc (.cells #[.pointer none] 25)).alloc (.cells #[.int .i64 p] 3) = W7
    intro hb7 hA7 hB7
    have hk7 : Boxed W7 (w4.heap.size + 1) 3 (.int .i64 0) := (hb7.block _ hk5.lt).trans hk5
    have hit := near_iter_nil W5.heap.size (W5.heap.size + 1) p (fun _ _ => True) (fun _ _ => trivial) (fun _ _ _ _ _ _ => trivial) (fun _ _ => trivial) (fun _ => False) (fun _ _ => False) W7 hA7 hB7
    have HB7 := Lib.hid (below_then HB4.out (below_then hb5 hb7))
    have HZ : Hid (w4.heap.size + 1 < W7.heap.size) := Lib.hid hk7.lt
    clear hb5 hk5 hb7 hA7 hB7
    apply range_iterF (F := Fence.wide) (n := 4) (P := Tryd.prog) (gf := 38) (lb := #[.pointer (some ⟨W5.heap.size, 0, none⟩), .pointer (some ⟨W5.heap.size + 1, 0, none⟩)]) (encs := nEnc) (hseq := hit)
      (I := fun _ W => Below w.heap.size w W ∧ Boxed W (w4.heap.size + 1) 3 (.int .i64 0)) (Ix := fun _ _ _ => False)
    case has =>
      intro k x A K hK
      simp only [nEnc]
      gi_wp2
      exact hK
    case hro => exact hro
    case h1 => omega
    case hg => rfl
    case hF => trivial
    case eg => exact enters_of Tryd.func38 (by kernel_rfl) rfl
    case hKt => exact fun _ _ => trivial
    case hKb => exact fun _ _ _ _ _ _ => trivial
    case hps => exact fun _ => rfl
    case hI =>
      rintro s A C row ⟨h1, h2⟩ hg hr
      have hz := HZ.out
      have hz2 := HB7.out.size
      exact ⟨h1.grown hg h1.size (fun r e => Nat.le_trans hz2 (hr r e)), (hg.block _ h2.lt (fun e => by have := hr _ e.symm; omega)).trans h2⟩
    case hX => exact fun _ _ _ _ _ h _ _ => h
    case h0 => exact ⟨HB7.out, hk7⟩
    case hbo => exact fun _ _ _ _ _ h => h.elim
    case hout => exact fun _ _ _ h => h.elim
    case hend =>
      rintro ys W rfl ⟨h1, h2⟩ hK
      have ck := h2.cell
      have HBW := Lib.hid (h1.grown (grownBy_putObj' W W7.heap.size (.deferred none)) h1.size (fun r e => by cases e; exact HB7.out.size))
      clear h1 h2 hit hk7
      gi_wp2_with fail
      refine ⟨trivial, (callsIn_wide.2 (len_nil W)).mono ?_⟩
      rintro e w' ⟨rfl, rfl⟩
      gi_wp2
      refine ⟨by simp, .inl ⟨_, _, rfl, run_takeDeferred hK, ?_⟩⟩
      exact ⟨_, results_tmp rfl _ _ _, rfl, by exact HBW.out⟩
set_option maxRecDepth 100000 in
theorem lifted (os : Os) (started : os.Started) (H : Type) (enc : TypeId × Value → H) :
    ReturnsInHanded {} Tryd.checked os 6 .any (fun w args => (Rows.matchLimitsSpec.pre enc Tryd.prog Tryd.f6 Rows.matchLimitsRow.domain false w args ∧ laidMetH Tryd.prog [("math/bits.deBruijn64tab", Rows.laid_math_bits_deBruijn64tab)] w) ∧ sizedMet enc Tryd.prog Tryd.f6 (OpenSpec.ofChange Rows.matchLimitsSpec) false w args)
      (Rows.matchLimitsSpec.post enc Tryd.prog Tryd.f6 false true false false) := by
  refine returnsInHanded_of_change_and (C := Tryd.checked) (X := fun w _ => laidMetH Tryd.prog [("math/bits.deBruijn64tab", Rows.laid_math_bits_deBruijn64tab)] w) (fun _ _ _ hh h => h.of_heap hh) own started (by kernel_rfl) Tryd.func6
    (ChangeSpec.witness_shaped (enc := enc) (C := Tryd.checked) (os := os) (X := fun w _ => laidMetH Tryd.prog [("math/bits.deBruijn64tab", Rows.laid_math_bits_deBruijn64tab)] w) false (World.laidAll Tryd.prog os [("math/bits.deBruijn64tab", Rows.laid_math_bits_deBruijn64tab)]) #[.int .i64 0, .int .i64 0] 8 (World.laidAll_os _ _ _)
      (World.shaped_of_ZipB (by kernel_rfl) (by kernel_rfl)) (by kernel_rfl) (by kernel_rfl) (by kernel_rfl)
      (by rw [MakeChecks.laidMetH_plain _ _ _ (by kernel_rfl)]; exact laidMet_laidAll _ (by kernel_rfl) (by kernel_rfl))) ?_
  intro W base args ds gs before hval0 hW _ hsz0 hL _
  have hval : ∀ (j : Nat) t v, Tryd.f6.params[j]? = some t → args[j]? = some v → Value.okWide Tryd.prog W .any base t v := hval0
  have hsz : (DataW.weightsEach Tryd.prog (Tryd.f6.params.toList ++ Rows.matchLimitsSpec.plain.varTypes Tryd.prog) (ds ++ gs)).all (· ≤ reachBytes) = true := hsz0
  have hW' := hW
  obtain ⟨p, q, hA0, hV, rfl, hfz, hnd⟩ := hW
  have hA : DataW.TrodAll enc Tryd.prog W 0 (fun _ => true) true Tryd.f6.params.toList args.toList ds p := hA0
  rw [Tryd.params6] at hA hval hsz
  obtain ⟨v0, vs0, d0, ds0, p0, q0, hargs, rfl, rfl, h0, r0⟩ := trodAll_cons hA
  obtain ⟨v1, vs1, d1, ds1, p1, q1, rfl, rfl, rfl, h1, r1⟩ := trodAll_cons r0
  obtain ⟨rfl, rfl, rfl⟩ := trodAll_nil r1
  obtain rfl : args = #[v0, v1] := by cases args; simp_all
  obtain ⟨rfl, rfl⟩ := trodVars_none hV
  clear hsz0
  obtain ⟨a0, rfl, rfl, rfl, w0⟩ := open_int Tryd.underlying3 (hval 0 3 v0 rfl rfl) h0
  obtain ⟨a1, rfl, rfl, rfl, w1⟩ := open_int Tryd.underlying3 (hval 1 3 v1 rfl rfl) h1
  clear hA0 hval0 hsz
  refine (walk a0 a1 W w0 w1 hL).mono fun e W' ⟨he, bel⟩ => ?_
  subst he
  exact ⟨_, rfl, _, _, _, [], _, [], hW', trodAll_mk1 (shut_bool Tryd.underlying4 _), (trodAll_cons_mk (shut_int Tryd.underlying3 w0) (trodAll_cons_mk (shut_int Tryd.underlying3 w1) trodAll_mk0)), rfl, bel.frame _, fun h => by cases h⟩

theorem proved : Rows.MatchLimitsSaid :=
  OpenClaim.holds_of_wide 6 Tryd.f6 rfl rfl rfl rfl rfl rfl rfl ⟨rfl, rfl, rfl, rfl, rfl⟩ rfl rfl rfl rfl rfl (by kernel_rfl) Tryd.func6 (by kernel_rfl)
    (of_decide_eq_true (by kernel_rfl)) (by unfold Func.isWrapper; first | (rw [if_pos (by decide +kernel)]; kernel_rfl) | (rw [if_neg (by decide +kernel)]; exact ⟨rfl, rfl⟩))
    (fun os started H enc _ => lifted os started H enc)
theorem card : Rows.MatchLimitsCardSaid :=
  Claim7.holds_tied_plain_at .later [] [.data] true (true, "9c3b2abeee23651ab0fc64ad9913698d22e09bcf74f6584c2c8b2754bc07b9cc") true proved (fun _ h => by cases h) (by kernel_rfl) (fun _ h => by cases h) matchLimits_row_tie rfl ⟨rfl, rfl⟩ (by kernel_rfl) rfl
    (fun f fn hf hfn => by
      obtain rfl : f = 6 := Option.some.inj ((show Tryd.prog.funcNamed "burnish/burnishlaw08.MatchLimits" = some 6 by kernel_rfl).symm.trans hf) |>.symm
      obtain rfl : fn = Tryd.f6 := (Option.some.inj (Tryd.func6.symm.trans hfn)).symm
      exact ⟨by kernel_rfl, fun j t ht => by
        rw [Tryd.params6] at ht
        have hm : t ∈ [3, 3] := by simpa using Array.mem_of_getElem? ht
        have hall : ([3, 3].all fun u => !Tryd.prog.wantsStandIn u) = true := by kernel_rfl
        exact (show Tryd.prog.wantsStandIn t = false by simpa using List.all_eq_true.1 hall t hm)⟩)
    (by kernel_rfl)
#print axioms proved
#print axioms card
end Go.Proofs.YtedncnaeojomcaaDoor.MatchLimits
