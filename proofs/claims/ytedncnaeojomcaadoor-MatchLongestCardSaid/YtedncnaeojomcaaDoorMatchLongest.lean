/- For all bytes (of at most 400, as the law itself asks) and every place, the finder's longest match is the last one of the document's list, and there is none where that list is empty; the bytes are left as they were and aren't kept. math/bits.deBruijn64tab holds what the library's text lays (the tied card). -/
import Derived.Test.YtedncnaeojomcaaDoorCards
import Derived.Test.YtedncnaeojomcaaDoorTie
import Derived.ProofKit
import Derived.Handy
import Derived.Lay
import Derived.SevenTiedAt
import Derived.Test.YtedncnaeojomcaaDoorRows
import Derived.Test.YtedncnaeojomcaaDoorOpen
import Derived.Test.YtedncnaeojomcaaDoorLzAt
import Derived.Test.YtedncnaeojomcaaDoorOver
import Derived.Test.YtedncnaeojomcaaDoorNumErr
namespace Go.Proofs.YtedncnaeojomcaaDoor.MatchLongest
open Go.ChangeShapes Go.WideShapes Go.ChangeAt Go.RowKit
open Go.ChangeMaps (open_string shut_string)
set_option linter.unusedVariables false
theorem own : ownKnob Tryd.prog.godebug = none := by kernel_rfl
theorem laidOut : laidOutB Tryd.prog = true := by kernel_rfl
set_option maxRecDepth 100000 in
set_option maxHeartbeats 4000000 in
theorem walk (a : Option Addr) (len cap : Nat) (l : List UInt8) (p : Int) (w : World) (h : Bs w a len cap l) (hr : cap ≤ 140737488351232) (hp : (Lit.int .i64 p).wf = true) (hL : laidMetH Tryd.prog [("math/bits.deBruijn64tab", Rows.laid_math_bits_deBruijn64tab)] w) :
    Calls Tryd.prog 3 #[.slice a len cap, .int .i64 p] w fun e w' => e = .returned (.bool true) ∧ Below w.heap.size w w' := by
  obtain ⟨hdb, hdl⟩ := db_of_laid hL
  have HDB : Hid (∀ w', Below w.heap.size w w' → Db w' ∧ 0 < w'.heap.size) := Lib.hid (fun w' hb => ⟨hdb.kept hb hdl, Nat.lt_of_lt_of_le hdl hb.size⟩)
  have hle := h.hle
  have H := Lib.hid h
  have HP := Lib.hid hp
  have HA := Lib.hid (alive08_any w hdb hdl)
  clear h hp hL hdb hdl
  go_enter Tryd.func3, Tryd.ntmps3
  go_wp2_with fail
  refine HA.out.mono ?_
  rintro e w1 ⟨rfl, hb1⟩
  have HB1 := Lib.hid hb1
  clear hb1 HA
  by_cases hbig : 400 < len
  · have d1 : decide ((400 : Int) < (len : Int)) = true := by simp; omega
    go_wp2
    go_ret
    exact ⟨rfl, HB1.out⟩
  have d1 : decide ((400 : Int) < (len : Int)) = false := by simp; omega
  have HC := Lib.hid (copy_any a len cap l w1 (H.out.mono HB1.out) (by omega))
  go_wp2_with fail
  refine HC.out.mono ?_
  rintro e w2 ⟨gc, rfl, own2, hb2⟩
  have hgc := (own2.lt gc rfl)
  have hlen := H.out.hlen
  have ep : (bvs (l ++ [165, 90])).take len = bvs l := by
    rw [bvs_append, List.take_append_of_le_length (by rw [bvs_length, hlen]; exact Nat.le_refl _), List.take_of_length_le (by rw [bvs_length, hlen]; exact Nat.le_refl _)]
  have C2 := own_prefix own2 len (by omega)
  rw [ep] at C2
  have hbs2 := bs_of_own own2 (by omega) len (by omega)
  rw [List.take_append_of_le_length (by rw [hlen]; exact Nat.le_refl _), List.take_of_length_le (by rw [hlen]; exact Nat.le_refl _)] at hbs2
  have HB2 := Lib.hid (below_then HB1.out hb2)
  have hdb2 := HDB.out w2 HB2.out
  have HN := Lib.hid (newFinder_any (some ⟨gc, 0, none⟩) len (len + 2) l w2 hbs2 (by omega) (fun ad e => by cases e; exact hgc.2) hdb2.1 hdb2.2)
  have HO2 := Lib.hid own2
  have HC2 := Lib.hid C2
  have HGC : Hid (w1.heap.size ≤ gc ∧ gc < w2.heap.size) := Lib.hid hgc
  clear own2 hb2 hgc ep C2 hbs2 hdb2 HC
  go_wp2_with fail
  refine HN.out.mono ?_
  rintro e w3 ⟨gf, eb, v, Rs, rfl, hfd, hgf, heb, hb3⟩
  have HB3 := Lib.hid (below_then HB2.out hb3)
  have HO3 := Lib.hid (own_below HO2.out hb3)
  have HC3 := Lib.hid (own_below HC2.out hb3)
  have HFD := Lib.hid hfd
  have HG3 : Hid (gf ≠ gc ∧ eb ≠ gc ∧ (∀ b, v.ownBlock = some b → b ≠ gc)) := Lib.hid ⟨by have := HGC.out; omega, by have := HGC.out; omega, fun b hb e => by have := HGC.out; have := (hfd.own.lt b hb).1; omega⟩
  have HK := Lib.hid (kept_any gc len a cap l w3 _ (by omega) HO3.out (H.out.mono HB3.out))
  clear hb3 hfd hgf heb HN HO2 HC2
  go_wp2_with fail
  refine HK.out.mono ?_
  rintro e w' ⟨rfl, rfl⟩
  clear HK HO3
  go_wp2_with fail
  refine (over_any _ _ _ l _ HC3.out).mono ?_
  rintro e w4 ⟨rfl, hc4⟩
  have hc4' : Ch w3 w4 (fun k => k = gc) := hc4.wide (fun k hk => .inl (by simpa [Value.ownBlock] using hk.symm))
  have HFD4 := Lib.hid (fd_ch HFD.out hc4' HG3.out.1 HG3.out.2.1 HG3.out.2.2)
  have HB4 : Hid (Below w.heap.size w w4) := Lib.hid (HB3.out.trans (hc4'.below HB3.out.size (fun k hk => by subst hk; have := HGC.out; have := HB1.out.size; omega)))
  have HLO := Lib.hid (longest_any p HFD4.out (by omega))
  clear hc4 hc4' HC3 HFD
  go_wp2_with fail
  refine HLO.out.mono ?_
  rintro e w5 ⟨rfl, hb5⟩
  have HFD5 := Lib.hid (HFD4.out.below hb5)
  have HB5 := Lib.hid (below_then HB4.out hb5)
  have HRA := Lib.hid (recAt_of HFD5.out.recs p)
  generalize ra Rs p = R at *
  have HTL := Lib.hid (longest_of HRA.out)
  have HTOP := Lib.hid (recAt_top HRA.out)
  clear hb5 HLO HFD4
  generalize lastT R = q at *
  obtain ⟨q1, q2⟩ := q
  go_wp2_with fail
  refine (refNear_any a len cap l p R _ (H.out.mono (below_then HB5.out (below_alloc w5 _))) HP.out (by omega) HRA.out).mono ?_
  rintro e w6 ⟨v6, rfl, own6, hb6⟩
  obtain ⟨a6, c6, rfl, his⟩ := own_is own6 (wantI_wf HRA.out)
  have hrow5 : (w5.alloc (.cells #[.int .i64 (q1 : Nat), .int .i64 (q2 : Nat)] 33)).heap[w5.heap.size]? = some (.cells #[.int .i64 (q1 : Nat), .int .i64 (q2 : Nat)] 33 (0, 0)) := heap_alloc_last w5 _
  have hrow6 := (hb6.block w5.heap.size (by simp)).trans hrow5
  have c0 : w6.cell? ⟨w5.heap.size, 0, none⟩ = some (.int .i64 (q1 : Nat)) := by rw [cell_of_row _ _ _ _ _ (0, 0) hrow6]; rfl
  have c1 : w6.cell? ⟨w5.heap.size, 1, none⟩ = some (.int .i64 (q2 : Nat)) := by rw [cell_of_row _ _ _ _ _ (0, 0) hrow6]; rfl
  have HB6 := Lib.hid (below_then HB5.out (below_then (below_alloc w5 _) hb6))
  have HFD6 := Lib.hid (HFD5.out.below (below_then (below_alloc w5 _) hb6))
  have HI6 := Lib.hid his
  have hcl6 := his.hle
  clear own6 hb6 his hrow5 hrow6 HFD5 HRA
  have htop := HTOP.out
  generalize hn : Lz.top R - 2 = n at *
  rcases HTL.out with ⟨rfl, hq⟩ | ⟨hn0, hq, hlast⟩
  · obtain ⟨rfl, rfl⟩ := Prod.mk.inj hq
    clear hq HTL hn
    go_wp2
    go_ret
    exact ⟨rfl, HB6.out⟩
  · obtain ⟨b6, o6, rfl, _, hc6⟩ := HI6.out.at' (n - 1) (by omega)
    rw [hlast] at hc6
    have e1 := (Prod.mk.inj hq).1
    have d2 : ((n : Int) == 0) = false := by simp; omega
    have hk1 : IntKind.i64.wrap ((n : Int) - 1) = ((n - 1 : Nat) : Int) := by rw [IntWalk.i64_in _ ⟨by omega, by omega⟩]; omega
    have hq1 : IntKind.i64.wrap ((2 : Int) + (n : Int)) = (q1 : Int) := by rw [IntWalk.i64_in _ ⟨by omega, by omega⟩]; omega
    have i1 : (0 : Int) ≤ ((n - 1 : Nat) : Int) := by omega
    have i2 : ((n - 1 : Nat) : Int) < (n : Int) := by omega
    have d3 : decide (0 < q1) = true := by simp; omega
    have dn : decide (n - 1 < n) = true := by simp; omega
    have HLN : Hid (∀ k, Calls Tryd.prog 17 #[.pointer (some ⟨gf, 0, none⟩)] (w6.drewN k) fun e w'' => e = .returned (.int .i64 (len : Nat)) ∧ w'' = w6.drewN k) := Lib.hid (fun k => (len_any (HFD6.out.below (dn_below w6 k))).mono (fun e w' h => ⟨h.1, h.2.symm⟩))
    clear hq hlast HTL hn e1
    go_wp2_with fail
    go_quiet (first | (go_at_call 17; with_reducible exact Calls.quiet_of_same (HLN.out _)))
    go_wp2
    go_ret
    exact ⟨rfl, HB6.out.trans ((dn_below w6 _).mono HB6.out.size)⟩
set_option maxRecDepth 100000 in
theorem lifted (os : Os) (started : os.Started) (H : Type) (enc : TypeId × Value → H) :
    ReturnsInHanded {} Tryd.checked os 3 .any (fun w args => (Rows.matchLongestSpec.pre enc Tryd.prog Tryd.f3 Rows.matchLongestRow.domain false w args ∧ laidMetH Tryd.prog [("math/bits.deBruijn64tab", Rows.laid_math_bits_deBruijn64tab)] w) ∧ sizedMet enc Tryd.prog Tryd.f3 (OpenSpec.ofChange Rows.matchLongestSpec) false w args)
      (Rows.matchLongestSpec.post enc Tryd.prog Tryd.f3 false true false false) := by
  refine returnsInHanded_of_change_and (C := Tryd.checked) (X := fun w _ => laidMetH Tryd.prog [("math/bits.deBruijn64tab", Rows.laid_math_bits_deBruijn64tab)] w) (fun _ _ _ hh h => h.of_heap hh) own started (by kernel_rfl) Tryd.func3
    (ChangeSpec.witness_shaped (enc := enc) (C := Tryd.checked) (os := os) (X := fun w _ => laidMetH Tryd.prog [("math/bits.deBruijn64tab", Rows.laid_math_bits_deBruijn64tab)] w) false (World.laidAll Tryd.prog os [("math/bits.deBruijn64tab", Rows.laid_math_bits_deBruijn64tab)]) #[.slice none 0 0, .int .i64 0] 8 (World.laidAll_os _ _ _)
      (World.shaped_of_ZipB (by kernel_rfl) (by kernel_rfl)) (by kernel_rfl) (by kernel_rfl) (by kernel_rfl)
      (by rw [MakeChecks.laidMetH_plain _ _ _ (by kernel_rfl)]; exact laidMet_laidAll _ (by kernel_rfl) (by kernel_rfl))) ?_
  intro W base args ds gs before hval0 hW _ hsz0 hL _
  have hval : ∀ (j : Nat) t v, Tryd.f3.params[j]? = some t → args[j]? = some v → Value.okWide Tryd.prog W .any base t v := hval0
  have hsz : (DataW.weightsEach Tryd.prog (Tryd.f3.params.toList ++ Rows.matchLongestSpec.plain.varTypes Tryd.prog) (ds ++ gs)).all (· ≤ reachBytes) = true := hsz0
  have hW' := hW
  obtain ⟨p, q, hA0, hV, rfl, hfz, hnd⟩ := hW
  have hA : DataW.TrodAll enc Tryd.prog W 0 (fun _ => true) true Tryd.f3.params.toList args.toList ds p := hA0
  rw [Tryd.params3] at hA hval hsz
  obtain ⟨v0, vs0, d0, ds0, p0, q0, hargs, rfl, rfl, h0, r0⟩ := trodAll_cons hA
  obtain ⟨v1, vs1, d1, ds1, p1, q1, rfl, rfl, rfl, h1, r1⟩ := trodAll_cons r0
  obtain ⟨rfl, rfl, rfl⟩ := trodAll_nil r1
  obtain rfl : args = #[v0, v1] := by cases args; simp_all
  obtain ⟨rfl, rfl⟩ := trodVars_none hV
  clear hsz0
  obtain ⟨a0, len0, cap0, rfl⟩ := okWide_slice Tryd.underlying22 (hval 0 22 v0 rfl rfl)
  have k0 := h0
  have lt0 : ∀ x ∈ p0, x.block < W.heap.size := by obtain ⟨m, hm⟩ := k0; exact DataW.trod_lt m _ _ _ hm
  obtain ⟨l0, w0, c0⟩ := open_bs Tryd.underlying22 Tryd.underlying5 (by kernel_rfl) (by kernel_rfl) h0 hsz 0 rfl rfl
  obtain ⟨a1, rfl, rfl, rfl, w1⟩ := open_int Tryd.underlying3 (hval 1 3 v1 rfl rfl) h1
  clear hA0 hval0 hsz
  refine (walk a0 len0 cap0 l0 a1 W w0 c0 w1 hL).mono fun e W' ⟨he, bel⟩ => ?_
  subst he
  exact ⟨_, rfl, _, _, _, [], _, [], hW', trodAll_mk1 (shut_bool Tryd.underlying4 _), (trodAll_cons_mk (Below.trod laidOut (by kernel_rfl) (of_decide_eq_true (by kernel_rfl)) k0 bel lt0) (trodAll_cons_mk (shut_int Tryd.underlying3 w1) trodAll_mk0)), rfl, bel.frame _, fun h => by cases h⟩

theorem proved : Rows.MatchLongestSaid :=
  OpenClaim.holds_of_wide 3 Tryd.f3 rfl rfl rfl rfl rfl rfl rfl ⟨rfl, rfl, rfl, rfl, rfl⟩ rfl rfl rfl rfl rfl (by kernel_rfl) Tryd.func3 (by kernel_rfl)
    (of_decide_eq_true (by kernel_rfl)) (by unfold Func.isWrapper; first | (rw [if_pos (by decide +kernel)]; kernel_rfl) | (rw [if_neg (by decide +kernel)]; exact ⟨rfl, rfl⟩))
    (fun os started H enc _ => lifted os started H enc)
theorem card : Rows.MatchLongestCardSaid :=
  Claim7.holds_tied_plain_at .later [] [.data] true (true, "9c3b2abeee23651ab0fc64ad9913698d22e09bcf74f6584c2c8b2754bc07b9cc") true proved (fun _ h => by cases h) (by kernel_rfl) (fun _ h => by cases h) matchLongest_row_tie rfl ⟨rfl, rfl⟩ (by kernel_rfl) rfl
    (fun f fn hf hfn => by
      obtain rfl : f = 3 := Option.some.inj ((show Tryd.prog.funcNamed "burnish/burnishlaw08.MatchLongest" = some 3 by kernel_rfl).symm.trans hf) |>.symm
      obtain rfl : fn = Tryd.f3 := (Option.some.inj (Tryd.func3.symm.trans hfn)).symm
      exact ⟨by kernel_rfl, fun j t ht => by
        rw [Tryd.params3] at ht
        have hm : t ∈ [22, 3] := by simpa using Array.mem_of_getElem? ht
        have hall : ([22, 3].all fun u => !Tryd.prog.wantsStandIn u) = true := by kernel_rfl
        exact (show Tryd.prog.wantsStandIn t = false by simpa using List.all_eq_true.1 hall t hm)⟩)
    (by kernel_rfl)
#print axioms proved
#print axioms card
end Go.Proofs.YtedncnaeojomcaaDoor.MatchLongest
