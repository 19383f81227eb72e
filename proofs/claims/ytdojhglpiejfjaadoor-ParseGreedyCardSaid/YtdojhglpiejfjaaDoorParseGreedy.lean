/- For all bytes (of at most 300, as the law itself asks), the greedy parse is the document's: at each place the longest match, of equally long ones the nearest, or else the byte; the text is left as it was. math/bits.deBruijn64tab holds what the library's text lays (the tied card). -/
import Derived.Test.YtdojhglpiejfjaaDoorCards
import Derived.Test.YtdojhglpiejfjaaDoorTie
import Derived.ProofKit
import Derived.Handy
import Derived.Lay
import Derived.SevenTiedAt
import Derived.Test.YtdojhglpiejfjaaDoorRows
import Derived.Test.YtdojhglpiejfjaaDoorZ19
namespace Go.Proofs.YtdojhglpiejfjaaDoor.ParseGreedy
open Go.ChangeShapes Go.WideShapes Go.ChangeAt Go.RowKit
open Go.ChangeMaps (open_string shut_string)
set_option linter.unusedVariables false
theorem own : ownKnob Tryd.prog.godebug = none := by kernel_rfl
theorem laidOut : laidOutB Tryd.prog = true := by kernel_rfl
theorem toks_own {w : World} {B N K : Nat} {F : Nat → Tok} {v : Value} (h : w.ownsRow B 46 2 v K (tks (Pz.toks F K))) (hF : ∀ p, p < N → Tk.isTok (F p) = true) (hj : ∀ j, j < K → Pz.pos F j < N) : ∃ a cap, v = .slice a K cap ∧ Ts2 w a K cap (Pz.toks F K) :=
  own_ts2 h (by have := tks_wf (toks_tok hF hj); rwa [Pz.toks_length] at this)
set_option maxRecDepth 100000 in
set_option maxHeartbeats 4000000 in
theorem walk (a : Option Addr) (len cap : Nat) (l : List UInt8) (w : World) (h : Bs w a len cap l) (hr : cap ≤ 140737488351232) (hL : laidMetH Tryd.prog [("math/bits.deBruijn64tab", Rows.laid_math_bits_deBruijn64tab)] w) :
    Calls Tryd.prog 3 #[.slice a len cap] w fun e w' => e = .returned (.bool true) ∧ Below w.heap.size w w' := by
  obtain ⟨hdb, hdl⟩ := db_of_laid hL
  have HDB : Hid (∀ w', Below w.heap.size w w' → Db w' ∧ 0 < w'.heap.size) := Lib.hid (fun w' hb => ⟨hdb.kept hb hdl, Nat.lt_of_lt_of_le hdl hb.size⟩)
  have HAL := Lib.hid (alive09_any w hdb hdl)
  have hle := h.hle
  have H := Lib.hid h
  clear h hL hdb hdl
  go_enter Tryd.func3, Tryd.ntmps3
  go_wp2_with fail
  refine HAL.out.mono ?_
  rintro e w1 ⟨rfl, hb1⟩
  have HB1 := Lib.hid hb1
  clear hb1 HAL
  by_cases hbig : 300 < len
  · have d1 : decide ((300 : Int) < (len : Int)) = true := by simp; omega
    go_wp2
    go_ret
    exact ⟨rfl, HB1.out⟩
  have d1 : decide ((300 : Int) < (len : Int)) = false := by simp; omega
  go_wp2_with fail
  refine (copy_any a len cap l w1 (H.out.mono HB1.out) (by omega)).mono ?_
  rintro e w2 ⟨g, rfl, hown, hb2⟩
  have HOW := Lib.hid hown
  have HB2 := Lib.hid (below_then HB1.out hb2)
  have HBC : Hid (Bs w2 (some ⟨g, 0, none⟩) len (len + 2) l) := Lib.hid (by
    have := bs_of_own hown (by omega) len (by omega)
    have e : (l ++ [165, 90]).take len = l := by rw [← H.out.hlen]; simp
    rwa [e] at this)
  have hdb2 := HDB.out w2 HB2.out
  have HGR := Lib.hid (greedy_any _ len (len + 2) l w2 HBC.out (by omega) hdb2.1 hdb2.2)
  clear hown hb2 hdb2 HBC
  go_wp2_with fail
  refine HGR.out.mono ?_
  rintro e w3 ⟨v, K, Rs, rfl, hrc, hown3, hK, hJ, hb3⟩
  have htx := Pz.txt_of hrc
  have hF : ∀ p, p < len → Tk.isTok (Pz.gr (gb l) (fun p => ra Rs (p : Int)) p) = true := fun p hp => Pz.Cho.tok htx hp (Pz.gr_cho htx hp).1
  obtain ⟨va, vc, rfl, hts⟩ := toks_own hown3 hF hJ
  have HTS := Lib.hid hts
  have HK := Lib.hid (And.intro hK hJ)
  have HF := Lib.hid hF
  have hkl : K ≤ len := by have := Pz.pos_ge (Pz.gr (gb l) (fun p => ra Rs (p : Int))) K; omega
  have HOW3 := Lib.hid (own_below HOW.out hb3)
  have HB3 := Lib.hid (below_then HB2.out hb3)
  have HRG := Lib.hid (refGreedy_any a len cap l Rs w3 (H.out.mono HB3.out) (by omega) hrc)
  clear hown3 hK hJ hb3 htx hF hts HGR HOW hrc
  go_wp2_with fail
  refine HRG.out.mono ?_
  rintro e w4 ⟨v4, K4, rfl, hown4, hK4, hJ4, hb4⟩
  obtain rfl := Pz.pos_one HK.out.1 hK4
  obtain ⟨va4, vc4, rfl, hts4⟩ := toks_own hown4 HF.out hJ4
  have HTK := Lib.hid (tokens_any _ _ _ _ _ _ w4 (HTS.out.mono hb4) hts4 (by omega))
  have HOW4 := Lib.hid (own_below HOW3.out hb4)
  have HB4 := Lib.hid (below_then HB3.out hb4)
  clear hown4 hK4 hJ4 hb4 hts4 HRG HTS HOW3 HK HF
  go_wp2_with fail
  refine HTK.out.mono ?_
  rintro e w5 ⟨rfl, n, rfl⟩
  have hdn := dn_is w4 n
  have HKP := Lib.hid (kept_any g len a cap l (w4.drewN n) _ (by omega) (own_below HOW4.out hdn) (H.out.mono (below_then HB4.out hdn)))
  have HB5 := Lib.hid (below_then HB4.out hdn)
  clear hdn HTK HOW4
  go_wp2_with fail
  refine HKP.out.mono ?_
  rintro e w6 ⟨rfl, rfl⟩
  go_wp2
  go_ret
  exact ⟨rfl, HB5.out⟩
set_option maxRecDepth 100000 in
theorem lifted (os : Os) (started : os.Started) (H : Type) (enc : TypeId × Value → H) :
    ReturnsInHanded {} Tryd.checked os 3 .any (fun w args => (Rows.parseGreedySpec.pre enc Tryd.prog Tryd.f3 Rows.parseGreedyRow.domain false w args ∧ laidMetH Tryd.prog [("math/bits.deBruijn64tab", Rows.laid_math_bits_deBruijn64tab)] w) ∧ sizedMet enc Tryd.prog Tryd.f3 (OpenSpec.ofChange Rows.parseGreedySpec) false w args)
      (Rows.parseGreedySpec.post enc Tryd.prog Tryd.f3 false true false false) := by
  refine returnsInHanded_of_change_and (C := Tryd.checked) (X := fun w _ => laidMetH Tryd.prog [("math/bits.deBruijn64tab", Rows.laid_math_bits_deBruijn64tab)] w) (fun _ _ _ hh h => h.of_heap hh) own started (by kernel_rfl) Tryd.func3
    (ChangeSpec.witness_shaped (enc := enc) (C := Tryd.checked) (os := os) (X := fun w _ => laidMetH Tryd.prog [("math/bits.deBruijn64tab", Rows.laid_math_bits_deBruijn64tab)] w) false (World.laidAll Tryd.prog os [("math/bits.deBruijn64tab", Rows.laid_math_bits_deBruijn64tab)]) #[.slice none 0 0] 8 (World.laidAll_os _ _ _)
      (World.shaped_of_ZipB (by kernel_rfl) (by kernel_rfl)) (by kernel_rfl) (by kernel_rfl) (by kernel_rfl)
      (by rw [MakeChecks.laidMetH_plain _ _ _ (by kernel_rfl)]; exact laidMet_laidAll _ (by kernel_rfl) (by kernel_rfl))) ?_
  intro W base args ds gs before hval0 hW _ hsz0 hL _
  have hval : ∀ (j : Nat) t v, Tryd.f3.params[j]? = some t → args[j]? = some v → Value.okWide Tryd.prog W .any base t v := hval0
  have hsz : (DataW.weightsEach Tryd.prog (Tryd.f3.params.toList ++ Rows.parseGreedySpec.plain.varTypes Tryd.prog) (ds ++ gs)).all (· ≤ reachBytes) = true := hsz0
  have hW' := hW
  obtain ⟨p, q, hA0, hV, rfl, hfz, hnd⟩ := hW
  have hA : DataW.TrodAll enc Tryd.prog W 0 (fun _ => true) true Tryd.f3.params.toList args.toList ds p := hA0
  rw [Tryd.params3] at hA hval hsz
  obtain ⟨v0, vs0, d0, ds0, p0, q0, hargs, rfl, rfl, h0, r0⟩ := trodAll_cons hA
  obtain ⟨rfl, rfl, rfl⟩ := trodAll_nil r0
  obtain rfl : args = #[v0] := by cases args; simp_all
  obtain ⟨rfl, rfl⟩ := trodVars_none hV
  clear hsz0
  obtain ⟨a0, len0, cap0, rfl⟩ := okWide_slice Tryd.underlying22 (hval 0 22 v0 rfl rfl)
  have k0 := h0
  have lt0 : ∀ x ∈ p0, x.block < W.heap.size := by obtain ⟨m, hm⟩ := k0; exact DataW.trod_lt m _ _ _ hm
  obtain ⟨l0, w0, c0⟩ := open_bs Tryd.underlying22 Tryd.underlying5 (by kernel_rfl) (by kernel_rfl) h0 hsz 0 rfl rfl
  clear hA0 hval0 hsz
  refine (walk a0 len0 cap0 l0 W w0 c0 hL).mono fun e W' ⟨he, bel⟩ => ?_
  subst he
  exact ⟨_, rfl, _, _, _, [], _, [], hW', trodAll_mk1 (shut_bool Tryd.underlying4 _), (trodAll_cons_mk (Below.trod laidOut (by kernel_rfl) (of_decide_eq_true (by kernel_rfl)) k0 bel lt0) trodAll_mk0), rfl, bel.frame _, fun h => by cases h⟩

theorem proved : Rows.ParseGreedySaid :=
  OpenClaim.holds_of_wide 3 Tryd.f3 rfl rfl rfl rfl rfl rfl rfl ⟨rfl, rfl, rfl, rfl, rfl⟩ rfl rfl rfl rfl rfl (by kernel_rfl) Tryd.func3 (by kernel_rfl)
    (of_decide_eq_true (by kernel_rfl)) (by unfold Func.isWrapper; first | (rw [if_pos (by decide +kernel)]; kernel_rfl) | (rw [if_neg (by decide +kernel)]; exact ⟨rfl, rfl⟩))
    (fun os started H enc _ => lifted os started H enc)
theorem card : Rows.ParseGreedyCardSaid :=
  Claim7.holds_tied_plain_at .later [] [.data] true (true, "b60a876480dfcbdad663fbe850670d4a1a6d5e66d8b82965952b64b2b6ab7e45") true proved (fun _ h => by cases h) (by kernel_rfl) (fun _ h => by cases h) parseGreedy_row_tie rfl ⟨rfl, rfl⟩ (by kernel_rfl) rfl
    (fun f fn hf hfn => by
      obtain rfl : f = 3 := Option.some.inj ((show Tryd.prog.funcNamed "burnish/burnishlaw09.ParseGreedy" = some 3 by kernel_rfl).symm.trans hf) |>.symm
      obtain rfl : fn = Tryd.f3 := (Option.some.inj (Tryd.func3.symm.trans hfn)).symm
      exact ⟨by kernel_rfl, fun j t ht => by
        rw [Tryd.params3] at ht
        have hm : t ∈ [22] := by simpa using Array.mem_of_getElem? ht
        have hall : ([22].all fun u => !Tryd.prog.wantsStandIn u) = true := by kernel_rfl
        exact (show Tryd.prog.wantsStandIn t = false by simpa using List.all_eq_true.1 hall t hm)⟩)
    (by kernel_rfl)
#print axioms proved
#print axioms card
end Go.Proofs.YtdojhglpiejfjaaDoor.ParseGreedy
