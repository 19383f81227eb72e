/- For every row, row ahead and number of bytes: Weight is the document's weight, Lightest the document's kind, or ErrForm where it has none; the fixed example holds. Of rows of more than 5000 bytes nothing is asked. No conditions. -/
import Derived.Test.YtbgaaocgdjkkeaaRows
import Derived.Test.YtbgaaocgdjkkeaaOpen
import Derived.Test.YtbgaaocgdjkkeaaFlLaw
import Derived.Test.YtbgaaocgdjkkeaaFlLight
import Derived.Test.YtbgaaocgdjkkeaaFlRefLight
import Derived.Test.YtbgaaocgdjkkeaaNumIs
import Derived.Test.YtbgaaocgdjkkeaaOpenRow
import Derived.Test.YtbgaaocgdjkkeaaDnB
import Derived.Test.YtbgaaocgdjkkeaaApart
namespace Go.Proofs.Ytbgaaocgdjkkeaa.FilterWeights
open Go.ChangeShapes Go.WideShapes Go.ChangeAt Go.RowKit
open Go.ChangeMaps (open_string shut_string)
set_option linter.unusedVariables false
theorem own : ownKnob Try.prog.godebug = none := by kernel_rfl
theorem laidOut : laidOutB Try.prog = true := by kernel_rfl
set_option maxRecDepth 100000 in
set_option maxHeartbeats 2000000 in
theorem walk (k : Int) (a : Option Addr) (len cap : Nat) (l : List UInt8) (b : Option Addr) (blen bcap : Nat) (m : List UInt8) (p : Int) (w : World) (_ : (Lit.int .i64 k).wf = true) (h : Bs w a len cap l) (hr : cap ≤ 140737488351232) (h' : Bs w b blen bcap m) (hr' : bcap ≤ 140737488351232) (_ : (Lit.int .i64 p).wf = true) :
    Calls Try.prog 7 #[.agg #[.int .i64 k, .slice a len cap, .slice b blen bcap, .int .i64 p]] w fun e w' => e = .returned (.bool true) ∧ Below w.heap.size w w' := by
  have hle := h.hle
  have hle' := h'.hle
  have H := Lib.hid h
  have H' := Lib.hid h'
  have hx0 := Fi.Rx.new w k a len cap b blen bcap p
  have hb0 := below_alloc w (.cells #[.int .i64 k, .slice a len cap, .slice b blen bcap, .int .i64 p] 44)
  have hb1 := hb0.trans ((below_alloc (w.alloc (.cells #[.int .i64 k, .slice a len cap, .slice b blen bcap, .int .i64 p] 44)) (.cells #[.int .u8 1, .int .u8 255, .int .u8 128] 5)).mono hb0.size)
  have hx1 := hx0.below (below_alloc (w.alloc (.cells #[.int .i64 k, .slice a len cap, .slice b blen bcap, .int .i64 p] 44)) (.cells #[.int .u8 1, .int .u8 255, .int .u8 128] 5))
  have hbs := bs_new (w.alloc (.cells #[.int .i64 k, .slice a len cap, .slice b blen bcap, .int .i64 p] 44)) (w.heap.size + 1) (by simp) [1, 255, 128] 5 (0, 0) 3 rfl (by omega) #[.int .u8 1, .int .u8 255, .int .u8 128] rfl
  have HW0 := Lib.hid (weight_any _ 3 3 _ _ hbs (by omega))
  rw [show Fi.weight [1, 255, 128] = 130 by decide +kernel] at HW0
  have HB1 := Lib.hid hb1
  have HX1 := Lib.hid hx1
  obtain ⟨c0, c1, c2, c3⟩ := HX1.out.cells
  clear h h' hx0 hb0 hb1 hx1 hbs
  go_enter Try.func7, Try.ntmps7
  go_wp2_with fail
  refine HW0.out.mono ?_
  rintro e w' ⟨rfl, rfl⟩
  clear HW0
  go_wp2_with fail
  refine (rowLarge_any k a len cap b blen bcap p _ (by omega) (by omega)).mono ?_
  rintro e w2 ⟨rfl, hb2⟩
  have HB2 := Lib.hid (below_then HB1.out hb2)
  have HX2 := Lib.hid (HX1.out.below hb2)
  clear hb2 HB1 HX1 c0 c1 c2 c3
  by_cases hbig : 5000 < len ∨ 5000 < blen
  · rw [show (decide (5000 < len) || decide (5000 < blen)) = true by simpa using hbig]
    clear hbig
    go_wp2
    go_ret
    exact ⟨rfl, HB2.out⟩
  rw [show (decide (5000 < len) || decide (5000 < blen)) = false by simp; omega]
  have hn : len ≤ 1000000 := by omega
  have hm : blen ≤ 1000000 := by omega
  clear hbig
  obtain ⟨c0, c1, c2, c3⟩ := HX2.out.cells
  have HLI := Lib.hid (lightest_any a len cap l b blen bcap m p w2 (H.out.mono HB2.out) (H'.out.mono HB2.out) (by omega) (by omega))
  have HGE : Hid (Fi.good 0 len blen p = Fi.gr len blen p) := Lib.hid (by rw [Fi.good_gr]; rfl)
  have HGG := Lib.hid (fun W => refGood14_any 0 a len cap b blen bcap p W (by omega) (by omega))
  have HGL := Lib.hid (fun h => @Fi.gr_len len blen p h)
  rw [HGE.out] at HGG
  go_wp2_with fail
  refine HLI.out.mono ?_
  rintro e w3 ⟨hb3, hcase⟩
  have HB3 := Lib.hid (below_then HB2.out hb3)
  have HX3 := Lib.hid (HX2.out.below hb3)
  clear hb3 HB2 HX2 c0 c1 c2 c3 HLI HGE
  obtain ⟨c0, c1, c2, c3⟩ := HX3.out.cells
  have hbl := H.out.mono HB3.out
  have HW1 := Lib.hid (fun d => (weight_any a len cap l (w3.drewN d) (hbl.mono (dn_below w3 d)) (by omega)).mono (fun e w' h => (⟨h.1, h.2.symm⟩ : e = .returned (.int .i64 (Fi.weight l : Nat)) ∧ w' = w3.drewN d)))
  have HW2 := Lib.hid (fun d => (refWeight_any a len cap l (w3.drewN d) (hbl.mono (dn_below w3 d)) (by omega)).mono (fun e w' h => (⟨h.1, h.2.symm⟩ : e = .returned (.int .i64 (Fi.weight l : Nat)) ∧ w' = w3.drewN d)))
  generalize Fi.weight l = z at *
  clear hbl
  rcases hcase with ⟨hg, rfl⟩ | ⟨hg, rfl⟩
  · obtain ⟨⟨hp1, hp8⟩, _⟩ := HGL.out hg
    obtain ⟨q, rfl⟩ : ∃ q : Nat, p = q := ⟨p.toNat, by omega⟩
    rw [Int.toNat_natCast]
    have HRL := Lib.hid (fun W (hb : Below w.heap.size w W) => refLightest_any a len cap l b blen bcap m q W (H.out.mono hb) (H'.out.mono hb) (by omega) (by omega) (by omega) (by omega))
    rw [hg] at HGG
    generalize Fi.light l m q = t at *
    clear hg hp1 hp8
    go_wp2_with fail
    go_quiet (first | (go_at_call 26; with_reducible exact Calls.quiet_of_same (HW1.out _)) | (go_at_call 28; with_reducible exact Calls.quiet_of_same (HW2.out _)))
    clear HW1 HW2
    have HX4 := Lib.hid (HX3.out.below (dn_below w3 nq))
    have HB4 := Lib.hid (below_then HB3.out (dn_below w3 nq))
    revert HX4 HB4
    generalize w3.drewN nq = w4
    intro HX4 HB4
    clear HX3 HB3 c0 c1 c2 c3
    obtain ⟨c0, c1, c2, c3⟩ := HX4.out.cells
    go_wp2_with fail
    refine (HGG.out _).mono ?_
    rintro e w' ⟨rfl, rfl⟩
    go_wp2_with fail
    refine (HRL.out _ HB4.out).mono ?_
    rintro e w5 ⟨rfl, hb5⟩
    have HB5 := Lib.hid (below_then HB4.out hb5)
    clear hb5
    go_wp2
    go_ret
    exact ⟨rfl, HB5.out⟩
  · rw [hg] at HGG
    clear hg
    go_wp2_with fail
    go_quiet (first | (go_at_call 26; with_reducible exact Calls.quiet_of_same (HW1.out _)) | (go_at_call 28; with_reducible exact Calls.quiet_of_same (HW2.out _)))
    clear HW1 HW2
    have HX4 := Lib.hid (HX3.out.below (dn_below w3 nq))
    have HB4 := Lib.hid (below_then HB3.out (dn_below w3 nq))
    revert HX4 HB4
    generalize w3.drewN nq = w4
    intro HX4 HB4
    clear HX3 HB3 c0 c1 c2 c3
    obtain ⟨c0, c1, c2, c3⟩ := HX4.out.cells
    go_wp2_with fail
    refine (HGG.out _).mono ?_
    rintro e w' ⟨rfl, rfl⟩
    go_wp2_with fail
    refine (is_yes 6 rfl _).mono ?_
    rintro e w' ⟨rfl, rfl⟩
    go_wp2
    go_ret
    exact ⟨rfl, HB4.out⟩
set_option maxRecDepth 100000 in
theorem lifted (os : Os) (started : os.Started) (H : Type) (enc : TypeId × Value → H) :
    ReturnsInHanded {} Try.checked os 7 .any (Rows.filterWeightsSpec.pre6 enc Try.prog Try.f7 Rows.filterWeightsRow.domain false) (Rows.filterWeightsSpec.post enc Try.prog Try.f7 false true false false) := by
  refine returnsInHanded_of_change_sized (C := Try.checked) own started (by kernel_rfl) Try.func7
    (ChangeSpec.witness6 (enc := enc) (C := Try.checked) false ⟨#[], #[.agg #[.int .i64 0, .slice none 0 0, .slice none 0 0, .int .i64 0]], []⟩ 8 (by kernel_rfl) (by kernel_rfl) (by kernel_rfl) (by kernel_rfl)) ?_
  intro W base args ds gs before hval0 hW _ hsz0 _
  have hval : ∀ (j : Nat) t v, Try.f7.params[j]? = some t → args[j]? = some v → Value.okWide Try.prog W .any base t v := hval0
  have hsz : (DataW.weightsEach Try.prog (Try.f7.params.toList ++ Rows.filterWeightsSpec.plain.varTypes Try.prog) (ds ++ gs)).all (· ≤ reachBytes) = true := hsz0
  have hW' := hW
  obtain ⟨p, q, hA0, hV, rfl, hfz, hnd⟩ := hW
  have hA : DataW.TrodAll enc Try.prog W 0 (fun _ => true) true Try.f7.params.toList args.toList ds p := hA0
  rw [Try.params7] at hA hval hsz
  obtain ⟨v0, vs0, d0, ds0, p0, q0, hargs, rfl, rfl, h0, r0⟩ := trodAll_cons hA
  obtain ⟨rfl, rfl, rfl⟩ := trodAll_nil r0
  obtain rfl : args = #[v0] := by cases args; simp_all
  obtain ⟨rfl, rfl⟩ := trodVars_none hV
  clear hsz0
  have k0 := h0
  have lt0 : ∀ x ∈ p0, x.block < W.heap.size := by obtain ⟨m, hm⟩ := k0; exact DataW.trod_lt m _ _ _ hm
  obtain ⟨kd0, a0, len0, cap0, l0, b0, blen0, bcap0, m0, n0, rfl, w0, c0, x0, y0, z0, u0⟩ := open_row Try.underlying44 (by kernel_rfl) Try.underlying3 Try.underlying24 Try.underlying5 (by kernel_rfl) (by kernel_rfl) Try.underlying24 Try.underlying5 (by kernel_rfl) (by kernel_rfl) Try.underlying3 (by kernel_rfl) (by kernel_rfl) (by kernel_rfl) (by kernel_rfl) rfl rfl rfl rfl (hval 0 44 v0 rfl rfl) h0 hsz 0 rfl rfl
  clear hA0 hval0 hsz
  refine (walk kd0 a0 len0 cap0 l0 b0 blen0 bcap0 m0 n0 W w0 c0 x0 y0 z0 u0).mono fun e W' ⟨he, bel⟩ => ?_
  subst he
  exact ⟨_, rfl, _, _, _, [], _, [], hW', trodAll_mk1 (shut_bool Try.underlying4 _), (trodAll_cons_mk (Below.trod laidOut (by kernel_rfl) (of_decide_eq_true (by kernel_rfl)) k0 bel lt0) trodAll_mk0), rfl, bel.frame _, fun h => by cases h⟩

theorem proved : Rows.FilterWeightsSaid :=
  OpenClaim.holds_of_wide 7 Try.f7 rfl rfl rfl rfl rfl rfl rfl ⟨rfl, rfl, rfl, rfl, rfl⟩ rfl rfl rfl rfl rfl (by kernel_rfl) Try.func7 (by kernel_rfl)
    (of_decide_eq_true (by kernel_rfl)) (by unfold Func.isWrapper; first | (rw [if_pos (by decide +kernel)]; kernel_rfl) | (rw [if_neg (by decide +kernel)]; exact ⟨rfl, rfl⟩))
    (fun os started H enc _ => lifted os started H enc)
#print axioms proved
end Go.Proofs.Ytbgaaocgdjkkeaa.FilterWeights
