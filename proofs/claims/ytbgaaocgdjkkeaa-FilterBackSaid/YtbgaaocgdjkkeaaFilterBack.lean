/- For every kind, row, row ahead and number of bytes: what Filter answers Unfilter undoes, and the other way round; where one refuses, both do. Of rows of more than 5000 bytes nothing is asked. No conditions. -/
import Derived.Test.YtbgaaocgdjkkeaaRows
import Derived.Test.YtbgaaocgdjkkeaaOpen
import Derived.Test.YtbgaaocgdjkkeaaFlLaw
import Derived.Test.YtbgaaocgdjkkeaaNumSame
import Derived.Test.YtbgaaocgdjkkeaaOpenRow
namespace Go.Proofs.Ytbgaaocgdjkkeaa.FilterBack
open Go.ChangeShapes Go.WideShapes Go.ChangeAt Go.RowKit
open Go.ChangeMaps (open_string shut_string)
set_option linter.unusedVariables false
theorem own : ownKnob Try.prog.godebug = none := by kernel_rfl
theorem laidOut : laidOutB Try.prog = true := by kernel_rfl
set_option maxRecDepth 100000 in
set_option maxHeartbeats 2000000 in
theorem walk (k : Int) (a : Option Addr) (len cap : Nat) (l : List UInt8) (b : Option Addr) (blen bcap : Nat) (m : List UInt8) (p : Int) (w : World) (_ : (Lit.int .i64 k).wf = true) (h : Bs w a len cap l) (hr : cap ≤ 140737488351232) (h' : Bs w b blen bcap m) (hr' : bcap ≤ 140737488351232) (_ : (Lit.int .i64 p).wf = true) :
    Calls Try.prog 6 #[.agg #[.int .i64 k, .slice a len cap, .slice b blen bcap, .int .i64 p]] w fun e w' => e = .returned (.bool true) ∧ Below w.heap.size w w' := by
  have hle := h.hle
  have hle' := h'.hle
  have H := Lib.hid h
  have H' := Lib.hid h'
  have HX0 := Lib.hid (Fi.Rx.new w k a len cap b blen bcap p)
  have HB0 := Lib.hid (below_alloc w (.cells #[.int .i64 k, .slice a len cap, .slice b blen bcap, .int .i64 p] 44))
  clear h h'
  go_enter Try.func6, Try.ntmps6
  go_wp2_with fail
  refine (alive14_any _).mono ?_
  rintro e w1 ⟨rfl, hb1⟩
  have HB1 := Lib.hid (below_then HB0.out hb1)
  have HX1 := Lib.hid (HX0.out.below hb1)
  obtain ⟨c0, c1, c2, c3⟩ := HX1.out.cells
  clear hb1 HB0 HX0
  go_wp2_with fail
  refine (rowLarge_any k a len cap b blen bcap p _ (by omega) (by omega)).mono ?_
  rintro e w2 ⟨rfl, hb2⟩
  have HB2 := Lib.hid (below_then HB1.out hb2)
  have HX2 := Lib.hid (HX1.out.below hb2)
  clear hb2 HB1 HX1 c0 c1 c2 c3
  by_cases hbig : 5000 < len ∨ 5000 < blen
  · rw [show (decide (5000 < len) || decide (5000 < blen)) = true by simpa using hbig]
    clear hbig
    go_wp2
    go_ret
    exact ⟨rfl, HB2.out⟩
  rw [show (decide (5000 < len) || decide (5000 < blen)) = false by simp; omega]
  have hn : len ≤ 1000000 := by omega
  have hm : blen ≤ 1000000 := by omega
  clear hbig
  obtain ⟨c0, c1, c2, c3⟩ := HX2.out.cells
  cases hg : Fi.good k len blen p
  · have HF := Lib.hid (fun W (hb : Below w.heap.size w W) => filter_bad k a len cap l b blen bcap m p W hg (H.out.mono hb) (H'.out.mono hb) hn hm)
    have HU := Lib.hid (fun W (hb : Below w.heap.size w W) => unfilter_bad k a len cap l b blen bcap m p W hg (H.out.mono hb) (H'.out.mono hb) hn hm)
    clear hg
    go_wp2_with fail
    refine (HF.out _ HB2.out).mono ?_
    rintro e w3 ⟨rfl, hb3⟩
    have HB3 := Lib.hid (below_then HB2.out hb3)
    have HX3 := Lib.hid (HX2.out.below hb3)
    clear hb3 HB2 HX2 HF c0 c1 c2 c3
    obtain ⟨c0, c1, c2, c3⟩ := HX3.out.cells
    go_wp2_with fail
    refine (HU.out _ HB3.out).mono ?_
    rintro e w4 ⟨rfl, hb4⟩
    have HB4 := Lib.hid (below_then HB3.out hb4)
    clear hb4 HB3 HX3 HU c0 c1 c2 c3
    go_wp2
    go_ret
    exact ⟨rfl, HB4.out⟩
  · have HF := Lib.hid (fun W a' c' l' (hb : Below w.heap.size w W) (hs : Bs W a' len c' l') => filter_good k a' len c' l' b blen bcap m p W hg hs (H'.out.mono hb) hn hm)
    have HU := Lib.hid (fun W a' c' l' (hb : Below w.heap.size w W) (hs : Bs W a' len c' l') => unfilter_good k a' len c' l' b blen bcap m p W hg hs (H'.out.mono hb) hn hm)
    have hp := (Fi.good_len hg).2.1
    have hq : 0 < p.toNat := by omega
    have HE1 := Lib.hid (Fi.back k l m p.toNat hq)
    have HE2 := Lib.hid (Fi.back2 k l m p.toNat hq)
    clear hg hp hq
    go_wp2_with fail
    refine (HF.out _ _ _ _ HB2.out (H.out.mono HB2.out)).mono ?_
    rintro e w3 ⟨g1, rfl, hs3, _, hb3⟩
    have HB3 := Lib.hid (below_then HB2.out hb3)
    have HX3 := Lib.hid (HX2.out.below hb3)
    clear hb3 HB2 HX2 c0 c1 c2 c3
    obtain ⟨c0, c1, c2, c3⟩ := HX3.out.cells
    go_wp2_with fail
    refine (HU.out _ _ _ _ HB3.out (H.out.mono HB3.out)).mono ?_
    rintro e w4 ⟨g2, rfl, hs4, _, hb4⟩
    have HB4 := Lib.hid (below_then HB3.out hb4)
    have HX4 := Lib.hid (HX3.out.below hb4)
    have HS3 := Lib.hid (hs3.out.mono hb4)
    clear hb4 HB3 HX3 c0 c1 c2 c3 hs3
    obtain ⟨c0, c1, c2, c3⟩ := HX4.out.cells
    go_wp2_with fail
    refine (HU.out _ _ _ _ HB4.out HS3.out).mono ?_
    rintro e w5 ⟨g3, rfl, hs5, _, hb5⟩
    have HB5 := Lib.hid (below_then HB4.out hb5)
    have HX5 := Lib.hid (HX4.out.below hb5)
    have HS4 := Lib.hid (hs4.out.mono hb5)
    rw [HE1.out] at hs5
    clear hb5 HB4 HX4 c0 c1 c2 c3 hs4 HS3 HE1 HU
    obtain ⟨c0, c1, c2, c3⟩ := HX5.out.cells
    go_wp2_with fail
    refine (HF.out _ _ _ _ HB5.out HS4.out).mono ?_
    rintro e w6 ⟨g4, rfl, hs6, _, hb6⟩
    have HB6 := Lib.hid (below_then HB5.out hb6)
    have HX6 := Lib.hid (HX5.out.below hb6)
    have HS5 := Lib.hid (hs5.out.mono hb6)
    rw [HE2.out] at hs6
    clear hb6 HB5 HX5 c0 c1 c2 c3 hs5 HS4 HE2 HF
    obtain ⟨c0, c1, c2, c3⟩ := HX6.out.cells
    have HL := Lib.hid (H.out.mono HB6.out)
    go_wp2_with fail
    refine (same_any _ _ _ _ _ _ _ _ _ HS5.out HL.out).mono ?_
    rintro e w' ⟨rfl, rfl⟩
    rw [show (l == l) = true from beq_self_eq_true l]
    go_wp2_with fail
    refine (same_any _ _ _ _ _ _ _ _ _ hs6.out HL.out).mono ?_
    rintro e w' ⟨rfl, rfl⟩
    rw [show (l == l) = true from beq_self_eq_true l]
    go_wp2
    go_ret
    exact ⟨rfl, HB6.out⟩
set_option maxRecDepth 100000 in
theorem lifted (os : Os) (started : os.Started) (H : Type) (enc : TypeId × Value → H) :
    ReturnsInHanded {} Try.checked os 6 .any (Rows.filterBackSpec.pre6 enc Try.prog Try.f6 Rows.filterBackRow.domain false) (Rows.filterBackSpec.post enc Try.prog Try.f6 false true false false) := by
  refine returnsInHanded_of_change_sized (C := Try.checked) own started (by kernel_rfl) Try.func6
    (ChangeSpec.witness6 (enc := enc) (C := Try.checked) false ⟨#[], #[.agg #[.int .i64 0, .slice none 0 0, .slice none 0 0, .int .i64 0]], []⟩ 8 (by kernel_rfl) (by kernel_rfl) (by kernel_rfl) (by kernel_rfl)) ?_
  intro W base args ds gs before hval0 hW _ hsz0 _
  have hval : ∀ (j : Nat) t v, Try.f6.params[j]? = some t → args[j]? = some v → Value.okWide Try.prog W .any base t v := hval0
  have hsz : (DataW.weightsEach Try.prog (Try.f6.params.toList ++ Rows.filterBackSpec.plain.varTypes Try.prog) (ds ++ gs)).all (· ≤ reachBytes) = true := hsz0
  have hW' := hW
  obtain ⟨p, q, hA0, hV, rfl, hfz, hnd⟩ := hW
  have hA : DataW.TrodAll enc Try.prog W 0 (fun _ => true) true Try.f6.params.toList args.toList ds p := hA0
  rw [Try.params6] at hA hval hsz
  obtain ⟨v0, vs0, d0, ds0, p0, q0, hargs, rfl, rfl, h0, r0⟩ := trodAll_cons hA
  obtain ⟨rfl, rfl, rfl⟩ := trodAll_nil r0
  obtain rfl : args = #[v0] := by cases args; simp_all
  obtain ⟨rfl, rfl⟩ := trodVars_none hV
  clear hsz0
  have k0 := h0
  have lt0 : ∀ x ∈ p0, x.block < W.heap.size := by obtain ⟨m, hm⟩ := k0; exact DataW.trod_lt m _ _ _ hm
  obtain ⟨kd0, a0, len0, cap0, l0, b0, blen0, bcap0, m0, n0, rfl, w0, c0, x0, y0, z0, u0⟩ := open_row Try.underlying44 (by kernel_rfl) Try.underlying3 Try.underlying24 Try.underlying5 (by kernel_rfl) (by kernel_rfl) Try.underlying24 Try.underlying5 (by kernel_rfl) (by kernel_rfl) Try.underlying3 (by kernel_rfl) (by kernel_rfl) (by kernel_rfl) (by kernel_rfl) rfl rfl rfl rfl (hval 0 44 v0 rfl rfl) h0 hsz 0 rfl rfl
  clear hA0 hval0 hsz
  refine (walk kd0 a0 len0 cap0 l0 b0 blen0 bcap0 m0 n0 W w0 c0 x0 y0 z0 u0).mono fun e W' ⟨he, bel⟩ => ?_
  subst he
  exact ⟨_, rfl, _, _, _, [], _, [], hW', trodAll_mk1 (shut_bool Try.underlying4 _), (trodAll_cons_mk (Below.trod laidOut (by kernel_rfl) (of_decide_eq_true (by kernel_rfl)) k0 bel lt0) trodAll_mk0), rfl, bel.frame _, fun h => by cases h⟩

theorem proved : Rows.FilterBackSaid :=
  OpenClaim.holds_of_wide 6 Try.f6 rfl rfl rfl rfl rfl rfl rfl ⟨rfl, rfl, rfl, rfl, rfl⟩ rfl rfl rfl rfl rfl (by kernel_rfl) Try.func6 (by kernel_rfl)
    (of_decide_eq_true (by kernel_rfl)) (by unfold Func.isWrapper; first | (rw [if_pos (by decide +kernel)]; kernel_rfl) | (rw [if_neg (by decide +kernel)]; exact ⟨rfl, rfl⟩))
    (fun os started H enc _ => lifted os started H enc)
#print axioms proved
end Go.Proofs.Ytbgaaocgdjkkeaa.FilterBack
