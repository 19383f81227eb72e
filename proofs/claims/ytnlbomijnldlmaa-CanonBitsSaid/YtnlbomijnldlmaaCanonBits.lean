/- For all lengths and bytes (of at most 600 and 200, as the law itself asks), in both orders: which symbols the bits come to is as the document says. No conditions. -/
import Derived.Test.YtnlbomijnldlmaaRows
import Derived.Test.YtnlbomijnldlmaaOpen
import Derived.Test.YtnlbomijnldlmaaLawCanon
import Derived.Test.YtnlbomijnldlmaaBookReads
import Derived.Test.YtnlbomijnldlmaaNumIs
import Derived.Test.YtnlbomijnldlmaaOpenCanon
namespace Go.Proofs.Ytnlbomijnldlmaa.CanonBits
open Go.ChangeShapes Go.WideShapes Go.ChangeAt Go.RowKit
open Go.ChangeMaps (open_string shut_string)
set_option linter.unusedVariables false
theorem own : ownKnob Try.prog.godebug = none := by kernel_rfl
theorem laidOut : laidOutB Try.prog = true := by kernel_rfl
open Bk
theorem ex_word : wAt (wsOf (seq (rowsL Cn.ex) 17) Cn.ex.length) 5 = (0, 2) := by decide
set_option maxRecDepth 100000 in
set_option maxHeartbeats 4000000 in
theorem bitsOf_any (a : Option Addr) (len cap : Nat) (l : List Int) (b : Option Addr) (blen bcap : Nat) (m : List UInt8) (g : Bool) (t : Int) (w : World) (h : Is .i64 w a len cap l) (hr : cap * 8 ≤ 140737488351232) (hb : Bs w b blen bcap m) :
    Calls Try.prog 20 #[.slice a len cap, .slice b blen bcap, .bool g, .int .i64 t] w fun e w' => e = .returned (.bool true) ∧ Below w.heap.size w w' := by
  have hle := h.hle
  have HL := Lib.hid h.hlen
  have H := Lib.hid h
  have HB := Lib.hid hb
  clear h hb
  by_cases hbig : 600 < len
  · have d1 : decide ((600 : Int) < ↑len) = true := by simp; omega
    go_enter Try.func20, Try.ntmps20
    go_wp2
    go_ret
    exact ⟨rfl, Below.refl _ _⟩
  have d1 : decide ((600 : Int) < ↑len) = false := by simp; omega
  by_cases hbig2 : 200 < blen
  · have d2 : decide ((200 : Int) < ↑blen) = true := by simp; omega
    go_enter Try.func20, Try.ntmps20
    go_wp2
    go_ret
    exact ⟨rfl, Below.refl _ _⟩
  have d2 : decide ((200 : Int) < ↑blen) = false := by simp; omega
  go_enter Try.func20, Try.ntmps20
  go_wp2_with fail
  refine (example_any _).mono ?_
  rintro e w1 ⟨ea, ec, rfl, hex, hb1, _⟩
  go_wp2_with fail
  refine (book_any ea 8 ec Cn.ex _ hex (by omega)).mono ?_
  rintro e w2 (⟨_, g2, rfl, hbk, hb2, _⟩ | ⟨hf, _⟩)
  rotate_left
  · rw [ex_free] at hf; cases hf
  have HB2 := Lib.hid (below_then hb1 hb2)
  have hwl := length_any w2 w2.heap.size g2 _ _ hbk (by rw [wsOf_length]; decide) 5
  rw [ex_word] at hwl
  have HWL := Lib.hid hwl
  clear hbk hb1 hb2 hex hwl
  go_wp2_with fail
  refine HWL.out.mono ?_
  rintro e w3 ⟨rfl, hb3⟩
  have HB3 := Lib.hid (below_then HB2.out hb3)
  clear hb3 HB2 HWL
  go_wp2_with fail
  refine (book_any a len cap l _ (H.out.mono HB3.out) (by omega)).mono ?_
  rintro e w4 (⟨hf, g4, rfl, hbk, hb4, _⟩ | ⟨hf, rfl, hb4⟩)
  · have HF := Lib.hid hf
    have hG := good_of l hf
    have hl5 : len ≤ 512 := by
      have h1 := hf
      simp only [Cn.freeB, Cn.formB, Bool.and_eq_true, decide_eq_true_eq] at h1
      have := h1.1.1; rw [HL.out] at this; exact this
    have HBK := Lib.hid hbk
    have HB4 := Lib.hid (below_then HB3.out hb4)
    clear hbk hb4 HB3 hf
    go_wp2_with fail
    refine (refFree_any a len cap l _ (H.out.mono HB4.out) (by omega)).mono ?_
    rintro e w' ⟨rfl, rfl⟩
    rw [HF.out]
    go_wp2_with fail
    refine (refCodes_any a len cap l _ (H.out.mono HB4.out) hl5).mono ?_
    rintro e w5 ⟨v5, n5, cs, rfl, hcd, hs1, hs2, hb5⟩
    rw [syms_of] at hs1
    rw [codes_of l HF.out] at hs2
    have hks := ks_of cs (rowsL l) hs1 hs2
    have hn5 : n5 ≤ 1000000 := by
      have h1 := congrArg List.length hs1
      rw [List.length_map, hcd.hn, ← syms_of] at h1
      have : (Cn.syms l).length ≤ 512 * 16 := by
        unfold Cn.syms
        have : ∀ m, (Cn.symN l m).length ≤ 512 * m := by
          intro m
          induction m with
          | zero => simp [Cn.symN]
          | succ m ih =>
            rw [Cn.symN_succ, List.length_append, List.length_map]
            have := Cn.row_le l m l.length
            rw [HL.out] at this ⊢
            omega
        exact this 16
      omega
    have HB5 := Lib.hid (below_then HB4.out hb5)
    have HRD := Lib.hid (reads_any w5 _ g4 (rowsL l) _ (HBK.out.mono hb5) hG _ v5 n5 cs hcd hn5 hks b blen bcap m (HB.out.mono HB5.out) (by omega) g t)
    obtain ⟨va5, vc5, rfl, _⟩ := hcd.cells
    clear hcd hs1 hs2 hks hb5 HB4 HBK
    go_wp2_with fail
    refine HRD.out.mono ?_
    rintro e w6 ⟨rfl, hb6⟩
    have HB6 := Lib.hid (below_then HB5.out hb6)
    clear hb6
    go_wp2
    go_ret
    exact ⟨rfl, HB6.out⟩
  · have HF := Lib.hid hf
    have HB4 := Lib.hid (below_then HB3.out hb4)
    clear hb4 HB3 hf
    go_wp2_with fail
    refine (refFree_any a len cap l _ (H.out.mono HB4.out) (by omega)).mono ?_
    rintro e w' ⟨rfl, rfl⟩
    rw [HF.out]
    go_wp2_with fail
    refine (is_yes 6 rfl _).mono ?_
    rintro e w9 ⟨rfl, rfl⟩
    go_wp2
    go_ret
    exact ⟨rfl, HB4.out⟩
set_option maxRecDepth 100000 in
theorem walk (a : Option Addr) (len cap : Nat) (l : List Int) (b : Option Addr) (blen bcap : Nat) (m : List UInt8) (g : Bool) (n : Int) (w : World) (h : Is .i64 w a len cap l) (hr : cap * 8 ≤ 140737488351232) (hb : Bs w b blen bcap m) (hbr : bcap ≤ 140737488351232) (hw : (Lit.int .i64 n).wf = true) :
    Calls Try.prog 4 #[.agg #[.slice a len cap, .slice b blen bcap, .bool g, .int .i64 n]] w fun e w' => e = .returned (.bool true) ∧ Below w.heap.size w w' := by
  have H := Lib.hid h
  have HB := Lib.hid hb
  clear h hb
  go_enter Try.func4, Try.ntmps4
  go_wp2_with fail
  refine (bitsOf_any a len cap l b blen bcap m g n _ (H.out.mono (below_alloc w _)) hr (HB.out.mono (below_alloc w _))).mono ?_
  rintro e w2 ⟨rfl, hb2⟩
  have HX := Lib.hid (below_then (below_alloc w _) hb2)
  clear hb2
  go_wp2
  go_ret
  exact ⟨rfl, HX.out⟩
set_option maxRecDepth 100000 in
theorem lifted (os : Os) (started : os.Started) (H : Type) (enc : TypeId × Value → H) :
    ReturnsInHanded {} Try.checked os 4 .any (Rows.canonBitsSpec.pre6 enc Try.prog Try.f4 Rows.canonBitsRow.domain false) (Rows.canonBitsSpec.post enc Try.prog Try.f4 false true false false) := by
  refine returnsInHanded_of_change_sized (C := Try.checked) own started (by kernel_rfl) Try.func4
    (ChangeSpec.witness6 (enc := enc) (C := Try.checked) false ⟨#[], #[.agg #[.slice none 0 0, .slice none 0 0, .bool false, .int .i64 0]], []⟩ 8 (by kernel_rfl) (by kernel_rfl) (by kernel_rfl) (by kernel_rfl)) ?_
  intro W base args ds gs before hval0 hW _ hsz0 _
  have hval : ∀ (j : Nat) t v, Try.f4.params[j]? = some t → args[j]? = some v → Value.okWide Try.prog W .any base t v := hval0
  have hsz : (DataW.weightsEach Try.prog (Try.f4.params.toList ++ Rows.canonBitsSpec.plain.varTypes Try.prog) (ds ++ gs)).all (· ≤ reachBytes) = true := hsz0
  have hW' := hW
  obtain ⟨p, q, hA0, hV, rfl, hfz, hnd⟩ := hW
  have hA : DataW.TrodAll enc Try.prog W 0 (fun _ => true) true Try.f4.params.toList args.toList ds p := hA0
  rw [Try.params4] at hA hval hsz
  obtain ⟨v0, vs0, d0, ds0, p0, q0, hargs, rfl, rfl, h0, r0⟩ := trodAll_cons hA
  obtain ⟨rfl, rfl, rfl⟩ := trodAll_nil r0
  obtain rfl : args = #[v0] := by cases args; simp_all
  obtain ⟨rfl, rfl⟩ := trodVars_none hV
  clear hsz0
  have k0 := h0
  have lt0 : ∀ x ∈ p0, x.block < W.heap.size := by obtain ⟨m, hm⟩ := k0; exact DataW.trod_lt m _ _ _ hm
  obtain ⟨a0, len0, cap0, l0, b0, blen0, bcap0, m0, g0, n0, rfl, w0, c0, x0, y0, z0⟩ := open_read Try.underlying44 (by kernel_rfl) Try.underlying22 Try.underlying3 (by kernel_rfl) (by kernel_rfl) Try.underlying42 Try.underlying5 (by kernel_rfl) (by kernel_rfl) Try.underlying4 Try.underlying3 (by kernel_rfl) (by kernel_rfl) (by kernel_rfl) (by kernel_rfl) rfl rfl rfl rfl (hval 0 44 v0 rfl rfl) h0 hsz 0 rfl rfl
  clear hA0 hval0 hsz
  refine (walk a0 len0 cap0 l0 b0 blen0 bcap0 m0 g0 n0 W w0 c0 x0 y0 z0).mono fun e W' ⟨he, bel⟩ => ?_
  subst he
  exact ⟨_, rfl, _, _, _, [], _, [], hW', trodAll_mk1 (shut_bool Try.underlying4 _), (trodAll_cons_mk (Below.trod laidOut (by kernel_rfl) (of_decide_eq_true (by kernel_rfl)) k0 bel lt0) trodAll_mk0), rfl, bel.frame _, fun h => by cases h⟩

theorem proved : Rows.CanonBitsSaid :=
  OpenClaim.holds_of_wide 4 Try.f4 rfl rfl rfl rfl rfl rfl rfl ⟨rfl, rfl, rfl, rfl, rfl⟩ rfl rfl rfl rfl rfl (by kernel_rfl) Try.func4 (by kernel_rfl)
    (of_decide_eq_true (by kernel_rfl)) (by unfold Func.isWrapper; first | (rw [if_pos (by decide +kernel)]; kernel_rfl) | (rw [if_neg (by decide +kernel)]; exact ⟨rfl, rfl⟩))
    (fun os started H enc _ => lifted os started H enc)
#print axioms proved
end Go.Proofs.Ytnlbomijnldlmaa.CanonBits
