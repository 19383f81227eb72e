/- For every kind and all bytes: what is foretold is what the document says; the fixed example holds. No conditions. -/
import Derived.Test.YtbgaaocgdjkkeaaRows
import Derived.Test.YtbgaaocgdjkkeaaOpen
import Derived.Test.YtbgaaocgdjkkeaaFlRef
import Derived.Test.YtbgaaocgdjkkeaaOpenRow
namespace Go.Proofs.Ytbgaaocgdjkkeaa.FilterOf
open Go.ChangeShapes Go.WideShapes Go.ChangeAt Go.RowKit
open Go.ChangeMaps (open_string shut_string)
set_option linter.unusedVariables false
theorem own : ownKnob Try.prog.godebug = none := by kernel_rfl
theorem laidOut : laidOutB Try.prog = true := by kernel_rfl
theorem foretells_any (k : Int) (a b c : Nat) (w : World) (ha : a < 256) (hb : b < 256) (hc : c < 256) :
    Calls Try.prog 15 #[.int .i64 k, .int .u8 a, .int .u8 b, .int .u8 c] w fun e w' => e = .returned (.bool true) ∧ w = w' := by
  have H1 := Lib.hid (foretell_any 4 9 7 7 w (by omega) (by omega) (by omega))
  rw [show Fi.fo 4 9 7 7 = 9 by decide] at H1
  have H2 := Lib.hid (foretell_any k a b c w ha hb hc)
  have H3 := Lib.hid (refFore_any k a b c w ha hb hc)
  have hlt := Fi.fo_lt (k := k) ha hb hc
  generalize Fi.fo k a b c = x at *
  go_enter Try.func15, Try.ntmps15
  go_wp2_with fail
  refine H1.out.mono ?_
  rintro e w' ⟨rfl, rfl⟩
  go_wp2_with fail
  refine H2.out.mono ?_
  rintro e w' ⟨rfl, rfl⟩
  go_wp2_with fail
  refine H3.out.mono ?_
  rintro e w' ⟨rfl, rfl⟩
  go_wp2
  go_ret
  exact ⟨rfl, rfl⟩
theorem walk (k : Int) (a b c : Nat) (w : World) (_ : (Lit.int .i64 k).wf = true) (h : a < 256 ∧ b < 256 ∧ c < 256) :
    Calls Try.prog 4 #[.agg #[.int .i64 k, .int .u8 a, .int .u8 b, .int .u8 c]] w fun e w' => e = .returned (.bool true) ∧ Below w.heap.size w w' := by
  have HB := Lib.hid (below_alloc w (.cells #[.int .i64 k, .int .u8 a, .int .u8 b, .int .u8 c] 40))
  have hq := heap_alloc_last w (.cells #[.int .i64 k, .int .u8 a, .int .u8 b, .int .u8 c] 40)
  have c0 : (w.alloc (.cells #[.int .i64 k, .int .u8 a, .int .u8 b, .int .u8 c] 40)).cell? ⟨w.heap.size, 0, none⟩ = some (.int .i64 k) := (cell_of_row _ _ 0 _ _ (0, 0) hq).trans rfl
  have c1 : (w.alloc (.cells #[.int .i64 k, .int .u8 a, .int .u8 b, .int .u8 c] 40)).cell? ⟨w.heap.size, 1, none⟩ = some (.int .u8 a) := (cell_of_row _ _ 1 _ _ (0, 0) hq).trans rfl
  have c2 : (w.alloc (.cells #[.int .i64 k, .int .u8 a, .int .u8 b, .int .u8 c] 40)).cell? ⟨w.heap.size, 2, none⟩ = some (.int .u8 b) := (cell_of_row _ _ 2 _ _ (0, 0) hq).trans rfl
  have c3 : (w.alloc (.cells #[.int .i64 k, .int .u8 a, .int .u8 b, .int .u8 c] 40)).cell? ⟨w.heap.size, 3, none⟩ = some (.int .u8 c) := (cell_of_row _ _ 3 _ _ (0, 0) hq).trans rfl
  have HF := Lib.hid (fun w => foretells_any k a b c w h.1 h.2.1 h.2.2)
  clear hq h
  go_enter Try.func4, Try.ntmps4
  go_wp2_with fail
  refine (HF.out _).mono ?_
  rintro e w' ⟨rfl, rfl⟩
  go_wp2
  go_ret
  exact ⟨rfl, HB.out⟩
set_option maxRecDepth 100000 in
theorem lifted (os : Os) (started : os.Started) (H : Type) (enc : TypeId × Value → H) :
    ReturnsInHanded {} Try.checked os 4 .any (Rows.filterOfSpec.pre6 enc Try.prog Try.f4 Rows.filterOfRow.domain false) (Rows.filterOfSpec.post enc Try.prog Try.f4 false true false false) := by
  refine returnsInHanded_of_change_sized (C := Try.checked) own started (by kernel_rfl) Try.func4
    (ChangeSpec.witness6 (enc := enc) (C := Try.checked) false ⟨#[], #[.agg #[.int .i64 0, .int .u8 0, .int .u8 0, .int .u8 0]], []⟩ 8 (by kernel_rfl) (by kernel_rfl) (by kernel_rfl) (by kernel_rfl)) ?_
  intro W base args ds gs before hval0 hW _ hsz0 _
  have hval : ∀ (j : Nat) t v, Try.f4.params[j]? = some t → args[j]? = some v → Value.okWide Try.prog W .any base t v := hval0
  have hsz : (DataW.weightsEach Try.prog (Try.f4.params.toList ++ Rows.filterOfSpec.plain.varTypes Try.prog) (ds ++ gs)).all (· ≤ reachBytes) = true := hsz0
  have hW' := hW
  obtain ⟨p, q, hA0, hV, rfl, hfz, hnd⟩ := hW
  have hA : DataW.TrodAll enc Try.prog W 0 (fun _ => true) true Try.f4.params.toList args.toList ds p := hA0
  rw [Try.params4] at hA hval hsz
  obtain ⟨v0, vs0, d0, ds0, p0, q0, hargs, rfl, rfl, h0, r0⟩ := trodAll_cons hA
  obtain ⟨rfl, rfl, rfl⟩ := trodAll_nil r0
  obtain rfl : args = #[v0] := by cases args; simp_all
  obtain ⟨rfl, rfl⟩ := trodVars_none hV
  clear hsz0
  have k0 := h0
  have lt0 : ∀ x ∈ p0, x.block < W.heap.size := by obtain ⟨m, hm⟩ := k0; exact DataW.trod_lt m _ _ _ hm
  obtain ⟨kd0, a0, b0, c0, rfl, w0, x0⟩ := open_around Try.underlying40 (by kernel_rfl) Try.underlying3 Try.underlying5 Try.underlying5 Try.underlying5 (by kernel_rfl) (by kernel_rfl) (by kernel_rfl) (by kernel_rfl) rfl rfl rfl rfl (hval 0 40 v0 rfl rfl) h0
  clear hA0 hval0 hsz
  refine (walk kd0 a0 b0 c0 W w0 x0).mono fun e W' ⟨he, bel⟩ => ?_
  subst he
  exact ⟨_, rfl, _, _, _, [], _, [], hW', trodAll_mk1 (shut_bool Try.underlying4 _), (trodAll_cons_mk (Below.trod laidOut (by kernel_rfl) (of_decide_eq_true (by kernel_rfl)) k0 bel lt0) trodAll_mk0), rfl, bel.frame _, fun h => by cases h⟩

theorem proved : Rows.FilterOfSaid :=
  OpenClaim.holds_of_wide 4 Try.f4 rfl rfl rfl rfl rfl rfl rfl ⟨rfl, rfl, rfl, rfl, rfl⟩ rfl rfl rfl rfl rfl (by kernel_rfl) Try.func4 (by kernel_rfl)
    (of_decide_eq_true (by kernel_rfl)) (by unfold Func.isWrapper; first | (rw [if_pos (by decide +kernel)]; kernel_rfl) | (rw [if_neg (by decide +kernel)]; exact ⟨rfl, rfl⟩))
    (fun os started H enc _ => lifted os started H enc)
#print axioms proved
end Go.Proofs.Ytbgaaocgdjkkeaa.FilterOf
