/- For all bytes (of at most 100, as the law itself asks) and all numbers: a nil book and the book of no lengths, and nil readers and writers, answer as the document says. No conditions. -/
import Derived.Test.YtnlbomijnldlmaaRows
import Derived.Test.YtnlbomijnldlmaaOpen
import Derived.Test.YtnlbomijnldlmaaLawCanon
import Derived.Test.YtnlbomijnldlmaaAllNil
import Derived.Test.YtnlbomijnldlmaaNilTake
import Derived.Test.YtnlbomijnldlmaaBookWrite
import Derived.Test.YtnlbomijnldlmaaBitsNewW
import Derived.Test.YtnlbomijnldlmaaBitsNewR
import Derived.Test.YtnlbomijnldlmaaBitsAt
import Derived.Test.YtnlbomijnldlmaaNumIs
namespace Go.Proofs.Ytnlbomijnldlmaa.CanonNone
open Go.ChangeShapes Go.WideShapes Go.ChangeAt Go.RowKit
open Go.ChangeMaps (open_string shut_string)
set_option linter.unusedVariables false
theorem own : ownKnob Try.prog.godebug = none := by kernel_rfl
theorem laidOut : laidOutB Try.prog = true := by kernel_rfl
open Go.Shelf Bk
attribute [local go_sem] Oper.semAt_some
theorem ex_word5 : wAt (wsOf (seq (rowsL Cn.ex) 17) Cn.ex.length) 5 = (0, 2) := by decide
theorem free_none : Cn.freeB [] = true := by decide
theorem nx_none : nx (rowsL []) 17 = 0 := by decide
theorem nx_ex : 0 < nx (rowsL Cn.ex) 17 := by decide
theorem w_none (s : Int) : (wAt (wsOf (seq (rowsL []) 17) ([] : List Int).length) s).2 = 0 := by
  unfold wAt
  split
  · simp [wsOf]
  · rfl
set_option maxRecDepth 100000 in
set_option maxHeartbeats 4000000 in
theorem walk (a : Option Addr) (len cap : Nat) (l : List UInt8) (t : Int) (w : World) (h : Bs w a len cap l) (hr : cap ≤ 140737488351232) (hw : (Lit.int .i64 t).wf = true) :
    Calls Try.prog 9 #[.slice a len cap, .int .i64 t] w fun e w' => e = .returned (.bool true) ∧ Below w.heap.size w w' := by
  have hle := h.hle
  have HL := Lib.hid h.hlen
  have H := Lib.hid h
  clear h hw
  refine (callsIn_wide (n := 4)).1 ?_
  have hro : (Fence.wide).round = none := rfl
  refine callsIn_of_wp_marks Try.func9 rfl trivial ?_ hro
  simp only [Try.ntmps9, List.size_toArray, List.length_cons, List.length_nil, Nat.reduceAdd, Nat.reduceSub, Array.replicate_succ, Array.replicate_zero, List.push_toArray, List.append_toArray, List.nil_append, List.cons_append]
  gi_wp2_with fail
  refine ⟨trivial, (callsIn_wide.2 (example_any _)).mono ?_⟩
  rintro e w1 ⟨ea, ec, rfl, hex, hb1, _⟩
  gi_wp2_with fail
  refine ⟨trivial, (callsIn_wide.2 (book_any ea 8 ec Cn.ex _ hex (by omega))).mono ?_⟩
  rintro e w2 (⟨_, g2, rfl, hbk, hb2, _⟩ | ⟨hf, _⟩)
  rotate_left
  · rw [ex_free] at hf; cases hf
  have HBK := Lib.hid hbk
  have HB2 := Lib.hid (below_then hb1 hb2)
  clear hbk hb1 hb2 hex
  gi_wp2_with fail
  refine ⟨trivial, (callsIn_wide.2 (book_any none 0 0 [] _ (is_nil _) (by omega))).mono ?_⟩
  rintro e w3 (⟨_, g3, rfl, hbk3, hb3, _⟩ | ⟨hf, _⟩)
  rotate_left
  · rw [free_none] at hf; cases hf
  have HBK3 := Lib.hid hbk3
  have HBK2 := Lib.hid (HBK.out.mono hb3)
  have HB3 := Lib.hid (below_then HB2.out hb3)
  clear hbk3 hb3 HBK HB2
  by_cases hbig : 100 < len
  · have d1 : decide ((100 : Int) < ↑len) = true := by simp; omega
    gi_wp2
    exact ⟨_, results_tmp rfl _ _ _, rfl, by exact HB3.out⟩
  have d1 : decide ((100 : Int) < ↑len) = false := by simp; omega
  have hwl := length_any w3 _ g2 _ _ HBK2.out (by rw [wsOf_length]; decide) 5
  rw [ex_word5] at hwl
  have HWL := Lib.hid hwl
  clear hwl
  gi_wp2_with fail
  refine ⟨trivial, (callsIn_wide.2 HWL.out).mono ?_⟩
  rintro e w4 ⟨rfl, hb4⟩
  have HB4 := Lib.hid (below_then HB3.out hb4)
  have HE4 := Lib.hid (HBK2.out.mono hb4)
  have HN4 := Lib.hid (HBK3.out.mono hb4)
  clear hb4 HWL HBK2 HBK3 HB3
  gi_wp2_with fail
  refine ⟨trivial, (callsIn_wide.2 (newReader_any false a len cap l w4 (H.out.mono HB4.out) (by omega))).mono ?_⟩
  rintro e w5 ⟨gr, v, rfl, rd5, hb5⟩
  have HB5 := Lib.hid (below_then HB4.out hb5)
  have HE5 := Lib.hid (HE4.out.mono hb5)
  have HN5 := Lib.hid (HN4.out.mono hb5)
  have HR5 := Lib.hid rd5
  have HZ5 := Lib.hid hb5.size
  have HZ24 := Lib.hid HE4.out.size
  have HW4 := Lib.hid HB4.out.size
  clear hb5 rd5 HE4 HB4
  gi_wp2_with fail
  refine ⟨trivial, (callsIn_wide.2 (newWriter_any false w5.heap.size w5 (Nat.le_refl _))).mono ?_⟩
  rintro e w6 ⟨rfl, wr6, hb6⟩
  have HB6 := Lib.hid (below_then HB5.out hb6)
  have HE6 := Lib.hid (HE5.out.mono hb6)
  have HN6 := Lib.hid (HN5.out.mono hb6)
  have HR6 := Lib.hid (HR5.out.mono hb6)
  have HZ6 := Lib.hid (Nat.le_trans HZ5.out hb6.size)
  clear hb6 wr6 HE5 HB5 HR5 HN5
  gi_wp2_with fail
  refine ⟨trivial, (callsIn_wide.2 (rd_read_nil w6 (.pointer (some ⟨gr, 0, none⟩)) (.inr ⟨_, rfl⟩))).mono ?_⟩
  rintro e w' ⟨rfl, rfl⟩
  gi_wp2_with fail
  refine ⟨trivial, (callsIn_wide.2 (read_any w6 _ g3 _ _ HN6.out (good_of [] free_none) w4.heap.size gr false v l 0 HR6.out HZ6.out (Nat.le_trans HN4.out.size HR6.out.hg) (by omega) (by have := HL.out; omega))).mono ?_⟩
  rintro e w7 ⟨he, hr7, hc7⟩
  rw [rd_empty _ _ nx_none] at he hr7
  have e2 : errV 2 = .iface 35 (.int .i64 2) := rfl
  simp only [e2] at he
  obtain rfl := he
  have hgr := HR6.out.hg
  have hz2 := HE6.out.size
  have h24 : w2.heap.size ≤ gr := Nat.le_trans HZ24.out hgr
  have h34 : w3.heap.size ≤ gr := Nat.le_trans HN4.out.size hgr
  have hw4 : w.heap.size ≤ gr := Nat.le_trans HW4.out hgr
  have HR7 := Lib.hid (show Rd w7 w4.heap.size gr false v l 0 from hr7)
  have HB7 := Lib.hid (HB6.out.trans (hc7.below HB6.out.size (fun k hk => by subst hk; exact hw4)))
  have HE7 := Lib.hid (HE6.out.below (hc7.below HE6.out.size (fun k hk => by subst hk; exact h24)))
  have HN7 := Lib.hid (HN6.out.below (hc7.below HN6.out.size (fun k hk => by subst hk; exact h34)))
  clear hr7 hc7 hgr hz2 h24 h34 hw4 HE6 HN6 HR6 HZ6 HZ5 HN4 HB6 e2
  gi_wp2_with fail
  refine ⟨trivial, (callsIn_wide.2 (read_nilr w7 _ g2 _ _ HE7.out (good_of Cn.ex ex_free) nx_ex)).mono ?_⟩
  rintro e w8 ⟨rfl, hb8⟩
  have HB8 := Lib.hid (below_then HB7.out hb8)
  have HE8 := Lib.hid (HE7.out.mono hb8)
  have HN8 := Lib.hid (HN7.out.mono hb8)
  have HR8 := Lib.hid (HR7.out.mono hb8)
  clear hb8 HB7 HE7 HN7 HR7
  gi_wp2_with fail
  refine ⟨trivial, (all_in Fence.wide 3 trivial rfl (.pointer none) _ (.inl rfl)).mono ?_⟩
  rintro e w' ⟨rfl, rfl⟩
  gi_wp2
  have hb9 := below_alloc2 w8 (.cells #[.int .i64 0] 3) (.cells #[.pointer none] 50)
  have hx9 : Boxed ((w8.alloc (.cells #[.int .i64 0] 3)).alloc (.cells #[.pointer none] 50)) w8.heap.size 3 (.int .i64 0) := heap_alloc2_old _ _ _
  have hy9 : Boxed ((w8.alloc (.cells #[.int .i64 0] 3)).alloc (.cells #[.pointer none] 50)) (w8.heap.size + 1) 50 (.pointer none) := heap_alloc2_new _ _ _
  revert hb9 hx9 hy9
  generalize (w8.alloc (.cells #[.int .i64 0] 3)).alloc (.cells #[.pointer none] 50) = W9
  intro hb9 hx9 hy9
  have HB9 := Lib.hid (below_then HB8.out hb9)
  have HE9 := Lib.hid (HE8.out.mono hb9)
  have HN9 := Lib.hid (HN8.out.mono hb9)
  have HR9 := Lib.hid (HR8.out.mono hb9)
  clear hb9 HB8 HE8 HN8 HR8
  have hstp := all_stops_nil (α := Empty) 3 (by omega) (w8.heap.size + 1) (fun _ => #[]) (fun _ _ => True) W9 hy9.cell hy9.lt
  generalize w8.heap.size = cx at *
  refine wpIn_rangeFunc_ownH rfl (by omega) (gf := 53) (lb := #[.pointer (some ⟨cx + 1, 0, none⟩)]) rfl trivial (enters_of Try.func53 (by kernel_rfl) rfl)
      hstp (fun _ _ => trivial) (fun _ _ _ _ _ _ _ _ => trivial) (Below.refl _ _) (fun x => x.elim)
      (fun _ W' => Below W9.heap.size W9 W')
      (fun _ _ _ => False) (ownFrom_below (Nat.le_refl _) (Nat.le_refl _)) (fun _ _ _ _ _ hs _ _ => hs) (Below.refl _ _)
      (fun _ _ _ => True) (fun _ _ _ _ _ _ _ _ _ => trivial) (fun _ _ x => x.elim) (fun _ _ x => x.elim) ?done ?stop
  case done =>
    rintro D ys W hD hS h1 hK
    have HBW := Lib.hid (below_then HB9.out h1)
    have HEW := Lib.hid (HE9.out.mono h1)
    have HNW := Lib.hid (HN9.out.mono h1)
    have HRW := Lib.hid (HR9.out.mono h1)
    have hcx : W.cell? ⟨cx, 0, none⟩ = some (.int .i64 0) := by
      rw [h1.cell (p := ⟨cx, 0, none⟩) hx9.lt]; exact hx9.cell
    have HCX := Lib.hid hcx
    have HDK := Lib.hid hK
    have HDZ := Lib.hid (Nat.le_trans HB9.out.size hD)
    have HXL := Lib.hid (Nat.lt_of_lt_of_le hx9.lt h1.size)
    clear h1 hcx hK hD hx9 hy9 hstp HB9 HE9 HN9 HR9
    gi_wp2_with fail
    refine ⟨trivial, (callsIn_wide.2 (is_yes 2 rfl _)).mono ?_⟩
    rintro e w' ⟨rfl, rfl⟩
    gi_wp2_with fail
    refine ⟨trivial, (callsIn_wide.2 (is_yes 2 rfl _)).mono ?_⟩
    rintro e w' ⟨rfl, rfl⟩
    gi_wp2_with fail
    refine ⟨trivial, (callsIn_wide.2 (at_any _ _ gr false v l 0 HRW.out)).mono ?_⟩
    rintro e w' ⟨rfl, rfl⟩
    gi_wp2_with fail
    refine ⟨trivial, (callsIn_wide.2 (is_yes 8 rfl _)).mono ?_⟩
    rintro e w' ⟨rfl, rfl⟩
    gi_wp2_with fail
    refine ⟨trivial, (callsIn_wide.2 (write_nil _ t (.pointer (some ⟨w5.heap.size, 0, none⟩)))).mono ?_⟩
    rintro e V1 ⟨rfl, hv1⟩
    have HV1 := Lib.hid hv1
    have HN1 := Lib.hid (HNW.out.mono hv1)
    have HE1 := Lib.hid (HEW.out.mono hv1)
    clear hv1 HNW HEW
    gi_wp2_with fail
    refine ⟨trivial, (callsIn_wide.2 (is_yes 6 rfl _)).mono ?_⟩
    rintro e w' ⟨rfl, rfl⟩
    gi_wp2_with fail
    refine ⟨trivial, (callsIn_wide.2 (write_no V1 _ g3 _ _ HN1.out (by simp [wsOf]) t (.pointer (some ⟨w5.heap.size, 0, none⟩)) (.inl (w_none t)) (.inr ⟨_, rfl⟩))).mono ?_⟩
    rintro e V2 ⟨rfl, hv2⟩
    have HV2 := Lib.hid (HV1.out.trans (hv2.mono HV1.out.size))
    have HE2 := Lib.hid (HE1.out.mono hv2)
    clear hv2 HV1 HE1 HN1
    gi_wp2_with fail
    refine ⟨trivial, (callsIn_wide.2 (is_yes 6 rfl _)).mono ?_⟩
    rintro e w' ⟨rfl, rfl⟩
    gi_wp2_with fail
    refine ⟨trivial, (callsIn_wide.2 (write_no V2 _ g2 _ _ HE2.out (by rw [wsOf_length]; decide) 5 (.pointer none) (.inr rfl) (.inl rfl))).mono ?_⟩
    rintro e V3 ⟨rfl, hv3⟩
    have HV3 := Lib.hid (HV2.out.trans (hv3.mono HV2.out.size))
    clear hv3 HV2 HE2
    gi_wp2_with fail
    refine ⟨trivial, (callsIn_wide.2 (is_yes 6 rfl _)).mono ?_⟩
    rintro e w' ⟨rfl, rfl⟩
    have hcv : V3.cell? ⟨cx, 0, none⟩ = some (.int .i64 0) := by
      rw [HV3.out.cell (p := ⟨cx, 0, none⟩) HXL.out]; exact HCX.out
    gi_wp2_with fail
    refine ⟨trivial, (callsIn_wide.2 (length_nil V3 t)).mono ?_⟩
    rintro e V4 ⟨rfl, hv4⟩
    have HV4 := Lib.hid (HV3.out.trans (hv4.mono HV3.out.size))
    have hdl : D < W.heap.size := (Array.getElem?_eq_some_iff.1 HDK.out).1
    have hD4 : V4.heap[D]? = some (.deferred (some [])) := (HV4.out.block D hdl).trans HDK.out
    have HP := Lib.hid ((below_then HBW.out HV4.out).grown (grownBy_putObj' V4 D (.deferred none)) (Nat.le_trans HBW.out.size HV4.out.size) (fun r e => by cases e; exact HDZ.out))
    clear hv4 HV3 hdl hcv
    gi_wp2
    refine ⟨by simp, .inl ⟨_, _, rfl, run_takeDeferred hD4, ?_⟩⟩
    exact ⟨_, results_tmp rfl _ _ _, rfl, by exact HP.out⟩
  case stop =>
    rintro D c pre W _ _ h _
    exact h.elim
set_option maxRecDepth 100000 in
theorem lifted (os : Os) (started : os.Started) (H : Type) (enc : TypeId × Value → H) :
    ReturnsInHanded {} Try.checked os 9 .any (Rows.canonNoneSpec.pre6 enc Try.prog Try.f9 Rows.canonNoneRow.domain false) (Rows.canonNoneSpec.post enc Try.prog Try.f9 false true false false) := by
  refine returnsInHanded_of_change_sized (C := Try.checked) own started (by kernel_rfl) Try.func9
    (ChangeSpec.witness6 (enc := enc) (C := Try.checked) false ⟨#[], #[.slice none 0 0, .int .i64 0], []⟩ 8 (by kernel_rfl) (by kernel_rfl) (by kernel_rfl) (by kernel_rfl)) ?_
  intro W base args ds gs before hval0 hW _ hsz0 _
  have hval : ∀ (j : Nat) t v, Try.f9.params[j]? = some t → args[j]? = some v → Value.okWide Try.prog W .any base t v := hval0
  have hsz : (DataW.weightsEach Try.prog (Try.f9.params.toList ++ Rows.canonNoneSpec.plain.varTypes Try.prog) (ds ++ gs)).all (· ≤ reachBytes) = true := hsz0
  have hW' := hW
  obtain ⟨p, q, hA0, hV, rfl, hfz, hnd⟩ := hW
  have hA : DataW.TrodAll enc Try.prog W 0 (fun _ => true) true Try.f9.params.toList args.toList ds p := hA0
  rw [Try.params9] at hA hval hsz
  obtain ⟨v0, vs0, d0, ds0, p0, q0, hargs, rfl, rfl, h0, r0⟩ := trodAll_cons hA
  obtain ⟨v1, vs1, d1, ds1, p1, q1, rfl, rfl, rfl, h1, r1⟩ := trodAll_cons r0
  obtain ⟨rfl, rfl, rfl⟩ := trodAll_nil r1
  obtain rfl : args = #[v0, v1] := by cases args; simp_all
  obtain ⟨rfl, rfl⟩ := trodVars_none hV
  clear hsz0
  obtain ⟨a0, len0, cap0, rfl⟩ := okWide_slice Try.underlying42 (hval 0 42 v0 rfl rfl)
  have k0 := h0
  have lt0 : ∀ x ∈ p0, x.block < W.heap.size := by obtain ⟨m, hm⟩ := k0; exact DataW.trod_lt m _ _ _ hm
  obtain ⟨l0, w0, c0⟩ := open_bs Try.underlying42 Try.underlying5 (by kernel_rfl) (by kernel_rfl) h0 hsz 0 rfl rfl
  obtain ⟨a1, rfl, rfl, rfl, w1⟩ := open_int Try.underlying3 (hval 1 3 v1 rfl rfl) h1
  clear hA0 hval0 hsz
  refine (walk a0 len0 cap0 l0 a1 W w0 c0 w1).mono fun e W' ⟨he, bel⟩ => ?_
  subst he
  exact ⟨_, rfl, _, _, _, [], _, [], hW', trodAll_mk1 (shut_bool Try.underlying4 _), (trodAll_cons_mk (Below.trod laidOut (by kernel_rfl) (of_decide_eq_true (by kernel_rfl)) k0 bel lt0) (trodAll_cons_mk (shut_int Try.underlying3 w1) trodAll_mk0)), rfl, bel.frame _, fun h => by cases h⟩

theorem proved : Rows.CanonNoneSaid :=
  OpenClaim.holds_of_wide 9 Try.f9 rfl rfl rfl rfl rfl rfl rfl ⟨rfl, rfl, rfl, rfl, rfl⟩ rfl rfl rfl rfl rfl (by kernel_rfl) Try.func9 (by kernel_rfl)
    (of_decide_eq_true (by kernel_rfl)) (by unfold Func.isWrapper; first | (rw [if_pos (by decide +kernel)]; kernel_rfl) | (rw [if_neg (by decide +kernel)]; exact ⟨rfl, rfl⟩))
    (fun os started H enc _ => lifted os started H enc)
#print axioms proved
end Go.Proofs.Ytnlbomijnldlmaa.CanonNone
