/- For all symbols (at most 500, as the law itself asks) and as many extras: block.Unruns tells the lengths that the runs come to, or refuses them as not in form, as the document's definition does. No conditions but those of the law itself. -/
import Derived.Test.YtnpgnmghkooonaaRows
import Derived.Test.YtnpgnmghkooonaaOpen
import Derived.Test.YtnpgnmghkooonaaBlkUn
import Derived.Test.YtnpgnmghkooonaaBlkLst
import Derived.Test.YtnpgnmghkooonaaNumInts
import Derived.Test.YtnpgnmghkooonaaNumIs
import Derived.Test.YtnpgnmghkooonaaIsLit
namespace Go.Proofs.Ytnpgnmghkooonaa.BlockUnruns
open Go.ChangeShapes Go.WideShapes Go.ChangeAt Go.RowKit
open Go.ChangeMaps (open_string shut_string)
set_option linter.unusedVariables false
theorem own : ownKnob Try.prog.godebug = none := by kernel_rfl
theorem laidOut : laidOutB Try.prog = true := by kernel_rfl
theorem own_runs0 (w : World) (base : Nat) (hb : base ≤ w.heap.size) : (w.alloc (.cells #[] 29)).ownsRow base 29 2 (.slice (some ⟨w.heap.size, 0, none⟩) 0 0) 0 (tks []) :=
  ⟨by simp [tks], .inr ⟨w.heap.size, 0, #[], rfl, hb, heap_alloc_last w _, by omega, by unfold maxLen; omega, rfl, rfl⟩⟩
theorem ex_runs (w : World) : Ts2 (w.alloc (.cells #[.int .i64 5, .int .i64 0, .int .i64 16, .int .i64 1] 29)) (some ⟨w.heap.size, 0, none⟩) 2 2 [(5, 0), (16, 1)] := by
  have hr := heap_alloc_last w (.cells #[.int .i64 5, .int .i64 0, .int .i64 16, .int .i64 1] 29)
  refine ⟨rfl, Nat.le_refl _, fun e => by simp at e, fun i hi => ⟨w.heap.size, 0, rfl, by simp, ?_⟩, fun i hi => ?_⟩
  · match i, hi with
    | 0, _ => exact ⟨by rw [cell_of_row _ _ _ _ _ (0, 0) hr]; rfl, by rw [cell_of_row _ _ _ _ _ (0, 0) hr]; rfl⟩
    | 1, _ => exact ⟨by rw [cell_of_row _ _ _ _ _ (0, 0) hr]; rfl, by rw [cell_of_row _ _ _ _ _ (0, 0) hr]; rfl⟩
  · match i, hi with
    | 0, _ => exact ⟨by decide, by decide⟩
    | 1, _ => exact ⟨by decide, by decide⟩
theorem ex_unr : Bl.unr (fun k => [((5 : Int), (0 : Int)), (16, 1)].getD k (0, 0)) 2 = some [5, 5, 5, 5, 5] := by decide +kernel
theorem wf_small5 : Wf [5, 5, 5, 5, 5] := by
  intro n hn
  simp only [List.mem_cons, List.not_mem_nil, or_false, or_self] at hn
  subst hn; rfl
set_option maxRecDepth 100000 in
set_option maxHeartbeats 4000000 in
theorem walk (a : Option Addr) (len cap : Nat) (ss : List Int) (b : Option Addr) (len' cap' : Nat) (es : List Int) (w : World) (h : Is .i64 w a len cap ss) (hr : cap * 8 ≤ 140737488351232) (h' : Is .i64 w b len' cap' es) (hr' : cap' * 8 ≤ 140737488351232) :
    Calls Try.prog 4 #[.slice a len cap, .slice b len' cap'] w fun e w' => e = .returned (.bool true) ∧ Below w.heap.size w w' := by
  have hle := h.hle
  have hle' := h'.hle
  have H := Lib.hid h
  have H' := Lib.hid h'
  clear h h'
  have HX := Lib.hid (ex_runs w)
  have HXB := Lib.hid (below_alloc w (.cells #[.int .i64 5, .int .i64 0, .int .i64 16, .int .i64 1] 29))
  go_enter Try.func4, Try.ntmps4
  go_wp2_with fail
  refine (unruns_any _ 2 2 [(5, 0), (16, 1)] _ HX.out (by omega)).mono ?_
  intro e w1 hp
  rw [ex_unr] at hp
  obtain ⟨hb, v, rfl, own⟩ := hp
  obtain ⟨va, vc, rfl, hv⟩ := own_is own wf_small5
  have HB1 := Lib.hid (below_then HXB.out hb)
  have hb2 := below_alloc w1 (.cells #[.int .i64 5, .int .i64 5, .int .i64 5, .int .i64 5, .int .i64 5] 3)
  have HV := Lib.hid (hv.mono hb2)
  have HLT := Lib.hid (is_lit w1 [5, 5, 5, 5, 5] 5 3 #[.int .i64 5, .int .i64 5, .int .i64 5, .int .i64 5, .int .i64 5] rfl rfl wf_small5)
  have HB2 := Lib.hid (below_then HB1.out hb2)
  clear own hv hb hb2 HX HXB HB1
  go_wp2_with fail
  refine (ints_any _ _ 5 vc 5 5 [5, 5, 5, 5, 5] [5, 5, 5, 5, 5] _ HV.out HLT.out (by omega) (by omega)).mono ?_
  rintro e w2 ⟨rfl, dn, rfl⟩
  rw [show decide ([(5 : Int), 5, 5, 5, 5] = [5, 5, 5, 5, 5]) = true from decide_eq_true rfl]
  have HB3 := Lib.hid (below_drewN HB2.out dn)
  clear HV HLT HB2
  generalize World.drewN _ _ = w2 at *
  by_cases c1 : 500 < len
  · have d1 : decide ((500 : Int) < (len : Int)) = true := decide_eq_true (by omega)
    clear c1
    go_wp2
    go_ret
    exact ⟨rfl, HB3.out⟩
  have d1 : decide ((500 : Int) < (len : Int)) = false := decide_eq_false (by omega)
  by_cases c2 : len' < len
  · have d2 : decide (len' < len) = true := decide_eq_true c2
    clear c1
    go_wp2
    go_ret
    exact ⟨rfl, HB3.out⟩
  have d2 : decide (len' < len) = false := decide_eq_false c2
  have hl5 : len ≤ 500 := by omega
  have hll : len ≤ len' := by omega
  clear c1 c2
  have HO3 := Lib.hid (own_runs0 w2 w2.heap.size (Nat.le_refl _))
  have HB4 := Lib.hid (below_alloc w2 (.cells #[] 29))
  obtain ⟨F, hF⟩ : ∃ F : Nat → Int × Int, (fun k => (ss.getD k 0, es.getD k 0)) = F := ⟨_, rfl⟩
  have HF : Hid (∀ k, F k = (ss.getD k 0, es.getD k 0)) := Lib.hid (fun k => by rw [← hF])
  clear hF
  go_wp2
  revert HO3 HB4
  generalize World.alloc _ _ = w3
  intro HO3 HB4
  go_loopw [7, 42] (fun rv iv wr => ∃ k : Nat, k ≤ len ∧ iv = .int .i64 k ∧ Hid (wr.ownsRow w2.heap.size 29 2 rv k (tks (Bl.lst F k))) ∧ Hid (Below w2.heap.size w2 wr)) (fun _ iv _ => len - (intOf iv).toNat)
  case atStart => exact ⟨0, by omega, rfl, HO3, HB4⟩
  case round =>
    obtain ⟨k, hk, rfl, HO, HB⟩ := hrel
    clear HO3 HB4
    have HBW := Lib.hid (below_then HB3.out HB.out)
    by_cases hlt : k < len
    · obtain ⟨b1, off1, rfl, _, t1⟩ := (H.out.mono HBW.out).at' k hlt
      obtain ⟨b2, off2, rfl, _, t2⟩ := (H'.out.mono HBW.out).at' k (by omega)
      have hlm : k < len' := by omega
      have HN := Lib.hid (Bl.lst_next F k)
      have hFk := HF.out k
      generalize ss.getD k 0 = y at *
      generalize es.getD k 0 = x at *
      rw [hFk] at HN
      have hsrc : SrcRow (wr.alloc (.cells #[.int .i64 y, .int .i64 x] 29)) (some ⟨wr.heap.size, 0, none⟩) 1 1 (tks [(y, x)]) 2 := src_run wr (y, x)
      have hz := HB.out.size
      clear hFk HBW
      go_wp2_with (at_builtin; refine wpl_append tyR rfl _ _ rfl (own_below HO.out (below_alloc wr (.cells #[.int .i64 y, .int .i64 x] 29))) hsrc rfl rfl (by omega) (by omega) (by simp; omega) ?_)
      intro v' w' own' hg' _
      have HB5 : Hid (Below w2.heap.size w2 w') := Lib.hid ((below_then HB.out (below_alloc wr _)).grown hg' (by simp; omega) (fun r e => (HO.out.lt r e).1))
      rw [← tks_append, ← HN.out] at own'
      have HO5 := Lib.hid own'
      clear own' hg' hsrc HO HB hz
      go_wp2
      go_roundw
      case rel => exact ⟨k + 1, by omega, by go_num, HO5, HB5⟩
      case measure => simp [intOf]; omega
    · obtain rfl : len = k := by omega
      obtain ⟨ar, cr, rfl, hts⟩ := own_rs2 HO.out (fun i hi => by rw [Bl.lst_get F hi, HF.out i]; exact ⟨H.out.getW i hi, H'.out.getW i (by omega)⟩)
      have HUN := Lib.hid (unruns_any ar len cr (Bl.lst F len) wr hts (by omega))
      rw [Bl.unr_congr (g := F) (fun i hi => Bl.lst_get F hi)] at HUN
      have HI1 := Lib.hid (H.out.mono HBW.out)
      have HI2 := Lib.hid (H'.out.mono HBW.out)
      have HRF := Lib.hid (fun w' (hb : Below wr.heap.size wr w') => refUnr_any a b len cap len' cap' ss es w' (HI1.out.mono hb) (HI2.out.mono hb) hll (by omega) F (fun i _ => HF.out i))
      have HIN : Hid (∀ o, Bl.unr F len = some o → Bl.In o ∧ o.length ≤ 138 * len) := Lib.hid (fun o h => Bl.unr_in h)
      clear hts HO HB H H' HI1 HI2 HF
      go_wp2_with fail
      refine HUN.out.mono ?_
      intro e w5 hp
      generalize Bl.unr F len = r at *
      cases r with
      | none =>
        obtain ⟨hb5, rfl⟩ := hp
        have HB5 := Lib.hid hb5
        clear hb5 HUN
        go_wp2_with fail
        refine (HRF.out w5 HB5.out).mono ?_
        rintro e w6 ⟨hb6, rfl⟩
        have HB6 := Lib.hid (below_then (below_then HBW.out HB5.out) hb6)
        clear hb6 HRF
        go_wp2_with fail
        refine (ints_any none none 0 0 0 0 [] [] w6 (is_nil w6) (is_nil w6) (by omega) (by omega)).mono ?_
        rintro e w7 ⟨rfl, d7, rfl⟩
        rw [show decide (([] : List Int) = []) = true from decide_eq_true rfl]
        have HB7 := Lib.hid (below_drewN HB6.out d7)
        go_wp2_with fail
        refine (is_yes 6 rfl _).mono ?_
        rintro e w8 ⟨rfl, rfl⟩
        go_wp2
        go_ret
        exact ⟨rfl, HB7.out⟩
      | some o =>
        obtain ⟨hb5, v5, rfl, own5⟩ := hp
        obtain ⟨hin, hol⟩ := HIN.out o rfl
        obtain ⟨a5, c5, rfl, hi5⟩ := own_is own5 hin.wf
        have HB5 := Lib.hid hb5
        have HI5 := Lib.hid hi5
        have hwf := hin.wf
        have ho2 : o.length ≤ 414000 := by omega
        clear hb5 HUN own5 hi5 HIN hin hol
        go_wp2_with fail
        refine (HRF.out w5 HB5.out).mono ?_
        rintro e w6 ⟨hb6, v6, rfl, own6⟩
        obtain ⟨a6, c6, rfl, hi6⟩ := own_is own6 hwf
        have HI6 := Lib.hid hi6
        have HI56 := Lib.hid (HI5.out.mono hb6)
        have HB6 := Lib.hid (below_then (below_then HBW.out HB5.out) hb6)
        have HIT : Hid (Calls Try.prog 10 #[.slice a5 o.length c5, .slice a6 o.length c6] w6 fun e w' => e = .returned (.bool true) ∧ ∃ n, w' = w6.drewN n) := Lib.hid ((ints_any a5 a6 o.length c5 o.length c6 o o w6 HI56.out HI6.out (by omega) (by omega)).mono (by
          rintro e w' ⟨h1, h2⟩
          exact ⟨by rw [h1, decide_eq_true rfl], h2⟩))
        clear hb6 HRF own6 hi6 hwf HI5 HI56 HI6
        go_wp2_with fail
        refine HIT.out.mono ?_
        rintro e w7 ⟨rfl, d7, rfl⟩
        have HB7 := Lib.hid (below_drewN HB6.out d7)
        go_wp2
        go_ret
        exact ⟨rfl, HB7.out⟩
set_option maxRecDepth 100000 in
theorem lifted (os : Os) (started : os.Started) (H : Type) (enc : TypeId × Value → H) :
    ReturnsInHanded {} Try.checked os 4 .any (Rows.blockUnrunsSpec.pre6 enc Try.prog Try.f4 Rows.blockUnrunsRow.domain false) (Rows.blockUnrunsSpec.post enc Try.prog Try.f4 false true false false) := by
  refine returnsInHanded_of_change_sized (C := Try.checked) own started (by kernel_rfl) Try.func4
    (ChangeSpec.witness6 (enc := enc) (C := Try.checked) false ⟨#[], #[.slice none 0 0, .slice none 0 0], []⟩ 8 (by kernel_rfl) (by kernel_rfl) (by kernel_rfl) (by kernel_rfl)) ?_
  intro W base args ds gs before hval0 hW _ hsz0 _
  have hval : ∀ (j : Nat) t v, Try.f4.params[j]? = some t → args[j]? = some v → Value.okWide Try.prog W .any base t v := hval0
  have hsz : (DataW.weightsEach Try.prog (Try.f4.params.toList ++ Rows.blockUnrunsSpec.plain.varTypes Try.prog) (ds ++ gs)).all (· ≤ reachBytes) = true := hsz0
  have hW' := hW
  obtain ⟨p, q, hA0, hV, rfl, hfz, hnd⟩ := hW
  have hA : DataW.TrodAll enc Try.prog W 0 (fun _ => true) true Try.f4.params.toList args.toList ds p := hA0
  rw [Try.params4] at hA hval hsz
  obtain ⟨v0, vs0, d0, ds0, p0, q0, hargs, rfl, rfl, h0, r0⟩ := trodAll_cons hA
  obtain ⟨v1, vs1, d1, ds1, p1, q1, rfl, rfl, rfl, h1, r1⟩ := trodAll_cons r0
  obtain ⟨rfl, rfl, rfl⟩ := trodAll_nil r1
  obtain rfl : args = #[v0, v1] := by cases args; simp_all
  obtain ⟨rfl, rfl⟩ := trodVars_none hV
  clear hsz0
  obtain ⟨a0, len0, cap0, rfl⟩ := okWide_slice Try.underlying22 (hval 0 22 v0 rfl rfl)
  have k0 := h0
  have lt0 : ∀ x ∈ p0, x.block < W.heap.size := by obtain ⟨m, hm⟩ := k0; exact DataW.trod_lt m _ _ _ hm
  obtain ⟨l0, w0, c0⟩ := open_is (by' := 8) Try.underlying22 Try.underlying3 (by kernel_rfl) (by kernel_rfl) h0 hsz 0 rfl rfl
  obtain ⟨a1, len1, cap1, rfl⟩ := okWide_slice Try.underlying22 (hval 1 22 v1 rfl rfl)
  have k1 := h1
  have lt1 : ∀ x ∈ p1, x.block < W.heap.size := by obtain ⟨m, hm⟩ := k1; exact DataW.trod_lt m _ _ _ hm
  obtain ⟨l1, w1, c1⟩ := open_is (by' := 8) Try.underlying22 Try.underlying3 (by kernel_rfl) (by kernel_rfl) h1 hsz 1 rfl rfl
  clear hA0 hval0 hsz
  refine (walk a0 len0 cap0 l0 a1 len1 cap1 l1 W w0 c0 w1 c1).mono fun e W' ⟨he, bel⟩ => ?_
  subst he
  exact ⟨_, rfl, _, _, _, [], _, [], hW', trodAll_mk1 (shut_bool Try.underlying4 _), (trodAll_cons_mk (Below.trod laidOut (by kernel_rfl) (of_decide_eq_true (by kernel_rfl)) k0 bel lt0) (trodAll_cons_mk (Below.trod laidOut (by kernel_rfl) (of_decide_eq_true (by kernel_rfl)) k1 bel lt1) trodAll_mk0)), rfl, bel.frame _, fun h => by cases h⟩

theorem proved : Rows.BlockUnrunsSaid :=
  OpenClaim.holds_of_wide 4 Try.f4 rfl rfl rfl rfl rfl rfl rfl ⟨rfl, rfl, rfl, rfl, rfl⟩ rfl rfl rfl rfl rfl (by kernel_rfl) Try.func4 (by kernel_rfl)
    (of_decide_eq_true (by kernel_rfl)) (by unfold Func.isWrapper; first | (rw [if_pos (by decide +kernel)]; kernel_rfl) | (rw [if_neg (by decide +kernel)]; exact ⟨rfl, rfl⟩))
    (fun os started H enc _ => lifted os started H enc)
#print axioms proved
end Go.Proofs.Ytnpgnmghkooonaa.BlockUnruns
