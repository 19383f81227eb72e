/- For all counts and any longest length: a symbol that stands more often has no greater length, where there is an answer. No conditions. -/
import Derived.Test.YtobmghppnlgjlaaRows
import Derived.Test.YtobmghppnlgjlaaOpen
import Derived.Test.YtobmghppnlgjlaaAlive05
import Derived.Test.YtobmghppnlgjlaaLenFacts
import Derived.Test.YtobmghppnlgjlaaRegionJ
namespace Go.Proofs.Ytobmghppnlgjlaa.MergeOrder
open Go.ChangeShapes Go.WideShapes Go.ChangeAt Go.RowKit
open Go.ChangeMaps (open_string shut_string)
set_option linter.unusedVariables false
theorem own : ownKnob Try.prog.godebug = none := by kernel_rfl
theorem laidOut : laidOutB Try.prog = true := by kernel_rfl
set_option maxRecDepth 100000 in
set_option maxHeartbeats 4000000 in
theorem walk (a : Option Addr) (len cap : Nat) (l : List Int) (L : Int) (w : World) (h : Is .i64 w a len cap l) (hr : cap * 8 ≤ 140737488351232) (hw : (Lit.int .i64 L).wf = true) :
    Calls Try.prog 5 #[.slice a len cap, .int .i64 L] w fun e w' => e = .returned (.bool true) ∧ Below w.heap.size w w' := by
  have hle := h.hle
  have HL := Lib.hid h.hlen
  have H := Lib.hid h
  clear h hw
  go_enter Try.func5, Try.ntmps5
  go_wp2_with fail
  refine (alive_any w).mono ?_
  rintro e w1 ⟨rfl, hb1⟩
  have HB1 := Lib.hid hb1
  clear hb1
  go_wp2_with fail
  refine (lengths_any a len cap l L w1 (H.out.mono HB1.out) (by omega)).mono ?_
  rintro e w2 ⟨hb2, (⟨_, rfl⟩ | ⟨_, _, rfl⟩ | ⟨hok, hol, v, rfl, own2⟩)⟩
  · have HB2 := Lib.hid (below_then HB1.out hb2)
    go_wp2
    go_ret
    exact ⟨rfl, HB2.out⟩
  · have HB2 := Lib.hid (below_then HB1.out hb2)
    go_wp2
    go_ret
    exact ⟨rfl, HB2.out⟩
  have HB2 := Lib.hid (below_then HB1.out hb2)
  have hw0 := fun k hk => (Mg.within_at hok k hk).1
  unfold Mg.okL at hol
  have hol2 := of_decide_eq_true hol
  have hLn : L.toNat ≤ 16 ∧ 0 < L.toNat := by omega
  have HOR := Lib.hid (fun i k (hi : i < len) (hk : k < len) (h : l.getD k 0 < l.getD i 0) (h0 : 0 < l.getD k 0) => Mg.lensOf_order (L := L.toNat) i k (by rw [HL.out]; exact hi) (by rw [HL.out]; exact hk) h h0)
  have HRG := Lib.hid (fun j hj => Mg.lensOf_range hw0 hLn.2 hol2.2.2 j hj)
  rw [HL.out] at own2
  obtain ⟨va, vc, rfl, hi2⟩ := own_is own2 (fun x hx => by
    obtain ⟨j, hj, rfl⟩ := List.mem_iff_getElem.1 hx
    have hj' := hj
    rw [Mg.lensOf_length] at hj'
    have := HRG.out j hj'
    rw [show (Mg.lensOf l L.toNat).getD j 0 = (Mg.lensOf l L.toNat)[j] by simp [List.getD, List.getElem?_eq_getElem hj]] at this
    simp only [Lit.wf, IntKind.min, IntKind.max, IntKind.signed, IntKind.bits, Bool.and_eq_true, decide_eq_true_eq, if_true]
    simp; omega)
  have HI2 := Lib.hid hi2
  have H2 := Lib.hid (H.out.mono HB2.out)
  clear own2 hi2 hb2 hol hol2 hok hw0 hLn HRG HB1
  generalize Mg.lensOf l L.toNat = m at *
  go_wp2
  go_loopw [23] (fun i wr => ∃ p : Nat, p ≤ len ∧ i = .int .i64 p ∧ ∃ n, wr = w2.drewN n) (fun i _ => len - (intOf i).toNat)
  case atStart => exact ⟨0, by omega, rfl, 0, rfl⟩
  case round =>
    obtain ⟨p, hp, rfl, dn, rfl⟩ := hrel
    by_cases hlt : p < len
    · obtain ⟨b1, o1, rfl, _, c1⟩ := (H2.out.mono (drewN_is w2 dn)).at' p hlt
      have HCI := Lib.hid (fun n => (HI2.out.mono (drewN_is w2 n)).at' p hlt)
      have HOP := Lib.hid (fun k hk => HOR.out p k hlt hk)
      generalize l.getD p 0 = x at c1 HOP
      go_wp2
      generalize Value.bool (decide ((p : Int) < ↑len)) = tb
      go_loopw [30] (fun i wr => ∃ q : Nat, q ≤ len ∧ i = .int .i64 q ∧ ∃ n, wr = w2.drewN n) (fun i _ => len - (intOf i).toNat)
      case atStart => exact ⟨0, by omega, rfl, _, rfl⟩
      case round =>
        obtain ⟨q, hq, rfl, dm, rfl⟩ := hrel
        by_cases hlq : q < len
        · obtain ⟨b2, o2, e2, _, c2⟩ := (H2.out.mono (drewN_is w2 dm)).at' q hlq
          simp only [Option.some.injEq, Addr.mk.injEq, and_true] at e2
          obtain ⟨rfl, rfl⟩ := e2
          obtain ⟨b3, o3, rfl, _, c3⟩ := HCI.out dm
          obtain ⟨b4, o4, e4, _, c4⟩ := (HI2.out.mono (drewN_is w2 dm)).at' q hlq
          simp only [Option.some.injEq, Addr.mk.injEq, and_true] at e4
          obtain ⟨rfl, rfl⟩ := e4
          have HO := HOP.out q hlq
          obtain ⟨wx, hwx⟩ : ∃ wx, w2.drewN dm = wx := ⟨_, rfl⟩
          rw [hwx] at c2 c3 c4 ⊢
          have HWX := Lib.hid hwx
          clear hwx
          generalize l.getD q 0 = y at *
          generalize m.getD p 0 = u at *
          generalize m.getD q 0 = v at *
          by_cases h1 : y < x
          · have d1 : decide (y < x) = true := by simpa using h1
            by_cases h2 : 0 < y
            · have d2 : decide (0 < y) = true := by simpa using h2
              have d3 : decide (v < u) = false := by have := HO h1 h2; simp; omega
              clear HO h1 h2
              go_wp2
              go_big_region
              go_wp2
              go_roundw
              case rel => exact ⟨q + 1, by omega, by go_num, dm + 1, by rw [← HWX.out]; rfl⟩
              case measure => simp [intOf]; omega
            · have d2 : decide (0 < y) = false := by simpa using h2
              clear HO h1 h2
              go_wp2
              go_big_region
              go_wp2
              go_roundw
              case rel => exact ⟨q + 1, by omega, by go_num, dm + 1, by rw [← HWX.out]; rfl⟩
              case measure => simp [intOf]; omega
          · have d1 : decide (y < x) = false := by simpa using h1
            clear HO h1
            go_wp2
            go_big_region
            go_wp2
            go_roundw
            case rel => exact ⟨q + 1, by omega, by go_num, dm + 1, by rw [← HWX.out]; rfl⟩
            case measure => simp [intOf]; omega
        · obtain rfl : len = q := by omega
          go_wp2
          go_roundw
          case rel => exact ⟨p + 1, by omega, by go_num, _, rfl⟩
          case measure => simp [intOf]; omega
    · obtain rfl : len = p := by omega
      go_wp2
      go_ret
      exact ⟨by simp, HB2.out.trans ((drewN_is _ _).mono HB2.out.size)⟩
set_option maxRecDepth 100000 in
theorem lifted (os : Os) (started : os.Started) (H : Type) (enc : TypeId × Value → H) :
    ReturnsInHanded {} Try.checked os 5 .any (Rows.mergeOrderSpec.pre6 enc Try.prog Try.f5 Rows.mergeOrderRow.domain false) (Rows.mergeOrderSpec.post enc Try.prog Try.f5 false true false false) := by
  refine returnsInHanded_of_change_sized (C := Try.checked) own started (by kernel_rfl) Try.func5
    (ChangeSpec.witness6 (enc := enc) (C := Try.checked) false ⟨#[], #[.slice none 0 0, .int .i64 0], []⟩ 8 (by kernel_rfl) (by kernel_rfl) (by kernel_rfl) (by kernel_rfl)) ?_
  intro W base args ds gs before hval0 hW _ hsz0 _
  have hval : ∀ (j : Nat) t v, Try.f5.params[j]? = some t → args[j]? = some v → Value.okWide Try.prog W .any base t v := hval0
  have hsz : (DataW.weightsEach Try.prog (Try.f5.params.toList ++ Rows.mergeOrderSpec.plain.varTypes Try.prog) (ds ++ gs)).all (· ≤ reachBytes) = true := hsz0
  have hW' := hW
  obtain ⟨p, q, hA0, hV, rfl, hfz, hnd⟩ := hW
  have hA : DataW.TrodAll enc Try.prog W 0 (fun _ => true) true Try.f5.params.toList args.toList ds p := hA0
  rw [Try.params5] at hA hval hsz
  obtain ⟨v0, vs0, d0, ds0, p0, q0, hargs, rfl, rfl, h0, r0⟩ := trodAll_cons hA
  obtain ⟨v1, vs1, d1, ds1, p1, q1, rfl, rfl, rfl, h1, r1⟩ := trodAll_cons r0
  obtain ⟨rfl, rfl, rfl⟩ := trodAll_nil r1
  obtain rfl : args = #[v0, v1] := by cases args; simp_all
  obtain ⟨rfl, rfl⟩ := trodVars_none hV
  clear hsz0
  obtain ⟨a0, len0, cap0, rfl⟩ := okWide_slice Try.underlying22 (hval 0 22 v0 rfl rfl)
  have k0 := h0
  have lt0 : ∀ x ∈ p0, x.block < W.heap.size := by obtain ⟨m, hm⟩ := k0; exact DataW.trod_lt m _ _ _ hm
  obtain ⟨l0, w0, c0⟩ := open_is (by' := 8) Try.underlying22 Try.underlying3 (by kernel_rfl) (by kernel_rfl) h0 hsz 0 rfl rfl
  obtain ⟨a1, rfl, rfl, rfl, w1⟩ := open_int Try.underlying3 (hval 1 3 v1 rfl rfl) h1
  clear hA0 hval0 hsz
  refine (walk a0 len0 cap0 l0 a1 W w0 c0 w1).mono fun e W' ⟨he, bel⟩ => ?_
  subst he
  exact ⟨_, rfl, _, _, _, [], _, [], hW', trodAll_mk1 (shut_bool Try.underlying4 _), (trodAll_cons_mk (Below.trod laidOut (by kernel_rfl) (of_decide_eq_true (by kernel_rfl)) k0 bel lt0) (trodAll_cons_mk (shut_int Try.underlying3 w1) trodAll_mk0)), rfl, bel.frame _, fun h => by cases h⟩

theorem proved : Rows.MergeOrderSaid :=
  OpenClaim.holds_of_wide 5 Try.f5 rfl rfl rfl rfl rfl rfl rfl ⟨rfl, rfl, rfl, rfl, rfl⟩ rfl rfl rfl rfl rfl (by kernel_rfl) Try.func5 (by kernel_rfl)
    (of_decide_eq_true (by kernel_rfl)) (by unfold Func.isWrapper; first | (rw [if_pos (by decide +kernel)]; kernel_rfl) | (rw [if_neg (by decide +kernel)]; exact ⟨rfl, rfl⟩))
    (fun os started H enc _ => lifted os started H enc)
#print axioms proved
end Go.Proofs.Ytobmghppnlgjlaa.MergeOrder
