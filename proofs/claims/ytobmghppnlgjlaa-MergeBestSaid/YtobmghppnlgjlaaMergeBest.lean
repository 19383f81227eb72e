/- For all counts and any longest length (of at most 40 counts that stand, as the law itself asks): no lengths in form cost less than the best ones, the counts are left as they were, and what can't be is refused. No conditions. -/
import Derived.Test.YtobmghppnlgjlaaRows
import Derived.Test.YtobmghppnlgjlaaOpen
import Derived.Test.YtobmghppnlgjlaaMergeLaw
import Derived.Test.YtobmghppnlgjlaaNumInts
import Derived.Test.YtobmghppnlgjlaaNumIs
import Derived.Test.YtobmghppnlgjlaaBest05
import Derived.Test.YtobmghppnlgjlaaUsed05
namespace Go.Proofs.Ytobmghppnlgjlaa.MergeBest
open Go.ChangeShapes Go.WideShapes Go.ChangeAt Go.RowKit
open Go.ChangeMaps (open_string shut_string)
set_option linter.unusedVariables false
theorem own : ownKnob Try.prog.godebug = none := by kernel_rfl
theorem laidOut : laidOutB Try.prog = true := by kernel_rfl
/-- Level by level comes to what the best lengths cost. -/
theorem best_lens (l : List Int) (n : Nat) (hn : 0 < n) (hu : Mg.used l ≤ 2 ^ n) (b : Int) (hz : Mg.used l = 0 → b = 0) (hb : 0 < Mg.used l → Mg.Bst (Mg.used l) (fun i => Mg.pre (Mg.rise l) (Mg.used l - i)) n b) : Mg.dot l (Mg.lensOf l n) l.length = b := by
  rw [Mg.lensOf_cost]
  have hr := Mg.rise_length l
  have hU := Mg.rise_up l
  have hP := Mg.rise_Pos l
  generalize Mg.rise l = R at *
  generalize Mg.used l = m at *
  by_cases h0 : m = 0
  · subst h0; rw [hz rfl]; rfl
  have hB := hb (by omega)
  by_cases h1 : m = 1
  · subst h1
    obtain ⟨f1, f2⟩ := Mg.final_one hP hr hn
    have e : Mg.SI (fun i => R.getD i 0 * (Mg.lens R n).getD i 0) 1 = Mg.pre R 1 := by
      rw [Mg.pre_SI R 1 (by omega)]
      refine Mg.SI_congr _ (fun i hi => ?_)
      rw [Mg.lens_one (by omega) i (by omega), Int.mul_one]
    rw [e]
    obtain ⟨g1, g2⟩ := hB
    have g3 := g2 _ f1
    rcases g1 with g1 | ⟨_, g1⟩
    · omega
    · have := f2 _ g1; omega
  · have f1 := Mg.final_back (L := n) hU hP hr (by omega) hn (by rw [← hr]; exact Mg.rnd_room R (by omega) n hn (by omega))
    have e := Mg.cost_back (L := n) R (by omega) hn (by omega)
    rw [hr] at e
    rw [e]
    obtain ⟨g1, g2⟩ := hB
    have g3 := g2 _ f1
    rcases g1 with g1 | ⟨_, g1⟩
    · omega
    · have := Mg.final_ge hU hP hr g1; omega
theorem rise_most (l : List Int) (b : Int) (h : ∀ k, k < l.length → l.getD k 0 ≤ b) : ∀ x ∈ Mg.rise l, 0 ≤ x ∧ x ≤ b := fun x hx => by
  refine ⟨Mg.rise_Pos l x hx, ?_⟩
  unfold Mg.rise at hx
  obtain ⟨i, hi, rfl⟩ := List.mem_map.1 hx
  exact h i (Mg.order_lt l i hi)
set_option maxRecDepth 100000 in
set_option maxHeartbeats 4000000 in
theorem walk (a : Option Addr) (len cap : Nat) (l : List Int) (L : Int) (w : World) (h : Is .i64 w a len cap l) (hr : cap * 8 ≤ 140737488351232) (hw : (Lit.int .i64 L).wf = true) :
    Calls Try.prog 3 #[.slice a len cap, .int .i64 L] w fun e w' => e = .returned (.bool true) ∧ Below w.heap.size w w' := by
  have hle := h.hle
  have HL := Lib.hid h.hlen
  have H := Lib.hid h
  clear h hw
  go_enter Try.func3, Try.ntmps3
  go_wp2_with fail
  refine (alive_any w).mono ?_
  rintro e w1 ⟨rfl, hb1⟩
  have HB1 := Lib.hid hb1
  clear hb1
  go_wp2_with fail
  refine (good_any a len cap l 300 w1 (H.out.mono HB1.out) (by omega) (by omega)).mono ?_
  rintro e w' ⟨rfl, rfl⟩
  cases hok : Mg.within l 300 1099511627776
  · go_wp2
    go_ret
    exact ⟨rfl, HB1.out⟩
  have hlen := Mg.within_len hok
  rw [HL.out] at hlen
  have HOK := Lib.hid hok
  clear hok
  go_wp2_with fail
  refine (used_any a len cap l w1 (H.out.mono HB1.out) (by omega)).mono ?_
  rintro e w' ⟨rfl, rfl⟩
  by_cases hbig : 40 < Mg.used l
  · have d0 : decide ((40 : Int) < ((Mg.used l : Nat) : Int)) = true := by simp; omega
    go_wp2
    go_ret
    exact ⟨rfl, HB1.out⟩
  have d0 : decide ((40 : Int) < ((Mg.used l : Nat) : Int)) = false := by simp; omega
  by_cases hlo : L < 1
  · have d1 : decide (L < 1) = true := by simpa using hlo
    go_wp2
    go_ret
    exact ⟨rfl, HB1.out⟩
  have d1 : decide (L < 1) = false := by simpa using hlo
  by_cases hhi : 16 < L
  · have d2 : decide (16 < L) = true := by simpa using hhi
    go_wp2
    go_ret
    exact ⟨rfl, HB1.out⟩
  have d2 : decide (16 < L) = false := by simpa using hhi
  obtain ⟨n, rfl⟩ := Int.eq_ofNat_of_zero_le (show 0 ≤ L by omega)
  go_wp2_with fail
  refine (copyI_any a len cap l _ (H.out.mono HB1.out) (by omega)).mono ?_
  rintro e w5 ⟨g5, rfl, own5, hb5⟩
  have O5 := Lib.hid own5
  have HB5 := Lib.hid (below_then HB1.out hb5)
  have hwl : Wf l := H.out.wf
  have hi5 := is_of_own own5 (wf_mark hwl) 0 len (len + 1) (by omega) (by omega)
  rw [List.drop_zero, List.take_append_of_le_length (by rw [HL.out]; exact Nat.le_refl _), List.take_of_length_le (by rw [HL.out]; exact Nat.le_refl _)] at hi5
  have HI5 := Lib.hid hi5
  have HWL := Lib.hid hwl
  clear own5 hb5 hi5 hwl HB1
  go_wp2_with fail
  refine (lengths_any _ len (len + 1) l (n : Int) w5 HI5.out (by omega)).mono ?_
  rintro e w6 ⟨hb6, hpost⟩
  have O6 := Lib.hid (own_below O5.out hb6)
  have HB6 := Lib.hid (below_then HB5.out hb6)
  have H6 := Lib.hid (H.out.mono HB6.out)
  have HZ5 := Lib.hid HB5.out.size
  clear O5 HI5 HB5
  rcases hpost with ⟨hno, _⟩ | ⟨_, hol, rfl⟩ | ⟨_, hol, v, rfl, own2⟩
  · exact absurd (HOK.out.symm.trans hno) (by simp)
  · unfold Mg.okL at hol
    have hol2 := of_decide_eq_false hol
    rw [Int.toNat_natCast] at hol2
    have d3 : decide (wrap64 ((2 : Int) ^ n) < (Mg.used l : Int)) = true := by
      rw [wrap_pow n (by omega)]
      generalize 2 ^ n = p at *
      simp; omega
    clear hol hol2 hb6
    go_wp2_with fail
    refine (keptI_any g5 len a cap l _ _ (by omega) HWL.out O6.out H6.out).mono ?_
    rintro e w7 ⟨rfl, dn7, rfl⟩
    go_wp2_with fail
    refine (used_any a len cap l _ (H6.out.mono (drewN_is w6 dn7)) (by omega)).mono ?_
    rintro e w' ⟨rfl, rfl⟩
    go_wp2_with fail
    refine (is_yes 7 rfl _).mono ?_
    rintro e w8 ⟨rfl, rfl⟩
    go_wp2
    go_ret
    exact ⟨rfl, HB6.out.trans ((drewN_is _ dn7).mono HB6.out.size)⟩
  obtain ⟨n', hnn, hn1, hn16, hun⟩ := okL_nat hol
  obtain rfl : n = n' := by omega
  have hw0 := fun k hk => (Mg.within_at HOK.out k hk).1
  rw [Int.toNat_natCast, HL.out] at own2
  have hwf := lensOf_wf l n hw0 hn1 hn16 hun
  have HRG := Lib.hid (fun j (hj : j < len) => Mg.lensOf_range hw0 hn1 hun j (by rw [HL.out]; exact hj))
  have HAT := Lib.hid (fun k (hk : k < len) => Mg.within_at HOK.out k (by rw [HL.out]; exact hk))
  have HBL := Lib.hid (fun b hz hb => best_lens l n hn1 hun b hz hb)
  rw [HL.out] at HBL
  have HMO := Lib.hid (rise_most l 1099511627776 (fun k hk => (Mg.within_at HOK.out k hk).2))
  obtain ⟨va, vc, rfl, hi2⟩ := own_is own2 hwf
  have HI2 := Lib.hid hi2
  have d3 : decide (wrap64 ((2 : Int) ^ n) < (Mg.used l : Int)) = false := by
    rw [wrap_pow n hn16]
    generalize 2 ^ n = p at *
    simp; omega
  clear own2 hi2 hb6 hol hw0 hwf hun hnn
  generalize Mg.lensOf l n = m at *
  go_wp2_with fail
  refine (keptI_any g5 len a cap l _ _ (by omega) HWL.out O6.out H6.out).mono ?_
  rintro e w7 ⟨rfl, dn7, rfl⟩
  have H7 := Lib.hid (H6.out.mono (drewN_is w6 dn7))
  have HI7 := Lib.hid (HI2.out.mono (drewN_is w6 dn7))
  have HB7 := Lib.hid (HB6.out.trans ((drewN_is w6 dn7).mono HB6.out.size))
  clear O6 H6 HI2 HB6
  revert H7 HI7 HB7
  generalize World.drewN _ _ = w7
  intro H7 HI7 HB7
  go_wp2_with fail
  refine (used_any a len cap l _ H7.out (by omega)).mono ?_
  rintro e w' ⟨rfl, rfl⟩
  have dll : ((len : Int) == (len : Int)) = true := by simp
  go_wp2_with fail
  refine (lawCost_any a va len cap len vc l m _ H7.out HI7.out (Nat.le_refl _) hlen HAT.out (fun k hk => by have := HRG.out k hk; omega) (by omega)).mono ?_
  rintro e w8 ⟨rfl, dn8, rfl⟩
  have H8 := Lib.hid (H7.out.mono (drewN_is w7 dn8))
  have HB8 := Lib.hid (HB7.out.trans ((drewN_is w7 dn8).mono HB7.out.size))
  clear H7 HI7 HB7
  revert H8 HB8
  generalize World.drewN _ _ = w8
  intro H8 HB8
  go_wp2_with fail
  refine (used05_any a len cap l _ H8.out (by omega)).mono ?_
  rintro e w9 ⟨v9, C, rfl, own9, hb9, hrev, hlC⟩
  have HC : Hid (∀ x ∈ C, 0 ≤ x ∧ x ≤ 1099511627776) := Lib.hid (fun x hx => HMO.out x (by rw [← hrev]; exact List.mem_reverse.2 hx))
  obtain ⟨a9, c9, rfl, hi9⟩ := own_is own9 (fun x hx => by
    have := HC.out x hx
    simp only [Lit.wf, IntKind.min, IntKind.max, IntKind.signed, IntKind.bits, Bool.and_eq_true, decide_eq_true_eq, if_true]
    simp; omega)
  rw [hlC] at hi9
  have HI9 := Lib.hid hi9
  have HB9 := Lib.hid (below_then HB8.out hb9)
  have HREV := Lib.hid hrev
  have HLC := Lib.hid hlC
  clear own9 hi9 hb9 hrev HB8 H8
  go_wp2_with fail
  refine (best_any a9 (Mg.used l) c9 C n w9 HI9.out (by omega) hn16 HC.out).mono ?_
  rintro e w10 ⟨b, rfl, hb10, hz, hbst⟩
  rw [HREV.out] at hbst
  have he := HBL.out b hz hbst
  rw [he]
  have dbb : (b == b) = true := by simp
  have HBX := Lib.hid (below_then HB9.out hb10)
  clear hz hbst he hb10
  go_wp2
  go_ret
  exact ⟨rfl, HBX.out⟩
set_option maxRecDepth 100000 in
theorem lifted (os : Os) (started : os.Started) (H : Type) (enc : TypeId × Value → H) :
    ReturnsInHanded {} Try.checked os 3 .any (Rows.mergeBestSpec.pre6 enc Try.prog Try.f3 Rows.mergeBestRow.domain false) (Rows.mergeBestSpec.post enc Try.prog Try.f3 false true false false) := by
  refine returnsInHanded_of_change_sized (C := Try.checked) own started (by kernel_rfl) Try.func3
    (ChangeSpec.witness6 (enc := enc) (C := Try.checked) false ⟨#[], #[.slice none 0 0, .int .i64 0], []⟩ 8 (by kernel_rfl) (by kernel_rfl) (by kernel_rfl) (by kernel_rfl)) ?_
  intro W base args ds gs before hval0 hW _ hsz0 _
  have hval : ∀ (j : Nat) t v, Try.f3.params[j]? = some t → args[j]? = some v → Value.okWide Try.prog W .any base t v := hval0
  have hsz : (DataW.weightsEach Try.prog (Try.f3.params.toList ++ Rows.mergeBestSpec.plain.varTypes Try.prog) (ds ++ gs)).all (· ≤ reachBytes) = true := hsz0
  have hW' := hW
  obtain ⟨p, q, hA0, hV, rfl, hfz, hnd⟩ := hW
  have hA : DataW.TrodAll enc Try.prog W 0 (fun _ => true) true Try.f3.params.toList args.toList ds p := hA0
  rw [Try.params3] at hA hval hsz
  obtain ⟨v0, vs0, d0, ds0, p0, q0, hargs, rfl, rfl, h0, r0⟩ := trodAll_cons hA
  obtain ⟨v1, vs1, d1, ds1, p1, q1, rfl, rfl, rfl, h1, r1⟩ := trodAll_cons r0
  obtain ⟨rfl, rfl, rfl⟩ := trodAll_nil r1
  obtain rfl : args = #[v0, v1] := by cases args; simp_all
  obtain ⟨rfl, rfl⟩ := trodVars_none hV
  clear hsz0
  obtain ⟨a0, len0, cap0, rfl⟩ := okWide_slice Try.underlying22 (hval 0 22 v0 rfl rfl)
  have k0 := h0
  have lt0 : ∀ x ∈ p0, x.block < W.heap.size := by obtain ⟨m, hm⟩ := k0; exact DataW.trod_lt m _ _ _ hm
  obtain ⟨l0, w0, c0⟩ := open_is (by' := 8) Try.underlying22 Try.underlying3 (by kernel_rfl) (by kernel_rfl) h0 hsz 0 rfl rfl
  obtain ⟨a1, rfl, rfl, rfl, w1⟩ := open_int Try.underlying3 (hval 1 3 v1 rfl rfl) h1
  clear hA0 hval0 hsz
  refine (walk a0 len0 cap0 l0 a1 W w0 c0 w1).mono fun e W' ⟨he, bel⟩ => ?_
  subst he
  exact ⟨_, rfl, _, _, _, [], _, [], hW', trodAll_mk1 (shut_bool Try.underlying4 _), (trodAll_cons_mk (Below.trod laidOut (by kernel_rfl) (of_decide_eq_true (by kernel_rfl)) k0 bel lt0) (trodAll_cons_mk (shut_int Try.underlying3 w1) trodAll_mk0)), rfl, bel.frame _, fun h => by cases h⟩

theorem proved : Rows.MergeBestSaid :=
  OpenClaim.holds_of_wide 3 Try.f3 rfl rfl rfl rfl rfl rfl rfl ⟨rfl, rfl, rfl, rfl, rfl⟩ rfl rfl rfl rfl rfl (by kernel_rfl) Try.func3 (by kernel_rfl)
    (of_decide_eq_true (by kernel_rfl)) (by unfold Func.isWrapper; first | (rw [if_pos (by decide +kernel)]; kernel_rfl) | (rw [if_neg (by decide +kernel)]; exact ⟨rfl, rfl⟩))
    (fun os started H enc _ => lifted os started H enc)
#print axioms proved
end Go.Proofs.Ytobmghppnlgjlaa.MergeBest
