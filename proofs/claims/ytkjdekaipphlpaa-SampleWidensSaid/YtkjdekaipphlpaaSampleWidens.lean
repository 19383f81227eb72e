/- For every number and every depth, Widen and Narrow answer what the document does: what is widened and narrowed comes back, and what no number is widened to is refused. No conditions. -/
import Derived.Test.YtkjdekaipphlpaaRows
import Derived.Test.YtkjdekaipphlpaaOpen
import Derived.Test.YtkjdekaipphlpaaSmWiden
import Derived.Test.YtkjdekaipphlpaaSmRefNarrow
import Derived.Test.YtkjdekaipphlpaaNumIs
namespace Go.Proofs.Ytkjdekaipphlpaa.SampleWidens
open Go.ChangeShapes Go.WideShapes Go.ChangeAt Go.RowKit
open Go.ChangeMaps (open_string shut_string)
set_option linter.unusedVariables false
theorem own : ownKnob Try.prog.godebug = none := by kernel_rfl
theorem laidOut : laidOutB Try.prog = true := by kernel_rfl
open Sm
/-- What both sides narrow a number to. -/
theorem nar_both (n d : Int) : ∃ (b : Bool) (V : Int), 0 ≤ V ∧ narV n d = (if b then .tuple #[.int .i64 V, .bool true] else .tuple #[.int .i64 0, .bool false]) ∧ nar n d = (if b then V else -1) := by
  by_cases h : deep d = true ∧ fits n d.toNat = true
  · refine ⟨true, n / fac d.toNat, ?_, if_pos h, if_pos h⟩
    obtain ⟨D, rfl, hD⟩ := deep_dp h.1
    obtain ⟨k, hk, e⟩ := (fits_iff hD).1 (by have := h.2; rwa [Int.toNat_natCast] at this)
    rw [Int.toNat_natCast, e]
    have := (fac_pos hD).1
    rw [Int.mul_ediv_cancel _ (by omega)]
    omega
  · exact ⟨false, 0, by omega, if_neg h, if_neg h⟩
set_option maxRecDepth 100000 in
set_option maxHeartbeats 4000000 in
theorem tail (n d : Int) (w : World) (_ : (Lit.int .i64 n).wf = true) (_ : (Lit.int .i64 d).wf = true) :
    Calls Try.prog 6 #[.int .i64 n, .int .i64 d] w fun e w' => e = .returned (.bool true) ∧ w = w' := by
  have H12 : Hid (∀ w, Calls Try.prog 20 #[.int .i64 1, .int .i64 2] w fun e w' => e = .returned (.tuple #[.int .i64 21845, .nilIface]) ∧ w = w') := Lib.hid (fun w => by
    have := widen_any 1 2 w
    rwa [show widV 1 2 = .tuple #[.int .i64 21845, .nilIface] from by unfold widV; rw [if_pos (by decide), if_pos (by decide)]; rfl] at this)
  have HDP := Lib.hid (fun w => deep_any d w)
  obtain ⟨b, V, hV, hb1, hb2⟩ := nar_both n d
  have HNV := Lib.hid (fun w => narrow_any n d w)
  have HRN := Lib.hid (fun w => refNarrow_any n d w)
  rw [hb1] at HNV
  rw [hb2] at HRN
  have HWI := Lib.hid (fun w => widen_any n d w)
  have HI6 := Lib.hid (fun w => is_yes 6 rfl w)
  have HI7 := Lib.hid (fun w => is_yes 7 rfl w)
  have dV : decide (0 ≤ V) = true := by simpa using hV
  have eV : (V == V) = true := beq_self_eq_true _
  clear hb1 hb2 hV
  by_cases hd : deep d = true
  rotate_left
  · have hd2 : deep d = false := by simpa using hd
    rw [hd2] at HDP
    rw [show widV n d = .tuple #[.int .i64 0, .iface 41 (.int .i64 6)] from if_neg hd] at HWI
    clear hd hd2
    cases b
    all_goals
      simp only [if_true, Bool.false_eq_true, if_false] at HNV HRN
      go_enter Try.func6, Try.ntmps6
      go_wp2_with fail
      refine (H12.out _).mono ?_
      rintro e w' ⟨rfl, rfl⟩
      go_wp2_with fail
      refine (HWI.out _).mono ?_
      rintro e w' ⟨rfl, rfl⟩
      go_wp2_with fail
      refine (HDP.out _).mono ?_
      rintro e w' ⟨rfl, rfl⟩
      go_wp2_with fail
      refine (HI6.out _).mono ?_
      rintro e w' ⟨rfl, rfl⟩
      go_wp2_with fail
      refine (HNV.out _).mono ?_
      rintro e w' ⟨rfl, rfl⟩
      go_wp2_with fail
      refine (HRN.out _).mono ?_
      rintro e w' ⟨rfl, rfl⟩
      go_wp2
      go_ret
      exact ⟨rfl, rfl⟩
  rw [hd] at HDP
  obtain ⟨D, rfl, hD⟩ := deep_dp hd
  have hwv : widV n D = if inD D n = true then .tuple #[.int .i64 (n * fac D), .nilIface] else .tuple #[.int .i64 0, .iface 41 (.int .i64 7)] := by
    unfold widV; rw [if_pos hd, Int.toNat_natCast]
  have HTP := Lib.hid (fun w => refTop_any hD w)
  have htp := top_pos hD
  by_cases h0 : n < 0
  · have hi : ¬ inD D n = true := by unfold inD; simp; omega
    rw [hwv, if_neg hi] at HWI
    have d0 : decide (n < 0) = true := by simpa using h0
    clear hi h0 hd hwv hD htp
    cases b
    all_goals
      simp only [if_true, Bool.false_eq_true, if_false] at HNV HRN
      go_enter Try.func6, Try.ntmps6
      go_wp2_with fail
      refine (H12.out _).mono ?_
      rintro e w' ⟨rfl, rfl⟩
      go_wp2_with fail
      refine (HWI.out _).mono ?_
      rintro e w' ⟨rfl, rfl⟩
      go_wp2_with fail
      refine (HDP.out _).mono ?_
      rintro e w' ⟨rfl, rfl⟩
      go_wp2_with fail
      refine (HI7.out _).mono ?_
      rintro e w' ⟨rfl, rfl⟩
      go_wp2_with fail
      refine (HNV.out _).mono ?_
      rintro e w' ⟨rfl, rfl⟩
      go_wp2_with fail
      refine (HRN.out _).mono ?_
      rintro e w' ⟨rfl, rfl⟩
      go_wp2
      go_ret
      exact ⟨rfl, rfl⟩
  have d0 : decide (n < 0) = false := by simpa using h0
  obtain ⟨N, rfl⟩ := Int.eq_ofNat_of_zero_le (show 0 ≤ n by omega)
  by_cases h1 : top D < N
  · have hi : ¬ inD D (N : Int) = true := by unfold inD; simp; omega
    rw [hwv, if_neg hi] at HWI
    have d1 : decide ((top D : Int) < (N : Int)) = true := by simp; omega
    have d2 : decide (top D < N) = true := by simpa using h1
    clear hi h0 hd hwv hD htp h1
    cases b
    all_goals
      simp only [if_true, Bool.false_eq_true, if_false] at HNV HRN
      go_enter Try.func6, Try.ntmps6
      go_wp2_with fail
      refine (H12.out _).mono ?_
      rintro e w' ⟨rfl, rfl⟩
      go_wp2_with fail
      refine (HWI.out _).mono ?_
      rintro e w' ⟨rfl, rfl⟩
      go_wp2_with fail
      refine (HDP.out _).mono ?_
      rintro e w' ⟨rfl, rfl⟩
      go_wp2_with fail
      refine (HTP.out _).mono ?_
      rintro e w' ⟨rfl, rfl⟩
      go_wp2_with fail
      refine (HI7.out _).mono ?_
      rintro e w' ⟨rfl, rfl⟩
      go_wp2_with fail
      refine (HNV.out _).mono ?_
      rintro e w' ⟨rfl, rfl⟩
      go_wp2_with fail
      refine (HRN.out _).mono ?_
      rintro e w' ⟨rfl, rfl⟩
      go_wp2
      go_ret
      exact ⟨rfl, rfl⟩
  have hi : inD D (N : Int) = true := by unfold inD; simp; omega
  rw [hwv, if_pos hi] at HWI
  have d1 : decide ((top D : Int) < (N : Int)) = false := by simp; omega
  have d2 : decide (top D < N) = false := by simpa using h1
  have hN : N ≤ top D := by omega
  have ht2 := htp.2.1
  have hmul := fits_mul hD hN
  have hNW := narrow_any ((N * fac D : Nat) : Int) D
  have hnv : narV ((N * fac D : Nat) : Int) D = .tuple #[.int .i64 (N : Nat), .bool true] := by
    unfold narV
    rw [if_pos ⟨hd, by rw [Int.toNat_natCast]; exact hmul.1⟩, Int.toNat_natCast, hmul.2]
  rw [hnv] at hNW
  have HNW := Lib.hid hNW
  have hft := fac_top hD
  have hq : N * fac D ≤ 65535 := by
    have := Nat.mul_le_mul_right (fac D) hN
    rw [Nat.mul_comm (top D), hft] at this
    exact this
  have hqt : N * fac D * top D = N * 65535 := by rw [Nat.mul_assoc, hft]
  have ecast : (N : Int) * (fac D : Int) = ((N * fac D : Nat) : Int) := by simp
  rw [ecast] at HWI
  clear hi h0 hd hwv hD htp h1 hmul hNW hnv hft ecast
  generalize N * fac D = q at *
  generalize top D = t at *
  have h65 : N ≤ 65535 := by omega
  have eq1 : (q : Int) * (t : Int) = (N : Int) * 65535 := by
    have : ((q * t : Nat) : Int) = ((N * 65535 : Nat) : Int) := by rw [hqt]
    simpa using this
  have b1 : 0 ≤ (N : Int) * 65535 ∧ (N : Int) * 65535 ≤ 1000000000000 := by omega
  have f1 : wrap64 ((q : Int) * (t : Int)) = (N : Int) * 65535 := by rw [eq1]; exact w_small b1.1 b1.2
  have f2 : wrap64 ((N : Int) * 65535) = (N : Int) * 65535 := w_small b1.1 b1.2
  have f3 : (wrap64 ((q : Int) * (t : Int)) != (N : Int) * 65535) = false := by rw [f1]; simp
  have f4 : ((N : Int) != (N : Int)) = false := by simp
  have f5 : (N != N) = false := by simp
  clear hqt eq1 b1 hN f1 f2
  cases b
  all_goals
    simp only [if_true, Bool.false_eq_true, if_false] at HNV HRN
    go_enter Try.func6, Try.ntmps6
    go_wp2_with fail
    refine (H12.out _).mono ?_
    rintro e w' ⟨rfl, rfl⟩
    go_wp2_with fail
    refine (HWI.out _).mono ?_
    rintro e w' ⟨rfl, rfl⟩
    go_wp2_with fail
    refine (HDP.out _).mono ?_
    rintro e w' ⟨rfl, rfl⟩
    go_wp2_with fail
    refine (HTP.out _).mono ?_
    rintro e w' ⟨rfl, rfl⟩
    go_wp2_with fail
    refine (HNW.out _).mono ?_
    rintro e w' ⟨rfl, rfl⟩
    go_wp2_with fail
    refine (HTP.out _).mono ?_
    rintro e w' ⟨rfl, rfl⟩
    go_wp2_with fail
    refine (HNV.out _).mono ?_
    rintro e w' ⟨rfl, rfl⟩
    go_wp2_with fail
    refine (HRN.out _).mono ?_
    rintro e w' ⟨rfl, rfl⟩
    go_wp2
    go_ret
    exact ⟨rfl, rfl⟩
theorem walk (n d : Int) (w : World) (h1 : (Lit.int .i64 n).wf = true) (h2 : (Lit.int .i64 d).wf = true) :
    Calls Try.prog 6 #[.int .i64 n, .int .i64 d] w fun e w' => e = .returned (.bool true) ∧ Below w.heap.size w w' := by
  refine (tail n d w h1 h2).mono ?_
  rintro e w' ⟨rfl, rfl⟩
  exact ⟨rfl, Below.refl _ _⟩
set_option maxRecDepth 100000 in
theorem lifted (os : Os) (started : os.Started) (H : Type) (enc : TypeId × Value → H) :
    ReturnsInHanded {} Try.checked os 6 .any (Rows.sampleWidensSpec.pre6 enc Try.prog Try.f6 Rows.sampleWidensRow.domain false) (Rows.sampleWidensSpec.post enc Try.prog Try.f6 false true false false) := by
  refine returnsInHanded_of_change_sized (C := Try.checked) own started (by kernel_rfl) Try.func6
    (ChangeSpec.witness6 (enc := enc) (C := Try.checked) false ⟨#[], #[.int .i64 0, .int .i64 0], []⟩ 8 (by kernel_rfl) (by kernel_rfl) (by kernel_rfl) (by kernel_rfl)) ?_
  intro W base args ds gs before hval0 hW _ hsz0 _
  have hval : ∀ (j : Nat) t v, Try.f6.params[j]? = some t → args[j]? = some v → Value.okWide Try.prog W .any base t v := hval0
  have hsz : (DataW.weightsEach Try.prog (Try.f6.params.toList ++ Rows.sampleWidensSpec.plain.varTypes Try.prog) (ds ++ gs)).all (· ≤ reachBytes) = true := hsz0
  have hW' := hW
  obtain ⟨p, q, hA0, hV, rfl, hfz, hnd⟩ := hW
  have hA : DataW.TrodAll enc Try.prog W 0 (fun _ => true) true Try.f6.params.toList args.toList ds p := hA0
  rw [Try.params6] at hA hval hsz
  obtain ⟨v0, vs0, d0, ds0, p0, q0, hargs, rfl, rfl, h0, r0⟩ := trodAll_cons hA
  obtain ⟨v1, vs1, d1, ds1, p1, q1, rfl, rfl, rfl, h1, r1⟩ := trodAll_cons r0
  obtain ⟨rfl, rfl, rfl⟩ := trodAll_nil r1
  obtain rfl : args = #[v0, v1] := by cases args; simp_all
  obtain ⟨rfl, rfl⟩ := trodVars_none hV
  clear hsz0
  obtain ⟨a0, rfl, rfl, rfl, w0⟩ := open_int Try.underlying3 (hval 0 3 v0 rfl rfl) h0
  obtain ⟨a1, rfl, rfl, rfl, w1⟩ := open_int Try.underlying3 (hval 1 3 v1 rfl rfl) h1
  clear hA0 hval0 hsz
  refine (walk a0 a1 W w0 w1).mono fun e W' ⟨he, bel⟩ => ?_
  subst he
  exact ⟨_, rfl, _, _, _, [], _, [], hW', trodAll_mk1 (shut_bool Try.underlying4 _), (trodAll_cons_mk (shut_int Try.underlying3 w0) (trodAll_cons_mk (shut_int Try.underlying3 w1) trodAll_mk0)), rfl, bel.frame _, fun h => by cases h⟩

theorem proved : Rows.SampleWidensSaid :=
  OpenClaim.holds_of_wide 6 Try.f6 rfl rfl rfl rfl rfl rfl rfl ⟨rfl, rfl, rfl, rfl, rfl⟩ rfl rfl rfl rfl rfl (by kernel_rfl) Try.func6 (by kernel_rfl)
    (of_decide_eq_true (by kernel_rfl)) (by unfold Func.isWrapper; first | (rw [if_pos (by decide +kernel)]; kernel_rfl) | (rw [if_neg (by decide +kernel)]; exact ⟨rfl, rfl⟩))
    (fun os started H enc _ => lifted os started H enc)
#print axioms proved
end Go.Proofs.Ytkjdekaipphlpaa.SampleWidens
