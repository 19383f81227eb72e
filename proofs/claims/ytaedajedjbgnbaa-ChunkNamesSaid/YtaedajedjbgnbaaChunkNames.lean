/- For every name of whatever bytes, Named, Critical and Safe tell what the document does; of one with more than a thousand bytes nothing is asked. No conditions. -/
import Derived.Test.YtaedajedjbgnbaaRows
import Derived.Test.YtaedajedjbgnbaaOpen
import Derived.Test.YtaedajedjbgnbaaCkRefName
namespace Go.Proofs.Ytaedajedjbgnbaa.ChunkNames
open Go.ChangeShapes Go.WideShapes Go.ChangeAt Go.RowKit
open Go.ChangeMaps (open_string shut_string)
set_option linter.unusedVariables false
theorem own : ownKnob Try.prog.godebug = none := by kernel_rfl
theorem laidOut : laidOutB Try.prog = true := by kernel_rfl
theorem nm_text : Ck.named [116, 69, 88, 116] = true := by decide
theorem nm_safe : (Ck.named [116, 69, 88, 116] && Ck.small (([116, 69, 88, 116] : List UInt8).getD 3 0)) = true := by decide
theorem nm_crit : (Ck.named [73, 68, 65, 84] && !Ck.small (([73, 68, 65, 84] : List UInt8).getD 0 0)) = true := by decide
set_option maxHeartbeats 2000000 in
theorem walk (s : ByteArray) (w : World) (hs : s.size ≤ maxLen) :
    Calls Try.prog 7 #[.string s] w fun e w' => e = .returned (.bool true) ∧ Below w.heap.size w w' := by
  obtain ⟨n, rfl⟩ := str_of s
  have HS := Lib.hid (str_size n)
  go_enter Try.func7, Try.ntmps7
  go_wp2_with fail
  refine (named_any [116, 69, 88, 116] _ (by decide)).mono ?_
  rintro e w1 ⟨rfl, hb1⟩
  rw [nm_text]
  go_wp2_with fail
  refine (safe_any [116, 69, 88, 116] _ (by decide)).mono ?_
  rintro e w2 ⟨rfl, hb2⟩
  have hb2 := below_then hb1 hb2
  rw [nm_safe]
  clear hb1
  go_wp2_with fail
  refine (crit_any [73, 68, 65, 84] _ (by decide)).mono ?_
  rintro e w3 ⟨rfl, hb3⟩
  have hb3 := below_then hb2 hb3
  rw [nm_crit]
  clear hb2
  by_cases hlong : 1000 < n.length
  · have dl : decide (1000 < (((str n).size : Nat) : Int)) = true := by rw [HS.out]; simp; omega
    clear hlong
    go_wp2_with fail
    refine (named_any [116, 69, 88, 116] _ (by decide)).mono ?_
    rintro e w4 ⟨rfl, hb4⟩
    have hb4 := below_then hb3 hb4
    rw [nm_text]
    go_wp2_with fail
    go_ret
    exact ⟨rfl, hb4⟩
  · have dl : decide (1000 < (((str n).size : Nat) : Int)) = false := by rw [HS.out]; simp; omega
    have hn : n.length ≤ 140737488355328 := by omega
    have hz0 : Ck.named n = true → 0 < (str n).size ∧ 3 < (str n).size := fun h => by
      rw [HS.out]
      simp [Ck.named] at h
      omega
    have hg0 : ∀ h : 0 < (str n).size, ((str n)[0]'h).toNat = (n.getD 0 0).toNat := fun h => str_get n 0 h
    have hg3 : ∀ h : 3 < (str n).size, ((str n)[3]'h).toNat = (n.getD 3 0).toNat := fun h => str_get n 3 h
    have HN := Lib.hid (fun w => named_any n w hn)
    have HR := Lib.hid (fun w => refNamed_any n w hn)
    have HC := Lib.hid (fun w => crit_any n w hn)
    have HA := Lib.hid (fun w => safe_any n w hn)
    have HX := Lib.hid (fun w => refSmall_any (n.getD 0 0) w)
    have HY := Lib.hid (fun w => refSmall_any (n.getD 3 0) w)
    clear hlong hn
    generalize n.getD 0 0 = x0 at *
    generalize n.getD 3 0 = x3 at *
    cases hnm : Ck.named n with
    | false =>
      rw [hnm] at HN HR HC HA
      clear hz0 hg0 hg3 hnm
      go_wp2_with fail
      refine (HR.out _).mono ?_
      rintro e w' ⟨rfl, rfl⟩
      go_wp2_with fail
      refine (HN.out _).mono ?_
      rintro e w4 ⟨rfl, hb4⟩
      have hb4 := below_then hb3 hb4
      go_wp2_with fail
      refine (HC.out _).mono ?_
      rintro e w5 ⟨rfl, hb5⟩
      have hb5 := below_then hb4 hb5
      go_wp2_with fail
      refine (HA.out _).mono ?_
      rintro e w6 ⟨rfl, hb6⟩
      have hb6 := below_then hb5 hb6
      go_wp2_with fail
      go_ret
      exact ⟨rfl, hb6⟩
    | true =>
      rw [hnm] at HN HR HC HA
      obtain ⟨h0, h3⟩ := hz0 hnm
      have hg0 := hg0 h0
      have hg3 := hg3 h3
      clear hz0 hnm
      generalize Ck.small x0 = s0 at *
      generalize Ck.small x3 = s3 at *
      rw [Bool.true_and] at HC HA
      go_wp2_with fail
      refine (HR.out _).mono ?_
      rintro e w' ⟨rfl, rfl⟩
      go_wp2_with fail
      refine (HX.out _).mono ?_
      rintro e w' ⟨rfl, rfl⟩
      go_wp2_with fail
      refine (HY.out _).mono ?_
      rintro e w' ⟨rfl, rfl⟩
      go_wp2_with fail
      refine (HN.out _).mono ?_
      rintro e w4 ⟨rfl, hb4⟩
      have hb4 := below_then hb3 hb4
      go_wp2_with fail
      refine (HC.out _).mono ?_
      rintro e w5 ⟨rfl, hb5⟩
      have hb5 := below_then hb4 hb5
      go_wp2_with fail
      refine (HA.out _).mono ?_
      rintro e w6 ⟨rfl, hb6⟩
      have hb6 := below_then hb5 hb6
      go_wp2_with fail
      go_ret
      exact ⟨rfl, hb6⟩
set_option maxRecDepth 100000 in
theorem lifted (os : Os) (started : os.Started) (H : Type) (enc : TypeId × Value → H) :
    ReturnsInHanded {} Try.checked os 7 .any (Rows.chunkNamesSpec.pre6 enc Try.prog Try.f7 Rows.chunkNamesRow.domain false) (Rows.chunkNamesSpec.post enc Try.prog Try.f7 false true false false) := by
  refine returnsInHanded_of_change_sized (C := Try.checked) own started (by kernel_rfl) Try.func7
    (ChangeSpec.witness6 (enc := enc) (C := Try.checked) false ⟨#[], #[.string .empty], []⟩ 8 (by kernel_rfl) (by kernel_rfl) (by kernel_rfl) (by kernel_rfl)) ?_
  intro W base args ds gs before hval0 hW _ hsz0 _
  have hval : ∀ (j : Nat) t v, Try.f7.params[j]? = some t → args[j]? = some v → Value.okWide Try.prog W .any base t v := hval0
  have hsz : (DataW.weightsEach Try.prog (Try.f7.params.toList ++ Rows.chunkNamesSpec.plain.varTypes Try.prog) (ds ++ gs)).all (· ≤ reachBytes) = true := hsz0
  have hW' := hW
  obtain ⟨p, q, hA0, hV, rfl, hfz, hnd⟩ := hW
  have hA : DataW.TrodAll enc Try.prog W 0 (fun _ => true) true Try.f7.params.toList args.toList ds p := hA0
  rw [Try.params7] at hA hval hsz
  obtain ⟨v0, vs0, d0, ds0, p0, q0, hargs, rfl, rfl, h0, r0⟩ := trodAll_cons hA
  obtain ⟨rfl, rfl, rfl⟩ := trodAll_nil r0
  obtain rfl : args = #[v0] := by cases args; simp_all
  obtain ⟨rfl, rfl⟩ := trodVars_none hV
  clear hsz0
  have k0 := h0
  obtain ⟨a0, rfl, rfl, rfl, w0⟩ := open_string Try.underlying9 (hval 0 9 v0 rfl rfl) h0
  clear hA0 hval0 hsz
  refine (walk a0 W w0).mono fun e W' ⟨he, bel⟩ => ?_
  subst he
  exact ⟨_, rfl, _, _, _, [], _, [], hW', trodAll_mk1 (shut_bool Try.underlying4 _), (trodAll_cons_mk (shut_string Try.underlying9 w0) trodAll_mk0), rfl, bel.frame _, fun h => by cases h⟩

theorem proved : Rows.ChunkNamesSaid :=
  OpenClaim.holds_of_wide 7 Try.f7 rfl rfl rfl rfl rfl rfl rfl ⟨rfl, rfl, rfl, rfl, rfl⟩ rfl rfl rfl rfl rfl (by kernel_rfl) Try.func7 (by kernel_rfl)
    (of_decide_eq_true (by kernel_rfl)) (by unfold Func.isWrapper; first | (rw [if_pos (by decide +kernel)]; kernel_rfl) | (rw [if_neg (by decide +kernel)]; exact ⟨rfl, rfl⟩))
    (fun os started H enc _ => lifted os started H enc)
#print axioms proved
end Go.Proofs.Ytaedajedjbgnbaa.ChunkNames
