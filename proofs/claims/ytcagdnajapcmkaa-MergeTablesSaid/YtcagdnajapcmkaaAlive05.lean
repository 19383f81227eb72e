/- burnishlaw05.alive: its contract. -/
import Derived.Test.YtcagdnajapcmkaaMergeLen
import Derived.Test.YtcagdnajapcmkaaIsLit
import Derived.Test.YtcagdnajapcmkaaNumInts
namespace Go.Proofs.Ytcagdnajapcmkaa
open Go.RowKit

theorem ex_ok : Mg.okB [1, 1, 2, 4] = true ∧ Mg.okL [1, 1, 2, 4] 3 = true ∧ Mg.okL [1, 1, 2, 4] 2 = true := by decide +kernel
theorem ex_three : Mg.lensOf [1, 1, 2, 4] 3 = [3, 3, 2, 1] := by decide +kernel
theorem ex_two : Mg.lensOf [1, 1, 2, 4] 2 = [2, 2, 2, 2] := by decide +kernel
set_option maxHeartbeats 4000000 in
set_option maxRecDepth 100000 in
theorem alive_any (w : World) : Calls Try.prog 6 #[] w fun e w' => e = .returned (.bool true) ∧ Below w.heap.size w w' := by
  go_enter Try.func6, Try.ntmps6
  have hA := is_lit w [1, 1, 2, 4] 4 3 #[Value.int .i64 1, .int .i64 1, .int .i64 2, .int .i64 4] rfl rfl (wf_small (by decide))
  have HA := Lib.hid hA
  have HB1 := Lib.hid (below_alloc w (.cells #[Value.int .i64 1, .int .i64 1, .int .i64 2, .int .i64 4] 3))
  clear hA
  go_wp2_with fail
  refine (lengths_any _ 4 4 [1, 1, 2, 4] 3 _ HA.out (by omega)).mono ?_
  rintro e w1 ⟨hb1, (⟨h, _⟩ | ⟨_, h, _⟩ | ⟨_, _, v1, rfl, own1⟩)⟩
  · rw [ex_ok.1] at h; cases h
  · rw [ex_ok.2.1] at h; cases h
  rw [show Mg.lensOf [1, 1, 2, 4] (3 : Int).toNat = [3, 3, 2, 1] from ex_three] at own1
  have HB2 := Lib.hid (below_then HB1.out hb1)
  have HO1 := Lib.hid own1
  have hz1 := HB2.out.size
  clear HA HB1 hb1 own1
  have hA := is_lit w1 [1, 1, 2, 4] 4 3 #[Value.int .i64 1, .int .i64 1, .int .i64 2, .int .i64 4] rfl rfl (wf_small (by decide))
  have HA := Lib.hid hA
  have HB3 := Lib.hid (HB2.out.alloc hz1 (.cells #[Value.int .i64 1, .int .i64 1, .int .i64 2, .int .i64 4] 3))
  have HO3 := Lib.hid (own_below HO1.out (below_alloc w1 (.cells #[Value.int .i64 1, .int .i64 1, .int .i64 2, .int .i64 4] 3)))
  clear hA HB2 HO1
  go_wp2_with fail
  refine (lengths_any _ 4 4 [1, 1, 2, 4] 2 _ HA.out (by omega)).mono ?_
  rintro e w2 ⟨hb2, (⟨h, _⟩ | ⟨_, h, _⟩ | ⟨_, _, v2, rfl, own2⟩)⟩
  · rw [ex_ok.1] at h; cases h
  · rw [ex_ok.2.2] at h; cases h
  rw [show Mg.lensOf [1, 1, 2, 4] (2 : Int).toNat = [2, 2, 2, 2] from ex_two] at own2
  have own1 := own_below HO3.out hb2
  obtain ⟨a1, c1, rfl, hi1⟩ := own_is own1 (wf_small (by decide))
  obtain ⟨a2, c2, rfl, hi2⟩ := own_is own2 (wf_small (by decide))
  have HB4 := Lib.hid (below_then HB3.out hb2)
  have hz2 := HB4.out.size
  have HL1 := Lib.hid (is_lit w2 [3, 3, 2, 1] 4 3 #[Value.int .i64 3, .int .i64 3, .int .i64 2, .int .i64 1] rfl rfl (wf_small (by decide)))
  have HI1 := Lib.hid (hi1.mono (below_alloc w2 (.cells #[Value.int .i64 3, .int .i64 3, .int .i64 2, .int .i64 1] 3)))
  have HI2 := Lib.hid (hi2.mono (below_alloc w2 (.cells #[Value.int .i64 3, .int .i64 3, .int .i64 2, .int .i64 1] 3)))
  have HB5 := Lib.hid (HB4.out.alloc hz2 (.cells #[Value.int .i64 3, .int .i64 3, .int .i64 2, .int .i64 1] 3))
  clear own1 own2 hi1 hi2 hb2 HB3 HO3 HA HB4
  have e4 : ([1, 1, 2, 4] : List Int).length = 4 := rfl
  rw [e4] at HI1 HI2 ⊢
  clear e4
  go_wp2_with fail
  refine (ints_any _ _ _ _ _ _ _ _ _ HI1.out HL1.out (by omega) (by omega)).mono ?_
  rintro e w3 ⟨rfl, dn, rfl⟩
  rw [show decide (([3, 3, 2, 1] : List Int) = [3, 3, 2, 1]) = true from decide_eq_true rfl]
  have hz5 := HB5.out.size
  have HB6 := Lib.hid (HB5.out.trans ((drewN_is _ dn).mono hz5))
  have HI3 := Lib.hid (HI2.out.mono (drewN_is _ dn))
  clear HI1 HL1 HI2 HB5 hz5
  revert HB6 HI3
  generalize World.drewN _ _ = w4
  intro HB6 HI3
  have hz6 := HB6.out.size
  have HL1 := Lib.hid (is_lit w4 [2, 2, 2, 2] 4 3 #[Value.int .i64 2, .int .i64 2, .int .i64 2, .int .i64 2] rfl rfl (wf_small (by decide)))
  have HI4 := Lib.hid (HI3.out.mono (below_alloc w4 (.cells #[Value.int .i64 2, .int .i64 2, .int .i64 2, .int .i64 2] 3)))
  have HB7 := Lib.hid (HB6.out.alloc hz6 (.cells #[Value.int .i64 2, .int .i64 2, .int .i64 2, .int .i64 2] 3))
  clear HI3 HB6
  go_wp2_with fail
  refine (ints_any _ _ _ _ _ _ _ _ _ HI4.out HL1.out (by omega) (by omega)).mono ?_
  rintro e w5 ⟨rfl, dn2, rfl⟩
  rw [show decide (([2, 2, 2, 2] : List Int) = [2, 2, 2, 2]) = true from decide_eq_true rfl]
  have hz7 := HB7.out.size
  have HB8 := Lib.hid (HB7.out.trans ((drewN_is _ dn2).mono hz7))
  go_wp2
  go_ret
  exact ⟨rfl, HB8.out⟩
end Go.Proofs.Ytcagdnajapcmkaa
