/- sample.Widen, sample.Narrow, and the document's Narrow: their contracts. -/
import Derived.Test.YtkjdekaipphlpaaSmSmall
namespace Go.Proofs.Ytkjdekaipphlpaa
open Go.RowKit

namespace Sm
/-- What Widen answers. -/
def widV (n d : Int) : Value :=
  if deep d = true then (if inD d.toNat n = true then .tuple #[.int .i64 (n * fac d.toNat), .nilIface] else .tuple #[.int .i64 0, .iface 41 (.int .i64 7)])
  else .tuple #[.int .i64 0, .iface 41 (.int .i64 6)]
/-- What Narrow answers. -/
def narV (n d : Int) : Value :=
  if deep d = true ∧ fits n d.toNat = true then .tuple #[.int .i64 (n / fac d.toNat), .bool true] else .tuple #[.int .i64 0, .bool false]
theorem widen_any (n d : Int) (w : World) : Calls Try.prog 20 #[.int .i64 n, .int .i64 d] w fun e w' => e = .returned (widV n d) ∧ w = w' := by
  have HG := Lib.hid (fun w => goodDepth_any d w)
  by_cases hd : deep d = true
  rotate_left
  · have hv : widV n d = .tuple #[.int .i64 0, .iface 41 (.int .i64 6)] := if_neg hd
    have hd : deep d = false := by simpa using hd
    rw [hd] at HG
    rw [hv]
    clear hv hd
    go_enter Try.func20, Try.ntmps20
    go_wp2_with fail
    refine (HG.out _).mono ?_
    rintro e w' ⟨rfl, rfl⟩
    go_wp2
    go_ret2
    exact ⟨rfl, rfl⟩
  have hv0 : widV n d = if inD d.toNat n = true then .tuple #[.int .i64 (n * fac d.toNat), .nilIface] else .tuple #[.int .i64 0, .iface 41 (.int .i64 7)] := if_pos hd
  rw [hd] at HG
  obtain ⟨D, rfl, hD⟩ := deep_dp hd
  have HT := Lib.hid (fun w => top_any hD w)
  have HF := Lib.hid (fun w => factor_any hD w)
  have hft := fac_top hD
  have hfp := fac_pos hD
  have htp := top_pos hD
  rw [hv0, Int.toNat_natCast]
  clear hv0 hd
  by_cases h0 : n < 0
  · have d0 : decide (n < 0) = true := by simpa using h0
    have hi : ¬ inD D n = true := by unfold inD; simp; omega
    rw [if_neg hi]
    clear hi h0
    go_enter Try.func20, Try.ntmps20
    go_wp2_with fail
    refine (HG.out _).mono ?_
    rintro e w' ⟨rfl, rfl⟩
    go_wp2_with fail
    go_wp2
    go_ret2
    exact ⟨rfl, rfl⟩
  have d0 : decide (n < 0) = false := by simpa using h0
  obtain ⟨N, rfl⟩ := Int.eq_ofNat_of_zero_le (show 0 ≤ n by omega)
  by_cases h1 : N ≤ top D
  · have hi : inD D (N : Int) = true := by unfold inD; simp; omega
    rw [if_pos hi]
    have hm : N * fac D ≤ top D * fac D := Nat.mul_le_mul_right _ h1
    rw [Nat.mul_comm (top D), hft] at hm
    have em : (N : Int) * (fac D : Int) = ((N * fac D : Nat) : Int) := by simp
    have d1 : decide (top D < N) = false := by simp; omega
    have e1 : wrap64 ((N : Int) * (fac D : Int)) = (N : Int) * (fac D : Int) := IntWalk.wrap64_in _ ⟨by omega, by omega⟩
    clear hi h0 hft htp
    generalize top D = t at *
    generalize fac D = f at *
    clear em hm h1
    go_enter Try.func20, Try.ntmps20
    go_wp2_with fail
    refine (HG.out _).mono ?_
    rintro e w' ⟨rfl, rfl⟩
    go_wp2_with fail
    refine (HT.out _).mono ?_
    rintro e w' ⟨rfl, rfl⟩
    go_wp2_with fail
    refine (HF.out _).mono ?_
    rintro e w' ⟨rfl, rfl⟩
    go_wp2
    go_ret2
    exact ⟨by show Ending.returned (.tuple #[.int .i64 (wrap64 ((N : Int) * (f : Int))), .nilIface]) = _; rw [e1], rfl⟩
  · have hi : ¬ inD D (N : Int) = true := by unfold inD; simp; omega
    rw [if_neg hi]
    have d1 : decide (top D < N) = true := by simp; omega
    clear hi h0 hft
    generalize top D = t at *
    go_enter Try.func20, Try.ntmps20
    go_wp2_with fail
    refine (HG.out _).mono ?_
    rintro e w' ⟨rfl, rfl⟩
    go_wp2_with fail
    refine (HT.out _).mono ?_
    rintro e w' ⟨rfl, rfl⟩
    go_wp2
    go_ret2
    exact ⟨rfl, rfl⟩
theorem narrow_any (n d : Int) (w : World) : Calls Try.prog 23 #[.int .i64 n, .int .i64 d] w fun e w' => e = .returned (narV n d) ∧ w = w' := by
  have HG := Lib.hid (fun w => goodDepth_any d w)
  have H6 : Hid (∀ w, Calls Try.prog 38 #[.int .i64 16] w fun e w' => e = .returned (.int .i64 65535) ∧ w = w') := Lib.hid (fun w => top_any (d := 16) (.inr (.inr (.inr (.inr rfl)))) w)
  by_cases hd : deep d = true
  rotate_left
  · have hv : narV n d = .tuple #[.int .i64 0, .bool false] := if_neg (fun h => hd h.1)
    have hd : deep d = false := by simpa using hd
    rw [hd] at HG
    rw [hv]
    clear hv hd
    go_enter Try.func23, Try.ntmps23
    go_wp2_with fail
    refine (HG.out _).mono ?_
    rintro e w' ⟨rfl, rfl⟩
    go_wp2
    go_ret2
    exact ⟨rfl, rfl⟩
  have hv0 : narV n d = if fits n d.toNat = true then .tuple #[.int .i64 (n / fac d.toNat), .bool true] else .tuple #[.int .i64 0, .bool false] := by unfold narV; simp only [hd, true_and]
  rw [hd] at HG
  obtain ⟨D, rfl, hD⟩ := deep_dp hd
  have HF := Lib.hid (fun w => factor_any hD w)
  have hfp := fac_pos hD
  rw [hv0, Int.toNat_natCast]
  clear hv0 hd
  by_cases h0 : n < 0
  · have d0 : decide (n < 0) = true := by simpa using h0
    have hi : ¬ fits n D = true := by unfold fits; rw [decide_eq_false (by omega)]; simp
    rw [if_neg hi]
    clear hi h0
    go_enter Try.func23, Try.ntmps23
    go_wp2_with fail
    refine (HG.out _).mono ?_
    rintro e w' ⟨rfl, rfl⟩
    go_wp2
    go_ret2
    exact ⟨rfl, rfl⟩
  have d0 : decide (n < 0) = false := by simpa using h0
  obtain ⟨N, rfl⟩ := Int.eq_ofNat_of_zero_le (show 0 ≤ n by omega)
  clear h0
  by_cases h1 : 65535 < N
  · have d1 : decide ((65535 : Int) < (N : Int)) = true := by simp; omega
    have hi : ¬ fits (N : Int) D = true := by unfold fits; rw [decide_eq_false (p := (N : Int) ≤ 65535) (by omega)]; simp
    rw [if_neg hi]
    clear hi h1
    go_enter Try.func23, Try.ntmps23
    go_wp2_with fail
    refine (HG.out _).mono ?_
    rintro e w' ⟨rfl, rfl⟩
    go_wp2_with fail
    refine (H6.out _).mono ?_
    rintro e w' ⟨rfl, rfl⟩
    go_wp2
    go_ret2
    exact ⟨rfl, rfl⟩
  have d1 : decide ((65535 : Int) < (N : Int)) = false := by simp; omega
  have hfits : fits (N : Int) D = decide (N % fac D = 0) := by
    unfold fits
    rw [decide_eq_true (show (0 : Int) ≤ (N : Int) by omega), decide_eq_true (show (N : Int) ≤ 65535 by omega), Bool.true_and, Bool.true_and]
    have e : ((N : Int) % (fac D : Int)) = ((N % fac D : Nat) : Int) := by simp
    rw [e]
    congr 1
    exact propext ⟨fun h => by omega, fun h => by omega⟩
  rw [hfits]
  have f1 := hfp.1
  have f2 := hfp.2
  clear hfits hfp hD
  generalize fac D = f at *
  have f0 : ((f : Int) == 0) = false := by simp; omega
  have hN : N ≤ 65535 := by omega
  have HQ := Lib.hid (show N / f ≤ N from Nat.div_le_self _ _)
  have HE := Lib.hid (show (N : Int) / (f : Int) = ((N / f : Nat) : Int) by simp)
  have HME := Lib.hid (show (N : Int) % (f : Int) = ((N % f : Nat) : Int) by simp)
  clear h1
  by_cases hm : N % f = 0
  · rw [if_pos (by rw [decide_eq_true hm])]
    have dm : (((N : Int) % (f : Int)) != 0) = false := by rw [HME.out, hm]; rfl
    clear hm
    go_enter Try.func23, Try.ntmps23
    go_wp2_with fail
    refine (HG.out _).mono ?_
    rintro e w' ⟨rfl, rfl⟩
    go_wp2_with fail
    refine (H6.out _).mono ?_
    rintro e w' ⟨rfl, rfl⟩
    go_wp2_with fail
    refine (HF.out _).mono ?_
    rintro e w' ⟨rfl, rfl⟩
    go_wp2_with fail
    refine (HF.out _).mono ?_
    rintro e w' ⟨rfl, rfl⟩
    go_wp2
    go_ret2
    exact ⟨by
      show Ending.returned (.tuple #[.int .i64 (wrap64 ((N : Int) / (f : Int))), .bool true]) = _
      have hq := HQ.out
      rw [HE.out]
      clear HE HME
      generalize N / f = q at *
      rw [IntWalk.wrap64_in _ ⟨by omega, by omega⟩], rfl⟩
  · rw [if_neg (by rw [decide_eq_false hm]; simp)]
    have dm : (((N : Int) % (f : Int)) != 0) = true := by rw [HME.out]; simp; omega
    clear hm
    go_enter Try.func23, Try.ntmps23
    go_wp2_with fail
    refine (HG.out _).mono ?_
    rintro e w' ⟨rfl, rfl⟩
    go_wp2_with fail
    refine (H6.out _).mono ?_
    rintro e w' ⟨rfl, rfl⟩
    go_wp2_with fail
    refine (HF.out _).mono ?_
    rintro e w' ⟨rfl, rfl⟩
    go_wp2
    go_ret2
    exact ⟨rfl, rfl⟩
end Sm
end Go.Proofs.Ytkjdekaipphlpaa
