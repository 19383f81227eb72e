/- Package sample's small functions, and the document's Deep, Top: their contracts. -/
import Derived.Test.YtkjdekaipphlpaaSmMath
import Derived.Deep.QuietTactic
import Derived.BigQuiet
import Derived.Test.YtkjdekaipphlpaaDrewN
namespace Go.Proofs.Ytkjdekaipphlpaa
open Go.RowKit

namespace Sm
theorem goodDepth_any (d : Int) (w : World) : Calls Try.prog 26 #[.int .i64 d] w fun e w' => e = .returned (.bool (deep d)) ∧ w = w' := by
  by_cases h : deep d = true
  · obtain ⟨n, rfl, hn⟩ := deep_dp h
    rw [h]
    clear h
    rcases hn with rfl | rfl | rfl | rfl | rfl <;>
    · go_enter Try.func26, Try.ntmps26
      go_wp2
      go_ret
      exact ⟨rfl, rfl⟩
  · have h : deep d = false := by simpa using h
    obtain ⟨h1, h2, h3, h4, h5⟩ := deep_no h
    rw [h]
    have d1 : (d == 1) = false := by simpa using h1
    have d2 : (d == 2) = false := by simpa using h2
    have d3 : (d == 4) = false := by simpa using h3
    have d4 : (d == 8) = false := by simpa using h4
    have d5 : (d == 16) = false := by simpa using h5
    clear h h1 h2 h3 h4 h5
    go_enter Try.func26, Try.ntmps26
    go_wp2
    go_ret
    exact ⟨rfl, rfl⟩
theorem deep_any (d : Int) (w : World) : Calls Try.prog 21 #[.int .i64 d] w fun e w' => e = .returned (.bool (deep d)) ∧ w = w' := by
  by_cases h : deep d = true
  · obtain ⟨n, rfl, hn⟩ := deep_dp h
    rw [h]
    clear h
    rcases hn with rfl | rfl | rfl | rfl | rfl <;>
    · go_enter Try.func21, Try.ntmps21
      go_wp2
      go_ret
      exact ⟨rfl, rfl⟩
  · have h : deep d = false := by simpa using h
    obtain ⟨h1, h2, h3, h4, h5⟩ := deep_no h
    rw [h]
    have d1 : (d == 1) = false := by simpa using h1
    have d2 : (d == 2) = false := by simpa using h2
    have d3 : (d == 4) = false := by simpa using h3
    have d4 : (d == 8) = false := by simpa using h4
    have d5 : (d == 16) = false := by simpa using h5
    clear h h1 h2 h3 h4 h5
    go_enter Try.func21, Try.ntmps21
    go_wp2
    go_ret
    exact ⟨rfl, rfl⟩
theorem top_any {d : Nat} (hd : Dp d) (w : World) : Calls Try.prog 38 #[.int .i64 d] w fun e w' => e = .returned (.int .i64 (top d : Nat)) ∧ w = w' := by
  rcases hd with rfl | rfl | rfl | rfl | rfl <;>
  · go_enter Try.func38, Try.ntmps38
    go_wp2
    go_ret
    exact ⟨ret_int (by decide +kernel), rfl⟩
theorem factor_any {d : Nat} (hd : Dp d) (w : World) : Calls Try.prog 39 #[.int .i64 d] w fun e w' => e = .returned (.int .i64 (fac d : Nat)) ∧ w = w' := by
  have HF := Lib.hid (show fac d = 65535 / top d from rfl)
  have HT := Lib.hid (fun w => top_any hd w)
  have H6 : Hid (∀ w, Calls Try.prog 38 #[.int .i64 16] w fun e w' => e = .returned (.int .i64 65535) ∧ w = w') := Lib.hid (fun w => top_any (d := 16) (.inr (.inr (.inr (.inr rfl)))) w)
  have hp := top_pos hd
  have h1 : 1 ≤ top d := hp.1
  have h2 : top d ≤ 65535 := hp.2.1
  clear hp
  generalize top d = t at *
  go_enter Try.func39, Try.ntmps39
  have t0 : ((t : Int) == 0) = false := by simp; omega
  go_wp2_with fail
  refine (H6.out _).mono ?_
  rintro e w' ⟨rfl, rfl⟩
  go_wp2_with fail
  refine (HT.out _).mono ?_
  rintro e w' ⟨rfl, rfl⟩
  go_wp2
  go_ret
  exact ⟨ret_int (by rw [HF.out]; simp), rfl⟩
theorem missing_sm (n : Nat) (w : World) (h : n ≤ 1000000000000) : Calls Try.prog 29 #[.int .i64 n] w fun e w' => e = .returned (.int .i64 (mis n : Nat)) ∧ w = w' := by
  go_enter Try.func29, Try.ntmps29
  go_wp2
  go_ret
  exact ⟨ret_int (i64_and_neg7 n (by omega)), rfl⟩
theorem refTop_any {d : Nat} (hd : Dp d) (w : World) : Calls Try.prog 22 #[.int .i64 d] w fun e w' => e = .returned (.int .i64 (top d : Nat)) ∧ w = w' := by
  have hd16 := dp_le hd
  have HT := Lib.hid (show top d = 2 ^ d - 1 from rfl)
  clear hd
  go_enter Try.func22, Try.ntmps22
  go_wp2
  go_loop [3, 4] (fun x i => ∃ j : Nat, j ≤ d ∧ i = .int .i64 j ∧ x = .int .i64 (2 ^ j : Nat)) (fun _ i => d - (intOf i).toNat)
  case atStart => exact ⟨0, by omega, rfl, rfl⟩
  case round =>
    obtain ⟨j, hj, rfl, rfl⟩ := hrel
    have hp := Bt.pow_le j 16 (by omega)
    simp only [Nat.reducePow] at hp
    have hp0 : 0 < 2 ^ j := Nat.pow_pos (by omega)
    have HN := Lib.hid (show 2 ^ (j + 1) = 2 * 2 ^ j from by rw [Nat.pow_succ, Nat.mul_comm])
    by_cases hlt : j < d
    · generalize 2 ^ j = q at *
      go_wp2
      go_round
      case rel => exact ⟨j + 1, by omega, by go_num, int_eq (by rw [HN.out]; omega)⟩
      case measure => simp [intOf]; omega
    · obtain rfl : d = j := by omega
      generalize 2 ^ d = q at *
      go_wp2
      go_ret
      exact ⟨ret_int (by rw [HT.out]; omega), rfl⟩
end Sm
end Go.Proofs.Ytkjdekaipphlpaa
