/- Package bits: the small functions' contracts. -/
import Derived.Test.YtkjdekaipphlpaaTyB
import Derived.Test.YtkjdekaipphlpaaBitsMath
namespace Go.Proofs.Ytkjdekaipphlpaa
open Go.RowKit

theorem isCount_yes (n : Nat) (w : World) (h2 : n ≤ 32) : Calls Try.prog 41 #[.int .i64 n] w fun e w' => e = .returned (.bool true) ∧ w = w' := by
  have d1 : decide ((0 : Int) ≤ n) = true := by simp
  have d2 : decide ((n : Int) ≤ 32) = true := by simp; omega
  go_enter Try.func41, Try.ntmps41
  go_wp2
  go_ret
  exact ⟨rfl, rfl⟩
theorem isCount_no (n : Int) (w : World) (h : n < 0 ∨ 32 < n) : Calls Try.prog 41 #[.int .i64 n] w fun e w' => e = .returned (.bool false) ∧ w = w' := by
  by_cases h1 : 0 ≤ n
  · have d1 : decide (0 ≤ n) = true := by simpa using h1
    have d2 : decide (n ≤ 32) = false := by simp; omega
    clear h
    go_enter Try.func41, Try.ntmps41
    go_wp2
    go_ret
    exact ⟨rfl, rfl⟩
  · have d1 : decide (0 ≤ n) = false := by simpa using h1
    clear h
    go_enter Try.func41, Try.ntmps41
    go_wp2
    go_ret
    exact ⟨rfl, rfl⟩

theorem missing_any (n : Nat) (w : World) (h : n ≤ 1000000000000) : Calls Try.prog 45 #[.int .i64 n] w fun e w' => e = .returned (.int .i64 ((8 - n % 8) % 8 : Nat)) ∧ w = w' := by
  go_enter Try.func45, Try.ntmps45
  go_wp2
  go_ret
  exact ⟨ret_int (i64_and_neg7 n (by omega)), rfl⟩

theorem shift_any (h : Bool) (size fro some : Nat) (w : World) (hs : fro + some ≤ size) (h32 : size ≤ 64) :
    Calls Try.prog 47 #[.agg #[.bool h], .int .i64 size, .int .i64 fro, .int .i64 some] w fun e w' => e = .returned (.int .i64 (Bt.shf h size fro some : Nat)) ∧ w' = w.alloc (.cells #[.bool h] 69) := by
  cases h
  · go_enter Try.func47, Try.ntmps47
    go_wp2
    go_ret
    exact ⟨ret_int (by simp [Bt.shf]), rfl⟩
  · go_enter Try.func47, Try.ntmps47
    go_wp2
    go_ret
    exact ⟨ret_int (by simp [Bt.shf]; omega), rfl⟩
end Go.Proofs.Ytkjdekaipphlpaa
