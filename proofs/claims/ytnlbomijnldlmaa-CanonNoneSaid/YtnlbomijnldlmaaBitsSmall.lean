/- Package bits: the small functions' contracts. -/
import Derived.Test.YtnlbomijnldlmaaNum
import Derived.Test.YtnlbomijnldlmaaBitsMath
namespace Go.Proofs.Ytnlbomijnldlmaa
open Go.RowKit

theorem isCount_yes (n : Nat) (w : World) (h2 : n ≤ 32) : Calls Try.prog 57 #[.int .i64 n] w fun e w' => e = .returned (.bool true) ∧ w = w' := by
  have d1 : decide ((0 : Int) ≤ n) = true := by simp
  have d2 : decide ((n : Int) ≤ 32) = true := by simp; omega
  go_enter Try.func57, Try.ntmps57
  go_wp2
  go_ret
  exact ⟨rfl, rfl⟩
theorem isCount_no (n : Int) (w : World) (h : n < 0 ∨ 32 < n) : Calls Try.prog 57 #[.int .i64 n] w fun e w' => e = .returned (.bool false) ∧ w = w' := by
  by_cases h1 : 0 ≤ n
  · have d1 : decide (0 ≤ n) = true := by simpa using h1
    have d2 : decide (n ≤ 32) = false := by simp; omega
    clear h
    go_enter Try.func57, Try.ntmps57
    go_wp2
    go_ret
    exact ⟨rfl, rfl⟩
  · have d1 : decide (0 ≤ n) = false := by simpa using h1
    clear h
    go_enter Try.func57, Try.ntmps57
    go_wp2
    go_ret
    exact ⟨rfl, rfl⟩

theorem missing_any (n : Nat) (w : World) (h : n ≤ 1000000000000) : Calls Try.prog 51 #[.int .i64 n] w fun e w' => e = .returned (.int .i64 ((8 - n % 8) % 8 : Nat)) ∧ w = w' := by
  go_enter Try.func51, Try.ntmps51
  go_wp2
  go_ret
  exact ⟨ret_int (i64_and_neg7 n (by omega)), rfl⟩

theorem shift_any (h : Bool) (size fro some : Nat) (w : World) (hs : fro + some ≤ size) (h32 : size ≤ 64) :
    Calls Try.prog 59 #[.agg #[.bool h], .int .i64 size, .int .i64 fro, .int .i64 some] w fun e w' => e = .returned (.int .i64 (Bt.shf h size fro some : Nat)) ∧ w' = w.alloc (.cells #[.bool h] 92) := by
  cases h
  · go_enter Try.func59, Try.ntmps59
    go_wp2
    go_ret
    exact ⟨ret_int (by simp [Bt.shf]), rfl⟩
  · go_enter Try.func59, Try.ntmps59
    go_wp2
    go_ret
    exact ⟨ret_int (by simp [Bt.shf]; omega), rfl⟩
theorem fill_any (h : Bool) (n : Nat) (w : World) (hn : n ≤ 7) :
    Calls Try.prog 50 #[.agg #[.bool h], .int .i64 n] w fun e w' => e = .returned (.int .i64 (if h then 2 ^ n - 1 else 0 : Nat)) ∧ w' = w.alloc (.cells #[.bool h] 92) := by
  cases h
  · go_enter Try.func50, Try.ntmps50
    go_wp2
    go_ret
    exact ⟨ret_int (by simp), rfl⟩
  · go_enter Try.func50, Try.ntmps50
    go_wp2
    go_ret
    exact ⟨ret_int (by exact Bt.mask_wrap n (by omega)), rfl⟩
end Go.Proofs.Ytnlbomijnldlmaa
