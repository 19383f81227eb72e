/- bits: order.fill. -/
import Derived.Test.YtkjdekaipphlpaaBitsSmall
namespace Go.Proofs.Ytkjdekaipphlpaa
open Go.RowKit
theorem fill_any (h : Bool) (n : Nat) (w : World) (hn : n ≤ 7) :
    Calls Try.prog 44 #[.agg #[.bool h], .int .i64 n] w fun e w' => e = .returned (.int .i64 (if h then 2 ^ n - 1 else 0 : Nat)) ∧ w' = w.alloc (.cells #[.bool h] 69) := by
  cases h
  · go_enter Try.func44, Try.ntmps44
    go_wp2
    go_ret
    exact ⟨ret_int (by simp), rfl⟩
  · go_enter Try.func44, Try.ntmps44
    go_wp2
    go_ret
    exact ⟨ret_int (by exact Bt.mask_wrap n (by omega)), rfl⟩
end Go.Proofs.Ytkjdekaipphlpaa
