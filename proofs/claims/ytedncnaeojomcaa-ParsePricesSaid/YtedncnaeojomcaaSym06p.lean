/- inflate's symbols: their bases, in words. -/
import Derived.Test.YtedncnaeojomcaaBase
import Derived.Test.YtedncnaeojomcaaProg
namespace Go.Proofs.Ytedncnaeojomcaa
open Go.RowKit
namespace Sy
def st (p g : Nat) : Nat × Nat := if p < g then (p, 0) else ((g + p % g) * 2 ^ (p / g - 1), p / g - 1)
end Sy
namespace Sy
/-- A length symbol's base and extra bits. -/
def lb (s : Nat) : Nat × Nat := if s = 28 then (258, 0) else (3 + (st s 4).1, (st s 4).2)
def db (s : Nat) : Nat × Nat := (1 + (st s 2).1, (st s 2).2)
def lbV (s : Int) : Value := if 257 ≤ s ∧ s ≤ 285 then .tuple #[.int .i64 ((lb (s - 257).toNat).1 : Nat), .int .i64 ((lb (s - 257).toNat).2 : Nat), .bool true] else .tuple #[.int .i64 0, .int .i64 0, .bool false]
def dbV (s : Int) : Value := if 0 ≤ s ∧ s ≤ 29 then .tuple #[.int .i64 ((db s.toNat).1 : Nat), .int .i64 ((db s.toNat).2 : Nat), .bool true] else .tuple #[.int .i64 0, .int .i64 0, .bool false]
theorem st_lt (p g : Nat) (hp : p < 30) (hg : g = 2 ∨ g = 4) : (st p g).1 ≤ 131072 ∧ (st p g).2 ≤ 14 := by
  unfold st
  split
  · exact ⟨by show p ≤ _; omega, by show 0 ≤ _; omega⟩
  · have hp2 : 2 ^ (p / g - 1) ≤ 2 ^ 14 := Nat.pow_le_pow_right (by omega) (by rcases hg with rfl | rfl <;> omega)
    exact ⟨Nat.mul_le_mul (show g + p % g ≤ 8 by rcases hg with rfl | rfl <;> omega) hp2, by rcases hg with rfl | rfl <;> (show _ / _ - 1 ≤ 14; omega)⟩
end Sy
end Go.Proofs.Ytedncnaeojomcaa
