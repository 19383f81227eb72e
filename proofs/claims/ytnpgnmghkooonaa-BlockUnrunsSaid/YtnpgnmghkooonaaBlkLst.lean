/- The first so many runs, as a list. -/
import Derived.Test.YtnpgnmghkooonaaBlkMath
namespace Go.Proofs.Ytnpgnmghkooonaa
open Go.RowKit

namespace Bl
/-- The first k. -/
def lst (f : Nat → Int × Int) (k : Nat) : List (Int × Int) := (List.range k).map f
theorem lst_next (f : Nat → Int × Int) (k : Nat) : lst f (k + 1) = lst f k ++ [f k] := by simp [lst, List.range_succ]
theorem lst_length (f : Nat → Int × Int) (k : Nat) : (lst f k).length = k := by simp [lst]
theorem lst_get (f : Nat → Int × Int) {k i : Nat} (h : i < k) : (lst f k).getD i (0, 0) = f i := by simp [lst, List.getD, h]
theorem unr_congr {f g : Nat → Int × Int} : ∀ {n : Nat}, (∀ k, k < n → f k = g k) → unr f n = unr g n
  | 0, _ => rfl
  | n + 1, h => by rw [unr, unr, unr_congr (n := n) (fun k hk => h k (by omega)), h n (by omega)]
end Bl
end Go.Proofs.Ytnpgnmghkooonaa
