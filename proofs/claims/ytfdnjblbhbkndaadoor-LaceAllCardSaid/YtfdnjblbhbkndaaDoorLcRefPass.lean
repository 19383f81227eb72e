/- burnishref15.Pass: its contract. -/
import Derived.Test.YtfdnjblbhbkndaaDoorProg
import Derived.Test.YtfdnjblbhbkndaaDoorLcMath
namespace Go.Proofs.YtfdnjblbhbkndaaDoor
open Go.RowKit

namespace Lc
theorem tmod8 (y : Nat) : ((y : Nat) : Int).tmod 8 = ((y % 8 : Nat) : Int) := by rw [Int.tmod_eq_emod_of_nonneg (by omega)]; omega
theorem dig (n t : Nat) (h : n = 48 + t) (ht : t < 10) : wrap64 (wrap64 (n : Int) - 48) = (t : Int) := by
  have e : wrap64 (n : Int) = (n : Int) := IntWalk.wrap64_in _ ⟨by omega, by omega⟩
  rw [e, IntWalk.wrap64_in _ ⟨by omega, by omega⟩]
  omega
set_option maxRecDepth 100000 in
set_option maxHeartbeats 4000000 in
theorem refPass_any (x y : Nat) (w : World) : Calls Tryd.prog 17 #[.int .i64 (x : Nat), .int .i64 (y : Nat)] w fun e w' => e = .returned (.int .i64 (pt x y : Nat)) ∧ Below w.heap.size w w' := by
  have e1 := tmod8 x
  have e2 := tmod8 y
  have ha : x % 8 < 8 := Nat.mod_lt _ (by omega)
  have hb : y % 8 < 8 := Nat.mod_lt _ (by omega)
  have HP : Hid (pt x y = (tab.getD (y % 8) []).getD (x % 8) 0) := Lib.hid rfl
  obtain ⟨p, hp⟩ : ∃ p, pt x y = p := ⟨_, rfl⟩
  rw [hp] at HP ⊢
  clear hp
  generalize x % 8 = a at *
  generalize y % 8 = b at *
  have hc : b = 0 ∨ b = 1 ∨ b = 2 ∨ b = 3 ∨ b = 4 ∨ b = 5 ∨ b = 6 ∨ b = 7 := by omega
  clear hb
  rcases hc with rfl | rfl | rfl | rfl | rfl | rfl | rfl | rfl
  all_goals
    go_enter Tryd.func17, Tryd.ntmps17
    go_wp2
    go_ret
    exact ⟨by rw [HP.out]; match a, ha with | 0, _ | 1, _ | 2, _ | 3, _ | 4, _ | 5, _ | 6, _ | 7, _ => exact ret_int (dig _ _ rfl (by decide)), below_alloc _ _⟩
end Lc
end Go.Proofs.YtfdnjblbhbkndaaDoor
