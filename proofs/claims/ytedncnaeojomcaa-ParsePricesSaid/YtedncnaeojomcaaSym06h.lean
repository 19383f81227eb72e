/- inflate.holder: which symbol holds a number. -/
import Derived.Test.YtedncnaeojomcaaSym06p
namespace Go.Proofs.Ytedncnaeojomcaa
open Go.RowKit
namespace Sy
/-- Which symbol holds a number: by its leading bits. -/
def Held (a g r : Nat) : Prop := ∃ e, r = e * g + a / 2 ^ e ∧ a / 2 ^ e < 2 * g ∧ (e = 0 ∨ g ≤ a / 2 ^ e) ∧ e ≤ 15
theorem div_next (a e : Nat) : a / 2 ^ (e + 1) = a / 2 ^ e / 2 := by rw [Nat.pow_succ, Nat.div_div_eq_div_mul]
theorem div_small (a : Nat) (h : a < 32768) : a / 2 ^ 15 = 0 := by omega
end Sy
theorem holder_any (a g : Nat) (w : World) (ha : a < 32768) (hg : g = 2 ∨ g = 4) :
    Calls Try.prog 29 #[.int .i64 (a : Nat), .int .i64 (g : Nat)] w fun e w' => (∃ r, Sy.Held a g r ∧ e = .returned (.int .i64 (r : Nat))) ∧ w = w' := by
  go_enter Try.func29, Try.ntmps29
  go_wp2
  go_loop [5] (fun x => ∃ e : Nat, e ≤ 15 ∧ (e = 0 ∨ g ≤ a / 2 ^ e) ∧ x = .int .i64 (e : Nat)) (fun x => 15 - (intOf x).toNat)
  case atStart => exact ⟨0, by omega, .inl rfl, rfl⟩
  case round =>
    obtain ⟨e, he, hge, rfl⟩ := hrel
    have hqa : a / 2 ^ e ≤ a := Nat.div_le_self _ _
    have hqi : (a : Int) / 2 ^ e = ((a / 2 ^ e : Nat) : Int) := by simp
    have hnx := Sy.div_next a e
    have h15 : e = 15 → a / 2 ^ e = 0 := fun h => by subst h; exact Sy.div_small a ha
    by_cases hlt : a / 2 ^ e < 2 * g
    · have HH : Hid (Sy.Held a g (e * g + a / 2 ^ e)) := Lib.hid ⟨e, rfl, hlt, hge, he⟩
      have d0 : decide (2 * (g : Int) ≤ (a : Int) / 2 ^ e) = false := by rw [hqi]; simp; omega
      have hge' : 2 * g ≤ 8 := by omega
      generalize a / 2 ^ e = q at *
      have hm : (e : Int) * (g : Int) ≤ 60 ∧ 0 ≤ (e : Int) * (g : Int) := by rcases hg with rfl | rfl <;> omega
      have hc : ((e * g + q : Nat) : Int) = (e : Int) * (g : Int) + (q : Int) := by simp
      go_wp2
      go_ret
      exact ⟨⟨_, HH.out, by rw [hc]; rfl⟩, rfl⟩
    · have d0 : decide (2 * (g : Int) ≤ (a : Int) / 2 ^ e) = true := by rw [hqi]; simp; omega
      have he15 : e < 15 := by
        rcases Nat.lt_or_ge e 15 with h | h
        · exact h
        · have := h15 (by omega); omega
      have HR : Hid (g ≤ a / 2 ^ (e + 1)) := Lib.hid (by rw [hnx]; omega)
      clear hnx h15
      generalize a / 2 ^ e = q at *
      go_wp2
      go_round
      case rel => exact ⟨e + 1, by omega, .inr HR.out, by go_num⟩
      case measure => simp [intOf]; omega
end Go.Proofs.Ytedncnaeojomcaa
