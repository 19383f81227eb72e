/- inflate's symbols: which one a length and a distance have. -/
import Derived.Test.YtedncnaeojomcaaSym06h
namespace Go.Proofs.Ytedncnaeojomcaa
open Go.RowKit
namespace Sy
def LsPost (n : Int) (v : Value) : Prop := (¬ (3 ≤ n ∧ n ≤ 258) ∧ v = .tuple #[.int .i64 0, .bool false]) ∨ (n = 258 ∧ v = .tuple #[.int .i64 285, .bool true]) ∨
  (∃ a r : Nat, n = (a : Int) + 3 ∧ a < 255 ∧ Held a 4 r ∧ v = .tuple #[.int .i64 (257 + (r : Int)), .bool true])
def DsPost (n : Int) (v : Value) : Prop := (¬ (1 ≤ n ∧ n ≤ 32768) ∧ v = .tuple #[.int .i64 0, .bool false]) ∨
  (∃ a r : Nat, n = (a : Int) + 1 ∧ a < 32768 ∧ Held a 2 r ∧ v = .tuple #[.int .i64 (r : Int), .bool true])
theorem held_lt {a g r : Nat} (h : Held a g r) (hg : g = 2 ∨ g = 4) : r < 80 := by
  obtain ⟨e, rfl, h1, _, h2⟩ := h
  generalize a / 2 ^ e = q at *
  rcases hg with rfl | rfl <;> omega
end Sy
theorem lengthSymbol_any (n : Int) (w : World) (hw : (Lit.int .i64 n).wf = true) :
    Calls Try.prog 27 #[.int .i64 n] w fun e w' => (∃ v, Sy.LsPost n v ∧ e = .returned v) ∧ w = w' := by
  go_enter Try.func27, Try.ntmps27
  by_cases h1 : n < 3
  · have HP := Lib.hid (show Sy.LsPost n (.tuple #[.int .i64 0, .bool false]) from .inl ⟨by omega, rfl⟩)
    have d1 : decide (n < 3) = true := by simpa using h1
    go_wp2
    go_ret2
    exact ⟨⟨_, HP.out, rfl⟩, rfl⟩
  have d1 : decide (n < 3) = false := by simpa using h1
  by_cases h2 : 258 < n
  · have HP := Lib.hid (show Sy.LsPost n (.tuple #[.int .i64 0, .bool false]) from .inl ⟨by omega, rfl⟩)
    have d2 : decide (258 < n) = true := by simpa using h2
    go_wp2
    go_ret2
    exact ⟨⟨_, HP.out, rfl⟩, rfl⟩
  have d2 : decide (258 < n) = false := by simpa using h2
  obtain ⟨a, rfl⟩ : ∃ a : Nat, n = (a : Int) + 3 := ⟨(n - 3).toNat, by omega⟩
  by_cases h3 : a = 255
  · subst h3
    have HP := Lib.hid (show Sy.LsPost (((255 : Nat) : Int) + 3) (.tuple #[.int .i64 285, .bool true]) from .inr (.inl ⟨rfl, rfl⟩))
    go_wp2
    go_ret2
    exact ⟨⟨_, HP.out, rfl⟩, rfl⟩
  have d3 : ((a : Int) + 3 == 258) = false := by simp; omega
  have es : (a : Int) + 3 - 3 = (a : Int) := by omega
  go_wp2_with fail
  refine (holder_any a 4 w (by omega) (.inr rfl)).mono ?_
  rintro e w' ⟨⟨r, hr, rfl⟩, rfl⟩
  have hrl := Sy.held_lt hr (.inr rfl)
  have HP := Lib.hid (show Sy.LsPost ((a : Int) + 3) (.tuple #[.int .i64 (257 + (r : Int)), .bool true]) from .inr (.inr ⟨a, r, rfl, by omega, hr, rfl⟩))
  clear hr
  go_wp2
  go_ret2
  exact ⟨⟨_, HP.out, rfl⟩, rfl⟩
theorem distSymbol_any (n : Int) (w : World) (hw : (Lit.int .i64 n).wf = true) :
    Calls Try.prog 28 #[.int .i64 n] w fun e w' => (∃ v, Sy.DsPost n v ∧ e = .returned v) ∧ w = w' := by
  go_enter Try.func28, Try.ntmps28
  by_cases h1 : n < 1
  · have HP := Lib.hid (show Sy.DsPost n (.tuple #[.int .i64 0, .bool false]) from .inl ⟨by omega, rfl⟩)
    have d1 : decide (n < 1) = true := by simpa using h1
    go_wp2
    go_ret2
    exact ⟨⟨_, HP.out, rfl⟩, rfl⟩
  have d1 : decide (n < 1) = false := by simpa using h1
  by_cases h2 : 32768 < n
  · have HP := Lib.hid (show Sy.DsPost n (.tuple #[.int .i64 0, .bool false]) from .inl ⟨by omega, rfl⟩)
    have d2 : decide (32768 < n) = true := by simpa using h2
    go_wp2
    go_ret2
    exact ⟨⟨_, HP.out, rfl⟩, rfl⟩
  have d2 : decide (32768 < n) = false := by simpa using h2
  obtain ⟨a, rfl⟩ : ∃ a : Nat, n = (a : Int) + 1 := ⟨(n - 1).toNat, by omega⟩
  have es : (a : Int) + 1 - 1 = (a : Int) := by omega
  go_wp2_with fail
  refine (holder_any a 2 w (by omega) (.inl rfl)).mono ?_
  rintro e w' ⟨⟨r, hr, rfl⟩, rfl⟩
  have hrl := Sy.held_lt hr (.inl rfl)
  have HP := Lib.hid (show Sy.DsPost ((a : Int) + 1) (.tuple #[.int .i64 (r : Int), .bool true]) from .inr ⟨a, r, rfl, by omega, hr, rfl⟩)
  clear hr
  go_wp2
  go_ret2
  exact ⟨⟨_, HP.out, rfl⟩, rfl⟩
end Go.Proofs.Ytedncnaeojomcaa
