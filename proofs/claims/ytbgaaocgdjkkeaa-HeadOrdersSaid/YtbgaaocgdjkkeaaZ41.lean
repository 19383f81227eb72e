/- The document's numbers out of bytes: the contract. -/
import Derived.Test.YtbgaaocgdjkkeaaZ17
import Derived.Test.YtbgaaocgdjkkeaaZ18
set_option linter.unusedSimpArgs false
set_option linter.unusedVariables false
section
namespace Go.Proofs.Ytbgaaocgdjkkeaa
open Go.RowKit

theorem refTake_form (a : Option Addr) (len cap : Nat) (size : Int) (w : World) (h : size < 1 ∨ 4 < size) :
    Calls Try.prog 68 #[.slice a len cap, .int .i64 size] w fun e w' => e = .returned (.tuple #[.int .i64 0, .int .i64 6]) ∧ w = w' := by
  by_cases h1 : size < 1
  · have d1 : decide (size < 1) = true := by simpa using h1
    clear h h1
    go_enter Try.func68, Try.ntmps68
    go_wp2
    go_ret2
    exact ⟨rfl, rfl⟩
  · have d1 : decide (size < 1) = false := by simpa using h1
    have d2 : decide (4 < size) = true := by simp; omega
    clear h h1
    go_enter Try.func68, Try.ntmps68
    go_wp2
    go_ret2
    exact ⟨rfl, rfl⟩
theorem refTake_end (a : Option Addr) (len cap s : Nat) (w : World) (h1 : 1 ≤ s) (h4 : s ≤ 4) (hl : len < s) :
    Calls Try.prog 68 #[.slice a len cap, .int .i64 s] w fun e w' => e = .returned (.tuple #[.int .i64 0, .int .i64 8]) ∧ w = w' := by
  have d1 : decide ((s : Int) < 1) = false := by simp; omega
  have d2 : decide (4 < (s : Int)) = false := by simp; omega
  have d3 : decide ((len : Int) < (s : Int)) = true := by simp; omega
  go_enter Try.func68, Try.ntmps68
  go_wp2
  go_ret2
  exact ⟨rfl, rfl⟩
theorem refTake_ok (a : Option Addr) (len cap s : Nat) (l : List UInt8) (w : World) (h : Bs w a len cap l) (h1 : 1 ≤ s) (h4 : s ≤ 4) (hl : s ≤ len) :
    Calls Try.prog 68 #[.slice a len cap, .int .i64 s] w fun e w' => e = .returned (.tuple #[.int .i64 (Pt.num (l.take s)), .int .i64 0]) ∧ w = w' := by
  have hc := h.hcap
  have hle := h.hle
  have HL := Lib.hid h.hlen
  have d1 : decide ((s : Int) < 1) = false := by simp; omega
  have d2 : decide (4 < (s : Int)) = false := by simp; omega
  have d3 : decide ((len : Int) < (s : Int)) = false := by simp; omega
  go_enter Try.func68, Try.ntmps68
  go_wp2
  go_loop [6, 7] (fun v i => ∃ k : Nat, k ≤ s ∧ i = .int .i64 k ∧ v = .int .i64 (Pt.num (l.take k))) (fun _ i => s - (intOf i).toNat)
  case atStart => exact ⟨0, by omega, rfl, rfl⟩
  case round =>
    obtain ⟨k, hk, rfl, rfl⟩ := hrel
    have hsm : ((Pt.num (l.take k) : Nat) : Int) < 4294967296 := by have := num_small l k (by omega); omega
    by_cases hlt : k < s
    · obtain ⟨b, off, rfl, hb, hcell⟩ := h.at' k (by omega)
      have hg := gb_lt l k
      have HT := Lib.hid (num_take l k (by rw [HL.out]; omega))
      go_wp2
      go_round
      case rel => exact ⟨k + 1, by omega, by go_num, int_eq (by rw [HT.out]; omega)⟩
      case measure => simp [intOf]; omega
    · obtain rfl : s = k := by omega
      go_wp2
      go_ret2
      exact ⟨rfl, rfl⟩
end Go.Proofs.Ytbgaaocgdjkkeaa
end
