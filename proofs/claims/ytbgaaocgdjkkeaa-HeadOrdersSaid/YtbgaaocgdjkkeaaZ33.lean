/- burnishref12.Small, Letter, Named: their contracts. -/
import Derived.Test.YtbgaaocgdjkkeaaZ24
set_option linter.unusedSimpArgs false
set_option linter.unusedVariables false
section
namespace Go.Proofs.Ytbgaaocgdjkkeaa
open Go.RowKit

theorem refSmall_any (x : UInt8) (w : World) : Calls Try.prog 40 #[.int .u8 (x.toNat : Nat)] w fun e w' => e = .returned (.bool (Ck.small x)) ∧ w = w' := by
  have HS := Lib.hid (show Ck.small x = decide (97 ≤ x.toNat ∧ x.toNat ≤ 122) from rfl)
  generalize x.toNat = r at *
  by_cases h1 : 97 ≤ r
  · by_cases h2 : r ≤ 122
    · have d1 : decide (97 ≤ (r : Int)) = true := by simp; omega
      have d2 : decide ((r : Int) ≤ 122) = true := by simp; omega
      have HR := Lib.hid (show Ck.small x = true by rw [HS.out]; simp [h1, h2])
      clear h1 h2 HS
      go_enter Try.func40, Try.ntmps40
      go_wp2
      go_ret
      exact ⟨by rw [HR.out]; rfl, rfl⟩
    · have d1 : decide (97 ≤ (r : Int)) = true := by simp; omega
      have d2 : decide ((r : Int) ≤ 122) = false := by simp; omega
      have HR := Lib.hid (show Ck.small x = false by rw [HS.out]; simp [h1, h2])
      clear h1 h2 HS
      go_enter Try.func40, Try.ntmps40
      go_wp2
      go_ret
      exact ⟨by rw [HR.out]; rfl, rfl⟩
  · have d1 : decide (97 ≤ (r : Int)) = false := by simp; omega
    have HR := Lib.hid (show Ck.small x = false by rw [HS.out]; simp [h1])
    clear h1 HS
    go_enter Try.func40, Try.ntmps40
    go_wp2
    go_ret
    exact ⟨by rw [HR.out]; rfl, rfl⟩
theorem refLetter_any (x : UInt8) (w : World) : Calls Try.prog 87 #[.int .u8 (x.toNat : Nat)] w fun e w' => e = .returned (.bool (Ck.letter x)) ∧ w = w' := by
  have HU := Lib.hid (show Ck.upper x = decide (65 ≤ x.toNat ∧ x.toNat ≤ 90) from rfl)
  have HC := Lib.hid (refSmall_any x w)
  have HL := Lib.hid (show Ck.letter x = (Ck.small x || Ck.upper x) from rfl)
  generalize x.toNat = r at *
  cases hs : Ck.small x with
  | true =>
    have HS := Lib.hid hs
    clear hs
    go_enter Try.func87, Try.ntmps87
    go_wp2_with (go_at_call 40; refine HC.out.mono ?_; rintro e w' ⟨rfl, rfl⟩; rw [HS.out])
    go_ret
    exact ⟨by rw [HL.out, HS.out]; rfl, rfl⟩
  | false =>
    have HS := Lib.hid hs
    clear hs
    by_cases h1 : 65 ≤ r
    · by_cases h2 : r ≤ 90
      · have d1 : decide (65 ≤ (r : Int)) = true := by simp; omega
        have d2 : decide ((r : Int) ≤ 90) = true := by simp; omega
        have HR := Lib.hid (show Ck.upper x = true by rw [HU.out]; simp [h1, h2])
        clear h1 h2 HU
        go_enter Try.func87, Try.ntmps87
        go_wp2_with (go_at_call 40; refine HC.out.mono ?_; rintro e w' ⟨rfl, rfl⟩; rw [HS.out])
        go_ret
        exact ⟨by rw [HL.out, HS.out, HR.out]; rfl, rfl⟩
      · have d1 : decide (65 ≤ (r : Int)) = true := by simp; omega
        have d2 : decide ((r : Int) ≤ 90) = false := by simp; omega
        have HR := Lib.hid (show Ck.upper x = false by rw [HU.out]; simp [h1, h2])
        clear h1 h2 HU
        go_enter Try.func87, Try.ntmps87
        go_wp2_with (go_at_call 40; refine HC.out.mono ?_; rintro e w' ⟨rfl, rfl⟩; rw [HS.out])
        go_ret
        exact ⟨by rw [HL.out, HS.out, HR.out]; rfl, rfl⟩
    · have d1 : decide (65 ≤ (r : Int)) = false := by simp; omega
      have HR := Lib.hid (show Ck.upper x = false by rw [HU.out]; simp [h1])
      clear h1 HU
      go_enter Try.func87, Try.ntmps87
      go_wp2_with (go_at_call 40; refine HC.out.mono ?_; rintro e w' ⟨rfl, rfl⟩; rw [HS.out])
      go_ret
      exact ⟨by rw [HL.out, HS.out, HR.out]; rfl, rfl⟩
theorem refNamed_any (n : List UInt8) (w : World) (hn : n.length ≤ 140737488355328) : Calls Try.prog 67 #[.string (str n)] w fun e w' => e = .returned (.bool (Ck.named n)) ∧ w = w' := by
  have HS := Lib.hid (str_size n)
  by_cases h4 : n.length = 4
  · have d4 : ((((str n).size : Nat) : Int) != 4) = false := by rw [HS.out, h4]; rfl
    have H4 := Lib.hid h4
    have HZ : Hid ((str n).size = 4) := Lib.hid (by rw [HS.out, h4])
    clear h4
    go_enter Try.func67, Try.ntmps67
    go_wp2
    go_loop [3] (fun i => ∃ k : Nat, k ≤ 4 ∧ i = .int .i64 k ∧ Hid ((n.take k).all Ck.letter = true)) (fun i => 4 - (intOf i).toNat)
    case atStart => exact ⟨0, by omega, rfl, Lib.hid rfl⟩
    case round =>
      obtain ⟨k, hk, rfl, HA⟩ := hrel
      by_cases hlt : k < 4
      · have hkl : k < n.length := by rw [H4.out]; exact hlt
        have hx : ((str n)[k]'(by rw [HZ.out]; exact hlt)).toNat = (n.getD k 0).toNat := str_get n k (by rw [HZ.out]; exact hlt)
        have hsz : k < (str n).size := by rw [HZ.out]; exact hlt
        have HNX := Lib.hid (Ck.all_take_succ n k hkl HA.out)
        have HNO := Lib.hid (Ck.named_not n k hkl)
        have HC := Lib.hid (refLetter_any (n.getD k 0) w)
        have dlt : decide ((k : Int) < 4) = true := by simp; omega
        clear hkl
        generalize n.getD k 0 = x at *
        cases hl : Ck.letter x with
        | true =>
          have HL := Lib.hid hl
          clear hl
          go_wp2_with (go_at_call 87; refine HC.out.mono ?_; rintro e w' ⟨rfl, rfl⟩; rw [HL.out])
          go_round
          case rel => exact ⟨k + 1, by omega, by go_num, Lib.hid (HNX.out HL.out)⟩
          case measure => simp [intOf]; omega
        | false =>
          have HL := Lib.hid hl
          clear hl
          go_wp2_with (go_at_call 87; refine HC.out.mono ?_; rintro e w' ⟨rfl, rfl⟩; rw [HL.out])
          go_ret
          exact ⟨by rw [HNO.out HL.out]; rfl, rfl⟩
      · obtain rfl : k = 4 := by omega
        have HN := Lib.hid (Ck.named_of n (by rw [H4.out]; exact HA.out))
        go_wp2
        go_ret
        exact ⟨by rw [HN.out, H4.out]; rfl, rfl⟩
  · have d4 : ((((str n).size : Nat) : Int) != 4) = true := by rw [HS.out]; simp; omega
    have HN : Hid (Ck.named n = false) := Lib.hid (by rw [Ck.named, show (n.length == 4) = false by simp [h4]]; rfl)
    clear h4
    go_enter Try.func67, Try.ntmps67
    go_wp2
    go_ret
    exact ⟨by rw [HN.out]; rfl, rfl⟩
end Go.Proofs.Ytbgaaocgdjkkeaa
end
