/- filter.Weight, the document's Weight: their contracts. -/
import Derived.Test.YtbgaaocgdjkkeaaDoorFlFore
namespace Go.Proofs.YtbgaaocgdjkkeaaDoor
open Go.RowKit

set_option maxHeartbeats 1000000 in
theorem refWeight_any (a : Option Addr) (n cap : Nat) (l : List UInt8) (w : World) (h : Bs w a n cap l) (hn : n ≤ 100000000) :
    Calls Tryd.prog 25 #[.slice a n cap] w fun e w' => e = .returned (.int .i64 (Fi.weight l : Nat)) ∧ w = w' := by
  have HLN := Lib.hid h.hlen
  have H := Lib.hid h
  clear h
  go_enter Tryd.func25, Tryd.ntmps25
  go_wp2
  go_loop [3, 4, 5] (fun s i _ => ∃ j : Nat, j ≤ n ∧ i = .int .i64 j ∧ s = .int .i64 (Fi.weight (l.take j) : Nat) ∧ Fi.weight (l.take j) ≤ 128 * j) (fun _ i _ => n - (intOf i).toNat)
  case atStart => exact ⟨0, by omega, rfl, rfl, by simp [Fi.weight]⟩
  case round =>
    obtain ⟨j, hj, rfl, rfl, hs⟩ := hrel
    by_cases hlt : j < n
    · obtain ⟨b, off, rfl, hb, c0⟩ := H.out.at' j hlt
      have HW := Lib.hid (Fi.weight_take l j (by rw [HLN.out]; exact hlt))
      have hgl := gb_lt l j
      generalize Fi.weight (l.take j) = s at *
      generalize gb l j = x at *
      have HWT : Hid (Fi.wt x = if 127 < x then 256 - x else x) := Lib.hid rfl
      by_cases h1 : 127 < x
      · have d1 : decide ((127 : Int) < (x : Int)) = true := by simp; omega
        have HE := Lib.hid (show ((Fi.weight (l.take (j + 1)) : Nat) : Int) = (s : Int) + (256 - x) by rw [HW.out, HWT.out, if_pos h1]; omega)
        have HE2 := Lib.hid (show Fi.weight (l.take (j + 1)) ≤ 128 * (j + 1) by rw [HW.out, HWT.out, if_pos h1]; omega)
        clear h1 HW HWT
        go_wp2
        go_round
        case rel => exact ⟨j + 1, by omega, by go_num, by rw [HE.out], HE2.out⟩
        case measure => simp [intOf]; omega
      · have d1 : decide ((127 : Int) < (x : Int)) = false := by simp; omega
        have HE := Lib.hid (show ((Fi.weight (l.take (j + 1)) : Nat) : Int) = (s : Int) + x by rw [HW.out, HWT.out, if_neg h1]; omega)
        have HE2 := Lib.hid (show Fi.weight (l.take (j + 1)) ≤ 128 * (j + 1) by rw [HW.out, HWT.out, if_neg h1]; omega)
        clear h1 HW HWT
        go_wp2
        go_round
        case rel => exact ⟨j + 1, by omega, by go_num, by rw [HE.out], HE2.out⟩
        case measure => simp [intOf]; omega
    · obtain rfl : n = j := by omega
      have HE := Lib.hid (show Fi.weight (l.take n) = Fi.weight l by rw [List.take_of_length_le (by rw [HLN.out]; exact Nat.le_refl _)])
      go_wp2
      go_ret
      exact ⟨by rw [← HE.out]; rfl, rfl⟩
theorem Fi.far_wt (x : Nat) (hx : x < 256) : Fi.far (if 127 < x then (x : Int) - 256 else x) 0 = (Fi.wt x : Nat) := by
  unfold Fi.far Fi.wt
  split <;> split <;> omega
set_option maxHeartbeats 1000000 in
theorem weight_any (a : Option Addr) (n cap : Nat) (l : List UInt8) (w : World) (h : Bs w a n cap l) (hn : n ≤ 140737488355328) :
    Calls Tryd.prog 32 #[.slice a n cap] w fun e w' => e = .returned (.int .i64 (Fi.weight l : Nat)) ∧ w = w' := by
  have HLN := Lib.hid h.hlen
  have H := Lib.hid h
  clear h
  go_enter Tryd.func32, Tryd.ntmps32
  go_wp2
  go_loop [3, 5, 8] (fun s _ i => ∃ j : Nat, j ≤ n ∧ i = .int .i64 j ∧ s = .int .i64 (Fi.weight (l.take j) : Nat) ∧ Fi.weight (l.take j) ≤ 128 * j) (fun _ _ i => n - (intOf i).toNat)
  case atStart => exact ⟨0, by omega, rfl, rfl, by simp [Fi.weight]⟩
  case round =>
    obtain ⟨j, hj, rfl, rfl, hs⟩ := hrel
    by_cases hlt : j < n
    · obtain ⟨b, off, rfl, hb, c0⟩ := H.out.at' j hlt
      have HW := Lib.hid (Fi.weight_take l j (by rw [HLN.out]; exact hlt))
      have hgl := gb_lt l j
      generalize Fi.weight (l.take j) = s at *
      generalize gb l j = x at *
      have hle := Fi.wt_le x hgl
      have HE := Lib.hid (show ((Fi.weight (l.take (j + 1)) : Nat) : Int) = (s : Int) + (Fi.wt x : Nat) by rw [HW.out]; omega)
      have HE2 := Lib.hid (show Fi.weight (l.take (j + 1)) ≤ 128 * (j + 1) by rw [HW.out]; omega)
      have hi8 : IntKind.i8.wrap (x : Int) = if 127 < x then (x : Int) - 256 else x := by
        have e1 : (x : Int) % 2 ^ 8 = x := by omega
        simp only [IntKind.wrap, IntKind.signed, IntKind.bits, e1, Bool.true_and, decide_eq_true_eq]
        by_cases h9 : 127 < x
        · rw [if_pos h9, if_pos (by omega)]; omega
        · rw [if_neg h9, if_neg (by omega)]
      have C := Lib.hid (fapart_any (if 127 < x then (x : Int) - 256 else x) 0 w (by split <;> omega) (by split <;> omega) (by omega))
      rw [show ((0 : Nat) : Int) = 0 from rfl, Fi.far_wt x hgl] at C
      obtain ⟨z, hz⟩ : ∃ z : Int, (if 127 < x then (x : Int) - 256 else x) = z := ⟨_, rfl⟩
      rw [hz] at C hi8
      have hz1 : -128 ≤ z := by rw [← hz]; split <;> omega
      have hz2 : z ≤ 127 := by rw [← hz]; split <;> omega
      clear hz
      generalize Fi.wt x = y at *
      clear HW
      go_wp2_with fail
      refine C.out.mono ?_
      rintro e w' ⟨rfl, rfl⟩
      go_wp2
      go_round
      case rel => exact ⟨j + 1, by omega, by go_num, by rw [HE.out], HE2.out⟩
      case measure => simp [intOf]; omega
    · obtain rfl : n = j := by omega
      have HE := Lib.hid (show Fi.weight (l.take n) = Fi.weight l by rw [List.take_of_length_le (by rw [HLN.out]; exact Nat.le_refl _)])
      go_wp2
      go_ret
      exact ⟨by rw [← HE.out]; rfl, rfl⟩
end Go.Proofs.YtbgaaocgdjkkeaaDoor
