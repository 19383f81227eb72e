/- The law's first: the first pixel of a pass is the first one, and the second one the next. -/
import Derived.Test.YtkplopfbgaiegaaDoorLcRefPass
import Derived.Deep.LoopGhost
namespace Go.Proofs.YtkplopfbgaiegaaDoor
open Go.RowKit

namespace Lc
/-- No other one stands there. -/
def only (p a b c d : Nat) : Prop := (∀ x, x < c → x ≠ a → pt x b ≠ p) ∧ ∀ y, y < d → y ≠ b → pt a y ≠ p
set_option maxRecDepth 100000 in
set_option maxHeartbeats 2000000 in
theorem first_any (p a b c d : Nat) (h : only p a b c d) (hc : c ≤ 100) (hd : d ≤ 100) (w : World) :
    Calls Tryd.prog 14 #[.int .i64 (p : Nat), .int .i64 (a : Nat), .int .i64 (b : Nat), .int .i64 (c : Nat), .int .i64 (d : Nat)] w fun e w' => e = .returned (.bool true) ∧ Below w.heap.size w w' := by
  have HX := Lib.hid h.1
  have HY := Lib.hid h.2
  have HRF := Lib.hid (fun x y w => refPass_any x y w)
  clear h
  go_enter Tryd.func14, Tryd.ntmps14
  go_wp2
  go_loopg [14] c (fun gk v wr => ∃ k : Nat, k ≤ c ∧ gk = c - k ∧ v = .int .i64 (k : Nat) ∧ Hid (Below w.heap.size w wr))
  case atStart => exact ⟨0, by omega, by omega, rfl, Lib.hid (Below.refl _ _)⟩
  case round =>
    obtain ⟨k, hk, rfl, rfl, HB⟩ := hrel
    by_cases hlt : k < c
    · by_cases hka : k = a
      · subst hka
        go_wp2
        go_roundg (c - (k + 1))
        case measure => omega
        case rel => exact ⟨k + 1, by omega, rfl, by go_num, HB⟩
      · have dk : ((k : Int) != (a : Int)) = true := by simp; omega
        have hne := HX.out k hlt hka
        go_wp2_with fail
        refine (HRF.out k b _).mono ?_
        rintro e w2 ⟨rfl, hb2⟩
        have HB2 := Lib.hid (below_then HB.out hb2)
        generalize pt k b = z at *
        have dz : ((z : Int) == (p : Int)) = false := by simp; omega
        clear hb2 HB hne hka
        go_wp2
        go_roundg (c - (k + 1))
        case measure => omega
        case rel => exact ⟨k + 1, by omega, rfl, by go_num, HB2⟩
    · obtain rfl : k = c := by omega
      clear hlt
      go_wp2
      go_loopg [29] d (fun gk v wr => ∃ j : Nat, j ≤ d ∧ gk = d - j ∧ v = .int .i64 (j : Nat) ∧ Hid (Below w.heap.size w wr))
      case atStart => exact ⟨0, by omega, by omega, rfl, HB⟩
      case round =>
        clear HB
        obtain ⟨j, hj, rfl, rfl, HB⟩ := hrel
        by_cases hlt : j < d
        · by_cases hjb : j = b
          · subst hjb
            go_wp2
            go_roundg (d - (j + 1))
            case measure => omega
            case rel => exact ⟨j + 1, by omega, rfl, by go_num, HB⟩
          · have dk : ((j : Int) != (b : Int)) = true := by simp; omega
            have hne := HY.out j hlt hjb
            go_wp2_with fail
            refine (HRF.out a j _).mono ?_
            rintro e w2 ⟨rfl, hb2⟩
            have HB2 := Lib.hid (below_then HB.out hb2)
            generalize pt a j = z at *
            have dz : ((z : Int) == (p : Int)) = false := by simp; omega
            clear hb2 HB hne hjb
            go_wp2
            go_roundg (d - (j + 1))
            case measure => omega
            case rel => exact ⟨j + 1, by omega, rfl, by go_num, HB2⟩
        · obtain rfl : j = d := by omega
          clear hlt
          go_wp2
          go_ret
          exact ⟨rfl, HB.out⟩
end Lc
end Go.Proofs.YtkplopfbgaiegaaDoor
