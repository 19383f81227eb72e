import Derived.Test.YtaedajedjbgnbaaProg
import Derived.Test.YtaedajedjbgnbaaBase
namespace Go.Proofs.Ytaedajedjbgnbaa
open Go.RowKit

theorem refCrc_any (a : Option Addr) (len cap : Nat) (l : List UInt8) (w : World) (h : Bs w a len cap l) :
    Calls Try.prog 48 #[.slice a len cap] w fun e w' => e = .returned (.int .i64 (Crc.crc l)) ∧ w = w' := by
  have hc := h.hcap
  have hle := h.hle
  go_enter Try.func48, Try.ntmps48
  go_wp2
  go_loop [3, 4] (fun r i => ∃ k : Nat, k ≤ len ∧ i = .int .i64 k ∧ r = .int .u32 (Crc.run (l.take k))) (fun _ i => len - (intOf i).toNat)
  case atStart => exact ⟨0, by omega, rfl, rfl⟩
  case round =>
    obtain ⟨k, hk, rfl, rfl⟩ := hrel
    have hr := Crc.run_lt (l.take k)
    by_cases hlt : k < len
    · obtain ⟨b, off, rfl, hb, hcell⟩ := h.at' k hlt
      have hg := gb_lt l k
      go_wp2
      have hx : Crc.run (l.take k) ^^^ gb l k < 4294967296 := Nat.xor_lt_two_pow (n := 32) (by omega) (by omega)
      go_loop [3, 5] (fun r j => ∃ m : Nat, m ≤ 8 ∧ j = .int .i64 m ∧ r = .int .u32 (Crc.stN m (Crc.run (l.take k) ^^^ gb l k))) (fun _ j => 8 - (intOf j).toNat)
      case atStart => exact ⟨0, by omega, rfl, by rw [u32_xor_nat _ _ hr (by omega)]; rfl⟩
      case round =>
        obtain ⟨m, hm, rfl, rfl⟩ := hrel
        have hs := Crc.stN_lt hx m
        by_cases hm8 : m < 8
        · go_wp2
          all_goals
            go_round
            case rel => exact ⟨m + 1, by omega, by go_num, int_eq (by first | exact Crc.st_odd hs (by assumption) | exact Crc.st_even (by assumption))⟩
            case measure => simp [intOf]; omega
        · go_wp2
          obtain rfl : m = 8 := by omega
          go_round
          case rel => exact ⟨k + 1, by omega, by go_num, by rw [Crc.run_snoc l k (by rw [h.hlen]; exact hlt)]⟩
          case measure => simp [intOf]; omega
    · go_wp2
      go_ret
      obtain rfl : k = len := by omega
      exact ⟨ret_int (by rw [List.take_of_length_le (by rw [h.hlen]; exact Nat.le_refl _)]; unfold Crc.crc; have := Crc.run_lt l; omega), rfl⟩
end Go.Proofs.Ytaedajedjbgnbaa
