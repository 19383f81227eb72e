/- The document's Adler sum: its contract. -/
import Derived.Test.YtbohhdakbgnaeaaProg
import Derived.Test.YtbohhdakbgnaeaaAdlerMath
namespace Go.Proofs.Ytbohhdakbgnaeaa
open Go.RowKit

set_option maxRecDepth 100000 in
theorem refAdler_any (a : Option Addr) (len cap : Nat) (l : List UInt8) (w : World) (h : Bs w a len cap l) :
    Calls Try.prog 18 #[.slice a len cap] w fun e w' => e = .returned (.int .i64 (Ad.adler l)) ∧ w = w' := by
  have hc := h.hcap
  have hle := h.hle
  have HL := Lib.hid h.hlen
  go_enter Try.func18, Try.ntmps18
  go_wp2
  go_loop [3, 4, 5] (fun x y i => ∃ k : Nat, k ≤ len ∧ i = .int .i64 k ∧ x = .int .i64 (Ad.A l k) ∧ y = .int .i64 (Ad.B l k)) (fun _ _ i => len - (intOf i).toNat)
  case atStart => exact ⟨0, by omega, rfl, by rw [Ad.A_zero]; rfl, by rw [Ad.B_zero]; rfl⟩
  case round =>
    obtain ⟨k, hk, rfl, rfl, rfl⟩ := hrel
    have ha : ((Ad.A l k : Nat) : Int) ≤ 65520 := by have := Ad.A_lt l k; omega
    have hb : ((Ad.B l k : Nat) : Int) ≤ 65520 := by have := Ad.B_lt l k; omega
    by_cases hlt : k < len
    · obtain ⟨b, off, rfl, hbb, hcell⟩ := h.at' k hlt
      have hg := gb_lt l k
      have HA := Lib.hid (Ad.A_succ l k (by rw [HL.out]; exact hlt))
      have HB := Lib.hid (Ad.B_succ l k (by rw [HL.out]; exact hlt))
      by_cases h1 : (65521 : Int) ≤ ↑(Ad.A l k) + ↑(gb l k)
      · have d1 : decide ((65521 : Int) ≤ ↑(Ad.A l k) + ↑(gb l k)) = true := by simpa using h1
        have H1 := Lib.hid h1
        clear h1
        by_cases h2 : (65521 : Int) ≤ ↑(Ad.B l k) + (↑(Ad.A l k) + ↑(gb l k) - 65521)
        · have d2 : decide ((65521 : Int) ≤ ↑(Ad.B l k) + (↑(Ad.A l k) + ↑(gb l k) - 65521)) = true := by simpa using h2
          have H2 := Lib.hid h2
          clear h2
          go_wp2
          have h1 := H1.out; have h2 := H2.out
          go_round
          case rel => exact ⟨k + 1, by omega, by go_num, int_eq (by rw [HA.out]; omega), int_eq (by rw [HB.out, HA.out]; omega)⟩
          case measure => simp [intOf]; omega
        · have d2 : decide ((65521 : Int) ≤ ↑(Ad.B l k) + (↑(Ad.A l k) + ↑(gb l k) - 65521)) = false := by simpa using h2
          have H2 := Lib.hid h2
          clear h2
          go_wp2
          have h1 := H1.out; have h2 := H2.out
          go_round
          case rel => exact ⟨k + 1, by omega, by go_num, int_eq (by rw [HA.out]; omega), int_eq (by rw [HB.out, HA.out]; omega)⟩
          case measure => simp [intOf]; omega
      · have d1 : decide ((65521 : Int) ≤ ↑(Ad.A l k) + ↑(gb l k)) = false := by simpa using h1
        have H1 := Lib.hid h1
        clear h1
        by_cases h2 : (65521 : Int) ≤ ↑(Ad.B l k) + (↑(Ad.A l k) + ↑(gb l k))
        · have d2 : decide ((65521 : Int) ≤ ↑(Ad.B l k) + (↑(Ad.A l k) + ↑(gb l k))) = true := by simpa using h2
          have H2 := Lib.hid h2
          clear h2
          go_wp2
          have h1 := H1.out; have h2 := H2.out
          go_round
          case rel => exact ⟨k + 1, by omega, by go_num, int_eq (by rw [HA.out]; omega), int_eq (by rw [HB.out, HA.out]; omega)⟩
          case measure => simp [intOf]; omega
        · have d2 : decide ((65521 : Int) ≤ ↑(Ad.B l k) + (↑(Ad.A l k) + ↑(gb l k))) = false := by simpa using h2
          have H2 := Lib.hid h2
          clear h2
          go_wp2
          have h1 := H1.out; have h2 := H2.out
          go_round
          case rel => exact ⟨k + 1, by omega, by go_num, int_eq (by rw [HA.out]; omega), int_eq (by rw [HB.out, HA.out]; omega)⟩
          case measure => simp [intOf]; omega
    · go_wp2
      go_ret
      exact ⟨ret_int (by rw [← Ad.adler_of l k (by rw [HL.out]; omega)]; omega), rfl⟩
end Go.Proofs.Ytbohhdakbgnaeaa
