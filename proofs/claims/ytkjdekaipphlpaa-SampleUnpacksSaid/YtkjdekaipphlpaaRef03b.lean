/- The document's numbers of bits, bytes of bits and bits of bytes: their contracts. -/
import Derived.Test.YtkjdekaipphlpaaRefDigits
namespace Go.Proofs.Ytkjdekaipphlpaa
open Go.RowKit

theorem Bt.numH_take (l : List Bool) (k : Nat) (h : k < l.length) : Bt.numH (l.take (k + 1)) = 2 * Bt.numH (l.take k) + (l.getD k false).toNat := by
  rw [List.take_succ_eq_append_getElem h, Bt.numH_snoc]
  simp [List.getD, List.getElem?_eq_getElem h]
theorem Bt.numH_lt (l : List Bool) : Bt.numH l < 2 ^ l.length := by
  have := Bt.num_lt true l
  simpa [Bt.num] using this
theorem number_any (h : Bool) (a : Option Addr) (len cap : Nat) (l : List Bool) (w : World) (H : Is .i64 w a len cap (bi l)) (hl : len ≤ 32) :
    Calls Try.prog 37 #[.slice a len cap, .bool h] w fun e w' => e = .returned (.int .i64 (Bt.num h l : Nat)) ∧ w = w' := by
  have hlen : l.length = len := by have := H.hlen; rwa [bi_length] at this
  have HL := Lib.hid hlen
  clear hlen
  obtain ⟨r, hr⟩ : ∃ r, (if h then l else l.reverse) = r := ⟨_, rfl⟩
  have hrl : r.length = len := by rw [← hr]; split <;> simp [HL.out]
  have HR := Lib.hid hr
  have HRL := Lib.hid hrl
  clear hr hrl
  go_enter Try.func37, Try.ntmps37
  go_wp2
  go_loop [5, 6] (fun x i => ∃ j : Nat, j ≤ len ∧ i = .int .i64 j ∧ x = .int .i64 (Bt.numH (r.take j) : Nat)) (fun _ i => len - (intOf i).toNat)
  case atStart => exact ⟨0, by omega, rfl, rfl⟩
  case round =>
    obtain ⟨j, hj, rfl, rfl⟩ := hrel
    have hnl : Bt.numH (r.take j) < 4294967296 := by
      have h1 := Bt.numH_lt (r.take j)
      have h2 := Bt.pow_le (r.take j).length 32 (by rw [List.length_take, HRL.out]; omega)
      omega
    by_cases hlt : j < len
    · have HN := Lib.hid (Bt.numH_take r j (by rw [HRL.out]; exact hlt))
      cases h
      · obtain ⟨b, off, rfl, hb, hcell⟩ := H.at' (len - 1 - j) (by omega)
        rw [bi_getD, show l.getD (len - 1 - j) false = r.getD j false by
          rw [← HR.out]; simp only [Bool.false_eq_true, if_false, List.getD]; rw [List.getElem?_reverse (by rw [HL.out]; exact hlt), HL.out]] at hcell
        have hbt : (r.getD j false).toNat < 2 := Bool.toNat_lt _
        generalize (r.getD j false).toNat = t at *
        generalize Bt.numH (r.take j) = q at *
        have hidx : (len : Int) - 1 - j = ((len - 1 - j : Nat) : Int) := by omega
        generalize len - 1 - j = k at *
        go_wp2
        go_round
        case rel => exact ⟨j + 1, by omega, by go_num, int_eq (by rw [HN.out]; omega)⟩
        case measure => simp [intOf]; omega
      · obtain ⟨b, off, rfl, hb, hcell⟩ := H.at' j hlt
        rw [bi_getD, show l.getD j false = r.getD j false by rw [← HR.out]; rfl] at hcell
        have hbt : (r.getD j false).toNat < 2 := Bool.toNat_lt _
        generalize (r.getD j false).toNat = t at *
        generalize Bt.numH (r.take j) = q at *
        go_wp2
        go_round
        case rel => exact ⟨j + 1, by omega, by go_num, int_eq (by rw [HN.out]; omega)⟩
        case measure => simp [intOf]; omega
    · obtain rfl : len = j := by omega
      go_wp2
      go_ret
      exact ⟨ret_int (by rw [List.take_of_length_le (by rw [HRL.out]; exact Nat.le_refl _), Bt.num, HR.out]), rfl⟩
end Go.Proofs.Ytkjdekaipphlpaa
