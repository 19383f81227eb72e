/- merge.areWithin, Cost; the document's Good; the law's cost and used: their contracts. -/
import Derived.Test.YtcagdnajapcmkaaNumInts
import Derived.Test.YtcagdnajapcmkaaMergeMath
namespace Go.Proofs.Ytcagdnajapcmkaa
open Go.RowKit

set_option maxHeartbeats 1000000 in
theorem within_any (a : Option Addr) (len cap : Nat) (l : List Int) (n : Nat) (t : Int) (w : World) (h : Is .i64 w a len cap l) (hr : len ≤ 140737488355328) (hn : n ≤ 1000000) (ht : 0 ≤ t ∧ t ≤ 1099511627776) :
    Calls Try.prog 29 #[.slice a len cap, .int .i64 n, .int .i64 t] w fun e w' => e = .returned (.bool (Mg.within l n t)) ∧ w = w' := by
  have HL := Lib.hid h.hlen
  have H := Lib.hid h
  clear h
  by_cases hbig : n < len
  · have d1 : decide ((n : Int) < (len : Int)) = true := by simp; omega
    have HX := Lib.hid (Mg.within_big l n t (by rw [HL.out]; exact hbig))
    go_enter Try.func29, Try.ntmps29
    go_wp2
    go_ret
    exact ⟨by rw [HX.out]; rfl, rfl⟩
  · have d1 : decide ((n : Int) < (len : Int)) = false := by simp; omega
    go_enter Try.func29, Try.ntmps29
    go_wp2
    go_loop [15] (fun i => ∃ k : Nat, k ≤ len ∧ i = .int .i64 k ∧ Hid (∀ j, j < k → 0 ≤ l.getD j 0 ∧ l.getD j 0 ≤ t)) (fun i => len - (intOf i).toNat)
    case atStart => exact ⟨0, by omega, rfl, Lib.hid (fun j hj => absurd hj (by omega))⟩
    case round =>
      obtain ⟨k, hk, rfl, HG⟩ := hrel
      by_cases hlt : k < len
      · obtain ⟨b, off, rfl, hb, hcell⟩ := H.out.at' k hlt
        have HB := Lib.hid (Mg.within_bad l n t k (by rw [HL.out]; exact hlt))
        have HG2 := Lib.hid (show 0 ≤ l.getD k 0 ∧ l.getD k 0 ≤ t → ∀ j, j < k + 1 → 0 ≤ l.getD j 0 ∧ l.getD j 0 ≤ t from fun hx j hj => by
          by_cases hjk : j < k
          · exact HG.out j hjk
          · obtain rfl : j = k := by omega
            exact hx)
        generalize l.getD k 0 = z at *
        by_cases hneg : z < 0
        · have dz : decide (z < 0) = true := by simpa using hneg
          have HX := Lib.hid (HB.out (.inl hneg))
          clear hneg
          go_wp2
          go_ret
          exact ⟨by rw [HX.out]; rfl, rfl⟩
        · have dz : decide (z < 0) = false := by simpa using hneg
          by_cases hhi : t < z
          · have dh : decide (t < z) = true := by simpa using hhi
            have HX := Lib.hid (HB.out (.inr hhi))
            clear hneg hhi
            go_wp2
            go_ret
            exact ⟨by rw [HX.out]; rfl, rfl⟩
          · have dh : decide (t < z) = false := by simpa using hhi
            have HG3 := Lib.hid (HG2.out ⟨by omega, by omega⟩)
            clear hneg hhi
            go_wp2
            go_round
            case rel => exact ⟨k + 1, by omega, by go_num, HG3⟩
            case measure => simp [intOf]; omega
      · obtain rfl : len = k := by omega
        have HX := Lib.hid (Mg.within_good l n t (by rw [HL.out]; omega) (fun j hj => HG.out j (by rw [HL.out] at hj; exact hj)))
        go_wp2
        go_ret
        exact ⟨by rw [HX.out]; rfl, rfl⟩
set_option maxHeartbeats 1000000 in
theorem good_any (a : Option Addr) (len cap : Nat) (l : List Int) (n : Nat) (w : World) (h : Is .i64 w a len cap l) (hr : len ≤ 140737488355328) (hn : n ≤ 1000000) :
    Calls Try.prog 11 #[.slice a len cap, .int .i64 n] w fun e w' => e = .returned (.bool (Mg.within l n 1099511627776)) ∧ w = w' := by
  have HL := Lib.hid h.hlen
  have H := Lib.hid h
  clear h
  by_cases hbig : n < len
  · have d1 : decide ((n : Int) < (len : Int)) = true := by simp; omega
    have HX := Lib.hid (Mg.within_big l n 1099511627776 (by rw [HL.out]; exact hbig))
    go_enter Try.func11, Try.ntmps11
    go_wp2
    go_ret
    exact ⟨by rw [HX.out]; rfl, rfl⟩
  · have d1 : decide ((n : Int) < (len : Int)) = false := by simp; omega
    go_enter Try.func11, Try.ntmps11
    go_wp2
    go_loop [5] (fun i => ∃ k : Nat, k ≤ len ∧ i = .int .i64 k ∧ Hid (∀ j, j < k → 0 ≤ l.getD j 0 ∧ l.getD j 0 ≤ 1099511627776)) (fun i => len - (intOf i).toNat)
    case atStart => exact ⟨0, by omega, rfl, Lib.hid (fun j hj => absurd hj (by omega))⟩
    case round =>
      obtain ⟨k, hk, rfl, HG⟩ := hrel
      by_cases hlt : k < len
      · obtain ⟨b, off, rfl, hb, hcell⟩ := H.out.at' k hlt
        have HB := Lib.hid (Mg.within_bad l n 1099511627776 k (by rw [HL.out]; exact hlt))
        have HG2 := Lib.hid (show 0 ≤ l.getD k 0 ∧ l.getD k 0 ≤ 1099511627776 → ∀ j, j < k + 1 → 0 ≤ l.getD j 0 ∧ l.getD j 0 ≤ 1099511627776 from fun hx j hj => by
          by_cases hjk : j < k
          · exact HG.out j hjk
          · obtain rfl : j = k := by omega
            exact hx)
        generalize l.getD k 0 = z at *
        by_cases hneg : z < 0
        · have dz : decide (z < 0) = true := by simpa using hneg
          have HX := Lib.hid (HB.out (.inl hneg))
          clear hneg
          go_wp2
          go_ret
          exact ⟨by rw [HX.out]; rfl, rfl⟩
        · have dz : decide (z < 0) = false := by simpa using hneg
          by_cases hhi : 1099511627776 < z
          · have dh : decide (1099511627776 < z) = true := by simpa using hhi
            have HX := Lib.hid (HB.out (.inr hhi))
            clear hneg hhi
            go_wp2
            go_ret
            exact ⟨by rw [HX.out]; rfl, rfl⟩
          · have dh : decide (1099511627776 < z) = false := by simpa using hhi
            have HG3 := Lib.hid (HG2.out ⟨by omega, by omega⟩)
            clear hneg hhi
            go_wp2
            go_round
            case rel => exact ⟨k + 1, by omega, by go_num, HG3⟩
            case measure => simp [intOf]; omega
      · obtain rfl : len = k := by omega
        have HX := Lib.hid (Mg.within_good l n 1099511627776 (by rw [HL.out]; omega) (fun j hj => HG.out j (by rw [HL.out] at hj; exact hj)))
        go_wp2
        go_ret
        exact ⟨by rw [HX.out]; rfl, rfl⟩
set_option maxHeartbeats 1000000 in
theorem used_any (a : Option Addr) (len cap : Nat) (l : List Int) (w : World) (h : Is .i64 w a len cap l) (hr : len ≤ 140737488355328) :
    Calls Try.prog 7 #[.slice a len cap] w fun e w' => e = .returned (.int .i64 (Mg.used l : Nat)) ∧ w = w' := by
  have HL := Lib.hid h.hlen
  have H := Lib.hid h
  clear h
  go_enter Try.func7, Try.ntmps7
  go_wp2
  go_loop [3, 8] (fun s i => ∃ k : Nat, k ≤ len ∧ i = .int .i64 k ∧ s = .int .i64 (Mg.used (l.take k) : Nat) ∧ Mg.used (l.take k) ≤ k) (fun _ i => len - (intOf i).toNat)
  case atStart => exact ⟨0, by omega, rfl, rfl, by simp [Mg.used]⟩
  case round =>
    obtain ⟨k, hk, rfl, rfl, hs⟩ := hrel
    by_cases hlt : k < len
    · obtain ⟨b, off, rfl, hb, hcell⟩ := H.out.at' k hlt
      have HS := Lib.hid (Mg.used_snoc l k (by rw [HL.out]; exact hlt))
      generalize Mg.used (l.take k) = s at *
      generalize l.getD k 0 = z at *
      by_cases hz : 0 < z
      · have dz : decide (0 < z) = true := by simpa using hz
        have HS2 := Lib.hid (HS.out.trans (by rw [if_pos hz]))
        clear hz HS
        go_wp2
        go_round
        case rel => exact ⟨k + 1, by omega, by go_num, int_eq (by rw [HS2.out]; omega), by rw [HS2.out]; omega⟩
        case measure => simp [intOf]; omega
      · have dz : decide (0 < z) = false := by simpa using hz
        have HS2 := Lib.hid (HS.out.trans (by rw [if_neg hz]))
        clear hz HS
        go_wp2
        go_round
        case rel => exact ⟨k + 1, by omega, by go_num, int_eq (by rw [HS2.out]; omega), by rw [HS2.out]; omega⟩
        case measure => simp [intOf]; omega
    · obtain rfl : len = k := by omega
      have hfull : l.take len = l := List.take_of_length_le (by rw [HL.out]; exact Nat.le_refl _)
      rw [hfull]
      go_wp2
      go_ret
      exact ⟨rfl, rfl⟩
end Go.Proofs.Ytcagdnajapcmkaa
