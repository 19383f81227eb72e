/- merge.areWithin, Cost; the document's Good; the law's cost and used: their contracts. -/
import Derived.Test.YtobmghppnlgjlaaNumInts
import Derived.Test.YtobmghppnlgjlaaMergeMath
namespace Go.Proofs.Ytobmghppnlgjlaa
open Go.RowKit

set_option maxHeartbeats 1000000 in
theorem within_any (a : Option Addr) (len cap : Nat) (l : List Int) (n : Nat) (t : Int) (w : World) (h : Is .i64 w a len cap l) (hr : len ≤ 140737488355328) (hn : n ≤ 1000000) (ht : 0 ≤ t ∧ t ≤ 1099511627776) :
    Calls Try.prog 24 #[.slice a len cap, .int .i64 n, .int .i64 t] w fun e w' => e = .returned (.bool (Mg.within l n t)) ∧ w = w' := by
  have HL := Lib.hid h.hlen
  have H := Lib.hid h
  clear h
  by_cases hbig : n < len
  · have d1 : decide ((n : Int) < (len : Int)) = true := by simp; omega
    have HX := Lib.hid (Mg.within_big l n t (by rw [HL.out]; exact hbig))
    go_enter Try.func24, Try.ntmps24
    go_wp2
    go_ret
    exact ⟨by rw [HX.out]; rfl, rfl⟩
  · have d1 : decide ((n : Int) < (len : Int)) = false := by simp; omega
    go_enter Try.func24, Try.ntmps24
    go_wp2
    go_loop [15] (fun i => ∃ k : Nat, k ≤ len ∧ i = .int .i64 k ∧ Hid (∀ j, j < k → 0 ≤ l.getD j 0 ∧ l.getD j 0 ≤ t)) (fun i => len - (intOf i).toNat)
    case atStart => exact ⟨0, by omega, rfl, Lib.hid (fun j hj => absurd hj (by omega))⟩
    case round =>
      obtain ⟨k, hk, rfl, HG⟩ := hrel
      by_cases hlt : k < len
      · obtain ⟨b, off, rfl, hb, hcell⟩ := H.out.at' k hlt
        have HB := Lib.hid (Mg.within_bad l n t k (by rw [HL.out]; exact hlt))
        have HG2 := Lib.hid (show 0 ≤ l.getD k 0 ∧ l.getD k 0 ≤ t → ∀ j, j < k + 1 → 0 ≤ l.getD j 0 ∧ l.getD j 0 ≤ t from fun hx j hj => by
          by_cases hjk : j < k
          · exact HG.out j hjk
          · obtain rfl : j = k := by omega
            exact hx)
        generalize l.getD k 0 = z at *
        by_cases hneg : z < 0
        · have dz : decide (z < 0) = true := by simpa using hneg
          have HX := Lib.hid (HB.out (.inl hneg))
          clear hneg
          go_wp2
          go_ret
          exact ⟨by rw [HX.out]; rfl, rfl⟩
        · have dz : decide (z < 0) = false := by simpa using hneg
          by_cases hhi : t < z
          · have dh : decide (t < z) = true := by simpa using hhi
            have HX := Lib.hid (HB.out (.inr hhi))
            clear hneg hhi
            go_wp2
            go_ret
            exact ⟨by rw [HX.out]; rfl, rfl⟩
          · have dh : decide (t < z) = false := by simpa using hhi
            have HG3 := Lib.hid (HG2.out ⟨by omega, by omega⟩)
            clear hneg hhi
            go_wp2
            go_round
            case rel => exact ⟨k + 1, by omega, by go_num, HG3⟩
            case measure => simp [intOf]; omega
      · obtain rfl : len = k := by omega
        have HX := Lib.hid (Mg.within_good l n t (by rw [HL.out]; omega) (fun j hj => HG.out j (by rw [HL.out] at hj; exact hj)))
        go_wp2
        go_ret
        exact ⟨by rw [HX.out]; rfl, rfl⟩
set_option maxHeartbeats 1000000 in
theorem good_any (a : Option Addr) (len cap : Nat) (l : List Int) (n : Nat) (w : World) (h : Is .i64 w a len cap l) (hr : len ≤ 140737488355328) (hn : n ≤ 1000000) :
    Calls Try.prog 10 #[.slice a len cap, .int .i64 n] w fun e w' => e = .returned (.bool (Mg.within l n 1099511627776)) ∧ w = w' := by
  have HL := Lib.hid h.hlen
  have H := Lib.hid h
  clear h
  by_cases hbig : n < len
  · have d1 : decide ((n : Int) < (len : Int)) = true := by simp; omega
    have HX := Lib.hid (Mg.within_big l n 1099511627776 (by rw [HL.out]; exact hbig))
    go_enter Try.func10, Try.ntmps10
    go_wp2
    go_ret
    exact ⟨by rw [HX.out]; rfl, rfl⟩
  · have d1 : decide ((n : Int) < (len : Int)) = false := by simp; omega
    go_enter Try.func10, Try.ntmps10
    go_wp2
    go_loop [5] (fun i => ∃ k : Nat, k ≤ len ∧ i = .int .i64 k ∧ Hid (∀ j, j < k → 0 ≤ l.getD j 0 ∧ l.getD j 0 ≤ 1099511627776)) (fun i => len - (intOf i).toNat)
    case atStart => exact ⟨0, by omega, rfl, Lib.hid (fun j hj => absurd hj (by omega))⟩
    case round =>
      obtain ⟨k, hk, rfl, HG⟩ := hrel
      by_cases hlt : k < len
      · obtain ⟨b, off, rfl, hb, hcell⟩ := H.out.at' k hlt
        have HB := Lib.hid (Mg.within_bad l n 1099511627776 k (by rw [HL.out]; exact hlt))
        have HG2 := Lib.hid (show 0 ≤ l.getD k 0 ∧ l.getD k 0 ≤ 1099511627776 → ∀ j, j < k + 1 → 0 ≤ l.getD j 0 ∧ l.getD j 0 ≤ 1099511627776 from fun hx j hj => by
          by_cases hjk : j < k
          · exact HG.out j hjk
          · obtain rfl : j = k := by omega
            exact hx)
        generalize l.getD k 0 = z at *
        by_cases hneg : z < 0
        · have dz : decide (z < 0) = true := by simpa using hneg
          have HX := Lib.hid (HB.out (.inl hneg))
          clear hneg
          go_wp2
          go_ret
          exact ⟨by rw [HX.out]; rfl, rfl⟩
        · have dz : decide (z < 0) = false := by simpa using hneg
          by_cases hhi : 1099511627776 < z
          · have dh : decide (1099511627776 < z) = true := by simpa using hhi
            have HX := Lib.hid (HB.out (.inr hhi))
            clear hneg hhi
            go_wp2
            go_ret
            exact ⟨by rw [HX.out]; rfl, rfl⟩
          · have dh : decide (1099511627776 < z) = false := by simpa using hhi
            have HG3 := Lib.hid (HG2.out ⟨by omega, by omega⟩)
            clear hneg hhi
            go_wp2
            go_round
            case rel => exact ⟨k + 1, by omega, by go_num, HG3⟩
            case measure => simp [intOf]; omega
      · obtain rfl : len = k := by omega
        have HX := Lib.hid (Mg.within_good l n 1099511627776 (by rw [HL.out]; omega) (fun j hj => HG.out j (by rw [HL.out] at hj; exact hj)))
        go_wp2
        go_ret
        exact ⟨by rw [HX.out]; rfl, rfl⟩
set_option maxHeartbeats 1000000 in
theorem used_any (a : Option Addr) (len cap : Nat) (l : List Int) (w : World) (h : Is .i64 w a len cap l) (hr : len ≤ 140737488355328) :
    Calls Try.prog 11 #[.slice a len cap] w fun e w' => e = .returned (.int .i64 (Mg.used l : Nat)) ∧ w = w' := by
  have HL := Lib.hid h.hlen
  have H := Lib.hid h
  clear h
  go_enter Try.func11, Try.ntmps11
  go_wp2
  go_loop [3, 8] (fun s i => ∃ k : Nat, k ≤ len ∧ i = .int .i64 k ∧ s = .int .i64 (Mg.used (l.take k) : Nat) ∧ Mg.used (l.take k) ≤ k) (fun _ i => len - (intOf i).toNat)
  case atStart => exact ⟨0, by omega, rfl, rfl, by simp [Mg.used]⟩
  case round =>
    obtain ⟨k, hk, rfl, rfl, hs⟩ := hrel
    by_cases hlt : k < len
    · obtain ⟨b, off, rfl, hb, hcell⟩ := H.out.at' k hlt
      have HS := Lib.hid (Mg.used_snoc l k (by rw [HL.out]; exact hlt))
      generalize Mg.used (l.take k) = s at *
      generalize l.getD k 0 = z at *
      by_cases hz : 0 < z
      · have dz : decide (0 < z) = true := by simpa using hz
        have HS2 := Lib.hid (HS.out.trans (by rw [if_pos hz]))
        clear hz HS
        go_wp2
        go_round
        case rel => exact ⟨k + 1, by omega, by go_num, int_eq (by rw [HS2.out]; omega), by rw [HS2.out]; omega⟩
        case measure => simp [intOf]; omega
      · have dz : decide (0 < z) = false := by simpa using hz
        have HS2 := Lib.hid (HS.out.trans (by rw [if_neg hz]))
        clear hz HS
        go_wp2
        go_round
        case rel => exact ⟨k + 1, by omega, by go_num, int_eq (by rw [HS2.out]; omega), by rw [HS2.out]; omega⟩
        case measure => simp [intOf]; omega
    · obtain rfl : len = k := by omega
      have hfull : l.take len = l := List.take_of_length_le (by rw [HL.out]; exact Nat.le_refl _)
      rw [hfull]
      go_wp2
      go_ret
      exact ⟨rfl, rfl⟩
set_option maxHeartbeats 1000000 in
theorem lawCost_any (a b : Option Addr) (len cap len' cap' : Nat) (l m : List Int) (w : World) (h : Is .i64 w a len cap l) (h' : Is .i64 w b len' cap' m) (hll : len ≤ len') (hr : len ≤ 300)
    (hl : ∀ k, k < len → 0 ≤ l.getD k 0 ∧ l.getD k 0 ≤ 1099511627776) (hm : ∀ k, k < len → 0 ≤ m.getD k 0 ∧ m.getD k 0 ≤ 16) (hr' : len' ≤ 140737488355328) :
    Calls Try.prog 16 #[.slice a len cap, .slice b len' cap'] w fun e w' => e = .returned (.int .i64 (Mg.dot l m len)) ∧ ∃ n, w' = w.drewN n := by
  have HD := Lib.hid (fun k (hk : k ≤ len) => Mg.dot_le l m k 1099511627776 16 (fun j hj => hl j (by omega)) (fun j hj => hm j (by omega)))
  have HE := Lib.hid (fun k (hk : k < len) => (show Mg.dot l m (k + 1) = Mg.dot l m k + l.getD k 0 * m.getD k 0 from rfl))
  have HP := Lib.hid (fun k (hk : k < len) => Mg.prod_le (hl k hk).1 (hl k hk).2 (hm k hk).1 (hm k hk).2)
  have H := Lib.hid h
  have H' := Lib.hid h'
  clear h h' hl hm
  go_enter Try.func16, Try.ntmps16
  go_wp2
  go_loopw [5, 9] (fun s i wr => ∃ k : Nat, k ≤ len ∧ i = .int .i64 k ∧ s = .int .i64 (Mg.dot l m k) ∧ ∃ n, wr = w.drewN n) (fun _ i _ => len - (intOf i).toNat)
  case atStart => exact ⟨0, by omega, rfl, rfl, 0, rfl⟩
  case round =>
    obtain ⟨k, hk, rfl, rfl, dn, rfl⟩ := hrel
    by_cases hlt : k < len
    · obtain ⟨b1, off1, rfl, _, c1⟩ := H.out.at' k hlt
      obtain ⟨b2, off2, rfl, _, c2⟩ := H'.out.at' k (by omega)
      have hp := HP.out k hlt
      have hd := HD.out k hk
      have HE2 := Lib.hid (HE.out k hlt)
      generalize Mg.dot l m k = s at *
      have e1 : w.cell? ⟨b1, off1 + k, none⟩ = some (.int .i64 (l.getD k 0)) := c1
      generalize l.getD k 0 = x at *
      generalize m.getD k 0 = y at *
      generalize hxy : x * y = p at *
      have HX := Lib.hid hxy
      clear e1
      go_wp2
      go_quiet (fail)
      go_wp2
      go_roundw
      case rel => exact ⟨k + 1, by omega, by go_num, int_eq (by rw [HE2.out]), _, rfl⟩
      case measure => simp [intOf]; omega
    · obtain rfl : len = k := by omega
      go_wp2
      go_ret
      exact ⟨rfl, _, rfl⟩
/-- May this cost be reckoned? -/
def Mg.costB (l m : List Int) : Bool := decide (l.length = m.length) && (Mg.within l 300 1099511627776 && Mg.within m 300 16)
def Mg.costV (l m : List Int) : Value := if Mg.costB l m = true then .tuple #[.int .i64 (Mg.dot l m l.length), .nilIface] else .tuple #[.int .i64 0, .iface 34 (.int .i64 6)]
set_option maxHeartbeats 1000000 in
theorem cost_any (a b : Option Addr) (len cap len' cap' : Nat) (l m : List Int) (w : World) (h : Is .i64 w a len cap l) (h' : Is .i64 w b len' cap' m) (hr : len ≤ 140737488355328) (hr' : len' ≤ 140737488355328) :
    Calls Try.prog 22 #[.slice a len cap, .slice b len' cap'] w fun e w' => e = .returned (Mg.costV l m) ∧ w = w' := by
  have HL := Lib.hid h.hlen
  have HM := Lib.hid h'.hlen
  have H := Lib.hid h
  have H' := Lib.hid h'
  clear h h'
  by_cases hne : len = len'
  · subst hne
    have dne : ((len : Int) != (len : Int)) = false := by simp
    cases h1 : Mg.within l 300 1099511627776
    · have HV := Lib.hid (show Mg.costV l m = .tuple #[.int .i64 0, .iface 34 (.int .i64 6)] by unfold Mg.costV Mg.costB; rw [h1]; simp)
      have H1 := Lib.hid h1
      clear h1
      go_enter Try.func22, Try.ntmps22
      go_wp2_with fail
      refine (within_any a len cap l 300 1099511627776 w H.out hr (by omega) (by omega)).mono ?_
      rintro e w' ⟨rfl, rfl⟩
      rw [H1.out]
      go_wp2
      go_ret2
      exact ⟨by rw [HV.out]; rfl, rfl⟩
    · cases h2 : Mg.within m 300 16
      · have HV := Lib.hid (show Mg.costV l m = .tuple #[.int .i64 0, .iface 34 (.int .i64 6)] by unfold Mg.costV Mg.costB; rw [h2]; simp)
        have H1 := Lib.hid h1
        have H2 := Lib.hid h2
        clear h1 h2
        go_enter Try.func22, Try.ntmps22
        go_wp2_with fail
        refine (within_any a len cap l 300 1099511627776 w H.out hr (by omega) (by omega)).mono ?_
        rintro e w' ⟨rfl, rfl⟩
        rw [H1.out]
        go_wp2_with fail
        refine (within_any b len cap' m 300 16 w H'.out hr (by omega) (by omega)).mono ?_
        rintro e w' ⟨rfl, rfl⟩
        rw [H2.out]
        go_wp2
        go_ret2
        exact ⟨by rw [HV.out]; rfl, rfl⟩
      · have HV := Lib.hid (show Mg.costV l m = .tuple #[.int .i64 (Mg.dot l m len), .nilIface] by unfold Mg.costV Mg.costB; rw [h1, h2, HL.out, HM.out]; simp)
        have h300 : len ≤ 300 := by have := Mg.within_len h1; rw [HL.out] at this; exact this
        have HD := Lib.hid (fun k (hk : k ≤ len) => Mg.dot_le l m k 1099511627776 16 (fun j hj => Mg.within_at h1 j (by rw [HL.out]; omega)) (fun j hj => Mg.within_at h2 j (by rw [HM.out]; omega)))
        have HP := Lib.hid (fun k (hk : k < len) => Mg.prod_le (Mg.within_at h1 k (by rw [HL.out]; omega)).1 (Mg.within_at h1 k (by rw [HL.out]; omega)).2 (Mg.within_at h2 k (by rw [HM.out]; omega)).1 (Mg.within_at h2 k (by rw [HM.out]; omega)).2)
        have H1 := Lib.hid h1
        have H2 := Lib.hid h2
        clear h1 h2
        have HE := Lib.hid (fun k (hk : k < len) => (show Mg.dot l m (k + 1) = Mg.dot l m k + l.getD k 0 * m.getD k 0 from rfl))
        go_enter Try.func22, Try.ntmps22
        go_wp2_with fail
        refine (within_any a len cap l 300 1099511627776 w H.out hr (by omega) (by omega)).mono ?_
        rintro e w' ⟨rfl, rfl⟩
        rw [H1.out]
        go_wp2_with fail
        refine (within_any b len cap' m 300 16 w H'.out hr (by omega) (by omega)).mono ?_
        rintro e w' ⟨rfl, rfl⟩
        rw [H2.out]
        go_wp2
        go_loop [6, 27] (fun s i => ∃ k : Nat, k ≤ len ∧ i = .int .i64 k ∧ s = .int .i64 (Mg.dot l m k)) (fun _ i => len - (intOf i).toNat)
        case atStart => exact ⟨0, by omega, rfl, rfl⟩
        case round =>
          obtain ⟨k, hk, rfl, rfl⟩ := hrel
          by_cases hlt : k < len
          · obtain ⟨b1, off1, rfl, _, c1⟩ := H.out.at' k hlt
            obtain ⟨b2, off2, rfl, _, c2⟩ := H'.out.at' k (by omega)
            have hp := HP.out k hlt
            have hd := HD.out k hk
            have HE2 := Lib.hid (HE.out k hlt)
            generalize Mg.dot l m k = s at *
            generalize l.getD k 0 = x at *
            generalize m.getD k 0 = y at *
            generalize hxy : x * y = p at *
            go_wp2
            go_round
            case rel => exact ⟨k + 1, by omega, by go_num, int_eq (by rw [HE2.out])⟩
            case measure => simp [intOf]; omega
          · obtain rfl : len = k := by omega
            go_wp2
            go_ret2
            exact ⟨by rw [HV.out]; rfl, rfl⟩
  · have dne : ((len : Int) != (len' : Int)) = true := by simp; omega
    have HV := Lib.hid (show Mg.costV l m = .tuple #[.int .i64 0, .iface 34 (.int .i64 6)] by
      unfold Mg.costV Mg.costB
      rw [decide_eq_false (by rw [HL.out, HM.out]; exact hne)]; simp)
    clear hne
    go_enter Try.func22, Try.ntmps22
    go_wp2
    go_ret2
    exact ⟨by rw [HV.out]; rfl, rfl⟩
end Go.Proofs.Ytobmghppnlgjlaa
