/- filter.rowOf, checkRolled: their contracts. -/
import Derived.Test.YtbgaaocgdjkkeaaDoorFlOf
import Derived.Test.YtbgaaocgdjkkeaaDoorFlRoll
namespace Go.Proofs.YtbgaaocgdjkkeaaDoor
open Go.RowKit

theorem rowOf_any (b off n cap s i A : Nat) (w : World) (hA : i * s = A) (h : A + s ≤ n) (hn : n ≤ cap) (hc : cap ≤ 140737488355328) (hs : 1 ≤ s) (hi : i ≤ 10000000) (hs2 : s ≤ 10000000) :
    Calls Tryd.prog 18 #[.slice (some ⟨b, off, none⟩) n cap, .int .i64 s, .int .i64 i] w fun e w' => e = .returned (.slice (some ⟨b, off + A, none⟩) s s) ∧ w = w' := by
  have e1 : (i : Int) * (s : Int) = (A : Int) := by rw [← hA]; simp
  have e2 : ((i : Int) + 1) * (s : Int) = (A : Int) + (s : Int) := by rw [Int.add_mul, e1]; simp
  obtain ⟨C, hC⟩ : ∃ C : Nat, (A : Int) + (s : Int) = (C : Int) := ⟨A + s, by simp⟩
  rw [hC] at e2
  have h1 : A ≤ C := by omega
  have h2 : C ≤ n := by omega
  have h3 : (C : Int) - (A : Int) = (s : Int) := by omega
  have h4 : ¬ (C = A) := by omega
  have HA := Lib.hid hA
  have HC := Lib.hid hC
  clear hA hC h
  go_enter Tryd.func18, Tryd.ntmps18
  go_wp2
  go_ret
  refine ⟨?_, rfl⟩
  show Ending.returned (.slice (some ⟨b, off + A, none⟩) (C - A) (C - A)) = _
  rw [show C - A = s by omega]
theorem Fi.drop_drop (l : List UInt8) (s i : Nat) : (l.drop (i * (s + 1))).drop (s + 1) = l.drop ((i + 1) * (s + 1)) := by
  rw [List.drop_drop, Nat.succ_mul]
theorem Fi.gb_drop (l : List UInt8) (o i : Nat) : gb (l.drop o) i = gb l (o + i) := by simp [gb, List.getD, List.getElem?_drop]
/-- The error of a number. -/
def Fi.eV (n : Nat) : Value := if n = 0 then .nilIface else .iface 38 (.int .i64 n)
set_option maxHeartbeats 2000000 in
theorem checkRolled_any (a : Option Addr) (n cap s c : Nat) (l : List UInt8) (w : World) (h : Bs w a n cap l) (hn : n ≤ 100000000) (hc : cap ≤ 140737488355328) (hs : 1 ≤ s) (hs2 : s ≤ 10000000) (hc2 : c ≤ 10000000) :
    Calls Tryd.prog 27 #[.slice a n cap, .int .i64 s, .int .i64 c] w fun e w' => e = .returned (Fi.eV (Fi.chkN l s c 0)) ∧ w = w' := by
  have HLN := Lib.hid h.hlen
  have H := Lib.hid h
  clear h
  go_enter Tryd.func27, Tryd.ntmps27
  go_wp2
  go_loop [0, 8] (fun v i => ∃ (k r cp : Nat) (ao : Option Addr), k ≤ c ∧ i = .int .i64 k ∧ v = .slice ao r cp ∧ cp ≤ cap ∧ r ≤ n ∧ Hid (r + k * (s + 1) = n) ∧ Hid (Bs w ao r cp (l.drop (k * (s + 1)))) ∧ Hid (Fi.chkN l s (c - k) k = Fi.chkN l s c 0)) (fun _ i => c - (intOf i).toNat)
  case atStart => exact ⟨0, n, cap, a, by omega, rfl, rfl, Nat.le_refl _, Nat.le_refl _, Lib.hid (by simp), Lib.hid (by rw [Nat.zero_mul, List.drop_zero]; exact H.out), Lib.hid rfl⟩
  case round =>
    obtain ⟨k, r, cp, ao, hk, rfl, rfl, hcp, hrn, HRK, HB, HE⟩ := hrel
    clear H
    by_cases hlt : k < c
    · have hstep : Fi.chkN l s (c - k) k = if l.length ≤ k * (s + 1) + s then 8 else if 4 < gb l (k * (s + 1)) then 2 else Fi.chkN l s (c - (k + 1)) (k + 1) := by
        rw [show c - k = (c - (k + 1)) + 1 by omega]; rfl
      have HST := Lib.hid (HE.out.symm.trans hstep)
      clear hstep HE
      by_cases h1 : r ≤ s
      · have d1 : decide (r ≤ s) = true := by simpa using h1
        have hx := HST.out
        rw [if_pos (by have := HRK.out; rw [HLN.out]; omega)] at hx
        have HX := Lib.hid hx
        clear hx h1 HST
        go_wp2
        go_ret
        exact ⟨by rw [HX.out]; rfl, rfl⟩
      · have d1 : decide (r ≤ s) = false := by simpa using h1
        have hr0 : 0 < r := by omega
        obtain ⟨b, off, rfl, hb, c0⟩ := HB.out.at' 0 hr0
        have hdr := HB.out.drop (s + 1) (by omega)
        have hgl := gb_lt l (k * (s + 1))
        rw [Fi.gb_drop, Nat.add_zero] at c0
        have HG := Lib.hid (goodKind_any (gb l (k * (s + 1)) : Nat) w)
        have hx := HST.out
        rw [if_neg (by have := HRK.out; rw [HLN.out]; omega)] at hx
        by_cases h4 : 4 < gb l (k * (s + 1))
        · rw [if_pos h4] at hx
          have HX := Lib.hid hx
          have hg2 : (decide (0 ≤ ((gb l (k * (s + 1)) : Nat) : Int)) && decide (((gb l (k * (s + 1)) : Nat) : Int) ≤ 4)) = false := by
            rw [show decide (((gb l (k * (s + 1)) : Nat) : Int) ≤ 4) = false by simp; omega, Bool.and_false]
          rw [hg2] at HG
          clear hg2 hx h4 h1 HST hdr
          generalize gb l (k * (s + 1)) = x at *
          go_wp2_with fail
          refine HG.out.mono ?_
          rintro e w' ⟨rfl, rfl⟩
          go_wp2
          go_ret
          exact ⟨by rw [HX.out]; rfl, rfl⟩
        · rw [if_neg h4] at hx
          have HX := Lib.hid hx.symm
          have hg2 : (decide (0 ≤ ((gb l (k * (s + 1)) : Nat) : Int)) && decide (((gb l (k * (s + 1)) : Nat) : Int) ≤ 4)) = true := by
            rw [show decide (((gb l (k * (s + 1)) : Nat) : Int) ≤ 4) = true by simp; omega, show decide (0 ≤ ((gb l (k * (s + 1)) : Nat) : Int)) = true by simp]; rfl
          rw [hg2] at HG
          have hle := HB.out.hle
          have hz : Hid (∀ ao, (¬ cp = s + 1 → ao = some ⟨b, off + (s + 1), none⟩) → Bs w ao (r - (s + 1)) (cp - (s + 1)) (l.drop ((k + 1) * (s + 1)))) := Lib.hid (fun ao h => by
            have := hdr ao h
            rwa [Fi.drop_drop] at this)
          have HRK2 : Hid ((r - (s + 1)) + (k + 1) * (s + 1) = n) := Lib.hid (by have := HRK.out; rw [Nat.succ_mul]; omega)
          clear hg2 hx h4 HST hdr HB HRK
          generalize gb l (k * (s + 1)) = x at *
          have hsr : s + 1 ≤ r := by omega
          clear h1
          go_wp2_with fail
          refine HG.out.mono ?_
          rintro e w' ⟨rfl, rfl⟩
          clear HG
          go_wp2
          go_round
          case rel => exact ⟨k + 1, r - (s + 1), cp - (s + 1), _, by omega, by go_num, rfl, by omega, by omega, HRK2, Lib.hid (hz.out _ (fun h => by first | rfl | simp [h])), HX⟩
          case measure => simp [intOf]; omega
    · obtain rfl : c = k := by omega
      have hx : (if c * (s + 1) < l.length then 2 else 0) = Fi.chkN l s c 0 := by
        have := HE.out
        rw [Nat.sub_self] at this
        exact this
      rw [HLN.out] at hx
      by_cases h0 : 0 < r
      · have d0 : decide (0 < r) = true := by simpa using h0
        rw [if_pos (by have := HRK.out; omega)] at hx
        have HX := Lib.hid hx.symm
        clear hx h0
        go_wp2
        go_ret
        exact ⟨by rw [HX.out]; rfl, rfl⟩
      · have d0 : decide (0 < r) = false := by simpa using h0
        rw [if_neg (by have := HRK.out; omega)] at hx
        have HX := Lib.hid hx.symm
        clear hx h0
        go_wp2
        go_ret
        exact ⟨by rw [HX.out]; rfl, rfl⟩
end Go.Proofs.YtbgaaocgdjkkeaaDoor
