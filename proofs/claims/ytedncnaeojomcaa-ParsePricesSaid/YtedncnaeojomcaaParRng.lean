/- Which prices are in range: parse.inRange, the document's within. -/
import Derived.Test.YtedncnaeojomcaaInts
namespace Go.Proofs.Ytedncnaeojomcaa
open Go.RowKit
namespace Pa
/-- All of them are in range. -/
def rng (l : List Int) : Bool := l.all fun x => decide (0 ≤ x ∧ x ≤ 1048576)
theorem rng_take {l : List Int} (h : ∀ i, i < l.length → 0 ≤ l.getD i 0 ∧ l.getD i 0 ≤ 1048576) : rng l = true := by
  unfold rng
  rw [List.all_eq_true]
  intro x hx
  obtain ⟨i, hi, rfl⟩ := List.getElem_of_mem hx
  have := h i hi
  rw [List.getD, List.getElem?_eq_getElem hi] at this
  exact decide_eq_true this
theorem rng_not {l : List Int} {i : Nat} (hi : i < l.length) (h : ¬ (0 ≤ l.getD i 0 ∧ l.getD i 0 ≤ 1048576)) : rng l = false := by
  cases hr : rng l with
  | false => rfl
  | true =>
    unfold rng at hr
    rw [List.all_eq_true] at hr
    have := of_decide_eq_true (hr l[i] (List.getElem_mem hi))
    rw [List.getD, List.getElem?_eq_getElem hi] at h
    exact absurd this h
theorem rng_get {l : List Int} (h : rng l = true) (i : Nat) : 0 ≤ l.getD i 0 ∧ l.getD i 0 ≤ 1048576 := by
  by_cases hi : i < l.length
  · unfold rng at h
    rw [List.all_eq_true] at h
    rw [List.getD, List.getElem?_eq_getElem hi]
    exact of_decide_eq_true (h l[i] (List.getElem_mem hi))
  · rw [List.getD, List.getElem?_eq_none (by omega)]
    exact ⟨Int.le_refl _, by show (0 : Int) ≤ 1048576; omega⟩
end Pa
set_option maxHeartbeats 1000000 in
theorem inRange_any (a : Option Addr) (len cap : Nat) (l : List Int) (m : Nat) (w : World) (h : Is .i64 w a len cap l) (hlen : len ≤ 281474976710656) :
    Calls Try.prog 26 #[.slice a len cap, .int .i64 (m : Nat)] w fun e w' => e = .returned (.bool (Pa.rng l && decide (len = m))) ∧ w = w' := by
  have H := Lib.hid h
  have HL := Lib.hid h.hlen
  clear h
  go_enter Try.func26, Try.ntmps26
  go_wp2
  go_loopw [9] (fun i wr => ∃ k : Nat, k ≤ len ∧ i = .int .i64 ((k : Nat) : Int) ∧ w = wr ∧ Hid (∀ j, j < k → 0 ≤ l.getD j 0 ∧ l.getD j 0 ≤ 1048576)) (fun i _ => len - (intOf i).toNat)
  case atStart => exact ⟨0, by omega, rfl, rfl, Lib.hid (fun j hj => by omega)⟩
  case round =>
    obtain ⟨k, hk, rfl, rfl, HK⟩ := hrel
    by_cases hlt : k < len
    · obtain ⟨b, off, rfl, _, hc⟩ := H.out.at' k hlt
      have dk : decide (k < len) = true := by simp; omega
      have HOK : Hid (0 ≤ l.getD k 0 ∧ l.getD k 0 ≤ 1048576 → ∀ j, j < k + 1 → 0 ≤ l.getD j 0 ∧ l.getD j 0 ≤ 1048576) := Lib.hid (fun h j hj => by
        rcases Nat.lt_or_ge j k with h' | h'
        · exact HK.out j h'
        · obtain rfl : j = k := by omega
          exact h)
      have HNO : Hid (¬ (0 ≤ l.getD k 0 ∧ l.getD k 0 ≤ 1048576) → Pa.rng l = false) := Lib.hid (fun h => Pa.rng_not (by rw [HL.out]; exact hlt) h)
      generalize l.getD k 0 = z at *
      by_cases h0 : z < 0
      · have d0 : decide (z < 0) = true := by simpa using h0
        have HF := Lib.hid (HNO.out (by omega))
        clear h0
        go_wp2
        go_ret
        exact ⟨by rw [HF.out]; rfl, rfl⟩
      · have d0 : decide (z < 0) = false := by simpa using h0
        by_cases h1 : 1048576 < z
        · have d1 : decide (1048576 < z) = true := by simpa using h1
          have HF := Lib.hid (HNO.out (by omega))
          clear h0 h1
          go_wp2
          go_ret
          exact ⟨by rw [HF.out]; rfl, rfl⟩
        · have d1 : decide (1048576 < z) = false := by simpa using h1
          have HK2 := Lib.hid (HOK.out ⟨by omega, by omega⟩)
          clear h0 h1
          go_wp2
          go_roundw
          case rel => exact ⟨k + 1, by omega, by go_num, trivial, HK2⟩
          case measure => simp [intOf]; omega
    · obtain rfl : len = k := by omega
      have HT : Hid (Pa.rng l = true) := Lib.hid (Pa.rng_take (fun i hi => HK.out i (by rw [← HL.out]; exact hi)))
      go_wp2
      go_ret
      refine ⟨?_, rfl⟩
      rw [HT.out, Bool.true_and, show decide (len = m) = (((len : Nat) : Int) == ((m : Nat) : Int)) by
        by_cases e : len = m
        · subst e; simp
        · rw [decide_eq_false e]; symm; simp; omega]
      rfl
set_option maxHeartbeats 1000000 in
theorem within_any (a : Option Addr) (len cap : Nat) (l : List Int) (w : World) (h : Is .i64 w a len cap l) (hlen : len ≤ 281474976710656) :
    Calls Try.prog 21 #[.slice a len cap] w fun e w' => e = .returned (.bool (Pa.rng l)) ∧ w = w' := by
  have H := Lib.hid h
  have HL := Lib.hid h.hlen
  clear h
  go_enter Try.func21, Try.ntmps21
  go_wp2
  go_loopw [3] (fun i wr => ∃ k : Nat, k ≤ len ∧ i = .int .i64 ((k : Nat) : Int) ∧ w = wr ∧ Hid (∀ j, j < k → 0 ≤ l.getD j 0 ∧ l.getD j 0 ≤ 1048576)) (fun i _ => len - (intOf i).toNat)
  case atStart => exact ⟨0, by omega, rfl, rfl, Lib.hid (fun j hj => by omega)⟩
  case round =>
    obtain ⟨k, hk, rfl, rfl, HK⟩ := hrel
    by_cases hlt : k < len
    · obtain ⟨b, off, rfl, _, hc⟩ := H.out.at' k hlt
      have dk : decide (k < len) = true := by simp; omega
      have HOK : Hid (0 ≤ l.getD k 0 ∧ l.getD k 0 ≤ 1048576 → ∀ j, j < k + 1 → 0 ≤ l.getD j 0 ∧ l.getD j 0 ≤ 1048576) := Lib.hid (fun h j hj => by
        rcases Nat.lt_or_ge j k with h' | h'
        · exact HK.out j h'
        · obtain rfl : j = k := by omega
          exact h)
      have HNO : Hid (¬ (0 ≤ l.getD k 0 ∧ l.getD k 0 ≤ 1048576) → Pa.rng l = false) := Lib.hid (fun h => Pa.rng_not (by rw [HL.out]; exact hlt) h)
      generalize l.getD k 0 = z at *
      by_cases h0 : z < 0
      · have d0 : decide (z < 0) = true := by simpa using h0
        have HF := Lib.hid (HNO.out (by omega))
        clear h0
        go_wp2
        go_ret
        exact ⟨by rw [HF.out]; rfl, rfl⟩
      · have d0 : decide (z < 0) = false := by simpa using h0
        by_cases h1 : 1048576 < z
        · have d1 : decide (1048576 < z) = true := by simpa using h1
          have HF := Lib.hid (HNO.out (by omega))
          clear h0 h1
          go_wp2
          go_ret
          exact ⟨by rw [HF.out]; rfl, rfl⟩
        · have d1 : decide (1048576 < z) = false := by simpa using h1
          have HK2 := Lib.hid (HOK.out ⟨by omega, by omega⟩)
          clear h0 h1
          go_wp2
          go_roundw
          case rel => exact ⟨k + 1, by omega, by go_num, trivial, HK2⟩
          case measure => simp [intOf]; omega
    · obtain rfl : len = k := by omega
      have HT : Hid (Pa.rng l = true) := Lib.hid (Pa.rng_take (fun i hi => HK.out i (by rw [← HL.out]; exact hi)))
      go_wp2
      go_ret
      exact ⟨by rw [HT.out]; rfl, rfl⟩
end Go.Proofs.Ytedncnaeojomcaa
