/- The document's Lightest: its contract. -/
import Derived.Test.YtbgaaocgdjkkeaaDoorFlRefOf
import Derived.Test.YtbgaaocgdjkkeaaDoorFlWt
namespace Go.Proofs.YtbgaaocgdjkkeaaDoor
open Go.RowKit

set_option maxHeartbeats 2000000 in
theorem refLightest_any (ra : Option Addr) (n rcap : Nat) (l : List UInt8) (aa : Option Addr) (alen acap : Nat) (m : List UInt8) (p : Nat) (w : World)
    (hr : Bs w ra n rcap l) (ha : Bs w aa alen acap m) (hn : n ≤ 100000000) (hm : alen ≤ 100000000) (hp : 1 ≤ p) (hp8 : p ≤ 8) :
    Calls Tryd.prog 12 #[.slice ra n rcap, .slice aa alen acap, .int .i64 p] w fun e w' => e = .returned (.int .i64 (Fi.light l m p : Nat)) ∧ Below w.heap.size w w' := by
  have HF : Hid (∀ (k : Nat) W, Below w.heap.size w W → Calls Tryd.prog 26 #[.int .i64 k, .slice ra n rcap, .slice aa alen acap, .int .i64 p] W fun e w' => ∃ a c, e = .returned (.slice a n c) ∧ Hid (Bs w' a n c (Fi.flt (k : Nat) l m p)) ∧ Below W.heap.size W w') := Lib.hid (fun k W hb => (refFilter_any k ra n rcap l aa alen acap m p W (hr.mono hb) (ha.mono hb) hn hm hp hp8).mono (fun e w' h => by
    obtain ⟨v, rfl, h2, h3⟩ := h
    obtain ⟨a, c, rfl, h4⟩ := own_bs h2 (by omega)
    exact ⟨a, c, rfl, Lib.hid h4, h3⟩))
  clear hr ha
  go_enter Tryd.func12, Tryd.ntmps12
  go_wp2
  go_loopw [7, 8] (fun bv i wr => ∃ k b : Nat, k ≤ 4 ∧ b ≤ k ∧ i = .int .i64 ((k : Int) + 1) ∧ bv = .int .i64 b ∧ Hid (b = Fi.lightN l m p k) ∧ Hid (Below w.heap.size w wr)) (fun _ i _ => 5 - (intOf i).toNat)
  case atStart => exact ⟨0, 0, by omega, by omega, rfl, rfl, Lib.hid rfl, Lib.hid (Below.refl _ _)⟩
  case round =>
    obtain ⟨k, b, hk, hbk, rfl, rfl, HL, HB⟩ := hrel
    by_cases hk4 : k < 4
    · have d5 : decide ((k : Int) + 1 < 5) = true := by simp; omega
      have HS := Lib.hid (show Fi.lightN l m p (k + 1) = if Fi.weight (Fi.flt (k + 1 : Nat) l m p) < Fi.weight (Fi.flt (b : Nat) l m p) then k + 1 else b by rw [Fi.lightN, ← HL.out])
      have C1 := Lib.hid (HF.out (k + 1) wr HB.out)
      have hkc : ((k + 1 : Nat) : Int) = (k : Int) + 1 := by omega
      rw [hkc] at C1 HS
      generalize Fi.flt ((k : Int) + 1) l m p = F1 at *
      clear hkc HL
      go_wp2_with fail
      refine C1.out.mono ?_
      rintro e w2 ⟨a1, c1, rfl, hs1, hb2⟩
      have C2 := Lib.hid (refWeight_any a1 n c1 F1 w2 hs1.out hn)
      have HB2 := Lib.hid (below_then HB.out hb2)
      have C3 := Lib.hid (HF.out b w2 HB2.out)
      generalize Fi.flt (b : Nat) l m p = F2 at *
      clear hb2 hs1 C1 HB
      go_wp2_with fail
      refine C2.out.mono ?_
      rintro e w' ⟨rfl, rfl⟩
      clear C2
      go_wp2_with fail
      refine C3.out.mono ?_
      rintro e w3 ⟨a2, c2, rfl, hs2, hb3⟩
      have C4 := Lib.hid (refWeight_any a2 n c2 F2 w3 hs2.out hn)
      have HB3 := Lib.hid (below_then HB2.out hb3)
      clear hb3 hs2 C3 HB2
      go_wp2_with fail
      refine C4.out.mono ?_
      rintro e w' ⟨rfl, rfl⟩
      clear C4
      generalize Fi.weight F1 = t1 at *
      generalize Fi.weight F2 = t2 at *
      by_cases ht : t1 < t2
      · have d1 : decide (t1 < t2) = true := by simpa using ht
        have HS2 := HS.out
        rw [if_pos ht] at HS2
        have HS3 := Lib.hid HS2
        clear ht HS HS2
        go_wp2
        go_roundw
        case rel => exact ⟨k + 1, k + 1, by omega, by omega, by go_num, by go_num, Lib.hid HS3.out.symm, HB3⟩
        case measure => simp [intOf]; omega
      · have d1 : decide (t1 < t2) = false := by simpa using ht
        have HS2 := HS.out
        rw [if_neg ht] at HS2
        have HS3 := Lib.hid HS2
        clear ht HS HS2
        go_wp2
        go_roundw
        case rel => exact ⟨k + 1, b, by omega, by omega, by go_num, by go_num, Lib.hid HS3.out.symm, HB3⟩
        case measure => simp [intOf]; omega
    · have d5 : decide ((k : Int) + 1 < 5) = false := by simp; omega
      have hk6 : k = 4 := by omega
      have hz := HL.out
      rw [hk6] at hz
      have HZ := Lib.hid (show b = Fi.light l m p from hz)
      clear hz hk4 hk6 HL
      go_wp2
      go_ret
      exact ⟨by rw [← HZ.out]; rfl, HB.out⟩
end Go.Proofs.YtbgaaocgdjkkeaaDoor
