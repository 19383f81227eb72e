/- filter.foretold, filterTo, unfilterTo: their contracts. -/
import Derived.Test.YtbgaaocgdjkkeaaDoorFlFore
import Derived.Test.YtbgaaocgdjkkeaaDoorFlBk
namespace Go.Proofs.YtbgaaocgdjkkeaaDoor
open Go.RowKit

set_option maxHeartbeats 1000000 in
theorem foretold_any (k : Int) (ra : Option Addr) (n rcap : Nat) (l : List UInt8) (aa : Option Addr) (alen acap : Nat) (m : List UInt8) (i p : Nat) (w : World)
    (hr : Bs w ra n rcap l) (ha : Bs w aa alen acap m) (hi : i < n) (hp : 1 ≤ p) (hp8 : p ≤ 8) (hm : alen = 0 ∨ i < alen) (hn : n ≤ 140737488355328) :
    Calls Tryd.prog 37 #[.int .i64 k, .slice ra n rcap, .slice aa alen acap, .int .i64 i, .int .i64 p] w fun e w' => e = .returned (.int .u8 (Fi.pre k l m p i : Nat)) ∧ w = w' := by
  have HR := Lib.hid hr
  have HA := Lib.hid ha
  have HP : Hid (Fi.pre k l m p i = Fi.fo k (Fi.ba l ((i : Int) - p)) (gb m i) (Fi.ba m ((i : Int) - p))) := Lib.hid rfl
  have HF := Lib.hid (fun a b c ha hb hc => foretell_any k a b c w ha hb hc)
  have b1 := Fi.ba_lt l ((i : Int) - p)
  have b2 := gb_lt m i
  have b3 := Fi.ba_lt m ((i : Int) - p)
  have HCL := Lib.hid (HF.out _ _ _ b1 b2 b3)
  clear hr ha HF b1 b2 b3
  rw [← HP.out] at HCL
  have hrb := fun j (hj : j < n) => HR.out.at' j hj
  by_cases hpi : p ≤ i
  · obtain ⟨j, hj⟩ : ∃ j : Nat, (i : Int) - p = j := ⟨i - p, by omega⟩
    have hjn : j < n := by omega
    obtain ⟨b, off, rfl, hb, c0⟩ := HR.out.at' j hjn
    rw [hj, Fi.ba_nat, Fi.ba_nat] at HCL
    have d0 : decide (0 ≤ (j : Int)) = true := by simp
    clear hrb HR HP
    by_cases hal : alen = 0
    · subst hal
      have e1 : gb m i = 0 := Fi.gb_out (by rw [HA.out.hlen]; omega)
      have e2 : gb m j = 0 := Fi.gb_out (by rw [HA.out.hlen]; omega)
      rw [e1, e2] at HCL
      clear e1 e2 HA hm
      generalize gb l j = x at *
      go_enter Tryd.func37, Tryd.ntmps37
      go_wp2_with fail
      refine HCL.out.mono ?_
      rintro e w' ⟨rfl, rfl⟩
      go_wp2
      go_ret
      exact ⟨rfl, rfl⟩
    · have hia : i < alen := by omega
      have hja : j < alen := by omega
      obtain ⟨b', off', rfl, hb', c1⟩ := HA.out.at' i hia
      obtain ⟨b'', off'', e', _, c2⟩ := HA.out.at' j hja
      simp only [Option.some.injEq, Addr.mk.injEq, and_true] at e'
      obtain ⟨rfl, rfl⟩ := e'
      have da : decide (0 < alen) = true := by simp; omega
      have hA := HA.out.hcap
      have hA2 := HA.out.hle
      clear hm HA
      generalize gb l j = x at *
      generalize gb m j = y at *
      generalize gb m i = z at *
      go_enter Tryd.func37, Tryd.ntmps37
      go_wp2_with fail
      refine HCL.out.mono ?_
      rintro e w' ⟨rfl, rfl⟩
      go_wp2
      go_ret
      exact ⟨rfl, rfl⟩
  · have hneg : (i : Int) - p < 0 := by omega
    rw [Fi.ba_neg l hneg, Fi.ba_neg m hneg] at HCL
    generalize Fi.pre k l m p i = r at *
    obtain ⟨z, hz⟩ : ∃ z : Int, (i : Int) - p = z := ⟨_, rfl⟩
    have d0 : decide (0 ≤ z) = false := by simp; omega
    have hz2 : z < 0 := by omega
    clear hrb HR HP hpi hneg
    by_cases hal : alen = 0
    · subst hal
      have e1 : gb m i = 0 := Fi.gb_out (by rw [HA.out.hlen]; omega)
      rw [e1] at HCL
      clear e1 HA hm
      go_enter Tryd.func37, Tryd.ntmps37
      go_wp2_with fail
      refine HCL.out.mono ?_
      rintro e w' ⟨rfl, rfl⟩
      go_wp2
      go_ret
      exact ⟨rfl, rfl⟩
    · have hia : i < alen := by omega
      obtain ⟨b', off', rfl, hb', c1⟩ := HA.out.at' i hia
      have da : decide (0 < alen) = true := by simp; omega
      have hA := HA.out.hcap
      clear hm HA
      generalize gb m i = y at *
      go_enter Tryd.func37, Tryd.ntmps37
      go_wp2_with fail
      refine HCL.out.mono ?_
      rintro e w' ⟨rfl, rfl⟩
      go_wp2
      go_ret
      exact ⟨rfl, rfl⟩
end Go.Proofs.YtbgaaocgdjkkeaaDoor
