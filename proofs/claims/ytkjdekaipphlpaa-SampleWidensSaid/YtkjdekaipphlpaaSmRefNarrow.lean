/- The document's Narrow: its contract. -/
import Derived.Test.YtkjdekaipphlpaaSmSmall
namespace Go.Proofs.Ytkjdekaipphlpaa
open Go.RowKit

namespace Sm
theorem refNarrow_any (n d : Int) (w : World) : Calls Try.prog 24 #[.int .i64 n, .int .i64 d] w fun e w' => e = .returned (.int .i64 (nar n d)) ∧ w = w' := by
  have HG := Lib.hid (fun w => deep_any d w)
  by_cases hd : deep d = true
  rotate_left
  · have hv : nar n d = -1 := if_neg (fun h => hd h.1)
    have hd : deep d = false := by simpa using hd
    rw [hd] at HG
    rw [hv]
    clear hv hd
    go_enter Try.func24, Try.ntmps24
    go_wp2_with fail
    refine (HG.out _).mono ?_
    rintro e w' ⟨rfl, rfl⟩
    go_wp2
    go_ret
    exact ⟨rfl, rfl⟩
  have hv0 : nar n d = if fits n d.toNat = true then n / fac d.toNat else -1 := by unfold nar; simp [hd]
  rw [hd] at HG
  obtain ⟨D, rfl, hD⟩ := deep_dp hd
  have HT := Lib.hid (fun w => refTop_any hD w)
  have hfp := fac_pos hD
  have htp := top_pos hD
  have HF0 := Lib.hid (fits_iff (n := n) hD)
  have HMF := Lib.hid (fun k (hk : k ≤ top D) => fits_mul hD hk)
  have HFD := Lib.hid (show fac D = 65535 / top D from rfl)
  rw [hv0, Int.toNat_natCast]
  clear hv0 hd
  have t1 := htp.1
  have t2 := htp.2.1
  have f1 := hfp.1
  have f2 := hfp.2
  have hft := fac_top hD
  have HB : Hid (∀ k, k ≤ top D → k * fac D ≤ 65535) := Lib.hid (fun k hk => by
    have := Nat.mul_le_mul_right (fac D) hk
    rw [Nat.mul_comm (top D), hft] at this
    exact this)
  clear htp hfp hft
  generalize top D = t at *
  generalize fac D = f at *
  have t0 : ((t : Int) == 0) = false := by simp; omega
  have HFE := Lib.hid (show (65535 : Int) / (t : Int) = (f : Int) by rw [HFD.out]; simp)
  obtain ⟨V, hV⟩ : ∃ V, (if fits n D = true then n / (f : Int) else -1) = V := ⟨_, rfl⟩
  rw [hV]
  have HVV := Lib.hid hV
  clear hV
  go_enter Try.func24, Try.ntmps24
  go_wp2_with fail
  refine (HG.out _).mono ?_
  rintro e w' ⟨rfl, rfl⟩
  go_wp2
  go_loop [5] (fun i => ∃ k : Nat, k ≤ t + 1 ∧ i = .int .i64 k ∧ Hid (∀ j : Nat, j < k → n ≠ (j : Int) * (f : Int))) (fun i => t + 1 - (intOf i).toNat)
  case atStart => exact ⟨0, by omega, rfl, Lib.hid (fun j hj => absurd hj (by omega))⟩
  case round =>
    obtain ⟨k, hk, rfl, HK⟩ := hrel
    by_cases hlt : k ≤ t
    · have hkf := HB.out k hlt
      have HEK := Lib.hid (show (k : Int) * (f : Int) = ((k * f : Nat) : Int) by simp)
      have HMK := Lib.hid (HMF.out k hlt)
      obtain ⟨q, hq⟩ : ∃ q, k * f = q := ⟨_, rfl⟩
      rw [hq] at hkf HEK HMK
      clear hq
      have dk : decide ((k : Int) ≤ (t : Int)) = true := by simp; omega
      have dk2 : decide (k ≤ t) = true := by simpa using hlt
      by_cases hn : n = (q : Int)
      · have HV : Hid (V = (k : Int)) := Lib.hid (by rw [← HVV.out, hn, if_pos HMK.out.1]; exact HMK.out.2)
        have dn : (wrap64 ((k : Int) * (65535 / (t : Int))) == n) = true := by rw [HFE.out, HEK.out, IntWalk.wrap64_in _ ⟨by omega, by omega⟩, hn]; simp
        clear hn
        go_wp2_with fail
        refine (HT.out _).mono ?_
        rintro e w' ⟨rfl, rfl⟩
        go_wp2_with fail
        refine (HT.out _).mono ?_
        rintro e w' ⟨rfl, rfl⟩
        go_wp2
        go_ret
        exact ⟨ret_int HV.out.symm, rfl⟩
      · have dn : (wrap64 ((k : Int) * (65535 / (t : Int))) == n) = false := by rw [HFE.out, HEK.out, IntWalk.wrap64_in _ ⟨by omega, by omega⟩]; simp; exact fun e => hn e.symm
        have HK2 : Hid (∀ j : Nat, j < k + 1 → n ≠ (j : Int) * (f : Int)) := Lib.hid (fun j hj => by
          by_cases h : j < k
          · exact HK.out j h
          · obtain rfl : j = k := by omega
            rw [HEK.out]; exact hn)
        clear hn
        go_wp2_with fail
        refine (HT.out _).mono ?_
        rintro e w' ⟨rfl, rfl⟩
        go_wp2_with fail
        refine (HT.out _).mono ?_
        rintro e w' ⟨rfl, rfl⟩
        go_wp2
        go_round
        case rel => exact ⟨k + 1, by omega, by go_num, HK2⟩
        case measure => simp [intOf]; omega
    · obtain rfl : k = t + 1 := by omega
      have HV : Hid (V = -1) := Lib.hid (HVV.out.symm.trans (if_neg (fun h => by
        obtain ⟨j, hj, e⟩ := HF0.out.1 h
        exact HK.out j (by omega) e)))
      have dk : decide (((t + 1 : Nat) : Int) ≤ (t : Int)) = false := by simp; omega
      have dk2 : decide (t + 1 ≤ t) = false := by simp
      go_wp2_with fail
      refine (HT.out _).mono ?_
      rintro e w' ⟨rfl, rfl⟩
      go_wp2
      go_ret
      exact ⟨ret_int HV.out.symm, rfl⟩
end Sm
end Go.Proofs.Ytkjdekaipphlpaa
