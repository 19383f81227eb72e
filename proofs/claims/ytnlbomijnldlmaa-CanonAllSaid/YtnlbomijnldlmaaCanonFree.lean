/- canon.Free: its contract. -/
import Derived.Test.YtnlbomijnldlmaaRef04a
namespace Go.Proofs.Ytnlbomijnldlmaa
open Go.RowKit

theorem errno_shr (n : Nat) (hn : n ≤ 16) : (65536 : Int) / 2 ^ n = ((65536 / 2 ^ n : Nat) : Int) := by rw [Bt.pow_cast]; exact (Int.natCast_ediv 65536 (2 ^ n)).symm
def FreePost (w : World) (l : List Int) (e : Ending) (w' : World) : Prop :=
  e = .returned (.tuple (if Cn.freeB l then #[.int .i64 (65536 - (Cn.sum l : Int)), .nilIface] else #[.int .i64 0, .iface 35 (.int .i64 6)])) ∧ w = w'
theorem free_no (w : World) (l : List Int) (h : Cn.freeB l = false) : FreePost w l (.returned (.tuple #[.int .i64 0, .iface 35 (.int .i64 6)])) w := by
  unfold FreePost; rw [h]; exact ⟨rfl, rfl⟩
theorem free_yes (w : World) (l : List Int) (h : Cn.freeB l = true) (n : Int) (hn : n = 65536 - (Cn.sum l : Int)) : FreePost w l (.returned (.tuple #[.int .i64 n, .nilIface])) w := by
  subst hn; unfold FreePost; rw [h]; exact ⟨rfl, rfl⟩
set_option maxHeartbeats 1000000 in
theorem free_any (a : Option Addr) (len cap : Nat) (l : List Int) (w : World) (h : Is .i64 w a len cap l) (hr : len ≤ 140737488355328) :
    Calls Try.prog 14 #[.slice a len cap] w (FreePost w l) := by
  have HL := Lib.hid h.hlen
  have H := Lib.hid h
  clear h
  by_cases hbig : 512 < len
  · have d1 : decide (512 < (len : Int)) = true := by simp; omega
    have hf := Cn.form_big l (by rw [HL.out]; exact hbig)
    have HX := Lib.hid (free_no w l (by simp [Cn.freeB, hf]))
    clear hf
    go_enter Try.func14, Try.ntmps14
    go_wp2
    go_ret2
    exact HX.out
  · have d1 : decide (512 < (len : Int)) = false := by simp; omega
    go_enter Try.func14, Try.ntmps14
    go_wp2
    go_loop [4, 13] (fun s i => ∃ k : Nat, k ≤ len ∧ i = .int .i64 k ∧ s = .int .i64 (65536 - (Cn.sum (l.take k) : Int)) ∧ Hid (∀ j, j < k → 0 ≤ l.getD j 0 ∧ l.getD j 0 ≤ 16)) (fun _ i => len - (intOf i).toNat)
    case atStart => exact ⟨0, by omega, rfl, rfl, Lib.hid (fun j hj => absurd hj (by omega))⟩
    case round =>
      obtain ⟨k, hk, rfl, rfl, HG⟩ := hrel
      have hsum : Cn.sum (l.take k) ≤ 33554432 := by have := Cn.sum_le (l.take k); have h2 : (l.take k).length ≤ 512 := by simp; omega
                                                     omega
      by_cases hlt : k < len
      · obtain ⟨b, off, rfl, hb, hcell⟩ := H.out.at' k hlt
        have hkl : k < l.length := by rw [HL.out]; exact hlt
        have HS := Lib.hid (show Cn.sum (l.take (k + 1)) = Cn.sum (l.take k) + Cn.part (l.getD k 0) by rw [ints_snoc l k hkl, Cn.sum_snoc])
        have HB := Lib.hid (Cn.form_bad l k hkl)
        have HG2 := Lib.hid (show 0 ≤ l.getD k 0 ∧ l.getD k 0 ≤ 16 → ∀ j, j < k + 1 → 0 ≤ l.getD j 0 ∧ l.getD j 0 ≤ 16 from fun hx j hj => by
          by_cases hjk : j < k
          · exact HG.out j hjk
          · obtain rfl : j = k := by omega
            exact hx)
        clear hkl
        generalize hz : l.getD k 0 = z at *
        have HZ := Lib.hid hz
        clear hz
        generalize Cn.sum (l.take k) = s at *
        by_cases hneg : z < 0
        · have dz : decide (z < 0) = true := by simpa using hneg
          have HX := Lib.hid (free_no w l (by simp [Cn.freeB, HB.out (.inl hneg)]))
          clear hneg
          go_wp2
          go_ret2
          exact HX.out
        · have dz : decide (z < 0) = false := by simpa using hneg
          by_cases hhi : 16 < z
          · have dh : decide (16 < z) = true := by simpa using hhi
            have HX := Lib.hid (free_no w l (by simp [Cn.freeB, HB.out (.inr hhi)]))
            clear hneg hhi
            go_wp2
            go_ret2
            exact HX.out
          · have dh : decide (16 < z) = false := by simpa using hhi
            have HG3 := Lib.hid (HG2.out ⟨by omega, by omega⟩)
            by_cases hz0 : z = 0
            · subst hz0
              have e0 : Cn.part 0 = 0 := rfl
              clear hneg hhi
              go_wp2
              go_round
              case rel => exact ⟨k + 1, by omega, by go_num, int_eq (by rw [HS.out, e0]; rfl), HG3⟩
              case measure => simp [intOf]; omega
            · obtain ⟨n, rfl⟩ := Int.eq_ofNat_of_zero_le (show 0 ≤ z by omega)
              have hn : n ≤ 16 := by omega
              have dpos : decide (0 < n) = true := by simp; omega
              have dpos2 : 0 < n := by omega
              have dn0 : decide ((n : Int) < 0) = false := by simp
              have ep : Cn.part (n : Int) = 65536 / 2 ^ n := by unfold Cn.part; rw [if_neg (by omega)]; rfl
              have hq : 65536 / 2 ^ n ≤ 65536 := Nat.div_le_self _ _
              have HN := Lib.hid (errno_shr n hn)
              have EP := Lib.hid ep
              clear hneg hhi hz0 ep
              go_wp2
              go_round
              case rel =>
                refine ⟨k + 1, by omega, by go_num, int_eq ?_, HG3⟩
                rw [HS.out, EP.out, HN.out]
                generalize 65536 / 2 ^ n = q at *
                rw [IntWalk.wrap64_in _ ⟨by omega, by omega⟩]
                omega
              case measure => simp [intOf]; omega
      · obtain rfl : len = k := by omega
        have hfull : l.take len = l := List.take_of_length_le (by rw [HL.out]; exact Nat.le_refl _)
        rw [hfull] at hsum
        have hf := Cn.form_good l (by rw [HL.out]; omega) (fun j hj => HG.out j (by rw [HL.out] at hj; exact hj))
        have HX := Lib.hid (show Cn.freeB l = decide (Cn.sum l ≤ 65536) by simp [Cn.freeB, hf])
        have HFU := Lib.hid hfull
        clear hf hfull HG
        rw [HFU.out]
        by_cases hs : Cn.sum l ≤ 65536
        · have ds : decide ((65536 : Int) - (Cn.sum l : Int) < 0) = false := by simp; omega
          have HD := Lib.hid (free_yes w l (by rw [HX.out]; simpa using hs) _ rfl)
          clear hs
          generalize Cn.sum l = s at *
          go_wp2
          go_ret2
          exact HD.out
        · have ds : decide ((65536 : Int) - (Cn.sum l : Int) < 0) = true := by simp; omega
          have HD := Lib.hid (free_no w l (by rw [HX.out]; simpa using hs))
          clear hs
          generalize Cn.sum l = s at *
          go_wp2
          go_ret2
          exact HD.out
end Go.Proofs.Ytnlbomijnldlmaa
