/- burnishref15.Size: its contract. -/
import Derived.Test.YtfdnjblbhbkndaaDoorLcRefPass
import Derived.Test.YtfdnjblbhbkndaaDoorLcSzMath
import Derived.Deep.LoopGhost
namespace Go.Proofs.YtfdnjblbhbkndaaDoor
open Go.RowKit

namespace Lc
/-- Sides and a pass that are good. -/
def good3 (wd ht p : Int) : Prop := 1 ≤ wd ∧ 1 ≤ ht ∧ wd ≤ 65535 ∧ ht ≤ 65535 ∧ 0 ≤ p ∧ p ≤ 6
instance (wd ht p : Int) : Decidable (good3 wd ht p) := by unfold good3; infer_instance
def sz (wd ht p : Int) : Nat × Nat := if good3 wd ht p then ((of p.toNat wd.toNat ht.toNat).c, (of p.toNat wd.toNat ht.toNat).r) else (0, 0)
theorem sz_bad {wd ht p : Int} (h : ¬ good3 wd ht p) : sz wd ht p = (0, 0) := if_neg h
theorem sz_good {wd ht p : Nat} (h : good3 wd ht p) : sz wd ht p = ((of p wd ht).c, (of p wd ht).r) := if_pos h
theorem ret_pair {a b : Nat} {q : Nat × Nat} (h : q = (a, b)) : Ending.returned (.tuple #[.int .i64 (a : Nat), .int .i64 (b : Nat)]) = Ending.returned (.tuple #[.int .i64 (q.1 : Nat), .int .i64 (q.2 : Nat)]) := by rw [h]
set_option maxRecDepth 100000 in
set_option maxHeartbeats 4000000 in
theorem refSize_any (wd ht p : Int) (w : World) : Calls Tryd.prog 13 #[.int .i64 wd, .int .i64 ht, .int .i64 p] w fun e w' => e = .returned (.tuple #[.int .i64 ((sz wd ht p).1 : Nat), .int .i64 ((sz wd ht p).2 : Nat)]) ∧ Below w.heap.size w w' := by
  by_cases hg : good3 wd ht p
  rotate_left
  · have HS := Lib.hid (sz_bad hg)
    generalize sz wd ht p = q at *
    by_cases h1 : wd < 1
    · have d1 : decide (wd < 1) = true := by simpa using h1
      clear h1 hg
      go_enter Tryd.func13, Tryd.ntmps13
      go_wp2
      go_ret2
      exact ⟨ret_pair HS.out, Below.refl _ _⟩
    have d1 : decide (wd < 1) = false := by simpa using h1
    by_cases h2 : ht < 1
    · have d2 : decide (ht < 1) = true := by simpa using h2
      clear h1 h2 hg
      go_enter Tryd.func13, Tryd.ntmps13
      go_wp2
      go_ret2
      exact ⟨ret_pair HS.out, Below.refl _ _⟩
    have d2 : decide (ht < 1) = false := by simpa using h2
    by_cases h3 : 65535 < wd
    · have d3 : decide ((65535 : Int) < wd) = true := by simpa using h3
      clear h1 h2 h3 hg
      go_enter Tryd.func13, Tryd.ntmps13
      go_wp2
      go_ret2
      exact ⟨ret_pair HS.out, Below.refl _ _⟩
    have d3 : decide ((65535 : Int) < wd) = false := by simpa using h3
    by_cases h4 : 65535 < ht
    · have d4 : decide ((65535 : Int) < ht) = true := by simpa using h4
      clear h1 h2 h3 h4 hg
      go_enter Tryd.func13, Tryd.ntmps13
      go_wp2
      go_ret2
      exact ⟨ret_pair HS.out, Below.refl _ _⟩
    have d4 : decide ((65535 : Int) < ht) = false := by simpa using h4
    by_cases h5 : p < 0
    · have d5 : decide (p < 0) = true := by simpa using h5
      clear h1 h2 h3 h4 h5 hg
      go_enter Tryd.func13, Tryd.ntmps13
      go_wp2
      go_ret2
      exact ⟨ret_pair HS.out, Below.refl _ _⟩
    have d5 : decide (p < 0) = false := by simpa using h5
    have d6 : decide (6 < p) = true := by
      simp
      rcases Int.lt_or_le 6 p with h | h
      · exact h
      · exact absurd ⟨by omega, by omega, by omega, by omega, by omega, h⟩ hg
    clear h1 h2 h3 h4 h5 hg
    go_enter Tryd.func13, Tryd.ntmps13
    go_wp2
    go_ret2
    exact ⟨ret_pair HS.out, Below.refl _ _⟩
  obtain ⟨g1, g2, g3, g4, g5, g6⟩ := id hg
  obtain ⟨a, rfl⟩ : ∃ a : Nat, wd = (a : Int) := ⟨wd.toNat, by omega⟩
  obtain ⟨b, rfl⟩ : ∃ b : Nat, ht = (b : Int) := ⟨ht.toNat, by omega⟩
  obtain ⟨r, rfl⟩ : ∃ r : Nat, p = (r : Int) := ⟨p.toNat, by omega⟩
  have HS := Lib.hid ((sz_good hg).trans (ref_of r a b (by omega)).symm)
  clear hg
  generalize sz (a : Int) (b : Int) (r : Int) = q at *
  have d1 : decide ((a : Int) < 1) = false := by simp; omega
  have d2 : decide ((b : Int) < 1) = false := by simp; omega
  have d3 : decide ((65535 : Int) < (a : Int)) = false := by simp; omega
  have d4 : decide ((65535 : Int) < (b : Int)) = false := by simp; omega
  have d5 : decide ((r : Int) < 0) = false := by simp
  have d6 : decide ((6 : Int) < (r : Int)) = false := by simp; omega
  have ha : a ≤ 65535 := by omega
  have hb : b ≤ 65535 := by omega
  have hr : r ≤ 6 := by omega
  have HRF := Lib.hid (fun x y w => refPass_any x y w)
  clear g1 g2 g3 g4 g5 g6
  go_enter Tryd.func13, Tryd.ntmps13
  go_wp2
  clear d1 d2 d3 d4 d5 d6
  go_loopg [8, 9, 10] 8 (fun gk v8 v9 v10 wr => ∃ m : Nat, m ≤ 8 ∧ gk = 8 - m ∧ v10 = .int .i64 (m : Nat) ∧ v8 = .int .i64 (wv r a b m : Nat) ∧ v9 = .int .i64 (hv r a b m : Nat) ∧ Hid (Below w.heap.size w wr))
  case atStart => exact ⟨0, by omega, by omega, rfl, rfl, rfl, Lib.hid (Below.refl _ _)⟩
  case round =>
    obtain ⟨m, hm, rfl, rfl, rfl, rfl, HB⟩ := hrel
    by_cases hm8 : m < 8
    · have d8 : decide ((m : Int) < 8) = true := by simp; omega
      have hwl := wv_le r a b m
      have hhl : hv r a b m ≤ 8 * 65535 := Nat.le_trans (hv_le r a b m) (Nat.mul_le_mul hm hb)
      have HWS := Lib.hid (show wv r a b (m + 1) = if 0 < cn r m a ∧ wv r a b m = 0 ∧ m < b then cn r m a else wv r a b m from rfl)
      have HHS := Lib.hid (show hv r a b (m + 1) = hv r a b m + rj r a b m from rfl)
      generalize wv r a b m = W at *
      generalize hv r a b m = H at *
      go_wp2
      go_loopg [11, 12] a (fun gk v11 v12 wx => ∃ n : Nat, n ≤ a ∧ gk = a - n ∧ v12 = .int .i64 (n : Nat) ∧ v11 = .int .i64 (cn r m n : Nat) ∧ Hid (Below w.heap.size w wx))
      case atStart => exact ⟨0, by omega, by omega, rfl, rfl, HB⟩
      case round =>
        obtain ⟨n, hn, rfl, rfl, rfl, HX⟩ := hrel
        by_cases hna : n < a
        · have hcl := cn_le r m n
          have HCS := Lib.hid (show cn r m (n + 1) = cn r m n + (if pt n m = r then 1 else 0) from rfl)
          generalize cn r m n = C at *
          go_wp2_with fail
          refine (HRF.out n m _).mono ?_
          rintro e w2 ⟨rfl, hb2⟩
          have HX2 := Lib.hid (below_then HX.out hb2)
          clear hb2 HX
          generalize pt n m = z at *
          by_cases hz : z = r
          · have HC2 : Hid (cn r m (n + 1) = C + 1) := Lib.hid (by rw [HCS.out, if_pos hz])
            clear HCS
            subst hz
            go_wp2
            go_roundg (a - (n + 1))
            case measure => omega
            case rel => exact ⟨n + 1, by omega, rfl, by go_num, by rw [HC2.out]; go_num, HX2⟩
          · have HC2 : Hid (cn r m (n + 1) = C) := Lib.hid (by rw [HCS.out, if_neg hz]; rfl)
            have dz : (z == r) = false := by simpa using hz
            clear HCS hz
            go_wp2
            go_roundg (a - (n + 1))
            case measure => omega
            case rel => exact ⟨n + 1, by omega, rfl, by go_num, by rw [HC2.out], HX2⟩
        · obtain rfl : n = a := by omega
          clear hna
          have hcl := cn_le r m n
          have HJL := Lib.hid (fun j => rj_lt r n b m j)
          have hjl := rj_le r n b m
          generalize cn r m n = C at *
          generalize rj r n b m = J at *
          have hjz : C = 0 → J = 0 := fun h => by
            rcases Nat.eq_zero_or_pos J with h0 | h0
            · exact h0
            · have := (HJL.out 0).1 h0
              omega
          have hcase : (Hid (wv r n b (m + 1) = C) ∧ 0 < C ∧ W = 0 ∧ m < b) ∨ (Hid (wv r n b (m + 1) = W) ∧ (C = 0 ∨ (0 < C ∧ W ≠ 0) ∨ (0 < C ∧ W = 0 ∧ ¬ m < b))) := by
            by_cases k : 0 < C ∧ W = 0 ∧ m < b
            · exact .inl ⟨Lib.hid (by rw [HWS.out, if_pos k]), k.1, k.2.1, k.2.2⟩
            · exact .inr ⟨Lib.hid (by rw [HWS.out, if_neg k]), by omega⟩
          clear HWS
          rcases hcase with ⟨HW, k1, k2, k3⟩ | ⟨HW, k1 | ⟨k1, k2⟩ | ⟨k1, k2, k3⟩⟩
          · have c1 : decide ((0 : Int) < (C : Int)) = true := by simp; omega
            have c3 : decide (m < b) = true := by simpa using k3
            subst k2
            clear k3
            go_wp2
            go_loopg [9, 13] J (fun gk v9 v13 wx => ∃ j K : Nat, j ≤ J ∧ gk = J - j ∧ v13 = .int .i64 (K : Nat) ∧ v9 = .int .i64 ((H + j : Nat) : Int) ∧ K ≤ 600000 ∧ Hid (K = m + 8 * j) ∧ Hid (Below w.heap.size w wx))
            case atStart => exact ⟨0, m, by omega, by omega, rfl, rfl, by omega, Lib.hid rfl, HX⟩
            case round =>
              clear HX
              obtain ⟨j, K, hj, rfl, rfl, rfl, hK, HK, HX⟩ := hrel
              by_cases hjJ : j < J
              · obtain ⟨q1, q2⟩ := (HJL.out j).1 hjJ
                first
                  | (exfalso; omega)
                  | (have HK2 : Hid (K + 8 = m + 8 * (j + 1)) := Lib.hid (by rw [HK.out]; omega)
                     have e2 : decide (K < b) = true := by rw [HK.out]; simpa using q2
                     have hK3 : K + 8 ≤ 600000 := by rw [HK.out]; omega
                     clear q1 q2 HK hK
                     go_wp2
                     go_roundg (J - (j + 1))
                     case measure => omega
                     case rel => exact ⟨j + 1, K + 8, by omega, rfl, by go_num, by go_num, hK3, HK2, HX⟩)
              · obtain rfl : j = J := by omega
                by_cases hlt : m + 8 * j < b
                · first
                    | (exfalso; have := (HJL.out j).2 ⟨by assumption, hlt⟩; omega)
                    | (have e2 : decide (K < b) = true := by rw [HK.out]; simpa using hlt
                       clear hlt hjJ
                       go_wp2
                       go_roundg (8 - (m + 1))
                       case measure => omega
                       case rel => exact ⟨m + 1, by omega, rfl, by go_num, by rw [HW.out], by rw [HHS.out], HX⟩)
                · have e2 : decide (K < b) = false := by rw [HK.out]; simpa using hlt
                  clear hlt hjJ
                  go_wp2
                  go_roundg (8 - (m + 1))
                  case measure => omega
                  case rel => exact ⟨m + 1, by omega, rfl, by go_num, by rw [HW.out], by rw [HHS.out], HX⟩
          · have c1 : decide ((0 : Int) < (C : Int)) = false := by simp; omega
            go_wp2
            go_loopg [9, 13] J (fun gk v9 v13 wx => ∃ j K : Nat, j ≤ J ∧ gk = J - j ∧ v13 = .int .i64 (K : Nat) ∧ v9 = .int .i64 ((H + j : Nat) : Int) ∧ K ≤ 600000 ∧ Hid (K = m + 8 * j) ∧ Hid (Below w.heap.size w wx))
            case atStart => exact ⟨0, m, by omega, by omega, rfl, rfl, by omega, Lib.hid rfl, HX⟩
            case round =>
              clear HX
              obtain ⟨j, K, hj, rfl, rfl, rfl, hK, HK, HX⟩ := hrel
              by_cases hjJ : j < J
              · obtain ⟨q1, q2⟩ := (HJL.out j).1 hjJ
                first
                  | (exfalso; omega)
                  | (have HK2 : Hid (K + 8 = m + 8 * (j + 1)) := Lib.hid (by rw [HK.out]; omega)
                     have e2 : decide (K < b) = true := by rw [HK.out]; simpa using q2
                     have hK3 : K + 8 ≤ 600000 := by rw [HK.out]; omega
                     clear q1 q2 HK hK
                     go_wp2
                     go_roundg (J - (j + 1))
                     case measure => omega
                     case rel => exact ⟨j + 1, K + 8, by omega, rfl, by go_num, by go_num, hK3, HK2, HX⟩)
              · obtain rfl : j = J := by omega
                by_cases hlt : m + 8 * j < b
                · first
                    | (exfalso; have := (HJL.out j).2 ⟨by assumption, hlt⟩; omega)
                    | (have e2 : decide (K < b) = true := by rw [HK.out]; simpa using hlt
                       clear hlt hjJ
                       go_wp2
                       go_roundg (8 - (m + 1))
                       case measure => omega
                       case rel => exact ⟨m + 1, by omega, rfl, by go_num, by rw [HW.out], by rw [HHS.out], HX⟩)
                · have e2 : decide (K < b) = false := by rw [HK.out]; simpa using hlt
                  clear hlt hjJ
                  go_wp2
                  go_roundg (8 - (m + 1))
                  case measure => omega
                  case rel => exact ⟨m + 1, by omega, rfl, by go_num, by rw [HW.out], by rw [HHS.out], HX⟩
          · have c1 : decide ((0 : Int) < (C : Int)) = true := by simp; omega
            have c2 : ((W : Int) == 0) = false := by simp; omega
            clear k2
            go_wp2
            go_loopg [9, 13] J (fun gk v9 v13 wx => ∃ j K : Nat, j ≤ J ∧ gk = J - j ∧ v13 = .int .i64 (K : Nat) ∧ v9 = .int .i64 ((H + j : Nat) : Int) ∧ K ≤ 600000 ∧ Hid (K = m + 8 * j) ∧ Hid (Below w.heap.size w wx))
            case atStart => exact ⟨0, m, by omega, by omega, rfl, rfl, by omega, Lib.hid rfl, HX⟩
            case round =>
              clear HX
              obtain ⟨j, K, hj, rfl, rfl, rfl, hK, HK, HX⟩ := hrel
              by_cases hjJ : j < J
              · obtain ⟨q1, q2⟩ := (HJL.out j).1 hjJ
                first
                  | (exfalso; omega)
                  | (have HK2 : Hid (K + 8 = m + 8 * (j + 1)) := Lib.hid (by rw [HK.out]; omega)
                     have e2 : decide (K < b) = true := by rw [HK.out]; simpa using q2
                     have hK3 : K + 8 ≤ 600000 := by rw [HK.out]; omega
                     clear q1 q2 HK hK
                     go_wp2
                     go_roundg (J - (j + 1))
                     case measure => omega
                     case rel => exact ⟨j + 1, K + 8, by omega, rfl, by go_num, by go_num, hK3, HK2, HX⟩)
              · obtain rfl : j = J := by omega
                by_cases hlt : m + 8 * j < b
                · first
                    | (exfalso; have := (HJL.out j).2 ⟨by assumption, hlt⟩; omega)
                    | (have e2 : decide (K < b) = true := by rw [HK.out]; simpa using hlt
                       clear hlt hjJ
                       go_wp2
                       go_roundg (8 - (m + 1))
                       case measure => omega
                       case rel => exact ⟨m + 1, by omega, rfl, by go_num, by rw [HW.out], by rw [HHS.out], HX⟩)
                · have e2 : decide (K < b) = false := by rw [HK.out]; simpa using hlt
                  clear hlt hjJ
                  go_wp2
                  go_roundg (8 - (m + 1))
                  case measure => omega
                  case rel => exact ⟨m + 1, by omega, rfl, by go_num, by rw [HW.out], by rw [HHS.out], HX⟩
          · have c1 : decide ((0 : Int) < (C : Int)) = true := by simp; omega
            have c3 : decide (m < b) = false := by simpa using k3
            subst k2
            clear k3
            go_wp2
            go_loopg [9, 13] J (fun gk v9 v13 wx => ∃ j K : Nat, j ≤ J ∧ gk = J - j ∧ v13 = .int .i64 (K : Nat) ∧ v9 = .int .i64 ((H + j : Nat) : Int) ∧ K ≤ 600000 ∧ Hid (K = m + 8 * j) ∧ Hid (Below w.heap.size w wx))
            case atStart => exact ⟨0, m, by omega, by omega, rfl, rfl, by omega, Lib.hid rfl, HX⟩
            case round =>
              clear HX
              obtain ⟨j, K, hj, rfl, rfl, rfl, hK, HK, HX⟩ := hrel
              by_cases hjJ : j < J
              · obtain ⟨q1, q2⟩ := (HJL.out j).1 hjJ
                first
                  | (exfalso; omega)
                  | (have HK2 : Hid (K + 8 = m + 8 * (j + 1)) := Lib.hid (by rw [HK.out]; omega)
                     have e2 : decide (K < b) = true := by rw [HK.out]; simpa using q2
                     have hK3 : K + 8 ≤ 600000 := by rw [HK.out]; omega
                     clear q1 q2 HK hK
                     go_wp2
                     go_roundg (J - (j + 1))
                     case measure => omega
                     case rel => exact ⟨j + 1, K + 8, by omega, rfl, by go_num, by go_num, hK3, HK2, HX⟩)
              · obtain rfl : j = J := by omega
                by_cases hlt : m + 8 * j < b
                · first
                    | (exfalso; have := (HJL.out j).2 ⟨by assumption, hlt⟩; omega)
                    | (have e2 : decide (K < b) = true := by rw [HK.out]; simpa using hlt
                       clear hlt hjJ
                       go_wp2
                       go_roundg (8 - (m + 1))
                       case measure => omega
                       case rel => exact ⟨m + 1, by omega, rfl, by go_num, by rw [HW.out], by rw [HHS.out], HX⟩)
                · have e2 : decide (K < b) = false := by rw [HK.out]; simpa using hlt
                  clear hlt hjJ
                  go_wp2
                  go_roundg (8 - (m + 1))
                  case measure => omega
                  case rel => exact ⟨m + 1, by omega, rfl, by go_num, by rw [HW.out], by rw [HHS.out], HX⟩
    · obtain rfl : m = 8 := by omega
      clear hm8
      by_cases hz : wv r a b 8 = 0
      · have HQ : Hid (q = (0, 0)) := Lib.hid (by rw [HS.out, if_pos (.inl hz)])
        rw [hz]
        clear hz HS
        go_wp2
        go_ret2
        exact ⟨ret_pair HQ.out, HB.out⟩
      by_cases hz2 : hv r a b 8 = 0
      · have HQ : Hid (q = (0, 0)) := Lib.hid (by rw [HS.out, if_pos (.inr hz2)])
        rw [hz2]
        have d1 : ((wv r a b 8 : Int) == 0) = false := by simp; omega
        clear hz hz2 HS
        go_wp2
        go_ret2
        exact ⟨ret_pair HQ.out, HB.out⟩
      have HQ : Hid (q = (wv r a b 8, hv r a b 8)) := Lib.hid (by rw [HS.out, if_neg (by omega)])
      have d1 : ((wv r a b 8 : Int) == 0) = false := by simp; omega
      have d2 : ((hv r a b 8 : Int) == 0) = false := by simp; omega
      clear hz hz2 HS
      generalize wv r a b 8 = x at *
      generalize hv r a b 8 = y at *
      go_wp2
      go_ret2
      exact ⟨ret_pair HQ.out, HB.out⟩
end Lc
end Go.Proofs.YtfdnjblbhbkndaaDoor
