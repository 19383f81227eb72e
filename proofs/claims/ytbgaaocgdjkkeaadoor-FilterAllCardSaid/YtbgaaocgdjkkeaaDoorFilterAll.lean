/- For all rows, sizes, numbers of a pixel's bytes and kinds: Roll answers rows filtered each by its kind, or by the lightest one, which Unroll brings back, or ErrForm where the arguments aren't good, and leaves the rows and kinds as they were; the fixed example holds. Of more than 3000 bytes or kinds nothing is asked. No conditions. -/
import Derived.Test.YtbgaaocgdjkkeaaDoorCards
import Derived.Test.YtbgaaocgdjkkeaaDoorTie
import Derived.ProofKit
import Derived.Handy
import Derived.Lay
import Derived.SevenTiedAt
import Derived.Test.YtbgaaocgdjkkeaaDoorRows
import Derived.Test.YtbgaaocgdjkkeaaDoorOpen
import Derived.Test.YtbgaaocgdjkkeaaDoorFlRollOf
import Derived.Test.YtbgaaocgdjkkeaaDoorFlUnroll
import Derived.Test.YtbgaaocgdjkkeaaDoorFlRefLight
import Derived.Test.YtbgaaocgdjkkeaaDoorFlAlive
import Derived.Test.YtbgaaocgdjkkeaaDoorNumInts
import Derived.Test.YtbgaaocgdjkkeaaDoorNumSame
import Derived.Test.YtbgaaocgdjkkeaaDoorNumIs
import Derived.Test.YtbgaaocgdjkkeaaDoorCopyOwn
import Derived.Test.YtbgaaocgdjkkeaaDoorOpenRows
namespace Go.Proofs.YtbgaaocgdjkkeaaDoor.FilterAll
open Go.ChangeShapes Go.WideShapes Go.ChangeAt Go.RowKit
open Go.ChangeMaps (open_string shut_string)
set_option linter.unusedVariables false
theorem own : ownKnob Tryd.prog.godebug = none := by kernel_rfl
theorem laidOut : laidOutB Tryd.prog = true := by kernel_rfl
theorem goodK_take (ks : List Int) (k : Nat) (h : k < ks.length) : Fi.goodK (ks.take (k + 1)) = (Fi.goodK (ks.take k) && (decide (-1 ≤ ks.getD k 0) && decide (ks.getD k 0 ≤ 4))) := by
  have e : ks.take (k + 1) = ks.take k ++ [ks.getD k 0] := by rw [List.take_succ_eq_append_getElem h]; simp [List.getD, List.getElem?_eq_getElem h]
  unfold Fi.goodK
  rw [e, List.all_append]
  simp
/-- Behind the copies. -/
structure Cr (w W : World) (n kl : Nat) (l : List UInt8) (ks : List Int) (g1 g2 : Nat) : Prop where
  bel : Below w.heap.size w W
  o1 : W.ownsRow w.heap.size 5 1 (.slice (some ⟨g1, 0, none⟩) (n + 2) (n + 2)) (n + 2) (bvs (l ++ [165, 90]))
  o2 : W.ownsRow w.heap.size 3 1 (.slice (some ⟨g2, 0, none⟩) (kl + 1) (kl + 1)) (kl + 1) (ivs (ks ++ [-77]))
theorem Cr.mono {w W V : World} {n kl : Nat} {l : List UInt8} {ks : List Int} {g1 g2 : Nat} (h : Cr w W n kl l ks g1 g2) (hb : Below W.heap.size W V) : Cr w V n kl l ks g1 g2 := ⟨below_then h.bel hb, own_below h.o1 hb, own_below h.o2 hb⟩
set_option maxRecDepth 100000 in
set_option maxHeartbeats 8000000 in
theorem byKinds_any (a : Option Addr) (n cap : Nat) (l : List UInt8) (s p : Int) (ka : Option Addr) (kl kcap : Nat) (ks : List Int) (w : World) (h : Bs w a n cap l) (hr : cap ≤ 140737488351232) (hk : Is .i64 w ka kl kcap ks) (hkr : kcap * 8 ≤ 140737488351232) :
    Calls Tryd.prog 4 #[.slice a n cap, .int .i64 s, .int .i64 p, .slice ka kl kcap] w fun e w' => e = .returned (.bool true) ∧ Below w.heap.size w w' := by
  have hle := h.hle
  have hkle := hk.hle
  have HLN := Lib.hid h.hlen
  have HKL := Lib.hid hk.hlen
  have hwf : Wf ks := hk.wf
  have HWF := Lib.hid hwf
  have H := Lib.hid h
  have HK := Lib.hid hk
  clear h hk hwf
  go_enter Tryd.func4, Tryd.ntmps4
  go_wp2_with fail
  refine (alive14_any _).mono ?_
  rintro e w1 ⟨rfl, hb1⟩
  have HB1 := Lib.hid hb1
  clear hb1
  by_cases hbig : 3000 < n
  · have d1 : decide ((3000 : Int) < (n : Int)) = true := by simp; omega
    clear hbig
    go_wp2
    go_ret
    exact ⟨rfl, HB1.out⟩
  have d1 : decide ((3000 : Int) < (n : Int)) = false := by simp; omega
  by_cases hbig2 : 3000 < kl
  · have d2 : decide ((3000 : Int) < (kl : Int)) = true := by simp; omega
    clear hbig hbig2
    go_wp2
    go_ret
    exact ⟨rfl, HB1.out⟩
  have d2 : decide ((3000 : Int) < (kl : Int)) = false := by simp; omega
  have hn : n ≤ 3000 := by omega
  have hkn : kl ≤ 3000 := by omega
  clear hbig hbig2
  go_wp2_with fail
  refine (copy_any _ _ _ l _ (H.out.mono HB1.out) (by omega)).mono ?_
  rintro e w2 ⟨g1, rfl, own2, hb2⟩
  have hz1 := HB1.out.size
  have HO2 := Lib.hid (own_base (base' := w.heap.size) own2 (fun g' hg' => Nat.le_trans hz1 (own2.lt g' hg').1))
  have HB2 := Lib.hid (below_then HB1.out hb2)
  clear own2 hb2 HB1 hz1 d1 d2
  go_wp2_with fail
  refine (copyI_any _ _ _ ks _ (HK.out.mono HB2.out) (by omega)).mono ?_
  rintro e w3 ⟨g2, rfl, own3, hb3⟩
  have hz2 := HB2.out.size
  have HC : Hid (Cr w w3 n kl l ks g1 g2) := Lib.hid ⟨below_then HB2.out hb3, own_below HO2.out hb3, own_base (base' := w.heap.size) own3 (fun g' hg' => Nat.le_trans hz2 (own3.lt g' hg').1)⟩
  clear own3 hb3 HB2 HO2 hz2
  have hcs := copy_bs HC.out.o1 HLN.out (by omega)
  have hci := is_of_own HC.out.o2 (wf_mark HWF.out) 0 kl (kl + 1) (by omega) (by omega)
  rw [List.drop_zero, List.take_append_of_le_length (by rw [HKL.out]; exact Nat.le_refl _), List.take_of_length_le (by rw [HKL.out]; exact Nat.le_refl _)] at hci
  have HGK := Lib.hid (fun k (hk : k < kl) => goodK_take ks k (by rw [HKL.out]; exact hk))
  have HGF := Lib.hid (show Fi.goodK (ks.take kl) = Fi.goodK ks by rw [List.take_of_length_le (by rw [HKL.out]; exact Nat.le_refl _)])
  have HG0 := Lib.hid (show Fi.goodK (ks.take 0) = true from rfl)
  cases hg : Fi.goodRl n s p ks
  · have HRO := Lib.hid (roll_bad (some ⟨g1, 0, none⟩) n (n + 2) s p (some ⟨g2, 0, none⟩) kl (kl + 1) ks w3 hci (by omega) (by omega) hg)
    clear hcs hci
    go_wp2_with fail
    refine HRO.out.mono ?_
    rintro e w' ⟨rfl, rfl⟩
    clear HRO
    go_wp2_with fail
    refine (kept_any g1 n _ _ l _ _ (by omega) HC.out.o1 (H.out.mono HC.out.bel)).mono ?_
    rintro e w' ⟨rfl, rfl⟩
    go_wp2_with fail
    refine (keptI_any g2 kl ka kcap ks _ _ (by omega) HWF.out HC.out.o2 (HK.out.mono HC.out.bel)).mono ?_
    rintro e w4 ⟨rfl, nd, rfl⟩
    have HB4 := Lib.hid (below_then HC.out.bel (drewN_is w3 nd))
    clear HC
    revert HB4
    generalize w3.drewN nd = w4
    intro HB4
    have HKI := Lib.hid (HK.out.mono HB4.out)
    have hgl := hg
    unfold Fi.goodRl at hgl
    rw [HKL.out] at hgl
    have HGL := Lib.hid hgl
    clear hg hgl HK
    by_cases h1 : 1 ≤ s
    rotate_left
    · have d1 : decide (1 ≤ s) = false := by simpa using h1
      clear h1 HGL
      go_wp2
      go_loop [13, 15, 83] (fun g _ i => ∃ k : Nat, k ≤ kl ∧ i = .int .i64 k ∧ g = .bool (false && Fi.goodK (ks.take k))) (fun _ _ i => kl - (intOf i).toNat)
      case atStart => exact ⟨0, by omega, rfl, by rw [HG0.out]; rfl⟩
      case round =>
        obtain ⟨k, hk, rfl, rfl⟩ := hrel
        by_cases hlt : k < kl
        · obtain ⟨b2, off2, rfl, _, c2⟩ := HKI.out.at' k hlt
          have HE := HGK.out k hlt
          have HE : Hid ((false && Fi.goodK (ks.take (k + 1))) = (false && (Fi.goodK (ks.take k) && (decide (-1 ≤ ks.getD k 0) && decide (ks.getD k 0 ≤ 4))))) := Lib.hid (by rw [HE])
          generalize ks.getD k 0 = z at *
          generalize hgb : Fi.goodK (ks.take k) = gk at *
          cases hgk : (false && gk)
          · have HE2 : Hid ((false && Fi.goodK (ks.take (k + 1))) = false) := Lib.hid (by rw [HE.out, ← Bool.and_assoc, hgk]; rfl)
            clear HE hgb hgk
            go_wp2
            go_round
            case rel => exact ⟨k + 1, by omega, by go_num, by rw [HE2.out]⟩
            case measure => simp [intOf]; omega
          · by_cases h0 : -1 ≤ z
            · have dz0 : decide (-1 ≤ z) = true := by simpa using h0
              by_cases h4 : z ≤ 4
              · have dz4 : decide (z ≤ 4) = true := by simpa using h4
                have HE2 : Hid ((false && Fi.goodK (ks.take (k + 1))) = true) := Lib.hid (by rw [HE.out, ← Bool.and_assoc, hgk, dz0, dz4]; rfl)
                clear HE hgb hgk h0 h4
                go_wp2
                go_round
                case rel => exact ⟨k + 1, by omega, by go_num, by rw [HE2.out]⟩
                case measure => simp [intOf]; omega
              · have dz4 : decide (z ≤ 4) = false := by simpa using h4
                have HE2 : Hid ((false && Fi.goodK (ks.take (k + 1))) = false) := Lib.hid (by rw [HE.out, dz4]; simp)
                clear HE hgb hgk h0 h4
                go_wp2
                go_round
                case rel => exact ⟨k + 1, by omega, by go_num, by rw [HE2.out]⟩
                case measure => simp [intOf]; omega
            · have dz0 : decide (-1 ≤ z) = false := by simpa using h0
              have HE2 : Hid ((false && Fi.goodK (ks.take (k + 1))) = false) := Lib.hid (by rw [HE.out, dz0]; simp)
              clear HE hgb hgk h0
              go_wp2
              go_round
              case rel => exact ⟨k + 1, by omega, by go_num, by rw [HE2.out]⟩
              case measure => simp [intOf]; omega
        · obtain rfl : kl = k := by omega
          rw [HGF.out]
          have HFF : Hid ((false && Fi.goodK ks) = false) := Lib.hid (by rfl)
          rw [HFF.out]
          clear HFF
          go_wp2_with fail
          refine (is_yes 6 rfl _).mono ?_
          rintro e w' ⟨rfl, rfl⟩
          go_wp2
          go_ret
          exact ⟨rfl, HB4.out⟩
    have d1 : decide (1 ≤ s) = true := by simpa using h1
    obtain ⟨t, rfl⟩ : ∃ t : Nat, s = t := ⟨s.toNat, by omega⟩
    by_cases h2 : 1 ≤ p
    rotate_left
    · have d2 : decide (1 ≤ p) = false := by simpa using h2
      clear h1 h2 HGL
      go_wp2
      go_loop [13, 15, 83] (fun g _ i => ∃ k : Nat, k ≤ kl ∧ i = .int .i64 k ∧ g = .bool (false && Fi.goodK (ks.take k))) (fun _ _ i => kl - (intOf i).toNat)
      case atStart => exact ⟨0, by omega, rfl, by rw [HG0.out]; rfl⟩
      case round =>
        obtain ⟨k, hk, rfl, rfl⟩ := hrel
        by_cases hlt : k < kl
        · obtain ⟨b2, off2, rfl, _, c2⟩ := HKI.out.at' k hlt
          have HE := HGK.out k hlt
          have HE : Hid ((false && Fi.goodK (ks.take (k + 1))) = (false && (Fi.goodK (ks.take k) && (decide (-1 ≤ ks.getD k 0) && decide (ks.getD k 0 ≤ 4))))) := Lib.hid (by rw [HE])
          generalize ks.getD k 0 = z at *
          generalize hgb : Fi.goodK (ks.take k) = gk at *
          cases hgk : (false && gk)
          · have HE2 : Hid ((false && Fi.goodK (ks.take (k + 1))) = false) := Lib.hid (by rw [HE.out, ← Bool.and_assoc, hgk]; rfl)
            clear HE hgb hgk
            go_wp2
            go_round
            case rel => exact ⟨k + 1, by omega, by go_num, by rw [HE2.out]⟩
            case measure => simp [intOf]; omega
          · by_cases h0 : -1 ≤ z
            · have dz0 : decide (-1 ≤ z) = true := by simpa using h0
              by_cases h4 : z ≤ 4
              · have dz4 : decide (z ≤ 4) = true := by simpa using h4
                have HE2 : Hid ((false && Fi.goodK (ks.take (k + 1))) = true) := Lib.hid (by rw [HE.out, ← Bool.and_assoc, hgk, dz0, dz4]; rfl)
                clear HE hgb hgk h0 h4
                go_wp2
                go_round
                case rel => exact ⟨k + 1, by omega, by go_num, by rw [HE2.out]⟩
                case measure => simp [intOf]; omega
              · have dz4 : decide (z ≤ 4) = false := by simpa using h4
                have HE2 : Hid ((false && Fi.goodK (ks.take (k + 1))) = false) := Lib.hid (by rw [HE.out, dz4]; simp)
                clear HE hgb hgk h0 h4
                go_wp2
                go_round
                case rel => exact ⟨k + 1, by omega, by go_num, by rw [HE2.out]⟩
                case measure => simp [intOf]; omega
            · have dz0 : decide (-1 ≤ z) = false := by simpa using h0
              have HE2 : Hid ((false && Fi.goodK (ks.take (k + 1))) = false) := Lib.hid (by rw [HE.out, dz0]; simp)
              clear HE hgb hgk h0
              go_wp2
              go_round
              case rel => exact ⟨k + 1, by omega, by go_num, by rw [HE2.out]⟩
              case measure => simp [intOf]; omega
        · obtain rfl : kl = k := by omega
          rw [HGF.out]
          have HFF : Hid ((false && Fi.goodK ks) = false) := Lib.hid (by rfl)
          rw [HFF.out]
          clear HFF
          go_wp2_with fail
          refine (is_yes 6 rfl _).mono ?_
          rintro e w' ⟨rfl, rfl⟩
          go_wp2
          go_ret
          exact ⟨rfl, HB4.out⟩
    have d2 : decide (1 ≤ p) = true := by simpa using h2
    by_cases h3 : p ≤ 8
    rotate_left
    · have d3 : decide (p ≤ 8) = false := by simpa using h3
      clear h1 h2 h3 HGL
      go_wp2
      go_loop [13, 15, 83] (fun g _ i => ∃ k : Nat, k ≤ kl ∧ i = .int .i64 k ∧ g = .bool (false && Fi.goodK (ks.take k))) (fun _ _ i => kl - (intOf i).toNat)
      case atStart => exact ⟨0, by omega, rfl, by rw [HG0.out]; rfl⟩
      case round =>
        obtain ⟨k, hk, rfl, rfl⟩ := hrel
        by_cases hlt : k < kl
        · obtain ⟨b2, off2, rfl, _, c2⟩ := HKI.out.at' k hlt
          have HE := HGK.out k hlt
          have HE : Hid ((false && Fi.goodK (ks.take (k + 1))) = (false && (Fi.goodK (ks.take k) && (decide (-1 ≤ ks.getD k 0) && decide (ks.getD k 0 ≤ 4))))) := Lib.hid (by rw [HE])
          generalize ks.getD k 0 = z at *
          generalize hgb : Fi.goodK (ks.take k) = gk at *
          cases hgk : (false && gk)
          · have HE2 : Hid ((false && Fi.goodK (ks.take (k + 1))) = false) := Lib.hid (by rw [HE.out, ← Bool.and_assoc, hgk]; rfl)
            clear HE hgb hgk
            go_wp2
            go_round
            case rel => exact ⟨k + 1, by omega, by go_num, by rw [HE2.out]⟩
            case measure => simp [intOf]; omega
          · by_cases h0 : -1 ≤ z
            · have dz0 : decide (-1 ≤ z) = true := by simpa using h0
              by_cases h4 : z ≤ 4
              · have dz4 : decide (z ≤ 4) = true := by simpa using h4
                have HE2 : Hid ((false && Fi.goodK (ks.take (k + 1))) = true) := Lib.hid (by rw [HE.out, ← Bool.and_assoc, hgk, dz0, dz4]; rfl)
                clear HE hgb hgk h0 h4
                go_wp2
                go_round
                case rel => exact ⟨k + 1, by omega, by go_num, by rw [HE2.out]⟩
                case measure => simp [intOf]; omega
              · have dz4 : decide (z ≤ 4) = false := by simpa using h4
                have HE2 : Hid ((false && Fi.goodK (ks.take (k + 1))) = false) := Lib.hid (by rw [HE.out, dz4]; simp)
                clear HE hgb hgk h0 h4
                go_wp2
                go_round
                case rel => exact ⟨k + 1, by omega, by go_num, by rw [HE2.out]⟩
                case measure => simp [intOf]; omega
            · have dz0 : decide (-1 ≤ z) = false := by simpa using h0
              have HE2 : Hid ((false && Fi.goodK (ks.take (k + 1))) = false) := Lib.hid (by rw [HE.out, dz0]; simp)
              clear HE hgb hgk h0
              go_wp2
              go_round
              case rel => exact ⟨k + 1, by omega, by go_num, by rw [HE2.out]⟩
              case measure => simp [intOf]; omega
        · obtain rfl : kl = k := by omega
          rw [HGF.out]
          have HFF : Hid ((false && Fi.goodK ks) = false) := Lib.hid (by rfl)
          rw [HFF.out]
          clear HFF
          go_wp2_with fail
          refine (is_yes 6 rfl _).mono ?_
          rintro e w' ⟨rfl, rfl⟩
          go_wp2
          go_ret
          exact ⟨rfl, HB4.out⟩
    have d3 : decide (p ≤ 8) = true := by simpa using h3
    have ht : 1 ≤ t := by omega
    obtain ⟨R, hR⟩ : ∃ R, n % t = R := ⟨_, rfl⟩
    obtain ⟨Q, hQ⟩ : ∃ Q, n / t = Q := ⟨_, rfl⟩
    have hRT : (n : Int).tmod (t : Int) = (R : Int) := by rw [Int.tmod_eq_emod_of_nonneg (by omega)]; omega
    have hQT : (n : Int).tdiv (t : Int) = (Q : Int) := by rw [Int.tdiv_eq_ediv_of_nonneg (by omega), ← hQ]; simp
    have hRI : (n : Int) % (t : Int) = (R : Int) := by omega
    have hQI : (n : Int) / (t : Int) = (Q : Int) := by rw [← hQ]; simp
    have hQn : Q ≤ n := by rw [← hQ]; exact Nat.div_le_self _ _
    have hRn : R ≤ n := by rw [← hR]; exact Nat.mod_le _ _
    have hmx : (if (t : Int) < 1 then (1 : Int) else (t : Int)) = (t : Int) := by rw [if_neg (by omega)]
    have hmx2 : (if t < 1 then (1 : Int) else (t : Int)) = (t : Int) := by rw [if_neg (by omega)]

    have HGL2 : Hid ((decide (R = 0) && decide (Q = kl) && Fi.goodK ks) = false) := Lib.hid (by
      have := HGL.out
      rw [d1, d2, d3, Int.toNat_natCast, hR, hQ] at this
      simpa using this)
    clear hR hQ HGL h1 h2 h3
    by_cases h4 : R = 0
    rotate_left
    · have d4 : ((R : Int) == 0) = false := by simp; omega
      clear h4 HGL2
      go_wp2
      go_loop [13, 15, 83] (fun g _ i => ∃ k : Nat, k ≤ kl ∧ i = .int .i64 k ∧ g = .bool (false && Fi.goodK (ks.take k))) (fun _ _ i => kl - (intOf i).toNat)
      case atStart => exact ⟨0, by omega, rfl, by rw [HG0.out]; rfl⟩
      case round =>
        obtain ⟨k, hk, rfl, rfl⟩ := hrel
        by_cases hlt : k < kl
        · obtain ⟨b2, off2, rfl, _, c2⟩ := HKI.out.at' k hlt
          have HE := HGK.out k hlt
          have HE : Hid ((false && Fi.goodK (ks.take (k + 1))) = (false && (Fi.goodK (ks.take k) && (decide (-1 ≤ ks.getD k 0) && decide (ks.getD k 0 ≤ 4))))) := Lib.hid (by rw [HE])
          generalize ks.getD k 0 = z at *
          generalize hgb : Fi.goodK (ks.take k) = gk at *
          cases hgk : (false && gk)
          · have HE2 : Hid ((false && Fi.goodK (ks.take (k + 1))) = false) := Lib.hid (by rw [HE.out, ← Bool.and_assoc, hgk]; rfl)
            clear HE hgb hgk
            go_wp2
            go_round
            case rel => exact ⟨k + 1, by omega, by go_num, by rw [HE2.out]⟩
            case measure => simp [intOf]; omega
          · by_cases h0 : -1 ≤ z
            · have dz0 : decide (-1 ≤ z) = true := by simpa using h0
              by_cases h4 : z ≤ 4
              · have dz4 : decide (z ≤ 4) = true := by simpa using h4
                have HE2 : Hid ((false && Fi.goodK (ks.take (k + 1))) = true) := Lib.hid (by rw [HE.out, ← Bool.and_assoc, hgk, dz0, dz4]; rfl)
                clear HE hgb hgk h0 h4
                go_wp2
                go_round
                case rel => exact ⟨k + 1, by omega, by go_num, by rw [HE2.out]⟩
                case measure => simp [intOf]; omega
              · have dz4 : decide (z ≤ 4) = false := by simpa using h4
                have HE2 : Hid ((false && Fi.goodK (ks.take (k + 1))) = false) := Lib.hid (by rw [HE.out, dz4]; simp)
                clear HE hgb hgk h0 h4
                go_wp2
                go_round
                case rel => exact ⟨k + 1, by omega, by go_num, by rw [HE2.out]⟩
                case measure => simp [intOf]; omega
            · have dz0 : decide (-1 ≤ z) = false := by simpa using h0
              have HE2 : Hid ((false && Fi.goodK (ks.take (k + 1))) = false) := Lib.hid (by rw [HE.out, dz0]; simp)
              clear HE hgb hgk h0
              go_wp2
              go_round
              case rel => exact ⟨k + 1, by omega, by go_num, by rw [HE2.out]⟩
              case measure => simp [intOf]; omega
        · obtain rfl : kl = k := by omega
          rw [HGF.out]
          have HFF : Hid ((false && Fi.goodK ks) = false) := Lib.hid (by rfl)
          rw [HFF.out]
          clear HFF
          go_wp2_with fail
          refine (is_yes 6 rfl _).mono ?_
          rintro e w' ⟨rfl, rfl⟩
          go_wp2
          go_ret
          exact ⟨rfl, HB4.out⟩
    have d4 : ((R : Int) == 0) = true := by simp [h4]
    by_cases h5 : Q = kl
    rotate_left
    · have d5 : ((kl : Int) == (Q : Int)) = false := by simp; omega
      clear h4 h5 HGL2
      go_wp2
      go_loop [13, 15, 83] (fun g _ i => ∃ k : Nat, k ≤ kl ∧ i = .int .i64 k ∧ g = .bool (false && Fi.goodK (ks.take k))) (fun _ _ i => kl - (intOf i).toNat)
      case atStart => exact ⟨0, by omega, rfl, by rw [HG0.out]; rfl⟩
      case round =>
        obtain ⟨k, hk, rfl, rfl⟩ := hrel
        by_cases hlt : k < kl
        · obtain ⟨b2, off2, rfl, _, c2⟩ := HKI.out.at' k hlt
          have HE := HGK.out k hlt
          have HE : Hid ((false && Fi.goodK (ks.take (k + 1))) = (false && (Fi.goodK (ks.take k) && (decide (-1 ≤ ks.getD k 0) && decide (ks.getD k 0 ≤ 4))))) := Lib.hid (by rw [HE])
          generalize ks.getD k 0 = z at *
          generalize hgb : Fi.goodK (ks.take k) = gk at *
          cases hgk : (false && gk)
          · have HE2 : Hid ((false && Fi.goodK (ks.take (k + 1))) = false) := Lib.hid (by rw [HE.out, ← Bool.and_assoc, hgk]; rfl)
            clear HE hgb hgk
            go_wp2
            go_round
            case rel => exact ⟨k + 1, by omega, by go_num, by rw [HE2.out]⟩
            case measure => simp [intOf]; omega
          · by_cases h0 : -1 ≤ z
            · have dz0 : decide (-1 ≤ z) = true := by simpa using h0
              by_cases h4 : z ≤ 4
              · have dz4 : decide (z ≤ 4) = true := by simpa using h4
                have HE2 : Hid ((false && Fi.goodK (ks.take (k + 1))) = true) := Lib.hid (by rw [HE.out, ← Bool.and_assoc, hgk, dz0, dz4]; rfl)
                clear HE hgb hgk h0 h4
                go_wp2
                go_round
                case rel => exact ⟨k + 1, by omega, by go_num, by rw [HE2.out]⟩
                case measure => simp [intOf]; omega
              · have dz4 : decide (z ≤ 4) = false := by simpa using h4
                have HE2 : Hid ((false && Fi.goodK (ks.take (k + 1))) = false) := Lib.hid (by rw [HE.out, dz4]; simp)
                clear HE hgb hgk h0 h4
                go_wp2
                go_round
                case rel => exact ⟨k + 1, by omega, by go_num, by rw [HE2.out]⟩
                case measure => simp [intOf]; omega
            · have dz0 : decide (-1 ≤ z) = false := by simpa using h0
              have HE2 : Hid ((false && Fi.goodK (ks.take (k + 1))) = false) := Lib.hid (by rw [HE.out, dz0]; simp)
              clear HE hgb hgk h0
              go_wp2
              go_round
              case rel => exact ⟨k + 1, by omega, by go_num, by rw [HE2.out]⟩
              case measure => simp [intOf]; omega
        · obtain rfl : kl = k := by omega
          rw [HGF.out]
          have HFF : Hid ((false && Fi.goodK ks) = false) := Lib.hid (by rfl)
          rw [HFF.out]
          clear HFF
          go_wp2_with fail
          refine (is_yes 6 rfl _).mono ?_
          rintro e w' ⟨rfl, rfl⟩
          go_wp2
          go_ret
          exact ⟨rfl, HB4.out⟩
    have d5 : ((kl : Int) == (Q : Int)) = true := by simp [h5]
    have HGL3 : Hid (Fi.goodK ks = false) := Lib.hid (by have := HGL2.out; simpa [h4, h5] using this)
    clear h4 h5 HGL2
    go_wp2
    go_loop [13, 15, 83] (fun g _ i => ∃ k : Nat, k ≤ kl ∧ i = .int .i64 k ∧ g = .bool (true && Fi.goodK (ks.take k))) (fun _ _ i => kl - (intOf i).toNat)
    case atStart => exact ⟨0, by omega, rfl, by rw [HG0.out]; rfl⟩
    case round =>
      obtain ⟨k, hk, rfl, rfl⟩ := hrel
      by_cases hlt : k < kl
      · obtain ⟨b2, off2, rfl, _, c2⟩ := HKI.out.at' k hlt
        have HE := HGK.out k hlt
        have HE : Hid ((true && Fi.goodK (ks.take (k + 1))) = (true && (Fi.goodK (ks.take k) && (decide (-1 ≤ ks.getD k 0) && decide (ks.getD k 0 ≤ 4))))) := Lib.hid (by rw [HE])
        generalize ks.getD k 0 = z at *
        generalize hgb : Fi.goodK (ks.take k) = gk at *
        cases hgk : (true && gk)
        · have HE2 : Hid ((true && Fi.goodK (ks.take (k + 1))) = false) := Lib.hid (by rw [HE.out, ← Bool.and_assoc, hgk]; rfl)
          clear HE hgb hgk
          go_wp2
          go_round
          case rel => exact ⟨k + 1, by omega, by go_num, by rw [HE2.out]⟩
          case measure => simp [intOf]; omega
        · by_cases h0 : -1 ≤ z
          · have dz0 : decide (-1 ≤ z) = true := by simpa using h0
            by_cases h4 : z ≤ 4
            · have dz4 : decide (z ≤ 4) = true := by simpa using h4
              have HE2 : Hid ((true && Fi.goodK (ks.take (k + 1))) = true) := Lib.hid (by rw [HE.out, ← Bool.and_assoc, hgk, dz0, dz4]; rfl)
              clear HE hgb hgk h0 h4
              go_wp2
              go_round
              case rel => exact ⟨k + 1, by omega, by go_num, by rw [HE2.out]⟩
              case measure => simp [intOf]; omega
            · have dz4 : decide (z ≤ 4) = false := by simpa using h4
              have HE2 : Hid ((true && Fi.goodK (ks.take (k + 1))) = false) := Lib.hid (by rw [HE.out, dz4]; simp)
              clear HE hgb hgk h0 h4
              go_wp2
              go_round
              case rel => exact ⟨k + 1, by omega, by go_num, by rw [HE2.out]⟩
              case measure => simp [intOf]; omega
          · have dz0 : decide (-1 ≤ z) = false := by simpa using h0
            have HE2 : Hid ((true && Fi.goodK (ks.take (k + 1))) = false) := Lib.hid (by rw [HE.out, dz0]; simp)
            clear HE hgb hgk h0
            go_wp2
            go_round
            case rel => exact ⟨k + 1, by omega, by go_num, by rw [HE2.out]⟩
            case measure => simp [intOf]; omega
      · obtain rfl : kl = k := by omega
        rw [HGF.out]
        have HFF : Hid ((true && Fi.goodK ks) = false) := Lib.hid (by rw [HGL3.out]; rfl)
        rw [HFF.out]
        clear HFF
        go_wp2_with fail
        refine (is_yes 6 rfl _).mono ?_
        rintro e w' ⟨rfl, rfl⟩
        go_wp2
        go_ret
        exact ⟨rfl, HB4.out⟩
  · obtain ⟨t, q, rfl, rfl, ht, hq, hq8, hn2, hK⟩ := Fi.goodRl_is hg
    rw [HKL.out] at hn2
    have HRO := Lib.hid (roll_good (some ⟨g1, 0, none⟩) n (n + 2) l t q (some ⟨g2, 0, none⟩) kl (kl + 1) ks w3 hcs hci (by omega) (by omega) (by omega) hg)
    have HN2 := Lib.hid hn2
    have HKK := Lib.hid hK
    clear hcs hci hg hn2 hK
    go_wp2_with fail
    refine HRO.out.mono ?_
    rintro e w4 ⟨hb4, gf, cf, hgf, hcf, rfl, hsf⟩
    have HC4 := Lib.hid (HC.out.mono hb4)
    have HSF := Lib.hid hsf
    clear HRO HC hb4 hgf hsf
    go_wp2_with fail
    refine (kept_any g1 n _ _ l _ _ (by omega) HC4.out.o1 (H.out.mono HC4.out.bel)).mono ?_
    rintro e w' ⟨rfl, rfl⟩
    go_wp2_with fail
    refine (keptI_any g2 kl ka kcap ks _ _ (by omega) HWF.out HC4.out.o2 (HK.out.mono HC4.out.bel)).mono ?_
    rintro e w5 ⟨rfl, nd, rfl⟩
    have HB5 := Lib.hid (below_then HC4.out.bel (drewN_is w4 nd))
    have HSF5 := Lib.hid (HSF.out.mono (drewN_is w4 nd))
    clear HC4 HSF
    revert HB5 HSF5
    generalize w4.drewN nd = w5
    intro HB5 HSF5
    have HKI := Lib.hid (HK.out.mono HB5.out)
    clear HK
    have hR : n % t = 0 := by rw [← HN2.out]; exact Nat.mul_mod_left _ _
    have hQ : n / t = kl := by rw [← HN2.out]; exact Nat.mul_div_cancel _ ht
    have hRT : (n : Int).tmod (t : Int) = 0 := by rw [Int.tmod_eq_emod_of_nonneg (by omega)]; omega
    have hQT : (n : Int).tdiv (t : Int) = (kl : Int) := by rw [Int.tdiv_eq_ediv_of_nonneg (by omega), ← hQ]; simp
    have hRI : (n : Int) % (t : Int) = 0 := by omega
    have hQI : (n : Int) / (t : Int) = (kl : Int) := by rw [← hQ]; simp
    have hmx : (if (t : Int) < 1 then (1 : Int) else (t : Int)) = (t : Int) := by rw [if_neg (by omega)]
    have hmx2 : (if t < 1 then (1 : Int) else (t : Int)) = (t : Int) := by rw [if_neg (by omega)]
    have d1 : decide (1 ≤ (t : Int)) = true := by simp; omega
    have d2 : decide (1 ≤ (q : Int)) = true := by simp; omega
    have d3 : decide ((q : Int) ≤ 8) = true := by simp; omega
    have d5 : ((kl : Int) == (kl : Int)) = true := by simp
    obtain ⟨M, hM⟩ : ∃ M, kl * (t + 1) = M := ⟨_, rfl⟩
    have hM2 : n + kl = M := by rw [← hM, ← HN2.out, Nat.mul_add, Nat.mul_one]
    have HM := Lib.hid hM
    rw [hM] at HSF5 ⊢
    have hMI : (n : Int) + (kl : Int) = (M : Int) := by omega
    have d6 : ((M : Int) != (M : Int)) = false := by simp
    clear hR hQ hM
    go_wp2
    go_loop [13, 15, 83] (fun g _ i => ∃ k : Nat, k ≤ kl ∧ i = .int .i64 k ∧ g = .bool (true && Fi.goodK (ks.take k))) (fun _ _ i => kl - (intOf i).toNat)
    case atStart => exact ⟨0, by omega, rfl, by rw [HG0.out]; rfl⟩
    case round =>
      obtain ⟨k, hk, rfl, rfl⟩ := hrel
      by_cases hlt : k < kl
      · obtain ⟨b2, off2, rfl, _, c2⟩ := HKI.out.at' k hlt
        have HE := HGK.out k hlt
        have HE : Hid ((true && Fi.goodK (ks.take (k + 1))) = (true && (Fi.goodK (ks.take k) && (decide (-1 ≤ ks.getD k 0) && decide (ks.getD k 0 ≤ 4))))) := Lib.hid (by rw [HE])
        generalize ks.getD k 0 = z at *
        generalize hgb : Fi.goodK (ks.take k) = gk at *
        cases hgk : (true && gk)
        · have HE2 : Hid ((true && Fi.goodK (ks.take (k + 1))) = false) := Lib.hid (by rw [HE.out, ← Bool.and_assoc, hgk]; rfl)
          clear HE hgb hgk
          go_wp2
          go_round
          case rel => exact ⟨k + 1, by omega, by go_num, by rw [HE2.out]⟩
          case measure => simp [intOf]; omega
        · by_cases h0 : -1 ≤ z
          · have dz0 : decide (-1 ≤ z) = true := by simpa using h0
            by_cases h4 : z ≤ 4
            · have dz4 : decide (z ≤ 4) = true := by simpa using h4
              have HE2 : Hid ((true && Fi.goodK (ks.take (k + 1))) = true) := Lib.hid (by rw [HE.out, ← Bool.and_assoc, hgk, dz0, dz4]; rfl)
              clear HE hgb hgk h0 h4
              go_wp2
              go_round
              case rel => exact ⟨k + 1, by omega, by go_num, by rw [HE2.out]⟩
              case measure => simp [intOf]; omega
            · have dz4 : decide (z ≤ 4) = false := by simpa using h4
              have HE2 : Hid ((true && Fi.goodK (ks.take (k + 1))) = false) := Lib.hid (by rw [HE.out, dz4]; simp)
              clear HE hgb hgk h0 h4
              go_wp2
              go_round
              case rel => exact ⟨k + 1, by omega, by go_num, by rw [HE2.out]⟩
              case measure => simp [intOf]; omega
          · have dz0 : decide (-1 ≤ z) = false := by simpa using h0
            have HE2 : Hid ((true && Fi.goodK (ks.take (k + 1))) = false) := Lib.hid (by rw [HE.out, dz0]; simp)
            clear HE hgb hgk h0
            go_wp2
            go_round
            case rel => exact ⟨k + 1, by omega, by go_num, by rw [HE2.out]⟩
            case measure => simp [intOf]; omega
      · obtain rfl : kl = k := by omega
        rw [HGF.out]
        rw [show (true && Fi.goodK ks) = true by rw [HKK.out]; rfl]
        clear HGK HGF HG0 hRT hQT hRI hQI hmx hmx2 d1 d2 d3 d5
        have hmk := bs_new w5 w5.heap.size rfl [] 5 (0, 0) 0 rfl (by omega) #[] rfl
        have HNB := Lib.hid (below_alloc w5 (.cells #[] 5))
        have HB6 := Lib.hid (below_then HB5.out HNB.out)
        have HSF6 := Lib.hid (HSF5.out.mono HNB.out)
        have HKI6 := Lib.hid (HKI.out.mono HNB.out)
        have HA6 := Lib.hid hmk
        clear hmk HNB HB5 HSF5 HKI
        go_wp2
        clear hMI d6
        revert HB6 HSF6 HKI6 HA6
        generalize (w5.alloc (.cells #[] 5)) = w6
        generalize (some (⟨w5.heap.size, 0, none⟩ : Addr)) = a6
        intro HB6 HSF6 HKI6 HA6
        go_loopw [16, 17, 18, 19, 121] (fun av _ _ _ i wr => ∃ (k : Nat) (ao : Option Addr) (al ac : Nat), k ≤ kl ∧ i = .int .i64 k ∧ av = .slice ao al ac ∧ Hid ((∀ W, Below w.heap.size w W → Bs W ao al ac (Fi.ahI l t k)) ∧ (al = 0 ∨ al = t)) ∧ Hid (Below w6.heap.size w6 wr)) (fun _ _ _ _ i _ => kl - (intOf i).toNat)
        case atStart => exact ⟨0, a6, 0, 0, by omega, rfl, rfl, Lib.hid ⟨fun W _ => ⟨rfl, Nat.le_refl _, by omega, by omega, fun _ => rfl, fun i hi => absurd hi (by omega)⟩, .inl rfl⟩, Lib.hid (Below.refl _ _)⟩
        case round =>
          clear hlt hk
          obtain ⟨k, ao, al, ac, hk, rfl, rfl, HAH, HQ⟩ := hrel
          by_cases hkc : k < kl
          · have HBW := Lib.hid (below_then HB6.out HQ.out)
            have hnk : (k + 1) * t ≤ kl * t := Nat.mul_le_mul_right t hkc
            rw [HN2.out] at hnk
            obtain ⟨A, hA⟩ : ∃ A, k * t = A := ⟨_, rfl⟩
            obtain ⟨A2, hA2⟩ : ∃ A2, (k + 1) * t = A2 := ⟨_, rfl⟩
            rw [hA2] at hnk
            have hAA : A + t = A2 := by rw [← hA2, Nat.succ_mul, hA]
            have e1 : (k : Int) * (t : Int) = (A : Int) := by rw [← hA]; simp
            have e2 : ((k : Int) + 1) * (t : Int) = (A2 : Int) := by rw [← hA2]; simp
            have hd : A2 - A = t := by omega
            have hcA : ¬ cap = A := by omega
            have hn0 : 0 < n := by omega
            have hI1 : (A : Int) ≤ (A2 : Int) := by omega
            have hI2 : (A2 : Int) ≤ (cap : Int) := by omega
            have hI3 : A ≤ A2 := by omega
            have hI4 : A2 ≤ cap := by omega
            obtain ⟨rb, ro, rfl, hrb, _⟩ := H.out.at' 0 hn0
            have HRS : Hid (∀ W, Below w.heap.size w W → Bs W (some ⟨rb, ro + A, none⟩) t (cap - A) (Fi.rowI l t k)) := Lib.hid (fun W hb => by
              have h9 := (H.out.mono hb).sub A t (by omega)
              unfold Fi.rowI
              rw [hA]
              exact ⟨h9.hlen, by omega, h9.hcap, by omega, fun e => by simp at e, fun i hi => h9.at' i hi⟩)
            have HAH2 : Hid ((∀ W, Below w.heap.size w W → Bs W (some ⟨rb, ro + A, none⟩) t (cap - A) (Fi.ahI l t (k + 1))) ∧ (t = 0 ∨ t = t)) := Lib.hid ⟨HRS.out, .inr rfl⟩
            obtain ⟨P, hP⟩ : ∃ P, k * (t + 1) = P := ⟨_, rfl⟩
            have hPM : P < M := by
              have h1 := Nat.mul_le_mul_right (t + 1) (show k + 1 ≤ kl from hkc)
              rw [Nat.succ_mul, hP, HM.out] at h1
              omega
            have e3 : (k : Int) * ((t : Int) + 1) = (P : Int) := by rw [← hP]; simp
            have hPI : (P : Int) < (M : Int) := by omega
            obtain ⟨hrow, _⟩ := Fi.rolN_row (r := l) (s := t) (p := q) (ks := ks) (n := kl) hkc (by rw [HN2.out, HLN.out]; exact Nat.le_refl _) HKK.out (by rw [HKL.out]; exact Nat.le_refl _)
            rw [hP] at hrow
            obtain ⟨fb, fo, ef, hfb, cf1⟩ := (HSF6.out.mono HQ.out).at' P hPM
            simp only [Option.some.injEq, Addr.mk.injEq, and_true] at ef
            obtain ⟨rfl, rfl⟩ := ef
            rw [Nat.zero_add] at cf1
            obtain ⟨bk, offk, ek, hbk, c0⟩ := (HKI6.out.mono HQ.out).at' k hkc
            subst ek
            have hkat := Fi.goodK_at HKK.out k (by rw [HKL.out]; exact hkc)
            have hkdef : Fi.kdI l t q ks k = if ks.getD k 0 = -1 then ((Fi.light (Fi.rowI l t k) (Fi.ahI l t k) q : Nat) : Int) else ks.getD k 0 := rfl
            have HLI := Lib.hid (fun W (hb : Below w.heap.size w W) => refLightest_any (some ⟨rb, ro + A, none⟩) t (cap - A) (Fi.rowI l t k) ao al ac (Fi.ahI l t k) q W (HRS.out W hb) (HAH.out.1 W hb) (by omega) (by have := HAH.out.2; omega) hq hq8)
            have hyl := gb_lt (Fi.rolN l t q ks kl) P
            generalize gb (Fi.rolN l t q ks kl) P = y at *
            by_cases hz : ks.getD k 0 = -1
            · rw [if_pos hz] at hkdef
              rw [hz] at c0
              obtain ⟨x, hx⟩ : ∃ x, Fi.light (Fi.rowI l t k) (Fi.ahI l t k) q = x := ⟨_, rfl⟩
              rw [hx] at HLI hkdef
              obtain rfl : y = x := by omega
              have hgf := Lib.hid hfb
              clear hz hx hkdef hrow hkat hA hA2 hnk hAA hP HRS HAH hrb hfb hbk
              go_wp2_with fail
              refine (HLI.out _ HBW.out).mono ?_
              rintro e w7 ⟨rfl, hb7⟩
              have HBQ := Lib.hid (below_then HQ.out hb7)
              have cf2 := (hb7.cell (p := ⟨gf, P, none⟩) hgf.out).trans cf1
              clear hb7 HLI cf1 c0 HBW HQ hgf
              have hxn : ((y : Int) != (y : Int)) = false := by simp
              go_wp2
              go_roundw
              case rel => exact ⟨k + 1, _, _, _, by omega, by go_num, rfl, Lib.hid ⟨HAH2.out.1, .inr rfl⟩, HBQ⟩
              case measure => simp [intOf]; omega
            · rw [if_neg hz] at hkdef
              obtain ⟨x, hx⟩ : ∃ x : Nat, ks.getD k 0 = x := ⟨(ks.getD k 0).toNat, by omega⟩
              rw [hx] at c0 hkdef
              obtain rfl : y = x := by omega
              have dz : decide ((y : Int) < 0) = false := by simp
              clear hz hx hkdef hrow hkat hA hA2 hnk hAA hP HRS HAH hrb hfb hbk HLI
              have hxn : ((y : Int) != (y : Int)) = false := by simp
              go_wp2
              go_roundw
              case rel => exact ⟨k + 1, _, _, _, by omega, by go_num, rfl, Lib.hid ⟨HAH2.out.1, .inr rfl⟩, HQ⟩
              case measure => simp [intOf]; omega
          · obtain rfl : kl = k := by omega
            have HB7 := Lib.hid (below_then HB6.out HQ.out)
            have HS7 := Lib.hid (HSF6.out.mono HQ.out)
            clear HAH HQ HB6 HSF6 HKI6 HA6
            by_cases hk0 : kl = 0
            · have d0 : ((kl : Int) == 0) = true := by simp [hk0]
              clear hk0
              go_wp2
              go_ret
              exact ⟨rfl, HB7.out⟩
            · have d0 : ((kl : Int) == 0) = false := by simp; omega
              have hsz : t ≤ n := by
                have h1 := Nat.mul_le_mul_right t (show 1 ≤ kl by omega)
                rw [Nat.one_mul, HN2.out] at h1
                exact h1
              have hnl : kl * t ≤ l.length := by rw [HN2.out, HLN.out]; exact Nat.le_refl _
              have hkl2 : kl ≤ ks.length := by rw [HKL.out]; exact Nat.le_refl _
              have hck := Fi.rol_chk (p := q) hnl HKK.out hkl2 kl 0 (by omega)
              have hou := Fi.rol_out (p := q) (by omega) hnl HKK.out hkl2 kl (Nat.le_refl _)
              rw [List.take_of_length_le (by rw [HN2.out, HLN.out]; exact Nat.le_refl _)] at hou
              have hU := unroll_good (some ⟨gf, 0, none⟩) M cf t kl q _ _ HS7.out (by omega) (by omega) ht (by omega) (by omega) (by omega) hq hq8
              rw [hck, hou, HN2.out] at hU
              have HU := Lib.hid hU
              clear hck hou hU hnl hkl2 hk0
              go_wp2_with fail
              refine HU.out.mono ?_
              rintro e w8 ⟨hb8, hcase⟩
              rcases hcase with ⟨_, g8, rfl, own8⟩ | ⟨h0, _⟩
              · obtain ⟨a8, c8, e8, hbs8⟩ := own_bs own8 (by omega)
                simp only [Value.slice.injEq] at e8
                obtain ⟨rfl, _, rfl⟩ := e8
                have HB8 := Lib.hid (below_then HB7.out hb8)
                have HSM := Lib.hid (same_any _ _ _ _ _ _ _ _ _ hbs8 (H.out.mono HB8.out))
                rw [show (l == l) = true from beq_self_eq_true l] at HSM
                clear hb8 own8 hbs8 HU HB7 HS7
                go_wp2_with fail
                refine HSM.out.mono ?_
                rintro e w' ⟨rfl, rfl⟩
                go_wp2
                go_ret
                exact ⟨rfl, HB8.out⟩
              · exact absurd rfl h0
theorem walk (a : Option Addr) (n cap : Nat) (l : List UInt8) (s p : Int) (ka : Option Addr) (kl kcap : Nat) (ks : List Int) (w : World) (h : Bs w a n cap l) (hr : cap ≤ 140737488351232) (_ : (Lit.int .i64 s).wf = true) (_ : (Lit.int .i64 p).wf = true) (hk : Is .i64 w ka kl kcap ks) (hkr : kcap * 8 ≤ 140737488351232) (_ : laidMetH Tryd.prog [("bytes.ErrTooLarge", Rows.laid_bytes_ErrTooLarge)] w) :
    Calls Tryd.prog 3 #[.agg #[.slice a n cap, .int .i64 s, .int .i64 p, .slice ka kl kcap]] w fun e w' => e = .returned (.bool true) ∧ Below w.heap.size w w' := by
  have HB := Lib.hid (below_alloc w (.cells #[.slice a n cap, .int .i64 s, .int .i64 p, .slice ka kl kcap] 25))
  have hq := heap_alloc_last w (.cells #[.slice a n cap, .int .i64 s, .int .i64 p, .slice ka kl kcap] 25)
  have c0 : (w.alloc (.cells #[.slice a n cap, .int .i64 s, .int .i64 p, .slice ka kl kcap] 25)).cell? ⟨w.heap.size, 0, none⟩ = some (.slice a n cap) := (cell_of_row _ _ 0 _ _ (0, 0) hq).trans rfl
  have c1 : (w.alloc (.cells #[.slice a n cap, .int .i64 s, .int .i64 p, .slice ka kl kcap] 25)).cell? ⟨w.heap.size, 1, none⟩ = some (.int .i64 s) := (cell_of_row _ _ 1 _ _ (0, 0) hq).trans rfl
  have c2 : (w.alloc (.cells #[.slice a n cap, .int .i64 s, .int .i64 p, .slice ka kl kcap] 25)).cell? ⟨w.heap.size, 2, none⟩ = some (.int .i64 p) := (cell_of_row _ _ 2 _ _ (0, 0) hq).trans rfl
  have c3 : (w.alloc (.cells #[.slice a n cap, .int .i64 s, .int .i64 p, .slice ka kl kcap] 25)).cell? ⟨w.heap.size, 3, none⟩ = some (.slice ka kl kcap) := (cell_of_row _ _ 3 _ _ (0, 0) hq).trans rfl
  have HF := Lib.hid (byKinds_any a n cap l s p ka kl kcap ks _ (h.mono HB.out) hr (hk.mono HB.out) hkr)
  clear hq h hk
  go_enter Tryd.func3, Tryd.ntmps3
  go_wp2_with fail
  refine HF.out.mono ?_
  rintro e w' ⟨rfl, hb⟩
  have HB2 := Lib.hid (below_then HB.out hb)
  clear hb
  go_wp2
  go_ret
  exact ⟨rfl, HB2.out⟩
set_option maxRecDepth 100000 in
theorem lifted (os : Os) (started : os.Started) (H : Type) (enc : TypeId × Value → H) :
    ReturnsInHanded {} Tryd.checked os 3 .any (fun w args => (Rows.filterAllSpec.pre enc Tryd.prog Tryd.f3 Rows.filterAllRow.domain false w args ∧ laidMetH Tryd.prog [("bytes.ErrTooLarge", Rows.laid_bytes_ErrTooLarge)] w) ∧ sizedMet enc Tryd.prog Tryd.f3 (OpenSpec.ofChange Rows.filterAllSpec) false w args)
      (Rows.filterAllSpec.post enc Tryd.prog Tryd.f3 false true false false) := by
  refine returnsInHanded_of_change_and (C := Tryd.checked) (X := fun w _ => laidMetH Tryd.prog [("bytes.ErrTooLarge", Rows.laid_bytes_ErrTooLarge)] w) (fun _ _ _ hh h => h.of_heap hh) own started (by kernel_rfl) Tryd.func3
    (ChangeSpec.witness_shaped (enc := enc) (C := Tryd.checked) (os := os) (X := fun w _ => laidMetH Tryd.prog [("bytes.ErrTooLarge", Rows.laid_bytes_ErrTooLarge)] w) false (World.laidAll Tryd.prog os [("bytes.ErrTooLarge", Rows.laid_bytes_ErrTooLarge)]) #[.agg #[.slice none 0 0, .int .i64 0, .int .i64 0, .slice none 0 0]] 8 (World.laidAll_os _ _ _)
      (World.shaped_of_ZipB (by kernel_rfl) (by kernel_rfl)) (by kernel_rfl) (by kernel_rfl) (by kernel_rfl)
      (by rw [MakeChecks.laidMetH_plain _ _ _ (by kernel_rfl)]; exact laidMet_laidAll _ (by kernel_rfl) (by kernel_rfl))) ?_
  intro W base args ds gs before hval0 hW _ hsz0 hL _
  have hval : ∀ (j : Nat) t v, Tryd.f3.params[j]? = some t → args[j]? = some v → Value.okWide Tryd.prog W .any base t v := hval0
  have hsz : (DataW.weightsEach Tryd.prog (Tryd.f3.params.toList ++ Rows.filterAllSpec.plain.varTypes Tryd.prog) (ds ++ gs)).all (· ≤ reachBytes) = true := hsz0
  have hW' := hW
  obtain ⟨p, q, hA0, hV, rfl, hfz, hnd⟩ := hW
  have hA : DataW.TrodAll enc Tryd.prog W 0 (fun _ => true) true Tryd.f3.params.toList args.toList ds p := hA0
  rw [Tryd.params3] at hA hval hsz
  obtain ⟨v0, vs0, d0, ds0, p0, q0, hargs, rfl, rfl, h0, r0⟩ := trodAll_cons hA
  obtain ⟨rfl, rfl, rfl⟩ := trodAll_nil r0
  obtain rfl : args = #[v0] := by cases args; simp_all
  obtain ⟨rfl, rfl⟩ := trodVars_none hV
  clear hsz0
  have k0 := h0
  have lt0 : ∀ x ∈ p0, x.block < W.heap.size := by obtain ⟨m, hm⟩ := k0; exact DataW.trod_lt m _ _ _ hm
  obtain ⟨a0, len0, cap0, l0, m0, n0, b0, blen0, bcap0, g0, rfl, w0, c0, x0, y0, z0, u0⟩ := open_rows Tryd.underlying25 (by kernel_rfl) Tryd.underlying22 Tryd.underlying5 (by kernel_rfl) (by kernel_rfl) Tryd.underlying3 Tryd.underlying3 Tryd.underlying23 Tryd.underlying3 (by kernel_rfl) (by kernel_rfl) (by kernel_rfl) (by kernel_rfl) (by kernel_rfl) (by kernel_rfl) rfl rfl rfl rfl (hval 0 25 v0 rfl rfl) h0 hsz 0 rfl rfl
  clear hA0 hval0 hsz
  refine (walk a0 len0 cap0 l0 m0 n0 b0 blen0 bcap0 g0 W w0 c0 x0 y0 z0 u0 hL).mono fun e W' ⟨he, bel⟩ => ?_
  subst he
  exact ⟨_, rfl, _, _, _, [], _, [], hW', trodAll_mk1 (shut_bool Tryd.underlying4 _), (trodAll_cons_mk (Below.trod laidOut (by kernel_rfl) (of_decide_eq_true (by kernel_rfl)) k0 bel lt0) trodAll_mk0), rfl, bel.frame _, fun h => by cases h⟩

theorem proved : Rows.FilterAllSaid :=
  OpenClaim.holds_of_wide 3 Tryd.f3 rfl rfl rfl rfl rfl rfl rfl ⟨rfl, rfl, rfl, rfl, rfl⟩ rfl rfl rfl rfl rfl (by kernel_rfl) Tryd.func3 (by kernel_rfl)
    (of_decide_eq_true (by kernel_rfl)) (by unfold Func.isWrapper; first | (rw [if_pos (by decide +kernel)]; kernel_rfl) | (rw [if_neg (by decide +kernel)]; exact ⟨rfl, rfl⟩))
    (fun os started H enc _ => lifted os started H enc)
theorem card : Rows.FilterAllCardSaid :=
  Claim7.holds_tied_plain_at .later [] [.sentinel] true (true, "7e999ceb99831c914d5c986be371442fe029436e75bb87b41d5db9bb43faa505") true proved (fun _ h => by cases h) (by kernel_rfl) (fun _ h => by cases h) filterAll_row_tie rfl ⟨rfl, rfl⟩ (by kernel_rfl) rfl
    (fun f fn hf hfn => by
      obtain rfl : f = 3 := Option.some.inj ((show Tryd.prog.funcNamed "burnish/burnishlaw14.FilterAll" = some 3 by kernel_rfl).symm.trans hf) |>.symm
      obtain rfl : fn = Tryd.f3 := (Option.some.inj (Tryd.func3.symm.trans hfn)).symm
      exact ⟨by kernel_rfl, fun j t ht => by
        rw [Tryd.params3] at ht
        have hm : t ∈ [25] := by simpa using Array.mem_of_getElem? ht
        have hall : ([25].all fun u => !Tryd.prog.wantsStandIn u) = true := by kernel_rfl
        exact (show Tryd.prog.wantsStandIn t = false by simpa using List.all_eq_true.1 hall t hm)⟩)
    (by kernel_rfl)
#print axioms proved
#print axioms card
end Go.Proofs.YtbgaaocgdjkkeaaDoor.FilterAll
