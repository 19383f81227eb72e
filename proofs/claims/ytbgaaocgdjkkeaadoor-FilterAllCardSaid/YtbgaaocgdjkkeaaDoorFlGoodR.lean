/- filter.goodRoll: its contract. -/
import Derived.Test.YtbgaaocgdjkkeaaDoorFlOf
import Derived.Test.YtbgaaocgdjkkeaaDoorFlRolMath
import Derived.Test.YtbgaaocgdjkkeaaDoorIntsGet
namespace Go.Proofs.YtbgaaocgdjkkeaaDoor
open Go.RowKit

/-- What goodRoll asks. -/
def Fi.goodRl (n : Nat) (s p : Int) (ks : List Int) : Bool := decide (1 ≤ s) && decide (1 ≤ p) && decide (p ≤ 8) && decide (n % s.toNat = 0) && decide (n / s.toNat = ks.length) && Fi.goodK ks
set_option maxHeartbeats 1000000 in
theorem goodRoll_any (n : Nat) (s p : Int) (a : Option Addr) (len cap : Nat) (ks : List Int) (w : World) (h : Is .i64 w a len cap ks) (hl : len ≤ 100000000) (hn : n ≤ 100000000) :
    Calls Tryd.prog 16 #[.int .i64 n, .int .i64 s, .int .i64 p, .slice a len cap] w fun e w' => e = .returned (.bool (Fi.goodRl n s p ks)) ∧ w = w' := by
  have HG : Hid (Fi.goodRl n s p ks = (decide (1 ≤ s) && decide (1 ≤ p) && decide (p ≤ 8) && decide (n % s.toNat = 0) && decide (n / s.toNat = ks.length) && Fi.goodK ks)) := Lib.hid rfl
  have HLN := Lib.hid h.hlen
  have H := Lib.hid h
  clear h
  by_cases h1 : s < 1
  · have d1 : decide (s < 1) = true := by simpa using h1
    have HR : Hid (Fi.goodRl n s p ks = false) := Lib.hid (by rw [HG.out, show decide (1 ≤ s) = false by simp; omega]; rfl)
    rw [HR.out]
    clear h1 HG
    go_enter Tryd.func16, Tryd.ntmps16
    go_wp2
    go_ret
    exact ⟨rfl, rfl⟩
  have d1 : decide (s < 1) = false := by simpa using h1
  by_cases h2 : p < 1
  · have d2 : decide (p < 1) = true := by simpa using h2
    have HR : Hid (Fi.goodRl n s p ks = false) := Lib.hid (by rw [HG.out, show decide (1 ≤ p) = false by simp; omega]; simp)
    rw [HR.out]
    clear h1 h2 HG
    go_enter Tryd.func16, Tryd.ntmps16
    go_wp2
    go_ret
    exact ⟨rfl, rfl⟩
  have d2 : decide (p < 1) = false := by simpa using h2
  by_cases h3 : 8 < p
  · have d3 : decide (8 < p) = true := by simpa using h3
    have HR : Hid (Fi.goodRl n s p ks = false) := Lib.hid (by rw [HG.out, show decide (p ≤ 8) = false by simp; omega]; simp)
    rw [HR.out]
    clear h1 h2 h3 HG
    go_enter Tryd.func16, Tryd.ntmps16
    go_wp2
    go_ret
    exact ⟨rfl, rfl⟩
  have d3 : decide (8 < p) = false := by simpa using h3
  obtain ⟨t, rfl⟩ : ∃ t : Nat, s = t := ⟨s.toNat, by omega⟩
  rw [Int.toNat_natCast] at HG
  have ht : 1 ≤ t := by omega
  obtain ⟨R, hR⟩ : ∃ R, n % t = R := ⟨_, rfl⟩
  obtain ⟨Q, hQ⟩ : ∃ Q, n / t = Q := ⟨_, rfl⟩
  have hRI : (n : Int) % (t : Int) = (R : Int) := by omega
  have hQI : (n : Int) / (t : Int) = (Q : Int) := by rw [← hQ]; simp
  have hRT : (n : Int).tmod (t : Int) = (R : Int) := by rw [Int.tmod_eq_emod_of_nonneg (by omega)]; exact hRI
  have hQT : (n : Int).tdiv (t : Int) = (Q : Int) := by rw [Int.tdiv_eq_ediv_of_nonneg (by omega)]; exact hQI
  have hQn : Q ≤ n := by rw [← hQ]; exact Nat.div_le_self _ _
  have hRn : R ≤ n := by rw [← hR]; exact Nat.mod_le _ _
  rw [hR, hQ] at HG
  by_cases h4 : R = 0
  · by_cases h5 : Q = len
    · have HR : Hid (Fi.goodRl n t p ks = Fi.goodK ks) := Lib.hid (by
        rw [HG.out, show decide (1 ≤ (t : Int)) = true by simp; omega, show decide (1 ≤ p) = true by simp; omega, show decide (p ≤ 8) = true by simp; omega, HLN.out]
        simp [h4, h5])
      rw [HR.out]
      clear h1 h2 h3 HG hR hQ HR
      have d4 : ((R : Int) != 0) = false := by simp [h4]
      have d5 : ((Q : Int) != (len : Int)) = false := by simp [h5]
      clear h4 h5
      go_enter Tryd.func16, Tryd.ntmps16
      go_wp2
      clear d1 d2 d3 d4 d5
      go_loop [10, 37] (fun _ i => ∃ k : Nat, k ≤ len ∧ i = .int .i64 k ∧ Hid (∀ j, j < k → -1 ≤ ks.getD j 0 ∧ ks.getD j 0 ≤ 4)) (fun _ i => len - (intOf i).toNat)
      case atStart => exact ⟨0, by omega, rfl, Lib.hid (fun j hj => by omega)⟩
      case round =>
        obtain ⟨k, hk, rfl, HK⟩ := hrel
        by_cases hlt : k < len
        · obtain ⟨b, off, rfl, hb, c0⟩ := H.out.at' k hlt
          have HN := Lib.hid (fun h => Fi.goodK_no (ks := ks) (i := k) (by rw [HLN.out]; exact hlt) h)
          have HY : Hid (-1 ≤ ks.getD k 0 ∧ ks.getD k 0 ≤ 4 → ∀ j, j < k + 1 → -1 ≤ ks.getD j 0 ∧ ks.getD j 0 ≤ 4) := Lib.hid (fun h j hj => by
            by_cases e : j < k
            · exact HK.out j e
            · obtain rfl : j = k := by omega
              exact h)
          have hw := H.out.getW k hlt
          generalize ks.getD k 0 = z at *
          by_cases hz : z = -1
          · subst hz
            have HY2 := Lib.hid (HY.out (by omega))
            clear HY HN HK
            go_wp2
            go_round
            case rel => exact ⟨k + 1, by omega, by go_num, HY2⟩
            case measure => simp [intOf]; omega
          · have dz : (z != -1) = true := by simpa using hz
            have HGK := Lib.hid (goodKind_any z w)
            by_cases hg : 0 ≤ z ∧ z ≤ 4
            · rw [show (decide (0 ≤ z) && decide (z ≤ 4)) = true by simp; omega] at HGK
              have HY2 := Lib.hid (HY.out (by omega))
              clear HY HN HK hz hg
              go_wp2_with fail
              refine HGK.out.mono ?_
              rintro e w' ⟨rfl, rfl⟩
              go_wp2
              go_round
              case rel => exact ⟨k + 1, by omega, by go_num, HY2⟩
              case measure => simp [intOf]; omega
            · rw [show (decide (0 ≤ z) && decide (z ≤ 4)) = false by simp; omega] at HGK
              have HF := Lib.hid (HN.out (by omega))
              clear HY HN HK hz hg
              go_wp2_with fail
              refine HGK.out.mono ?_
              rintro e w' ⟨rfl, rfl⟩
              go_wp2
              go_ret
              exact ⟨by rw [HF.out]; rfl, rfl⟩
        · obtain rfl : len = k := by omega
          have HF := Lib.hid (Fi.goodK_of (ks := ks) (fun i hi => HK.out i (by rw [← HLN.out]; exact hi)))
          go_wp2
          go_ret
          exact ⟨by rw [HF.out]; rfl, rfl⟩
    · have HR : Hid (Fi.goodRl n t p ks = false) := Lib.hid (by rw [HG.out, HLN.out, show decide (Q = len) = false by simpa using h5]; simp)
      rw [HR.out]
      clear h1 h2 h3 HG hR hQ HR
      have d4 : ((R : Int) != 0) = false := by simp [h4]
      have d5 : ((Q : Int) != (len : Int)) = true := by simp; omega
      clear h4 h5
      go_enter Tryd.func16, Tryd.ntmps16
      go_wp2
      go_ret
      exact ⟨rfl, rfl⟩
  · have HR : Hid (Fi.goodRl n t p ks = false) := Lib.hid (by rw [HG.out, show decide (R = 0) = false by simpa using h4]; simp)
    rw [HR.out]
    clear h1 h2 h3 HG hR hQ HR
    have d4 : ((R : Int) != 0) = true := by simp; omega
    clear h4
    go_enter Tryd.func16, Tryd.ntmps16
    go_wp2
    go_ret
    exact ⟨rfl, rfl⟩
end Go.Proofs.YtbgaaocgdjkkeaaDoor
