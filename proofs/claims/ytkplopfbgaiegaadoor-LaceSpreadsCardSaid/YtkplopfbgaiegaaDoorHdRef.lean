/- burnishref13.Check, Channels, RowSize, and head.RowSize: their contracts. -/
import Derived.Test.YtkplopfbgaiegaaDoorHdChk
import Derived.Deep.QuietTactic
import Derived.BigQuiet
namespace Go.Proofs.YtkplopfbgaiegaaDoor
open Go.RowKit

namespace Hd
def T30 : List Int := [0, 1, 0, 2, 0, 4, 0, 8, 0, 16, 2, 8, 2, 16, 3, 1, 3, 2, 3, 4, 3, 8, 4, 8, 4, 16, 6, 8, 6, 16]
/-- Is one of the first j pairs this one? -/
def pr (c d : Int) (j : Nat) : Bool := (List.range j).any fun i => T30.getD (2 * i) 0 == c && T30.getD (2 * i + 1) 0 == d
theorem pr_zero (c d : Int) : pr c d 0 = false := rfl
theorem pr_succ (c d : Int) (j : Nat) : pr c d (j + 1) = (pr c d j || (T30.getD (2 * j) 0 == c && T30.getD (2 * j + 1) 0 == d)) := by
  unfold pr; rw [List.range_succ, List.any_append]; simp
theorem pr_list (c d : Int) : pr c d 15 = [(0, 1), (0, 2), (0, 4), (0, 8), (0, 16), (2, 8), (2, 16), (3, 1), (3, 2), (3, 4), (3, 8), (4, 8), (4, 16), (6, 8), (6, 16)].any fun x : Int × Int => x.1 == c && x.2 == d := by
  have h1 : pr c d 1 = (pr c d 0 || ((0 : Int) == c && (1 : Int) == d)) := pr_succ c d 0
  have h2 : pr c d 2 = (pr c d 1 || ((0 : Int) == c && (2 : Int) == d)) := pr_succ c d 1
  have h3 : pr c d 3 = (pr c d 2 || ((0 : Int) == c && (4 : Int) == d)) := pr_succ c d 2
  have h4 : pr c d 4 = (pr c d 3 || ((0 : Int) == c && (8 : Int) == d)) := pr_succ c d 3
  have h5 : pr c d 5 = (pr c d 4 || ((0 : Int) == c && (16 : Int) == d)) := pr_succ c d 4
  have h6 : pr c d 6 = (pr c d 5 || ((2 : Int) == c && (8 : Int) == d)) := pr_succ c d 5
  have h7 : pr c d 7 = (pr c d 6 || ((2 : Int) == c && (16 : Int) == d)) := pr_succ c d 6
  have h8 : pr c d 8 = (pr c d 7 || ((3 : Int) == c && (1 : Int) == d)) := pr_succ c d 7
  have h9 : pr c d 9 = (pr c d 8 || ((3 : Int) == c && (2 : Int) == d)) := pr_succ c d 8
  have h10 : pr c d 10 = (pr c d 9 || ((3 : Int) == c && (4 : Int) == d)) := pr_succ c d 9
  have h11 : pr c d 11 = (pr c d 10 || ((3 : Int) == c && (8 : Int) == d)) := pr_succ c d 10
  have h12 : pr c d 12 = (pr c d 11 || ((4 : Int) == c && (8 : Int) == d)) := pr_succ c d 11
  have h13 : pr c d 13 = (pr c d 12 || ((4 : Int) == c && (16 : Int) == d)) := pr_succ c d 12
  have h14 : pr c d 14 = (pr c d 13 || ((6 : Int) == c && (8 : Int) == d)) := pr_succ c d 13
  have h15 : pr c d 15 = (pr c d 14 || ((6 : Int) == c && (16 : Int) == d)) := pr_succ c d 14
  rw [h15, h14, h13, h12, h11, h10, h9, h8, h7, h6, h5, h4, h3, h2, h1, pr_zero]
  simp only [List.any_cons, List.any_nil, Bool.false_or, Bool.or_false, Bool.or_assoc]
theorem pr_all (c d : Int) : pr c d 15 = (deps c).contains d := by
  rw [pr_list]
  by_cases h : c = 0 ∨ c = 2 ∨ c = 3 ∨ c = 4 ∨ c = 6
  · rcases h with rfl | rfl | rfl | rfl | rfl
    all_goals
      apply Bool.eq_iff_iff.2
      simp [deps]
      omega
  · have e : deps c = [] := by unfold deps; rw [if_neg (by omega), if_neg (by omega), if_neg (by omega)]
    rw [e]
    apply Bool.eq_iff_iff.2
    simp
    omega

set_option maxRecDepth 100000 in
set_option maxHeartbeats 4000000 in
theorem refCheck_any (x : H) (w : World) : Calls Tryd.prog 21 #[x.val] w fun e w' => e = .returned (.int .i64 (bad x : Nat)) ∧ Below w.heap.size w w' := by
  have hbx := bx_new w x
  have hal := below_alloc w (.cells #[.int .i64 x.w, .int .i64 x.h, .int .i64 x.d, .int .i64 x.c, .int .i64 x.l] 48)
  have hz := World.size_alloc w (.cells #[.int .i64 x.w, .int .i64 x.h, .int .i64 x.d, .int .i64 x.c, .int .i64 x.l] 48)
  have hbx2 := hbx.below (below_alloc _ (.cells (ivs T30).toArray 3))
  have hal2 := hal.alloc (by simp) (.cells (ivs T30).toArray 3)
  have hrow := heap_alloc_last (w.alloc (.cells #[.int .i64 x.w, .int .i64 x.h, .int .i64 x.d, .int .i64 x.c, .int .i64 x.l] 48)) (.cells (ivs T30).toArray 3)
  rw [hz] at hrow
  have HBX := Lib.hid hbx2
  have HAL := Lib.hid hal2
  have HRW := Lib.hid hrow
  obtain ⟨c0, c1, c2, c3, c4⟩ := hbx2.cells
  clear hbx hal hz hbx2 hal2 hrow
  have HBAD : Hid (bad x = if malf x then 2 else if large x then 4 else 0) := Lib.hid rfl
  have HMF : Hid (malf x = (decide (x.w < 1) || decide (x.h < 1) || !(deps x.c).contains x.d || !(x.l == 0 || x.l == 1))) := Lib.hid rfl
  have HLG : Hid (large x = (decide (65535 < x.w) || decide (65535 < x.h) || decide (262144 < x.w * x.h))) := Lib.hid rfl
  unfold H.val
  generalize bad x = bd at *
  generalize malf x = mf at *
  generalize large x = lg at *
  obtain ⟨xw, xh, xd, xc, xl⟩ := x
  simp only at c0 c1 c2 c3 c4 HBX HAL HRW HMF HLG ⊢
  have HT : Hid ((ivs T30).toArray = #[.int .i64 0, .int .i64 1, .int .i64 0, .int .i64 2, .int .i64 0, .int .i64 4, .int .i64 0, .int .i64 8, .int .i64 0, .int .i64 16, .int .i64 2, .int .i64 8, .int .i64 2, .int .i64 16, .int .i64 3, .int .i64 1, .int .i64 3, .int .i64 2, .int .i64 3, .int .i64 4, .int .i64 3, .int .i64 8, .int .i64 4, .int .i64 8, .int .i64 4, .int .i64 16, .int .i64 6, .int .i64 8, .int .i64 6, .int .i64 16]) := Lib.hid rfl
  rw [HT.out] at c0 c1 c2 c3 c4 HBX HAL HRW
  go_enter Tryd.func21, Tryd.ntmps21
  go_wp2
  revert c0 c1 c2 c3 c4 HBX HAL HRW
  generalize (w.alloc (.cells #[.int .i64 xw, .int .i64 xh, .int .i64 xd, .int .i64 xc, .int .i64 xl] 48)).alloc _ = w1
  intro HBX HAL HRW c0 c1 c2 c3 c4
  rw [← HT.out] at HRW
  go_loopw [4, 5] (fun g i wr => ∃ j : Nat, j ≤ 15 ∧ i = .int .i64 (2 * j : Nat) ∧ g = .bool (pr xc xd j) ∧ Hid (Below w1.heap.size w1 wr)) (fun _ i _ => 30 - (intOf i).toNat)
  case atStart => exact ⟨0, by omega, rfl, rfl, Lib.hid (Below.refl _ _)⟩
  case round =>
    obtain ⟨j, hj, rfl, rfl, HBR⟩ := hrel
    have HX := Lib.hid (HBX.out.below HBR.out)
    have hrw := (HBR.out.block _ (Array.getElem?_eq_some_iff.1 HRW.out).1).trans HRW.out
    have HAR := Lib.hid (HAL.out.trans (HBR.out.mono HAL.out.size))
    obtain ⟨y0, y1, y2, y3, y4⟩ := HX.out.cells
    simp only at y0 y1 y2 y3 y4
    by_cases hlt : j < 15
    · have hp0 : wr.cell? ⟨w.heap.size + 1, 2 * j, none⟩ = some (.int .i64 (T30.getD (2 * j) 0)) := by
        rw [cell_of_row _ _ _ _ _ (0, 0) hrw]
        have := ivs_get T30 (2 * j) (by show 2 * j < 30; omega)
        simpa using this
      have hp1 : wr.cell? ⟨w.heap.size + 1, 2 * j + 1, none⟩ = some (.int .i64 (T30.getD (2 * j + 1) 0)) := by
        rw [cell_of_row _ _ _ _ _ (0, 0) hrw]
        have := ivs_get T30 (2 * j + 1) (by show 2 * j + 1 < 30; omega)
        simpa using this
      have HS := Lib.hid (pr_succ xc xd j)
      have dl : decide (((2 * j : Nat) : Int) < 30) = true := by simp; omega
      have HDN : Hid (∀ n, Below w1.heap.size w1 (wr.drewN n)) := Lib.hid (fun n => HBR.out.trans ((drewN_is wr n).mono HBR.out.size))
      generalize T30.getD (2 * j) 0 = p at *
      generalize T30.getD (2 * j + 1) 0 = q at *
      generalize pr xc xd j = g0 at *
      clear hrw HAR
      cases g0 with
      | true =>
        have HE : Hid (pr xc xd (j + 1) = true) := Lib.hid (by rw [HS.out]; rfl)
        clear HS
        go_wp2_with fail
        go_quiet (fail)
        go_wp2
        go_roundw
        case rel => exact ⟨j + 1, by omega, by go_num, by rw [HE.out], Lib.hid (HDN.out _)⟩
        case measure => simp [intOf]; omega
      | false =>
        by_cases he : p = xc
        · have d1 : (p == xc) = true := by simpa using he
          by_cases hf : q = xd
          · have d2 : (q == xd) = true := by simpa using hf
            have HE : Hid (pr xc xd (j + 1) = true) := Lib.hid (by rw [HS.out, d1, d2]; rfl)
            clear HS he hf
            go_wp2_with fail
            go_quiet (fail)
            go_wp2
            go_roundw
            case rel => exact ⟨j + 1, by omega, by go_num, by rw [HE.out], Lib.hid (HDN.out _)⟩
            case measure => simp [intOf]; omega
          · have d2 : (q == xd) = false := by simpa using hf
            have HE : Hid (pr xc xd (j + 1) = false) := Lib.hid (by rw [HS.out, d1, d2]; rfl)
            clear HS he hf
            go_wp2_with fail
            go_quiet (fail)
            go_wp2
            go_roundw
            case rel => exact ⟨j + 1, by omega, by go_num, by rw [HE.out], Lib.hid (HDN.out _)⟩
            case measure => simp [intOf]; omega
        · have d1 : (p == xc) = false := by simpa using he
          have HE : Hid (pr xc xd (j + 1) = false) := Lib.hid (by rw [HS.out, d1]; rfl)
          clear HS he
          go_wp2_with fail
          go_quiet (fail)
          go_wp2
          go_roundw
          case rel => exact ⟨j + 1, by omega, by go_num, by rw [HE.out], Lib.hid (HDN.out _)⟩
          case measure => simp [intOf]; omega
    · obtain rfl : j = 15 := by omega
      rw [pr_all]
      clear hrw hj hlt HBR HX
      generalize (deps xc).contains xd = ct at *
      cases ct with
      | false =>
        have HR : Hid (bd = 2) := Lib.hid (by rw [HBAD.out, HMF.out]; simp)
        clear HBAD HMF HLG
        go_wp2
        go_ret
        exact ⟨by rw [HR.out]; rfl, HAR.out⟩
      | true =>
        by_cases h1 : xw < 1
        · have d1 : decide (xw < 1) = true := by simpa using h1
          have HR : Hid (bd = 2) := Lib.hid (by rw [HBAD.out, HMF.out, d1]; rfl)
          clear h1 HBAD HMF HLG
          go_wp2
          go_ret
          exact ⟨by rw [HR.out]; rfl, HAR.out⟩
        have d1 : decide (xw < 1) = false := by simpa using h1
        by_cases h2 : xh < 1
        · have d2 : decide (xh < 1) = true := by simpa using h2
          have HR : Hid (bd = 2) := Lib.hid (by rw [HBAD.out, HMF.out, d1, d2]; rfl)
          clear h1 h2 HBAD HMF HLG
          go_wp2
          go_ret
          exact ⟨by rw [HR.out]; rfl, HAR.out⟩
        have d2 : decide (xh < 1) = false := by simpa using h2
        by_cases hl : xl = 0 ∨ xl = 1
        · have HR : Hid (bd = if lg then 4 else 0) := Lib.hid (by
            have hm : (!(xl == 0 || xl == 1)) = false := by rcases hl with rfl | rfl <;> rfl
            rw [HBAD.out, HMF.out, d1, d2, hm]; rfl)
          have hp := fun (h3 : ¬ 65535 < xw) (h4 : ¬ 65535 < xh) => mul_small (a := xw) (b := xh) (by omega) (by omega) (by omega) (by omega)
          have HP := Lib.hid hp
          clear h1 h2 HBAD HMF hp
          rcases hl with rfl | rfl
          all_goals
            by_cases h3 : 65535 < xw
            · have d3 : decide ((65535 : Int) < xw) = true := by simpa using h3
              have HR2 : Hid (bd = 4) := Lib.hid (by rw [HR.out, HLG.out, d3]; rfl)
              clear h3 HP
              go_wp2
              go_ret
              exact ⟨by rw [HR2.out]; rfl, HAR.out⟩
            have d3 : decide ((65535 : Int) < xw) = false := by simpa using h3
            by_cases h4 : 65535 < xh
            · have d4 : decide ((65535 : Int) < xh) = true := by simpa using h4
              have HR2 : Hid (bd = 4) := Lib.hid (by rw [HR.out, HLG.out, d3, d4]; rfl)
              clear h3 h4 HP
              go_wp2
              go_ret
              exact ⟨by rw [HR2.out]; rfl, HAR.out⟩
            have d4 : decide ((65535 : Int) < xh) = false := by simpa using h4
            have hp := HP.out h3 h4
            have hwr : wrap64 (xw * xh) = xw * xh := IntWalk.wrap64_in _ ⟨by omega, by omega⟩
            have HR2 : Hid (bd = if decide (262144 < xw * xh) then 4 else 0) := Lib.hid (by rw [HR.out, HLG.out, d3, d4]; rfl)
            clear h3 h4 HR HLG HP
            cases hd5 : decide ((262144 : Int) < xw * xh)
            all_goals
              rw [hd5] at HR2
              clear hp
              go_wp2
              go_ret
              exact ⟨by rw [HR2.out]; rfl, HAR.out⟩
        · have d5 : (xl != (0 : Int)) = true := by simp; omega
          have d6 : (xl != (1 : Int)) = true := by simp; omega
          have HR : Hid (bd = 2) := Lib.hid (by
            have hm : (!(xl == 0 || xl == 1)) = true := by simp; omega
            rw [HBAD.out, HMF.out, d1, d2, hm]; rfl)
          clear h1 h2 HBAD HMF HLG hl
          go_wp2
          go_ret
          exact ⟨by rw [HR.out]; rfl, HAR.out⟩
end Hd
end Go.Proofs.YtkplopfbgaiegaaDoor
