/- For all heads: Data answers how many bytes all rows have, each with its kind, pass by pass as the document counts them, and 0 for a head that isn't good; the fixed example holds. The variable passes holds what the text lays. No conditions. -/
import Derived.Test.YtkplopfbgaiegaaDoorCards
import Derived.Test.YtkplopfbgaiegaaDoorTie
import Derived.ProofKit
import Derived.Handy
import Derived.Lay
import Derived.SevenTiedAt
import Derived.Test.YtkplopfbgaiegaaDoorRows
import Derived.Test.YtkplopfbgaiegaaDoorOpen
import Derived.Test.YtkplopfbgaiegaaDoorLcData
import Derived.Test.YtkplopfbgaiegaaDoorHdRef
import Derived.Test.YtkplopfbgaiegaaDoorOpenHd
namespace Go.Proofs.YtkplopfbgaiegaaDoor.LaceData
open Go.ChangeShapes Go.WideShapes Go.ChangeAt Go.RowKit
open Go.ChangeMaps (open_string shut_string)
set_option linter.unusedVariables false
theorem own : ownKnob Tryd.prog.godebug = none := by kernel_rfl
theorem laidOut : laidOutB Tryd.prog = true := by kernel_rfl
open Lc Hd
/-- The law's sum. -/
def lsum (x : H) : Nat → Int
  | 0 => 0
  | p + 1 => lsum x p + (if x.l = 0 then (if p = 0 then x.h * (1 + row x x.w) else 0) else (if 0 < (of p x.w.toNat x.h.toNat).c then ((of p x.w.toNat x.h.toNat).r : Int) * (1 + row x (of p x.w.toNat x.h.toNat).c) else 0))
theorem lsum_laced (x : H) (h : x.l ≠ 0) : ∀ p, p ≤ 7 → lsum x p = dsum x (from' x.w.toNat x.h.toNat 0 p)
  | 0, _ => rfl
  | p + 1, hp => by
    unfold lsum
    rw [lsum_laced x h p (by omega), if_neg h, from_step _ _ p (by omega), dsum_app]
    congr 1
    split
    · simp [dsum, one]
    · rfl
theorem lsum_plain (x : H) (h : x.l = 0) : ∀ p, lsum x (p + 1) = x.h * (1 + row x x.w)
  | 0 => by simp [lsum, h]
  | p + 1 => by
    have := lsum_plain x h p
    unfold lsum
    rw [this, if_pos h, if_neg (by omega), Int.add_zero]
theorem lsum_all (x : H) (h : bad x = 0) : lsum x 7 = data x := by
  have hg := good_all h
  unfold data
  rw [if_neg (by omega)]
  by_cases hl : x.l = 0
  · rw [lsum_plain x hl 6, hl]
    have : parts x.w.toNat x.h.toNat 0 = [(0, ⟨0, 1, 0, 1, x.w.toNat, x.h.toNat⟩)] := plain_eq _ _
    rw [this]
    simp only [dsum, one, Int.add_zero]
    rw [Int.toNat_of_nonneg (by omega), Int.toNat_of_nonneg (by omega)]
  · rw [lsum_laced x hl 7 (by omega), laced_eq _ _ _ hl]
/-- How great the law's sum gets. -/
theorem lsum_bd (x : H) (h : bad x = 0) (p : Nat) (hp : p ≤ 7) : 0 ≤ lsum x p ∧ lsum x p ≤ 7 * 34358820870 := by
  have hg := good_all h
  by_cases hl : x.l = 0
  · cases p with
    | zero => simp [lsum]
    | succ p =>
      rw [lsum_plain x hl p]
      have h1 := one_bd x (0, ⟨0, 1, 0, 1, x.w.toNat, x.h.toNat⟩) (by simp only; omega)
      simp only [one] at h1
      rw [Int.toNat_of_nonneg (by omega), Int.toNat_of_nonneg (by omega)] at h1
      omega
  · rw [lsum_laced x hl p hp]
    have hm : ∀ q ∈ from' x.w.toNat x.h.toNat 0 p, q.2.r ≤ 65535 := fun q hq => by
      have := (from_mem _ _ p 0 q hq).2
      omega
    have h1 := dsum_bd x _ hm
    have h2 := from_len x.w.toNat x.h.toNat p 0
    have : ((from' x.w.toNat x.h.toNat 0 p).length : Int) * 34358820870 ≤ 7 * 34358820870 := Int.mul_le_mul_of_nonneg_right (by omega) (by omega)
    omega
theorem prod_bd {r a : Int} (h1 : 0 ≤ r) (h2 : r ≤ 65535) (h3 : 0 ≤ a) (h4 : a ≤ 524281) : 0 ≤ r * (1 + a) ∧ r * (1 + a) ≤ 34358820870 := by
  have k1 := Int.mul_nonneg h1 (show 0 ≤ 1 + a by omega)
  have k2 := Int.mul_le_mul h2 (show 1 + a ≤ 524282 by omega) (by omega) (by omega)
  omega
set_option maxRecDepth 100000 in
set_option maxHeartbeats 4000000 in
theorem walk (x : H) (w : World) (hwf : (Lit.int .i64 x.w).wf = true ∧ (Lit.int .i64 x.h).wf = true ∧ (Lit.int .i64 x.d).wf = true ∧ (Lit.int .i64 x.c).wf = true ∧ (Lit.int .i64 x.l).wf = true) (hL : laidMetH Tryd.prog [("burnish/lace.passes", Rows.laid_burnish_lace_passes)] w) :
    Calls Tryd.prog 8 #[x.val] w fun e w' => e = .returned (.bool true) ∧ Below w.heap.size w w' := by
  have hlp := lp_of_laid hL
  have hal := below_alloc w (.cells #[.int .i64 x.w, .int .i64 x.h, .int .i64 x.d, .int .i64 x.c, .int .i64 x.l] 48)
  have HLP := Lib.hid (hlp.below hal)
  have HBX := Lib.hid (bx_new w x)
  have HAL := Lib.hid hal
  have HEX := Lib.hid (show data ⟨8, 8, 8, 0, 1⟩ = 79 by decide +kernel)
  have HD8 := Lib.hid (fun w h => data_any ⟨8, 8, 8, 0, 1⟩ w h)
  have HDX := Lib.hid (fun w h => data_any x w h)
  have HCK := Lib.hid (fun w => refCheck_any x w)
  have HRW := Lib.hid (fun n w => refRow_any x n w)
  have HDB := Lib.hid (show bad x ≠ 0 → data x = 0 from fun h => if_pos h)
  have HLS := Lib.hid (fun h => lsum_all x h)
  have HLB := Lib.hid (fun h p hp => lsum_bd x h p hp)
  have HGA := Lib.hid (fun h => good_all (x := x) h)
  have HRB := Lib.hid (fun n => row_bd x n)
  have HNX := Lib.hid (show ∀ p, lsum x (p + 1) = lsum x p + (if x.l = 0 then (if p = 0 then x.h * (1 + row x x.w) else 0) else (if 0 < (of p x.w.toNat x.h.toNat).c then ((of p x.w.toNat x.h.toNat).r : Int) * (1 + row x (of p x.w.toNat x.h.toNat).c) else 0)) from fun p => rfl)
  clear hL hlp hal hwf
  have hval : x.val = .agg #[.int .i64 x.w, .int .i64 x.h, .int .i64 x.d, .int .i64 x.c, .int .i64 x.l] := rfl
  have hval8 : (⟨8, 8, 8, 0, 1⟩ : H).val = .agg #[.int .i64 8, .int .i64 8, .int .i64 8, .int .i64 0, .int .i64 1] := rfl
  rw [hval8] at HD8
  rw [hval] at HDX HCK HRW ⊢
  clear hval hval8
  obtain ⟨y0, y1, y2, y3, y4⟩ := HBX.out.cells
  go_enter Tryd.func8, Tryd.ntmps8
  go_wp2_with fail
  refine (HD8.out _ HLP.out).mono ?_
  rw [HEX.out]
  rintro e w2 ⟨rfl, hb2⟩
  have HX2 := Lib.hid (HBX.out.below hb2)
  have HB2 := Lib.hid (below_then HAL.out hb2)
  have HL2 := Lib.hid (HLP.out.below hb2)
  clear hb2 HBX HAL HLP HD8 HEX y0 y1 y2 y3 y4
  obtain ⟨y0, y1, y2, y3, y4⟩ := HX2.out.cells
  go_wp2_with fail
  refine (HCK.out _).mono ?_
  rintro e w3 ⟨rfl, hb3⟩
  have HX3 := Lib.hid (HX2.out.below hb3)
  have HB3 := Lib.hid (below_then HB2.out hb3)
  have HL3 := Lib.hid (HL2.out.below hb3)
  clear hb3 HX2 HB2 HL2 HCK y0 y1 y2 y3 y4
  by_cases hz : bad x = 0
  rotate_left
  · have HD := Lib.hid (HDB.out hz)
    have d1 : (((bad x : Nat) : Int) != 0) = true := by simp; omega
    obtain ⟨y0, y1, y2, y3, y4⟩ := HX3.out.cells
    clear HDB HLS HLB HGA HRB HNX hz
    generalize bad x = bd at *
    go_wp2_with fail
    refine (HDX.out _ HL3.out).mono ?_
    rw [HD.out]
    rintro e w4 ⟨rfl, hb4⟩
    have HB4 := Lib.hid (below_then HB3.out hb4)
    clear hb4
    go_wp2
    go_ret
    exact ⟨rfl, HB4.out⟩
  obtain ⟨g1, g2, g3, g4, g5, g6, g7⟩ := HGA.out hz
  have HLS2 := Lib.hid (HLS.out hz)
  have HLB2 := Lib.hid (HLB.out hz)
  rw [hz]
  clear HDB HLS HLB HGA g5 g6 hz
  obtain ⟨xw, xh, xd, xc, xl⟩ := x
  simp only at g1 g2 g3 g4 g7 HRB HNX HLB2
  obtain ⟨m, rfl⟩ : ∃ m : Nat, xw = (m : Int) := ⟨xw.toNat, by omega⟩
  obtain ⟨n, rfl⟩ : ∃ n : Nat, xh = (n : Int) := ⟨xh.toNat, by omega⟩
  simp only [Int.toNat_natCast] at HNX
  have HSZ := Lib.hid (fun (p : Nat) (hp : p < 7) => (sz_good (wd := m) (ht := n) (p := p) ⟨by omega, by omega, by omega, by omega, by omega, by omega⟩ : sz m n p = _))
  have HRS := Lib.hid (fun (p : Nat) w => refSize_any m n p w)
  have HOL := Lib.hid (fun p => of_le p m n)
  have hm : m ≤ 65535 := by omega
  have hn : n ≤ 65535 := by omega
  have hm1 : 1 ≤ m := by omega
  clear g1 g2 g3 g4
  go_wp2_with fail
  go_loopg [3, 16] 7 (fun gk v3 v16 wr => ∃ p : Nat, p ≤ 7 ∧ gk = 7 - p ∧ v16 = .int .i64 (p : Nat) ∧ v3 = .int .i64 (lsum ⟨m, n, xd, xc, xl⟩ p) ∧ Hid (Bx wr w.heap.size ⟨m, n, xd, xc, xl⟩) ∧ Hid (Below w.heap.size w wr) ∧ Hid (Lp wr))
  case atStart => exact ⟨0, by omega, by omega, rfl, rfl, HX3, HB3, HL3⟩
  case round =>
    clear HX3 HB3 HL3
    obtain ⟨p, hp, rfl, rfl, rfl, HX, HB, HLW⟩ := hrel
    obtain ⟨y0, y1, y2, y3, y4⟩ := HX.out.cells
    simp only at y0 y1 y2 y3 y4
    by_cases hp7 : p < 7
    · have hsz := HSZ.out p hp7
      have hol := HOL.out p
      have hnx := HNX.out p
      have hlb := HLB2.out p hp
      have d7 : decide ((p : Int) < 7) = true := by simp; omega
      generalize of p m n = z at *
      obtain ⟨z0, z1, z2, z3, c, r⟩ := z
      generalize lsum ⟨m, n, xd, xc, xl⟩ p = D at *
      simp only at hsz hol hnx
      obtain ⟨hc, hr⟩ := hol
      obtain ⟨D0, D1⟩ := hlb
      go_wp2_with fail
      refine (HRS.out p _).mono ?_
      rw [hsz]
      rintro e w4 ⟨rfl, hb4⟩
      have HX4 := Lib.hid (HX.out.below hb4)
      have HB4 := Lib.hid (below_then HB.out hb4)
      have HL4 := Lib.hid (HLW.out.below hb4)
      clear hb4 HX HB HLW y0 y1 y2 y3 y4 hsz HSZ HOL HLB2
      obtain ⟨y0, y1, y2, y3, y4⟩ := HX4.out.cells
      simp only at y0 y1 y2 y3 y4
      have HDN := Lib.hid (fun k => HB4.out.trans ((drewN_is w4 k).mono HB4.out.size))
      have HDX2 := Lib.hid (fun k => (show Bx (w4.drewN k) w.heap.size ⟨m, n, xd, xc, xl⟩ from HX4.out))
      have HDL := Lib.hid (fun k => (⟨HL4.out.lt, HL4.out.at'⟩ : Lp (w4.drewN k)))
      rcases g7 with rfl | rfl
      · rw [if_pos rfl] at hnx
        by_cases hp0 : p = 0
        · rw [if_pos hp0] at hnx
          have hrb := HRB.out (m : Int)
          have HR := Lib.hid (fun w => HRW.out (m : Int) w)
          generalize row ⟨m, n, xd, xc, 0⟩ (m : Int) = R at *
          obtain ⟨q1, q2⟩ := prod_bd (r := (n : Int)) (a := R) (by omega) (by omega) hrb.1 hrb.2
          have e1 : wrap64 (1 + R) = 1 + R := w_int (by omega) (by omega)
          generalize hQ : (n : Int) * (1 + R) = Q at *
          have e3 : wrap64 (D + Q) = D + Q := w_int (by omega) (by omega)
          have e2 : wrap64 ((n : Int) * (1 + R)) = Q := by rw [hQ]; exact w_int q1 (by omega)
          have HN := Lib.hid hnx
          have d0 : decide ((0 : Int) < (m : Int)) = true := by simp; omega
          have d00 : decide (0 < m) = true := by simp; omega
          subst hp0
          clear hnx hQ q1 q2 hrb D0 D1
          go_wp2_with fail
          go_quiet (fail)
          go_wp2_with fail
          refine (HR.out _).mono ?_
          rintro e w5 ⟨rfl, hb5⟩
          have HX5 := Lib.hid ((HDX2.out _).below hb5)
          have HB5 := Lib.hid (below_then (HDN.out _) hb5)
          have HL5 := Lib.hid ((HDL.out _).below hb5)
          clear hb5 HDN HDX2 HDL HX4 HB4 HL4 HR
          go_wp2
          go_roundg (7 - (0 + 1))
          case measure => omega
          case rel => exact ⟨0 + 1, by omega, rfl, by go_num, by rw [HN.out, e3], HX5, HB5, HL5⟩
        · rw [if_neg hp0, Int.add_zero] at hnx
          have HN := Lib.hid hnx
          have dp : ((p : Int) == 0) = false := by simp; omega
          have d00 : decide (0 < m) = true := by simp; omega
          clear hnx D0 D1
          go_wp2_with fail
          go_quiet (fail)
          have HX5 := Lib.hid (HDX2.out nq)
          have HB5 := Lib.hid (HDN.out nq)
          have HL5 := Lib.hid (HDL.out nq)
          clear HDN HDX2 HDL HX4 HB4 HL4
          go_wp2
          go_roundg (7 - (p + 1))
          case measure => omega
          case rel => exact ⟨p + 1, by omega, rfl, by go_num, by rw [HN.out], HX5, HB5, HL5⟩
      · rw [if_neg (by omega)] at hnx
        by_cases hc0 : 0 < c
        · rw [if_pos hc0] at hnx
          have hrb := HRB.out (c : Int)
          have HR := Lib.hid (fun w => HRW.out (c : Int) w)
          generalize row ⟨m, n, xd, xc, 1⟩ (c : Int) = R at *
          obtain ⟨q1, q2⟩ := prod_bd (r := (r : Int)) (a := R) (by omega) (by omega) hrb.1 hrb.2
          have e1 : wrap64 (1 + R) = 1 + R := w_int (by omega) (by omega)
          generalize hQ : (r : Int) * (1 + R) = Q at *
          have e3 : wrap64 (D + Q) = D + Q := w_int (by omega) (by omega)
          have e2 : wrap64 ((r : Int) * (1 + R)) = Q := by rw [hQ]; exact w_int q1 (by omega)
          have HN := Lib.hid hnx
          have d00 : decide (0 < c) = true := by simpa using hc0
          clear hnx hQ q1 q2 hrb D0 D1
          go_wp2_with fail
          refine (HR.out _).mono ?_
          rintro e w5 ⟨rfl, hb5⟩
          have HX5 := Lib.hid (HX4.out.below hb5)
          have HB5 := Lib.hid (below_then HB4.out hb5)
          have HL5 := Lib.hid (HL4.out.below hb5)
          clear hb5 HDN HDX2 HDL HX4 HB4 HL4 HR
          go_wp2
          go_roundg (7 - (p + 1))
          case measure => omega
          case rel => exact ⟨p + 1, by omega, rfl, by go_num, by rw [HN.out, e3], HX5, HB5, HL5⟩
        · rw [if_neg hc0, Int.add_zero] at hnx
          have HN := Lib.hid hnx
          have d00 : decide (0 < c) = false := by simpa using hc0
          clear hnx D0 D1 HDN HDX2 HDL
          go_wp2
          go_roundg (7 - (p + 1))
          case measure => omega
          case rel => exact ⟨p + 1, by omega, rfl, by go_num, by rw [HN.out], HX4, HB4, HL4⟩
    · obtain rfl : p = 7 := by omega
      have HDF := Lib.hid (HDX.out _ HLW.out)
      rw [← HLS2.out] at HDF
      generalize lsum ⟨m, n, xd, xc, xl⟩ 7 = D at *
      go_wp2_with fail
      refine HDF.out.mono ?_
      rintro e w4 ⟨rfl, hb4⟩
      have HB4 := Lib.hid (below_then HB.out hb4)
      clear hb4
      go_wp2
      go_ret
      exact ⟨rfl, HB4.out⟩
set_option maxRecDepth 100000 in
theorem lifted (os : Os) (started : os.Started) (H : Type) (enc : TypeId × Value → H) :
    ReturnsInHanded {} Tryd.checked os 8 .any (fun w args => (Rows.laceDataSpec.pre enc Tryd.prog Tryd.f8 Rows.laceDataRow.domain false w args ∧ laidMetH Tryd.prog [("burnish/lace.passes", Rows.laid_burnish_lace_passes)] w) ∧ sizedMet enc Tryd.prog Tryd.f8 (OpenSpec.ofChange Rows.laceDataSpec) false w args)
      (Rows.laceDataSpec.post enc Tryd.prog Tryd.f8 false true false false) := by
  refine returnsInHanded_of_change_and (C := Tryd.checked) (X := fun w _ => laidMetH Tryd.prog [("burnish/lace.passes", Rows.laid_burnish_lace_passes)] w) (fun _ _ _ hh h => h.of_heap hh) own started (by kernel_rfl) Tryd.func8
    (ChangeSpec.witness_shaped (enc := enc) (C := Tryd.checked) (os := os) (X := fun w _ => laidMetH Tryd.prog [("burnish/lace.passes", Rows.laid_burnish_lace_passes)] w) false (World.laidAll Tryd.prog os [("burnish/lace.passes", Rows.laid_burnish_lace_passes)]) #[.agg #[.int .i64 0, .int .i64 0, .int .i64 0, .int .i64 0, .int .i64 0]] 8 (World.laidAll_os _ _ _)
      (World.shaped_of_ZipB (by kernel_rfl) (by kernel_rfl)) (by kernel_rfl) (by kernel_rfl) (by kernel_rfl)
      (by rw [MakeChecks.laidMetH_plain _ _ _ (by kernel_rfl)]; exact laidMet_laidAll _ (by kernel_rfl) (by kernel_rfl))) ?_
  intro W base args ds gs before hval0 hW _ hsz0 hL _
  have hval : ∀ (j : Nat) t v, Tryd.f8.params[j]? = some t → args[j]? = some v → Value.okWide Tryd.prog W .any base t v := hval0
  have hsz : (DataW.weightsEach Tryd.prog (Tryd.f8.params.toList ++ Rows.laceDataSpec.plain.varTypes Tryd.prog) (ds ++ gs)).all (· ≤ reachBytes) = true := hsz0
  have hW' := hW
  obtain ⟨p, q, hA0, hV, rfl, hfz, hnd⟩ := hW
  have hA : DataW.TrodAll enc Tryd.prog W 0 (fun _ => true) true Tryd.f8.params.toList args.toList ds p := hA0
  rw [Tryd.params8] at hA hval hsz
  obtain ⟨v0, vs0, d0, ds0, p0, q0, hargs, rfl, rfl, h0, r0⟩ := trodAll_cons hA
  obtain ⟨rfl, rfl, rfl⟩ := trodAll_nil r0
  obtain rfl : args = #[v0] := by cases args; simp_all
  obtain ⟨rfl, rfl⟩ := trodVars_none hV
  clear hsz0
  have k0 := h0
  have lt0 : ∀ x ∈ p0, x.block < W.heap.size := by obtain ⟨m, hm⟩ := k0; exact DataW.trod_lt m _ _ _ hm
  obtain ⟨x0, rfl, w0⟩ := open_hd Tryd.underlying48 (by kernel_rfl) Tryd.underlying3 Tryd.underlying3 Tryd.underlying3 Tryd.underlying3 Tryd.underlying3 (by kernel_rfl) (by kernel_rfl) (by kernel_rfl) (by kernel_rfl) (by kernel_rfl) rfl rfl rfl rfl rfl (hval 0 48 v0 rfl rfl) h0
  clear hA0 hval0 hsz
  refine (walk x0 W w0 hL).mono fun e W' ⟨he, bel⟩ => ?_
  subst he
  exact ⟨_, rfl, _, _, _, [], _, [], hW', trodAll_mk1 (shut_bool Tryd.underlying4 _), (trodAll_cons_mk (Below.trod laidOut (by kernel_rfl) (of_decide_eq_true (by kernel_rfl)) k0 bel lt0) trodAll_mk0), rfl, bel.frame _, fun h => by cases h⟩

theorem proved : Rows.LaceDataSaid :=
  OpenClaim.holds_of_wide 8 Tryd.f8 rfl rfl rfl rfl rfl rfl rfl ⟨rfl, rfl, rfl, rfl, rfl⟩ rfl rfl rfl rfl rfl (by kernel_rfl) Tryd.func8 (by kernel_rfl)
    (of_decide_eq_true (by kernel_rfl)) (by unfold Func.isWrapper; first | (rw [if_pos (by decide +kernel)]; kernel_rfl) | (rw [if_neg (by decide +kernel)]; exact ⟨rfl, rfl⟩))
    (fun os started H enc _ => lifted os started H enc)
theorem card : Rows.LaceDataCardSaid :=
  Claim7.holds_tied_plain_at .later [] [.wider] true (true, "d289062f036057e2d8458251c4b1c413202f3667d8f9587d942d68f48c50c390") true proved (fun _ h => by cases h) (by kernel_rfl) (fun _ h => by cases h) laceData_row_tie rfl ⟨rfl, rfl⟩ (by kernel_rfl) rfl
    (fun f fn hf hfn => by
      obtain rfl : f = 8 := Option.some.inj ((show Tryd.prog.funcNamed "burnish/burnishlaw15.LaceData" = some 8 by kernel_rfl).symm.trans hf) |>.symm
      obtain rfl : fn = Tryd.f8 := (Option.some.inj (Tryd.func8.symm.trans hfn)).symm
      exact ⟨by kernel_rfl, fun j t ht => by
        rw [Tryd.params8] at ht
        have hm : t ∈ [48] := by simpa using Array.mem_of_getElem? ht
        have hall : ([48].all fun u => !Tryd.prog.wantsStandIn u) = true := by kernel_rfl
        exact (show Tryd.prog.wantsStandIn t = false by simpa using List.all_eq_true.1 hall t hm)⟩)
    (by kernel_rfl)
#print axioms proved
#print axioms card
end Go.Proofs.YtkplopfbgaiegaaDoor.LaceData
