/- burnishref13.Order: its contract. -/
import Derived.Test.YtbgaaocgdjkkeaaZ34
import Derived.Test.YtbgaaocgdjkkeaaZ40
import Derived.Test.YtbgaaocgdjkkeaaZ42
set_option linter.unusedSimpArgs false
set_option linter.unusedVariables false
section
namespace Go.Proofs.Ytbgaaocgdjkkeaa
open Go.RowKit

namespace Hd
def RoPost (w : World) (L : List Ck.C) (e : Ending) (w' : World) : Prop := e = .returned (.tuple #[(ordR L).2.val, .int .i64 (ordR L).1]) ∧ Below w.heap.size w w'
def K4 : List (List UInt8) := [Nm.IH, Nm.PL, Nm.ID, Nm.IE]
set_option maxRecDepth 100000 in
set_option maxHeartbeats 8000000 in
theorem refOrder_any (a : Option Addr) (len cap : Nat) (l : List Ckm) (w : World) (h : Cs w a len cap l) (hr : len * 40 ≤ 140737488351232) (hd : ∀ c ∈ l, c.n.length ≤ 140737488351232 ∧ c.s.len ≤ 1048576) (hlen : len ≤ 10000) :
    Calls Try.prog 12 #[.slice a len cap] w (RoPost w (cps l)) := by
  have hle := h.hle
  have HL := Lib.hid h.hlen
  have HLP : Hid ((cps l).length = len) := Lib.hid (by rw [cps_length, h.hlen])
  have HZ := Lib.hid (bx_new w zero)
  have HA := Lib.hid (below_alloc w (.cells #[.int .i64 0, .int .i64 0, .int .i64 0, .int .i64 0, .int .i64 0] 29))
  have HGG := Lib.hid (fun W (hb : Below w.heap.size w W) => refGood_any a len cap l W (h.mono hb) hr (fun c hc => ⟨(hd c hc).1, by have := (hd c hc).2; omega⟩))
  have H := Lib.hid (fun W (hb : Below w.heap.size w W) => h.mono hb)
  have HDL := Lib.hid hd
  have HOR : Hid (∀ k e w', ordR (cps l) = k → e = .returned (.tuple #[k.2.val, .int .i64 (k.1 : Nat)]) → Below w.heap.size w w' → RoPost w (cps l) e w') := Lib.hid (fun k e w' h1 h2 h3 => by unfold RoPost; rw [h1]; exact ⟨h2, h3⟩)
  have HWR := Lib.hid (fun x hg j W (hb : Below w.heap.size w W) (hj : j + 1 < len) h4 h5 => wrong_any x hg a len cap l j W (h.mono hb) hj hlen h4 h5)
  have HBE := Lib.hid (fun cs W (hb : Below w.heap.size w W) h1 h2 => before_any a len cap l len cs W (h.mono hb) (Nat.le_refl _) hlen h1 h2)
  have HSL : Hid (∀ k, k < len → (nck l k).s.len ≤ 1048576) := Lib.hid (fun k hk => (hd _ (nck_mem l k (by rw [h.hlen]; exact hk))).2)
  clear h hd
  generalize hpo : RoPost w (cps l) = PO at *
  clear hpo
  cases hgd : Ck.good (cps l) with
  | false =>
    have HO : Hid (ordR (cps l) = (6, zero)) := Lib.hid (by unfold ordR; rw [if_pos hgd])
    have HGA := Lib.hid (HGG.out _ HA.out)
    rw [hgd] at HGA
    clear HGG hgd HWR HBE
    go_enter Try.func12, Try.ntmps12
    go_wp2_with fail
    refine HGA.out.mono ?_
    rintro e w2 ⟨rfl, rfl⟩
    obtain ⟨w2, hw2⟩ : ∃ w2, (w.alloc (.cells #[.int .i64 0, .int .i64 0, .int .i64 0, .int .i64 0, .int .i64 0] 29)) = w2 := ⟨_, rfl⟩
    have HZ2 : Hid (Bx w2 w.heap.size zero) := Lib.hid (by rw [← hw2]; exact HZ.out)
    have HB2 : Hid (Below w.heap.size w w2) := Lib.hid (by rw [← hw2]; exact HA.out)
    rw [hw2]
    clear hw2 HZ HA HGA
    have HSET := Lib.hid (fun x => bx_set HZ2.out x)
    have HBST := Lib.hid (fun a b c d e => below_set5 (Nat.le_refl _) HB2.out a b c d e)
    obtain ⟨z0, z1, z2, z3, z4⟩ := HZ2.out.cells
    have g0 := frozen_of_row w2 w.heap.size 0 _ _ HZ2.out
    have g1 := frozen_of_row w2 w.heap.size 1 _ _ HZ2.out
    have g2 := frozen_of_row w2 w.heap.size 2 _ _ HZ2.out
    have g3 := frozen_of_row w2 w.heap.size 3 _ _ HZ2.out
    have g4 := frozen_of_row w2 w.heap.size 4 _ _ HZ2.out
    simp only [zero] at z0 z1 z2 z3 z4
    go_wp2
    refine bodyPost_ret (res_hd2 _ rfl _ _ w.heap.size zero (.int .i64 6) rfl rfl (HSET.out zero)) rfl (HOR.out _ _ _ HO.out rfl (HBST.out _ _ _ _ _))
  | true =>
  have hg1 := (Ck.good_all hgd).1
  have hl0 : 0 < len := by have := HLP.out; omega
  have HGA := Lib.hid (HGG.out _ HA.out)
  rw [hgd] at HGA
  have HON : Hid ((Ck.nth (cps l) 0).1 ≠ Nm.IH → ordR (cps l) = (2, zero)) := Lib.hid (fun h => by unfold ordR; rw [if_neg (by rw [hgd]; exact fun h => by cases h), if_pos h])
  have HOT : Hid ((Ck.nth (cps l) 0).1 = Nm.IH → (take (Ck.nth (cps l) 0).2).1 ≠ 0 → ordR (cps l) = ((take (Ck.nth (cps l) 0).2).1, zero)) := Lib.hid (fun h h2 => by unfold ordR; rw [if_neg (by rw [hgd]; exact fun h => by cases h), if_neg (fun h9 => h9 h), if_pos h2])
  have HOG : Hid ((Ck.nth (cps l) 0).1 = Nm.IH → (take (Ck.nth (cps l) 0).2).1 = 0 → ordR (cps l) = goR (take (Ck.nth (cps l) 0).2).2 (cps l) (len - 1) 0) := Lib.hid (fun h h2 => by unfold ordR; rw [if_neg (by rw [hgd]; exact fun h => by cases h), if_neg (fun h9 => h9 h), if_neg (fun h9 => h9 h2), HLP.out])
  have HNL : Hid (∀ k, k < len → (nck l k).n.length = 4) := Lib.hid (fun k hk => by
    have hkl : k < l.length := by rw [HL.out]; exact hk
    have := name_len hgd k (by rw [cps_length]; exact hkl)
    rwa [cps_nth l k hkl] at this)
  have hn0 : Ck.nth (cps l) 0 = (nck l 0).c := cps_nth l 0 (by rw [HL.out]; exact hl0)
  have hnn : (nck l 0).c = ((nck l 0).n, (nck l 0).s.l) := rfl
  rw [hn0, hnn] at HON HOT HOG
  simp only at HON HOT HOG
  obtain ⟨b, off, rfl, hbl, _⟩ := (H.out w (Below.refl _ _)).at' 0 hl0
  have HAT : Hid (∀ W k, Below w.heap.size w W → k < len → W.cell? ⟨b, off + k * 2, none⟩ = some (.string (str (nck l k).n)) ∧ W.cell? ⟨b, off + k * 2 + 1, none⟩ = some (nck l k).s.val ∧ (nck l k).s.at W) := Lib.hid (fun W k hb hk => by
    obtain ⟨b', off', e, _, t0, t1, t2⟩ := (H.out W hb).at' k hk
    simp only [Option.some.injEq, Addr.mk.injEq, and_true] at e
    obtain ⟨rfl, rfl⟩ := e
    exact ⟨t0, t1, t2⟩)
  have HCP : Hid (∀ k, k < len → Ck.nth (cps l) k = ((nck l k).n, (nck l k).s.l)) := Lib.hid (fun k hk => cps_nth l k (by rw [HL.out]; exact hk))
  have H0L := Lib.hid (HSL.out 0 hl0)
  clear hgd hn0 hnn HGG hg1
  generalize hLL : cps l = L at *
  clear hLL
  have H0 := Lib.hid (fun W hb => HAT.out W 0 hb hl0)
  generalize hck : nck l 0 = ck at *
  clear hck
  obtain ⟨nm0, sa, sn, sc, sd⟩ := ck
  simp only [Nat.zero_mul, Nat.add_zero] at H0 HON HOT HOG H0L
  go_enter Try.func12, Try.ntmps12
  go_wp2_with fail
  refine HGA.out.mono ?_
  rintro e w2 ⟨rfl, rfl⟩
  obtain ⟨w2, hw2⟩ : ∃ w2, (w.alloc (.cells #[.int .i64 0, .int .i64 0, .int .i64 0, .int .i64 0, .int .i64 0] 29)) = w2 := ⟨_, rfl⟩
  have HZ2 : Hid (Bx w2 w.heap.size zero) := Lib.hid (by rw [← hw2]; exact HZ.out)
  have HB2 : Hid (Below w.heap.size w w2) := Lib.hid (by rw [← hw2]; exact HA.out)
  rw [hw2]
  clear hw2 HZ HA HGA
  obtain ⟨d0, d1, d2⟩ := H0.out w2 HB2.out
  unfold Sl.val at d1
  simp only at d1
  have HD2 : Hid (Bs w2 sa sn sc sd) := Lib.hid d2
  clear d2
  by_cases hIH : nm0 = Nm.IH
  rotate_left
  · have e1 : ((str nm0).toList == [73, 72, 68, 82]) = false := str_is nm0 _ false (by simpa [Nm.IH] using hIH)
    have HO := Lib.hid (HON.out hIH)
    clear hIH HON HOT HOG
    have HSET := Lib.hid (fun x => bx_set HZ2.out x)
    have HBST := Lib.hid (fun a b c d e => below_set5 (Nat.le_refl _) HB2.out a b c d e)
    obtain ⟨z0, z1, z2, z3, z4⟩ := HZ2.out.cells
    have g0 := frozen_of_row w2 w.heap.size 0 _ _ HZ2.out
    have g1 := frozen_of_row w2 w.heap.size 1 _ _ HZ2.out
    have g2 := frozen_of_row w2 w.heap.size 2 _ _ HZ2.out
    have g3 := frozen_of_row w2 w.heap.size 3 _ _ HZ2.out
    have g4 := frozen_of_row w2 w.heap.size 4 _ _ HZ2.out
    simp only [zero] at z0 z1 z2 z3 z4
    go_wp2
    refine bodyPost_ret (res_hd2 _ rfl _ _ w.heap.size zero (.int .i64 2) rfl rfl (HSET.out zero)) rfl (HOR.out _ _ _ HO.out rfl (HBST.out _ _ _ _ _))
  have e1 : ((str nm0).toList == [73, 72, 68, 82]) = true := str_is nm0 _ true (by rw [hIH]; decide)
  have HOT2 := Lib.hid (HOT.out hIH)
  have HOG2 := Lib.hid (HOG.out hIH)
  clear HOT HOG
  have HTK := Lib.hid (refTake_any sa sn sc sd w2 HD2.out (by have := H0L.out; omega))
  have HTZ := Lib.hid (take_bad0 (l := sd))
  have HTG := Lib.hid (fun y => take_back (l := sd) (x := y))
  unfold RtPost at HTK
  generalize take sd = tk at *
  obtain ⟨tn, y⟩ := tk
  simp only at HOT2 HOG2 HTK HTZ
  have HYN := Lib.hid (fun W => bx_new W y)
  have HYA := Lib.hid (fun W => below_alloc W (.cells #[.int .i64 y.w, .int .i64 y.h, .int .i64 y.d, .int .i64 y.c, .int .i64 y.l] 29))
  clear hIH HON
  by_cases ht : tn = 0
  rotate_left
  · have hy := HTZ.out ht
    subst hy
    have HO := Lib.hid (HOT2.out ht)
    have dn : ((tn : Int) != 0) = true := by simp; omega
    clear HOT2 HOG2 ht HTG HTZ
    unfold Hd.H.val zero at HTK
    simp only [zero] at HYN HYA
    go_wp2_with fail
    refine HTK.out.mono ?_
    rintro e w3 ⟨rfl, hb3⟩
    have HZ3 := Lib.hid ((HZ2.out.below hb3).below (HYA.out w3))
    have HB3 := Lib.hid (below_then (below_then HB2.out hb3) (HYA.out w3))
    clear hb3 HYN HYA HTK HZ2 HB2
    have HSET := Lib.hid (fun x => bx_set HZ3.out x)
    have HBST := Lib.hid (fun a b c d e => below_set5 (Nat.le_refl _) HB3.out a b c d e)
    obtain ⟨z0, z1, z2, z3, z4⟩ := HZ3.out.cells
    have g0 := frozen_of_row (w3.alloc (.cells #[.int .i64 0, .int .i64 0, .int .i64 0, .int .i64 0, .int .i64 0] 29)) w.heap.size 0 _ _ HZ3.out
    have g1 := frozen_of_row (w3.alloc (.cells #[.int .i64 0, .int .i64 0, .int .i64 0, .int .i64 0, .int .i64 0] 29)) w.heap.size 1 _ _ HZ3.out
    have g2 := frozen_of_row (w3.alloc (.cells #[.int .i64 0, .int .i64 0, .int .i64 0, .int .i64 0, .int .i64 0] 29)) w.heap.size 2 _ _ HZ3.out
    have g3 := frozen_of_row (w3.alloc (.cells #[.int .i64 0, .int .i64 0, .int .i64 0, .int .i64 0, .int .i64 0] 29)) w.heap.size 3 _ _ HZ3.out
    have g4 := frozen_of_row (w3.alloc (.cells #[.int .i64 0, .int .i64 0, .int .i64 0, .int .i64 0, .int .i64 0] 29)) w.heap.size 4 _ _ HZ3.out
    simp only [zero] at z0 z1 z2 z3 z4
    go_wp2
    refine bodyPost_ret (res_hd2 _ rfl _ _ w.heap.size zero (.int .i64 (tn : Nat)) rfl rfl (HSET.out zero)) rfl (HOR.out _ _ _ HO.out rfl (HBST.out _ _ _ _ _))
  have HO := Lib.hid (HOG2.out ht)
  have HGY := Lib.hid (HTG.out y (by rw [ht])).1
  subst ht
  clear HOT2 HOG2 HTG HTZ
  have HWR2 := Lib.hid (HWR.out y HGY.out)
  unfold Hd.H.val at HTK HWR2
  obtain ⟨yw, yh, yd, yc, yl⟩ := y
  simp only at HTK HYN HYA HWR2
  clear HWR HGY
  go_wp2_with fail
  refine HTK.out.mono ?_
  rintro e w3 ⟨rfl, hb3⟩
  have HZ4 := Lib.hid ((HZ2.out.below hb3).below (HYA.out w3))
  have HB4 := Lib.hid (below_then (below_then HB2.out hb3) (HYA.out w3))
  have HY4 := Lib.hid (HYN.out w3)
  clear hb3 HYN HYA HTK HZ2 HB2 d0 d1 HD2
  go_wp2
  revert HZ4 HB4 HY4
  generalize hw4 : (w3.alloc (.cells #[.int .i64 yw, .int .i64 yh, .int .i64 yd, .int .i64 yc, .int .i64 yl] 29)) = w4
  intro HZ4 HB4 HY4
  clear hw4
  generalize w3.heap.size = hy at *
  have HK4 := Lib.hid (fun nm W => in_any nm K4 (by decide) (by decide) W)
  rw [show str (cat4 K4) = { data := #[73, 72, 68, 82, 80, 76, 84, 69, 73, 68, 65, 84, 73, 69, 78, 68] } by decide] at HK4
  go_loopw [6, 7] (fun i _ wr => ∃ j : Nat, 1 ≤ j ∧ j ≤ len ∧ i = .int .i64 (j : Nat) ∧ Hid (ordR L = goR ⟨yw, yh, yd, yc, yl⟩ L (len - j) (j - 1)) ∧ Hid (Below w4.heap.size w4 wr)) (fun i _ _ => len - (intOf i).toNat)
  case atStart => exact ⟨1, by omega, by omega, rfl, HO, Lib.hid (Below.refl _ _)⟩
  case round =>
    obtain ⟨j, hj1, hj, rfl, HG, HBR⟩ := hrel
    have HBW := Lib.hid (below_then HB4.out HBR.out)
    have HZR := Lib.hid (HZ4.out.below HBR.out)
    have HYR := Lib.hid (HY4.out.below HBR.out)
    by_cases hlt : j < len
    · obtain ⟨t0, t1, t2⟩ := HAT.out wr j HBW.out hlt
      have hn4 := HNL.out j hlt
      have hsl := HSL.out j hlt
      have hcp := HCP.out j hlt
      have HWJ := HWR2.out (j - 1) wr HBW.out (by omega)
      rw [show j - 1 + 1 = j by omega] at HWJ
      have HWJ2 := Lib.hid (HWJ hn4 hsl)
      generalize nck l j = ck at *
      obtain ⟨nm, ca, cn, cc, cd⟩ := ck
      unfold Sl.val at t1
      simp only at t0 t1 hn4 hcp HWJ2
      have hgo : goR ⟨yw, yh, yd, yc, yl⟩ L (len - j) (j - 1) = if adR ⟨yw, yh, yd, yc, yl⟩ L j nm cd ≠ 0 then (adR ⟨yw, yh, yd, yc, yl⟩ L j nm cd, zero) else goR ⟨yw, yh, yd, yc, yl⟩ L (len - (j + 1)) j := by
        rw [show len - j = (len - (j + 1)) + 1 by omega]
        show (if adR ⟨yw, yh, yd, yc, yl⟩ L (j - 1 + 1) (Ck.nth L (j - 1 + 1)).1 (Ck.nth L (j - 1 + 1)).2 ≠ 0 then (adR ⟨yw, yh, yd, yc, yl⟩ L (j - 1 + 1) (Ck.nth L (j - 1 + 1)).1 (Ck.nth L (j - 1 + 1)).2, zero) else goR ⟨yw, yh, yd, yc, yl⟩ L (len - (j + 1)) (j - 1 + 1)) = _
        rw [show j - 1 + 1 = j by omega, hcp]
      have HGO := Lib.hid (HG.out.trans hgo)
      have had : adR ⟨yw, yh, yd, yc, yl⟩ L j nm cd = if (!Ck.small (nm.getD 0 0) && !inP K4 nm) = true then 3 else if wrR ⟨yw, yh, yd, yc, yl⟩ L j nm cd = true then 2 else 0 := rfl
      have HAD := Lib.hid had
      have hsz : 0 < (str nm).size := by rw [str_size, hn4]; omega
      have hx : ((str nm)[0]'hsz).toNat = (nm.getD 0 0).toNat := str_get nm 0 hsz
      have HSM := Lib.hid (fun W => refSmall_any (nm.getD 0 0) W)
      have HIN := Lib.hid (fun W => HK4.out nm W)
      clear HG hgo had t2 hsl hcp HWJ hn4
      generalize wrR ⟨yw, yh, yd, yc, yl⟩ L j nm cd = wv at *
      generalize adR ⟨yw, yh, yd, yc, yl⟩ L j nm cd = er at *
      generalize inP K4 nm = ik at *
      generalize nm.getD 0 0 = x0 at *
      generalize Ck.small x0 = sm at *
      cases sm with
      | false =>
        go_wp2_with fail
        refine (HSM.out _).mono ?_
        rintro e w' ⟨rfl, rfl⟩
        go_wp2_with fail
        refine (HIN.out _).mono ?_
        rintro e w' ⟨rfl, rfl⟩
        cases ik with
        | false =>
          have HO3 : Hid (ordR L = (3, zero)) := Lib.hid (by
            have h9 : er = 3 := HAD.out
            rw [HGO.out, h9]; rfl)
          clear HAD HGO HWJ2 HIN HSM t0 t1
          have HSET := Lib.hid (fun x => bx_set HZR.out x)
          have HBST := Lib.hid (fun a b c d e => below_set5 (Nat.le_refl _) HBW.out a b c d e)
          obtain ⟨z0, z1, z2, z3, z4⟩ := HZR.out.cells
          have g0 := frozen_of_row wr w.heap.size 0 _ _ HZR.out
          have g1 := frozen_of_row wr w.heap.size 1 _ _ HZR.out
          have g2 := frozen_of_row wr w.heap.size 2 _ _ HZR.out
          have g3 := frozen_of_row wr w.heap.size 3 _ _ HZR.out
          have g4 := frozen_of_row wr w.heap.size 4 _ _ HZR.out
          simp only [zero] at z0 z1 z2 z3 z4
          go_wp2
          refine bodyPost_ret (res_hd2 _ rfl _ _ w.heap.size zero (.int .i64 3) rfl rfl (HSET.out zero)) rfl (HOR.out _ _ _ HO3.out rfl (HBST.out _ _ _ _ _))
        | true =>
          cases wv with
          | true =>
            have HO2 : Hid (ordR L = (2, zero)) := Lib.hid (by
              have h9 : er = 2 := HAD.out
              rw [HGO.out, h9]; rfl)
            obtain ⟨y0, y1, y2, y3, y4⟩ := HYR.out.cells
            simp only at y0 y1 y2 y3 y4
            clear HAD HGO HIN HSM t0 t1
            go_wp2_with fail
            refine HWJ2.out.mono ?_
            rintro e w7 ⟨rfl, hb7⟩
            have HZ7 := Lib.hid (HZR.out.below hb7)
            have HB7 := Lib.hid (below_then HBW.out hb7)
            clear hb7 HWJ2 HZR HBW HYR y0 y1 y2 y3 y4
            have HSET := Lib.hid (fun x => bx_set HZ7.out x)
            have HBST := Lib.hid (fun a b c d e => below_set5 (Nat.le_refl _) HB7.out a b c d e)
            obtain ⟨z0, z1, z2, z3, z4⟩ := HZ7.out.cells
            have g0 := frozen_of_row w7 w.heap.size 0 _ _ HZ7.out
            have g1 := frozen_of_row w7 w.heap.size 1 _ _ HZ7.out
            have g2 := frozen_of_row w7 w.heap.size 2 _ _ HZ7.out
            have g3 := frozen_of_row w7 w.heap.size 3 _ _ HZ7.out
            have g4 := frozen_of_row w7 w.heap.size 4 _ _ HZ7.out
            simp only [zero] at z0 z1 z2 z3 z4
            go_wp2
            refine bodyPost_ret (res_hd2 _ rfl _ _ w.heap.size zero (.int .i64 2) rfl rfl (HSET.out zero)) rfl (HOR.out _ _ _ HO2.out rfl (HBST.out _ _ _ _ _))
          | false =>
            have HG9 : Hid (ordR L = goR ⟨yw, yh, yd, yc, yl⟩ L (len - (j + 1)) (j + 1 - 1)) := Lib.hid (by
              have h9 : er = 0 := HAD.out
              rw [HGO.out, h9, Nat.add_sub_cancel]; rfl)
            obtain ⟨y0, y1, y2, y3, y4⟩ := HYR.out.cells
            simp only at y0 y1 y2 y3 y4
            clear HAD HGO HIN HSM t0 t1
            go_wp2_with fail
            refine HWJ2.out.mono ?_
            rintro e w7 ⟨rfl, hb7⟩
            have HB9 := Lib.hid (below_then HBR.out hb7)
            clear hb7 HWJ2 HZR HBW HYR y0 y1 y2 y3 y4
            go_wp2
            go_roundw
            case rel => exact ⟨j + 1, by omega, by omega, by go_num, HG9, HB9⟩
            case measure => simp [intOf]; omega
      | true =>
        go_wp2_with fail
        refine (HSM.out _).mono ?_
        rintro e w' ⟨rfl, rfl⟩
        cases wv with
        | true =>
          have HO2 : Hid (ordR L = (2, zero)) := Lib.hid (by
            have h9 : er = 2 := HAD.out
            rw [HGO.out, h9]; rfl)
          obtain ⟨y0, y1, y2, y3, y4⟩ := HYR.out.cells
          simp only at y0 y1 y2 y3 y4
          clear HAD HGO HIN HSM t0 t1
          go_wp2_with fail
          refine HWJ2.out.mono ?_
          rintro e w7 ⟨rfl, hb7⟩
          have HZ7 := Lib.hid (HZR.out.below hb7)
          have HB7 := Lib.hid (below_then HBW.out hb7)
          clear hb7 HWJ2 HZR HBW HYR y0 y1 y2 y3 y4
          have HSET := Lib.hid (fun x => bx_set HZ7.out x)
          have HBST := Lib.hid (fun a b c d e => below_set5 (Nat.le_refl _) HB7.out a b c d e)
          obtain ⟨z0, z1, z2, z3, z4⟩ := HZ7.out.cells
          have g0 := frozen_of_row w7 w.heap.size 0 _ _ HZ7.out
          have g1 := frozen_of_row w7 w.heap.size 1 _ _ HZ7.out
          have g2 := frozen_of_row w7 w.heap.size 2 _ _ HZ7.out
          have g3 := frozen_of_row w7 w.heap.size 3 _ _ HZ7.out
          have g4 := frozen_of_row w7 w.heap.size 4 _ _ HZ7.out
          simp only [zero] at z0 z1 z2 z3 z4
          go_wp2
          refine bodyPost_ret (res_hd2 _ rfl _ _ w.heap.size zero (.int .i64 2) rfl rfl (HSET.out zero)) rfl (HOR.out _ _ _ HO2.out rfl (HBST.out _ _ _ _ _))
        | false =>
          have HG9 : Hid (ordR L = goR ⟨yw, yh, yd, yc, yl⟩ L (len - (j + 1)) (j + 1 - 1)) := Lib.hid (by
            have h9 : er = 0 := HAD.out
            rw [HGO.out, h9, Nat.add_sub_cancel]; rfl)
          obtain ⟨y0, y1, y2, y3, y4⟩ := HYR.out.cells
          simp only at y0 y1 y2 y3 y4
          clear HAD HGO HIN HSM t0 t1
          go_wp2_with fail
          refine HWJ2.out.mono ?_
          rintro e w7 ⟨rfl, hb7⟩
          have HB9 := Lib.hid (below_then HBR.out hb7)
          clear hb7 HWJ2 HZR HBW HYR y0 y1 y2 y3 y4
          go_wp2
          go_roundw
          case rel => exact ⟨j + 1, by omega, by omega, by go_num, HG9, HB9⟩
          case measure => simp [intOf]; omega
    · obtain rfl : j = len := by omega
      have hgo : goR ⟨yw, yh, yd, yc, yl⟩ L (j - j) (j - 1) = if bef L j [Nm.ID] = 0 ∨ (yc = 3 ∧ bef L j [Nm.PL] = 0) then (2, zero) else (0, ⟨yw, yh, yd, yc, yl⟩) := by
        rw [Nat.sub_self]
        unfold goR
        rw [HLP.out]
      have HGO := Lib.hid (HG.out.trans hgo)
      have HB1 := Lib.hid (fun W hb => HBE.out [Nm.ID] W hb (by decide) (by decide))
      have HB2 := Lib.hid (fun W hb => HBE.out [Nm.PL] W hb (by decide) (by decide))
      rw [show str (cat4 [Nm.ID]) = { data := #[73, 68, 65, 84] } by decide] at HB1
      rw [show str (cat4 [Nm.PL]) = { data := #[80, 76, 84, 69] } by decide] at HB2
      obtain ⟨y0, y1, y2, y3, y4⟩ := HYR.out.cells
      simp only at y0 y1 y2 y3 y4
      clear hgo HG HBE
      generalize bef L j [Nm.ID] = q1 at *
      generalize bef L j [Nm.PL] = q2 at *
      go_wp2_with fail
      refine (HB1.out _ HBW.out).mono ?_
      rintro e w' ⟨rfl, rfl⟩
      by_cases h1 : q1 = 0
      · have HO2 : Hid (ordR L = (2, zero)) := Lib.hid (by rw [HGO.out, if_pos (.inl h1)])
        have dq : ((q1 : Int) == 0) = true := by simp [h1]
        clear h1 HGO
        have HSET := Lib.hid (fun x => bx_set HZR.out x)
        have HBST := Lib.hid (fun a b c d e => below_set5 (Nat.le_refl _) HBW.out a b c d e)
        obtain ⟨z0, z1, z2, z3, z4⟩ := HZR.out.cells
        have g0 := frozen_of_row wr w.heap.size 0 _ _ HZR.out
        have g1 := frozen_of_row wr w.heap.size 1 _ _ HZR.out
        have g2 := frozen_of_row wr w.heap.size 2 _ _ HZR.out
        have g3 := frozen_of_row wr w.heap.size 3 _ _ HZR.out
        have g4 := frozen_of_row wr w.heap.size 4 _ _ HZR.out
        simp only [zero] at z0 z1 z2 z3 z4
        go_wp2
        refine bodyPost_ret (res_hd2 _ rfl _ _ w.heap.size zero (.int .i64 2) rfl rfl (HSET.out zero)) rfl (HOR.out _ _ _ HO2.out rfl (HBST.out _ _ _ _ _))
      · have dq : ((q1 : Int) == 0) = false := by simp; omega
        by_cases h3 : yc = 3
        · have d3 : (yc == 3) = true := by simp [h3]
          go_wp2_with fail
          refine (HB2.out _ HBW.out).mono ?_
          rintro e w' ⟨rfl, rfl⟩
          by_cases h2 : q2 = 0
          · have HO2 : Hid (ordR L = (2, zero)) := Lib.hid (by rw [HGO.out, if_pos (.inr ⟨h3, h2⟩)])
            have dq2 : ((q2 : Int) == 0) = true := by simp [h2]
            clear h1 h2 h3 HGO
            have HSET := Lib.hid (fun x => bx_set HZR.out x)
            have HBST := Lib.hid (fun a b c d e => below_set5 (Nat.le_refl _) HBW.out a b c d e)
            obtain ⟨z0, z1, z2, z3, z4⟩ := HZR.out.cells
            have g0 := frozen_of_row wr w.heap.size 0 _ _ HZR.out
            have g1 := frozen_of_row wr w.heap.size 1 _ _ HZR.out
            have g2 := frozen_of_row wr w.heap.size 2 _ _ HZR.out
            have g3 := frozen_of_row wr w.heap.size 3 _ _ HZR.out
            have g4 := frozen_of_row wr w.heap.size 4 _ _ HZR.out
            simp only [zero] at z0 z1 z2 z3 z4
            go_wp2
            refine bodyPost_ret (res_hd2 _ rfl _ _ w.heap.size zero (.int .i64 2) rfl rfl (HSET.out zero)) rfl (HOR.out _ _ _ HO2.out rfl (HBST.out _ _ _ _ _))
          · have HO2 : Hid (ordR L = (0, ⟨yw, yh, yd, yc, yl⟩)) := Lib.hid (by rw [HGO.out, if_neg (by omega)])
            have dq2 : ((q2 : Int) == 0) = false := by simp; omega
            clear h1 h2 h3 HGO
            have HSET := Lib.hid (fun x => bx_set HZR.out x)
            have HBST := Lib.hid (fun a b c d e => below_set5 (Nat.le_refl _) HBW.out a b c d e)
            obtain ⟨z0, z1, z2, z3, z4⟩ := HZR.out.cells
            have g0 := frozen_of_row wr w.heap.size 0 _ _ HZR.out
            have g1 := frozen_of_row wr w.heap.size 1 _ _ HZR.out
            have g2 := frozen_of_row wr w.heap.size 2 _ _ HZR.out
            have g3 := frozen_of_row wr w.heap.size 3 _ _ HZR.out
            have g4 := frozen_of_row wr w.heap.size 4 _ _ HZR.out
            simp only [zero] at z0 z1 z2 z3 z4
            go_wp2
            refine bodyPost_ret (res_hd2 _ rfl _ _ w.heap.size ⟨yw, yh, yd, yc, yl⟩ (.int .i64 0) rfl rfl (HSET.out ⟨yw, yh, yd, yc, yl⟩)) rfl (HOR.out _ _ _ HO2.out rfl (HBST.out _ _ _ _ _))
        · have d3 : (yc == 3) = false := by simpa using h3
          have HO2 : Hid (ordR L = (0, ⟨yw, yh, yd, yc, yl⟩)) := Lib.hid (by rw [HGO.out, if_neg (by omega)])
          clear h1 h3 HGO
          have HSET := Lib.hid (fun x => bx_set HZR.out x)
          have HBST := Lib.hid (fun a b c d e => below_set5 (Nat.le_refl _) HBW.out a b c d e)
          obtain ⟨z0, z1, z2, z3, z4⟩ := HZR.out.cells
          have g0 := frozen_of_row wr w.heap.size 0 _ _ HZR.out
          have g1 := frozen_of_row wr w.heap.size 1 _ _ HZR.out
          have g2 := frozen_of_row wr w.heap.size 2 _ _ HZR.out
          have g3 := frozen_of_row wr w.heap.size 3 _ _ HZR.out
          have g4 := frozen_of_row wr w.heap.size 4 _ _ HZR.out
          simp only [zero] at z0 z1 z2 z3 z4
          go_wp2
          refine bodyPost_ret (res_hd2 _ rfl _ _ w.heap.size ⟨yw, yh, yd, yc, yl⟩ (.int .i64 0) rfl rfl (HSET.out ⟨yw, yh, yd, yc, yl⟩)) rfl (HOR.out _ _ _ HO2.out rfl (HBST.out _ _ _ _ _))
end Hd
end Go.Proofs.Ytbgaaocgdjkkeaa
end
