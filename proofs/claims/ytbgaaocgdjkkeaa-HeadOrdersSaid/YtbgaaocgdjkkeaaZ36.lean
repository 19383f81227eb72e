/- The order of chunks: the code's own steps, as a function. -/
import Derived.Test.YtbgaaocgdjkkeaaZ25
import Derived.Test.YtbgaaocgdjkkeaaZ27
import Derived.Test.YtbgaaocgdjkkeaaZ35
set_option linter.unusedSimpArgs false
set_option linter.unusedVariables false
section
namespace Go.Proofs.Ytbgaaocgdjkkeaa
open Go.RowKit

namespace Hd
structure St where
  f : List UInt8 → Nat
  p : List UInt8
  e : Nat
/-- What is known behind so many chunks (behind the head). -/
def stN (L : List Ck.C) : Nat → St
  | 0 => ⟨fun _ => 0, [], 0⟩
  | k + 1 => ⟨bmp (stN L k).f (Ck.nth L (k + 1)).1, (Ck.nth L (k + 1)).1, entP (stN L k).e (Ck.nth L (k + 1)).1 (Ck.nth L (k + 1)).2⟩
def ePr (x : H) (L : List Ck.C) (k : Nat) : Nat := addP x (stN L k).f (stN L k).p (stN L k).e (Ck.nth L (k + 1)).1 (Ck.nth L (k + 1)).2
def goP (x : H) (L : List Ck.C) : Nat → Nat → Nat × H
  | 0, k => if compP x (stN L k).f then (0, x) else (2, zero)
  | m + 1, k => if ePr x L k ≠ 0 then (ePr x L k, zero) else goP x L m (k + 1)
def ord (L : List Ck.C) : Nat × H :=
  if Ck.good L = false then (6, zero)
  else if (Ck.nth L 0).1 ≠ Nm.IH then (2, zero)
  else if (take (Ck.nth L 0).2).1 ≠ 0 then ((take (Ck.nth L 0).2).1, zero)
  else goP (take (Ck.nth L 0).2).2 L (L.length - 1) 0
theorem stN_le (L : List Ck.C) (nm : List UInt8) : ∀ k, (stN L k).f nm ≤ k
  | 0 => Nat.le_refl _
  | k + 1 => by
    have ih := stN_le L nm k
    have ih2 := stN_le L (Ck.nth L (k + 1)).1 k
    show bmp (stN L k).f (Ck.nth L (k + 1)).1 nm ≤ k + 1
    unfold bmp
    split <;> omega
/-- A list that begins with a head has an end, too. -/
theorem two_of {L : List Ck.C} (hg : Ck.good L = true) (h0 : (Ck.nth L 0).1 = Nm.IH) : 2 ≤ L.length := by
  obtain ⟨h1, h2⟩ := Ck.good_all hg
  have h := h2 0 h1
  by_cases hl : L.length = 1
  · unfold Ck.okAt at h
    rw [h0, hl] at h
    simp [Nm.IH, Ck.iend] at h
  · omega
theorem name_len {L : List Ck.C} (hg : Ck.good L = true) (k : Nat) (hk : k < L.length) : (Ck.nth L k).1.length = 4 := Ck.okAt_named ((Ck.good_all hg).2 k hk)
def OrPost (w : World) (L : List Ck.C) (e : Ending) (w' : World) : Prop := e = .returned (.tuple #[(ord L).2.val, errV (ord L).1]) ∧ Below w.heap.size w w'
set_option maxRecDepth 100000 in
set_option maxHeartbeats 4000000 in
theorem order_any (a : Option Addr) (len cap : Nat) (l : List Ckm) (w : World) (h : Cs w a len cap l) (hr : len * 40 ≤ 140737488351232) (hd : ∀ c ∈ l, c.n.length ≤ 140737488351232 ∧ c.s.len ≤ 140737488351232) (hsz : 8 + Ck.size (cps l) ≤ 1048576) (hlen : len ≤ 10000) :
    Calls Try.prog 11 #[.slice a len cap] w (OrPost w (cps l)) := by
  have hle := h.hle
  have HL := Lib.hid h.hlen
  have HLP : Hid ((cps l).length = len) := Lib.hid (by rw [cps_length, h.hlen])
  have HZ := Lib.hid (bx_new w zero)
  have HA := Lib.hid (below_alloc w (.cells #[.int .i64 0, .int .i64 0, .int .i64 0, .int .i64 0, .int .i64 0] 29))
  have HW := Lib.hid (fun W (hb : Below w.heap.size w W) => write_any a len cap l W (h.mono hb) hr hd)
  have H := Lib.hid (fun W (hb : Below w.heap.size w W) => h.mono hb)
  have HSL : Hid (∀ k, k < len → (nck l k).s.l.length ≤ 1048576 ∧ (nck l k).s.len = (nck l k).s.l.length) := Lib.hid (fun k hk => by
    have hkl : k < l.length := by rw [h.hlen]; exact hk
    have h1 := Ck.data_le (cps l) k (by rw [cps_length]; exact hkl)
    rw [cps_nth l k hkl] at h1
    have h2 : (nck l k).c.2 = (nck l k).s.l := rfl
    rw [h2] at h1
    have h3 := (h.data (nck_mem l k hkl)).hlen
    exact ⟨by omega, h3.symm⟩)
  have HOR : Hid (∀ k e w', ord (cps l) = k → e = .returned (.tuple #[k.2.val, errV k.1]) → Below w.heap.size w w' → OrPost w (cps l) e w') := Lib.hid (fun k e w' h1 h2 h3 => by unfold OrPost; rw [h1]; exact ⟨h2, h3⟩)
  clear h hd
  have hs6 : 8 + Ck.size (cps l) ≤ 1048576 := hsz
  clear hsz
  generalize hpo : OrPost w (cps l) = PO at *
  clear hpo
  cases hgd : Ck.good (cps l) with
  | false =>
    have HO : Hid (ord (cps l) = (6, zero)) := Lib.hid (by unfold ord; rw [if_pos hgd])
    have HW6 : Hid (∀ W, Below w.heap.size w W → Calls Try.prog 34 #[.slice a len cap] W fun e w' => e = .returned (.tuple #[.slice none 0 0, .iface 49 (.int .i64 6)]) ∧ Below W.heap.size W w') := Lib.hid (fun W hb => (HW.out W hb).mono (fun e w' hp => by
      unfold WrPost at hp
      rw [if_neg (by rw [hgd]; exact Bool.false_ne_true)] at hp
      exact hp))
    have HWA := Lib.hid (HW6.out _ HA.out)
    clear HW HW6 hgd
    go_enter Try.func11, Try.ntmps11
    go_wp2_with fail
    refine HWA.out.mono ?_
    rintro e w2 ⟨rfl, hb2⟩
    have HZ2 := Lib.hid (HZ.out.below hb2)
    have HB2 := Lib.hid (below_then HA.out hb2)
    obtain ⟨z0, z1, z2, z3, z4⟩ := HZ2.out.cells
    have g0 := frozen_of_row w2 w.heap.size 0 _ _ HZ2.out
    have g1 := frozen_of_row w2 w.heap.size 1 _ _ HZ2.out
    have g2 := frozen_of_row w2 w.heap.size 2 _ _ HZ2.out
    have g3 := frozen_of_row w2 w.heap.size 3 _ _ HZ2.out
    have g4 := frozen_of_row w2 w.heap.size 4 _ _ HZ2.out
    have HSET := Lib.hid (fun x => bx_set HZ2.out x)
    have HBST := Lib.hid (fun a b c d e => below_set5 (Nat.le_refl _) HB2.out a b c d e)
    simp only [zero] at z0 z1 z2 z3 z4
    clear hb2
    go_wp2
    refine bodyPost_ret (res_hd2 _ rfl _ _ w.heap.size zero _ rfl rfl (HSET.out zero)) rfl (HOR.out _ _ _ HO.out rfl (HBST.out _ _ _ _ _))
  | true =>
  have hg1 := (Ck.good_all hgd).1
  have hl0 : 0 < len := by have := HLP.out; omega
  have hw7 : ∀ W, Below w.heap.size w W → Calls Try.prog 34 #[.slice a len cap] W fun e w' => ∃ v, e = .returned (.tuple #[v, .nilIface]) ∧ Below W.heap.size W w' := fun W hb => (HW.out W hb).mono (fun e w' hp => by
    unfold WrPost at hp
    rw [if_pos hgd, if_pos hs6] at hp
    obtain ⟨v, h1, h2⟩ := hp
    exact ⟨v, h1, h2.2⟩)
  have HWA := Lib.hid (hw7 _ HA.out)
  have HON : Hid ((Ck.nth (cps l) 0).1 ≠ Nm.IH → ord (cps l) = (2, zero)) := Lib.hid (fun h => by unfold ord; rw [if_neg (by rw [hgd]; exact fun h => by cases h), if_pos h])
  have HOT : Hid ((Ck.nth (cps l) 0).1 = Nm.IH → (take (Ck.nth (cps l) 0).2).1 ≠ 0 → ord (cps l) = ((take (Ck.nth (cps l) 0).2).1, zero)) := Lib.hid (fun h h2 => by unfold ord; rw [if_neg (by rw [hgd]; exact fun h => by cases h), if_neg (fun h9 => h9 h), if_pos h2])
  have HOG : Hid ((Ck.nth (cps l) 0).1 = Nm.IH → (take (Ck.nth (cps l) 0).2).1 = 0 → ord (cps l) = goP (take (Ck.nth (cps l) 0).2).2 (cps l) (len - 1) 0) := Lib.hid (fun h h2 => by unfold ord; rw [if_neg (by rw [hgd]; exact fun h => by cases h), if_neg (fun h9 => h9 h), if_neg (fun h9 => h9 h2), HLP.out])
  have HTW : Hid ((Ck.nth (cps l) 0).1 = Nm.IH → 2 ≤ len) := Lib.hid (fun h => by have := two_of hgd h; rwa [HLP.out] at this)
  have HNL : Hid (∀ k, k < len → (nck l k).n.length = 4) := Lib.hid (fun k hk => by
    have hkl : k < l.length := by rw [HL.out]; exact hk
    have := name_len hgd k (by rw [cps_length]; exact hkl)
    rwa [cps_nth l k hkl] at this)
  have hn0 : Ck.nth (cps l) 0 = (nck l 0).c := cps_nth l 0 (by rw [HL.out]; exact hl0)
  have hnn : (nck l 0).c = ((nck l 0).n, (nck l 0).s.l) := rfl
  rw [hn0, hnn] at HON HOT HOG HTW
  simp only at HON HOT HOG HTW
  obtain ⟨b, off, rfl, hbl, _⟩ := (H.out w (Below.refl _ _)).at' 0 hl0
  have HAT : Hid (∀ W k, Below w.heap.size w W → k < len → W.cell? ⟨b, off + k * 2, none⟩ = some (.string (str (nck l k).n)) ∧ W.cell? ⟨b, off + k * 2 + 1, none⟩ = some (nck l k).s.val ∧ (nck l k).s.at W) := Lib.hid (fun W k hb hk => by
    obtain ⟨b', off', e, _, t0, t1, t2⟩ := (H.out W hb).at' k hk
    simp only [Option.some.injEq, Addr.mk.injEq, and_true] at e
    obtain ⟨rfl, rfl⟩ := e
    exact ⟨t0, t1, t2⟩)
  have H0L := Lib.hid (HSL.out 0 hl0)
  clear hw7 hgd hn0 hnn HW hg1 hs6
  have HCP : Hid (∀ k, k < len → Ck.nth (cps l) k = ((nck l k).n, (nck l k).s.l)) := Lib.hid (fun k hk => cps_nth l k (by rw [HL.out]; exact hk))
  generalize hLL : cps l = L at *
  clear hLL
  have H0 := Lib.hid (fun W hb => HAT.out W 0 hb hl0)
  generalize hck : nck l 0 = ck at *
  clear hck
  obtain ⟨nm0, sa, sn, sc, sd⟩ := ck
  simp only [Nat.zero_mul, Nat.add_zero] at H0 HON HOT HOG HTW H0L
  go_enter Try.func11, Try.ntmps11
  go_wp2_with fail
  refine HWA.out.mono ?_
  rintro e w2 ⟨v2, rfl, hb2⟩
  have HZ2 := Lib.hid (HZ.out.below hb2)
  have HB2 := Lib.hid (below_then HA.out hb2)
  obtain ⟨d0, d1, d2⟩ := H0.out w2 HB2.out
  unfold Sl.val at d1
  simp only at d1
  have HD2 : Hid (Bs w2 sa sn sc sd) := Lib.hid d2
  clear hb2 d2 HZ HA HWA
  by_cases hIH : nm0 = Nm.IH
  rotate_left
  · have e1 : ((str nm0).toList == [73, 72, 68, 82]) = false := str_is nm0 _ false (by simpa [Nm.IH] using hIH)
    have HO := Lib.hid (HON.out hIH)
    obtain ⟨z0, z1, z2, z3, z4⟩ := HZ2.out.cells
    have g0 := frozen_of_row w2 w.heap.size 0 _ _ HZ2.out
    have g1 := frozen_of_row w2 w.heap.size 1 _ _ HZ2.out
    have g2 := frozen_of_row w2 w.heap.size 2 _ _ HZ2.out
    have g3 := frozen_of_row w2 w.heap.size 3 _ _ HZ2.out
    have g4 := frozen_of_row w2 w.heap.size 4 _ _ HZ2.out
    have HSET := Lib.hid (fun x => bx_set HZ2.out x)
    have HBST := Lib.hid (fun a b c d e => below_set5 (Nat.le_refl _) HB2.out a b c d e)
    simp only [zero] at z0 z1 z2 z3 z4
    clear hIH HON HOT HOG HTW
    go_wp2
    refine bodyPost_ret (res_hd2 _ rfl _ _ w.heap.size zero _ rfl rfl (HSET.out zero)) rfl (HOR.out _ _ _ HO.out rfl (HBST.out _ _ _ _ _))
  have e1 : ((str nm0).toList == [73, 72, 68, 82]) = true := str_is nm0 _ true (by rw [hIH]; decide)
  have HOT2 := Lib.hid (HOT.out hIH)
  have HOG2 := Lib.hid (HOG.out hIH)
  have hlen2 := HTW.out hIH
  clear HOT HOG
  have HTK := Lib.hid (take_any sa sn sc sd w2 HD2.out (by have := H0L.out; omega))
  have HTZ := Lib.hid (take_bad0 (l := sd))
  have HTG := Lib.hid (fun y => take_back (l := sd) (x := y))
  unfold HtPost at HTK
  generalize take sd = tk at *
  obtain ⟨tn, y⟩ := tk
  simp only at HOT2 HOG2 HTK HTZ
  have HYN := Lib.hid (fun W => bx_new W y)
  have HYA := Lib.hid (fun W => below_alloc W (.cells #[.int .i64 y.w, .int .i64 y.h, .int .i64 y.d, .int .i64 y.c, .int .i64 y.l] 29))
  clear hIH HON HTW
  by_cases ht : tn = 0
  rotate_left
  · have hy := HTZ.out ht
    subst hy
    have HO := Lib.hid (HOT2.out ht)
    rw [errV_pos ht] at HTK
    have HEV := Lib.hid (errV_pos ht)
    clear HOT2 HOG2 ht HTG HTZ
    unfold Hd.H.val zero at HTK
    simp only [zero] at HYN HYA
    go_wp2_with fail
    refine HTK.out.mono ?_
    rintro e w3 ⟨rfl, hb3⟩
    have HZ3 := Lib.hid ((HZ2.out.below hb3).below (HYA.out w3))
    have HB3 := Lib.hid (below_then (below_then HB2.out hb3) (HYA.out w3))
    clear hb3 HYN HYA HTK HZ2 HB2
    obtain ⟨z0, z1, z2, z3, z4⟩ := HZ3.out.cells
    have g0 := frozen_of_row (w3.alloc (.cells #[.int .i64 0, .int .i64 0, .int .i64 0, .int .i64 0, .int .i64 0] 29)) w.heap.size 0 _ _ HZ3.out
    have g1 := frozen_of_row (w3.alloc (.cells #[.int .i64 0, .int .i64 0, .int .i64 0, .int .i64 0, .int .i64 0] 29)) w.heap.size 1 _ _ HZ3.out
    have g2 := frozen_of_row (w3.alloc (.cells #[.int .i64 0, .int .i64 0, .int .i64 0, .int .i64 0, .int .i64 0] 29)) w.heap.size 2 _ _ HZ3.out
    have g3 := frozen_of_row (w3.alloc (.cells #[.int .i64 0, .int .i64 0, .int .i64 0, .int .i64 0, .int .i64 0] 29)) w.heap.size 3 _ _ HZ3.out
    have g4 := frozen_of_row (w3.alloc (.cells #[.int .i64 0, .int .i64 0, .int .i64 0, .int .i64 0, .int .i64 0] 29)) w.heap.size 4 _ _ HZ3.out
    have HSET := Lib.hid (fun x => bx_set HZ3.out x)
    have HBST := Lib.hid (fun a b c d e => below_set5 (Nat.le_refl _) HB3.out a b c d e)
    simp only [zero] at z0 z1 z2 z3 z4
    go_wp2
    refine bodyPost_ret (res_hd2 _ rfl _ _ w.heap.size zero (.iface 49 (.int .i64 (tn : Nat))) rfl rfl (HSET.out zero)) rfl (HOR.out _ _ _ HO.out (by rw [HEV.out]) (HBST.out _ _ _ _ _))
  have HO := Lib.hid (HOG2.out ht)
  have HGY := Lib.hid (HTG.out y (by rw [ht])).1
  rw [errV_zero ht] at HTK
  clear HOT2 HOG2 ht HTG HTZ
  unfold Hd.H.val at HTK
  obtain ⟨yw, yh, yd, yc, yl⟩ := y
  simp only at HTK HYN HYA
  go_wp2_with fail
  refine HTK.out.mono ?_
  rintro e w3 ⟨rfl, hb3⟩
  have HZ4 := Lib.hid ((HZ2.out.below hb3).below (HYA.out w3))
  have HB4 := Lib.hid (below_then (below_then HB2.out hb3) (HYA.out w3))
  have HY4 := Lib.hid (HYN.out w3)
  clear hb3 HYN HYA HTK HZ2 HB2 d0 d1
  obtain ⟨w4, hw4⟩ : ∃ w4, (w3.alloc (.cells #[.int .i64 yw, .int .i64 yh, .int .i64 yd, .int .i64 yc, .int .i64 yl] 29)) = w4 := ⟨_, rfl⟩
  rw [hw4] at HZ4 HB4 HY4
  obtain ⟨y0, y1, y2, y3, y4⟩ := HY4.out.cells
  simp only at y0 y1 y2 y3 y4
  have hm5 := below_alloc w4 (.map #[] 0)
  have hz5 : (w4.alloc (.map #[] 0)).heap.size = w4.heap.size + 1 := World.size_alloc _ _
  have hm6 := below_alloc (w4.alloc (.map #[] 0)) (.cells #[.int .i64 yw, .int .i64 yh, .int .i64 yd, .int .i64 yc, .int .i64 yl, .map (some w4.heap.size), .string { data := #[] }, .int .i64 0] 70)
  have hrow6 := heap_alloc_last (w4.alloc (.map #[] 0)) (.cells #[.int .i64 yw, .int .i64 yh, .int .i64 yd, .int .i64 yc, .int .i64 yl, .map (some w4.heap.size), .string { data := #[] }, .int .i64 0] 70)
  rw [hz5] at hrow6
  have HS6 : Hid (Sq ((w4.alloc (.map #[] 0)).alloc (.cells #[.int .i64 yw, .int .i64 yh, .int .i64 yd, .int .i64 yc, .int .i64 yl, .map (some w4.heap.size), .string { data := #[] }, .int .i64 0] 70)) (w4.heap.size + 1) w4.heap.size 0 ⟨yw, yh, yd, yc, yl⟩ (stN L 0).f (stN L 0).p (stN L 0).e) := Lib.hid ⟨hrow6, (cm_new w4).below hm6⟩
  have HZ6 := Lib.hid ((HZ4.out.below hm5).below hm6)
  have HY6 := Lib.hid ((HY4.out.below hm5).below hm6)
  have HB6 := Lib.hid (below_then (below_then HB4.out hm5) hm6)
  have hge : Hid (w.heap.size < w4.heap.size ∧ w3.heap.size < w4.heap.size) := Lib.hid ⟨HZ4.out.lt, HY4.out.lt⟩
  have HZL : Hid (w4.heap.size ≤ ((w4.alloc (.map #[] 0)).alloc (.cells #[.int .i64 yw, .int .i64 yh, .int .i64 yd, .int .i64 yc, .int .i64 yl, .map (some w4.heap.size), .string { data := #[] }, .int .i64 0] 70)).heap.size) := Lib.hid (by rw [World.size_alloc, World.size_alloc]; omega)
  clear hm5 hm6 hz5 hrow6 HZ4 HB4 HY4
  have hcap1 : ¬ cap = 1 := by omega
  have hmm := @run_makeMap Try.prog
  go_wp2
  clear hmm y0 y1 y2 y3 y4 hw4
  revert HS6 HZ6 HY6 HB6 HZL
  generalize ((w4.alloc (.map #[] 0)).alloc (.cells #[.int .i64 yw, .int .i64 yh, .int .i64 yd, .int .i64 yc, .int .i64 yl, .map (some w4.heap.size), .string { data := #[] }, .int .i64 0] 70)) = w6
  intro HS6 HZ6 HY6 HB6 HZL
  generalize w4.heap.size = mb at *
  generalize w3.heap.size = hy at *
  go_loopw [10, 11, 47] (fun _ _ i wr => ∃ k : Nat, k ≤ len - 1 ∧ i = .int .i64 (k : Nat) ∧ Hid (ord L = goP ⟨yw, yh, yd, yc, yl⟩ L (len - 1 - k) k) ∧ Hid (Sq wr (mb + 1) mb k ⟨yw, yh, yd, yc, yl⟩ (stN L k).f (stN L k).p (stN L k).e) ∧ Hid (Below mb w6 wr)) (fun _ _ i _ => len - 1 - (intOf i).toNat)
  case atStart => exact ⟨0, by omega, rfl, HO, HS6, Lib.hid (Below.refl _ _)⟩
  case round =>
    obtain ⟨k, hk, rfl, HG, HS, HBR⟩ := hrel
    have HBW : Hid (Below w.heap.size w wr) := Lib.hid (HB6.out.trans (HBR.out.mono (Nat.le_of_lt hge.out.1)))
    have HZR : Hid (Bx wr w.heap.size zero) := Lib.hid ((HBR.out.block w.heap.size hge.out.1).trans HZ6.out)
    have HYR : Hid (Bx wr hy ⟨yw, yh, yd, yc, yl⟩) := Lib.hid ((HBR.out.block hy hge.out.2).trans HY6.out)
    by_cases hlt : k < len - 1
    · have hk1 : k + 1 < len := by omega
      obtain ⟨t0, t1, t2⟩ := HAT.out wr (k + 1) HBW.out hk1
      have HN1 := Lib.hid (HNL.out (k + 1) hk1)
      have HSL1 := Lib.hid (HSL.out (k + 1) hk1)
      have HC1 := Lib.hid (HCP.out (k + 1) hk1)
      rw [show off + (k + 1) * 2 = off + 2 + k * 2 by omega] at t0 t1
      generalize nck l (k + 1) = ck at *
      obtain ⟨nm, ca, cn, cc, cd⟩ := ck
      unfold Sl.val at t1
      simp only at t0 t1 HN1 HSL1 HC1
      have HT2 : Hid (Bs wr ca cn cc cd) := Lib.hid t2
      have hbx := below_alloc wr (.cells #[.string (str nm), .slice ca cn cc] 26)
      have hbx2 := HBR.out.size
      have HAD := Lib.hid (add_any (B := mb) (HS.out.below hbx) (by omega) (Nat.le_refl _) (by omega) HGY.out nm (by have := HN1.out; omega) ca cn cc cd (HT2.out.mono hbx) (by have := HSL1.out; omega) (by omega) (by have := stN_le L nm k; omega))
      have hep : addP ⟨yw, yh, yd, yc, yl⟩ (stN L k).f (stN L k).p (stN L k).e nm cd = ePr ⟨yw, yh, yd, yc, yl⟩ L k := by unfold ePr; rw [HC1.out]
      have hst : stN L (k + 1) = ⟨bmp (stN L k).f nm, nm, entP (stN L k).e nm cd⟩ := by
        show St.mk _ _ _ = _
        rw [HC1.out]
      have HST := Lib.hid hst
      have hgo : goP ⟨yw, yh, yd, yc, yl⟩ L (len - 1 - k) k = if ePr ⟨yw, yh, yd, yc, yl⟩ L k ≠ 0 then (ePr ⟨yw, yh, yd, yc, yl⟩ L k, zero) else goP ⟨yw, yh, yd, yc, yl⟩ L (len - 1 - (k + 1)) (k + 1) := by
        rw [show len - 1 - k = len - 1 - (k + 1) + 1 by omega]; rfl
      have HGO := Lib.hid (HG.out.trans hgo)
      unfold AdPost at HAD
      rw [hep] at HAD
      have HBX := Lib.hid ((HBR.out.trans (hbx.mono (by have := HZL.out; omega))))
      have HZX := Lib.hid (HZR.out.below hbx)
      have HYX := Lib.hid (HYR.out.below hbx)
      have HBWX := Lib.hid (below_then HBW.out hbx)
      clear hep hst hgo hbx hbx2 t2 HG HT2 HS HZR HYR HBW HBR
      generalize ePr ⟨yw, yh, yd, yc, yl⟩ L k = er at *
      go_wp2_with fail
      refine HAD.out.mono ?_
      rintro e w8 ⟨rfl, hb8, hs8⟩
      have HB8 := Lib.hid (HBX.out.trans hb8)
      have HBW8 := Lib.hid (HBWX.out.trans (hb8.mono (Nat.le_of_lt hge.out.1)))
      have HZ8 : Hid (Bx w8 w.heap.size zero) := Lib.hid ((hb8.block w.heap.size hge.out.1).trans HZX.out)
      have HS8 := Lib.hid hs8
      clear hb8 hs8 HAD HBX HZX HYX HBWX t0 t1
      by_cases he : er = 0
      · rw [errV_zero he]
        have HS9 : Hid (Sq w8 (mb + 1) mb (k + 1) ⟨yw, yh, yd, yc, yl⟩ (stN L (k + 1)).f (stN L (k + 1)).p (stN L (k + 1)).e) := Lib.hid (by rw [HST.out]; exact HS8.out he)
        have HG9 : Hid (ord L = goP ⟨yw, yh, yd, yc, yl⟩ L (len - 1 - (k + 1)) (k + 1)) := Lib.hid (by rw [HGO.out, if_neg (fun h => h he)])
        clear he HS8 HGO
        go_wp2
        go_roundw
        case rel => exact ⟨k + 1, by omega, by go_num, HG9, HS9, HB8⟩
        case measure => simp [intOf]; omega
      · rw [errV_pos he]
        have HEV := Lib.hid (errV_pos he)
        have HO : Hid (ord L = (er, zero)) := Lib.hid (by rw [HGO.out, if_pos he])
        clear he HS8 HGO
        obtain ⟨z0, z1, z2, z3, z4⟩ := HZ8.out.cells
        have g0 := frozen_of_row w8 w.heap.size 0 _ _ HZ8.out
        have g1 := frozen_of_row w8 w.heap.size 1 _ _ HZ8.out
        have g2 := frozen_of_row w8 w.heap.size 2 _ _ HZ8.out
        have g3 := frozen_of_row w8 w.heap.size 3 _ _ HZ8.out
        have g4 := frozen_of_row w8 w.heap.size 4 _ _ HZ8.out
        have HSET := Lib.hid (fun x => bx_set HZ8.out x)
        have HBST := Lib.hid (fun a b c d e => below_set5 (Nat.le_refl _) HBW8.out a b c d e)
        simp only [zero] at z0 z1 z2 z3 z4
        go_wp2
        refine bodyPost_ret (res_hd2 _ rfl _ _ w.heap.size zero (.iface 49 (.int .i64 (er : Nat))) rfl rfl (HSET.out zero)) rfl (HOR.out _ _ _ HO.out (by rw [HEV.out]) (HBST.out _ _ _ _ _))
    · obtain rfl : k = len - 1 := by omega
      have hgo : goP ⟨yw, yh, yd, yc, yl⟩ L (len - 1 - (len - 1)) (len - 1) = if compP ⟨yw, yh, yd, yc, yl⟩ (stN L (len - 1)).f then (0, ⟨yw, yh, yd, yc, yl⟩) else (2, zero) := by
        rw [show len - 1 - (len - 1) = 0 by omega]; rfl
      have HGO := Lib.hid (HG.out.trans hgo)
      have HCM := Lib.hid (comp_any HS.out)
      clear hgo HG
      generalize compP ⟨yw, yh, yd, yc, yl⟩ (stN L (len - 1)).f = cp at *
      go_wp2_with fail
      refine HCM.out.mono ?_
      rintro e w8 ⟨rfl, hb8⟩
      have HBW8 := Lib.hid (below_then HBW.out hb8)
      have HZ8 := Lib.hid (HZR.out.below hb8)
      have HY8 := Lib.hid (HYR.out.below hb8)
      clear hb8 HCM HBW HZR HYR
      obtain ⟨z0, z1, z2, z3, z4⟩ := HZ8.out.cells
      have g0 := frozen_of_row w8 w.heap.size 0 _ _ HZ8.out
      have g1 := frozen_of_row w8 w.heap.size 1 _ _ HZ8.out
      have g2 := frozen_of_row w8 w.heap.size 2 _ _ HZ8.out
      have g3 := frozen_of_row w8 w.heap.size 3 _ _ HZ8.out
      have g4 := frozen_of_row w8 w.heap.size 4 _ _ HZ8.out
      obtain ⟨y0, y1, y2, y3, y4⟩ := HY8.out.cells
      have HSET := Lib.hid (fun x => bx_set HZ8.out x)
      have HBST := Lib.hid (fun a b c d e => below_set5 (Nat.le_refl _) HBW8.out a b c d e)
      simp only [zero] at z0 z1 z2 z3 z4
      simp only at y0 y1 y2 y3 y4
      cases cp with
      | false =>
        have HO9 : Hid (ord L = (2, zero)) := Lib.hid (by rw [HGO.out]; rfl)
        clear HGO
        go_wp2
        refine bodyPost_ret (res_hd2 _ rfl _ _ w.heap.size zero _ rfl rfl (HSET.out zero)) rfl (HOR.out _ _ _ HO9.out rfl (HBST.out _ _ _ _ _))
      | true =>
        have HO9 : Hid (ord L = (0, ⟨yw, yh, yd, yc, yl⟩)) := Lib.hid (by rw [HGO.out]; rfl)
        clear HGO
        go_wp2
        refine bodyPost_ret (res_hd2 _ rfl _ _ w.heap.size ⟨yw, yh, yd, yc, yl⟩ _ rfl rfl (HSET.out ⟨yw, yh, yd, yc, yl⟩)) rfl (HOR.out _ _ _ HO9.out rfl (HBST.out _ _ _ _ _))
end Hd
end Go.Proofs.Ytbgaaocgdjkkeaa
end
