/- block: how many bits a body has, and a block. block: size, Bits: their contracts. block.Best: its contract. block.Best's kind has the fewest bits, and is the least of these. -/
import Derived.Test.YtpoilaappcjbeaaGreatDoorZ10
import Derived.Test.YtpoilaappcjbeaaGreatDoorZ23
import Derived.Test.YtpoilaappcjbeaaGreatDoorZ43
import Derived.Test.YtpoilaappcjbeaaGreatDoorZ49
set_option linter.unusedSimpArgs false
set_option linter.unusedVariables false
section
namespace Go.Proofs.YtpoilaappcjbeaaGreatDoor
open Go.RowKit

namespace Bc
theorem LL_bd (kind : Nat) (ts : List Tok) (h : ts.length ≤ 1000000) (i : Nat) : 0 ≤ (LL kind ts).getD i 0 ∧ (LL kind ts).getD i 0 ≤ 16 := by
  unfold LL
  split
  · exact getD_bd (by omega) (fun i hi => by
      rw [cmpl_length] at hi
      have := (co_cts ts h).1.range i hi
      omega) i
  · exact getD_bd (by omega) (fun i hi => by have := litL_le i hi; omega) i
theorem DL_bd (kind : Nat) (ts : List Tok) (h : ts.length ≤ 1000000) (i : Nat) : 0 ≤ (DL kind ts).getD i 0 ∧ (DL kind ts).getD i 0 ≤ 16 := by
  unfold DL
  split
  · exact getD_bd (by omega) (fun i hi => by
      rw [Mg.lensOf_length] at hi
      have := (co_cts ts h).2.lens i hi
      omega) i
  · exact getD_bd (by omega) (fun i hi => by have := dstL_le i hi; omega) i
theorem hdLen_bd {h : Hd} (H : HdOk h) : 14 ≤ hdLen h ∧ hdLen h ≤ 71 + 19 * 30000000000 := by
  have h1 := tot_le .run H.hC H.hR 19
  have h2 := H.ho
  unfold hdLen
  omega
theorem bdLen_bd (kind : Nat) (ts : List Tok) (h : ts.length ≤ 1000000) : 0 ≤ bdLen kind ts ∧ bdLen kind ts ≤ 100000000000000 := by
  have h1 := tot_le .lit (C := (Pa.cts ts ts.length).1) (fun i => by have := (Pa.in_cts ts ts.length (Nat.le_refl _)).1.2 i; omega) (LL_bd kind ts h) 286
  have h2 := tot_le .dst (C := (Pa.cts ts ts.length).2) (fun i => by have := (Pa.in_cts ts ts.length (Nat.le_refl _)).2.2 i; omega) (DL_bd kind ts h) 30
  have h3 := hdLen_bd (hdT_ok ts h)
  unfold bdLen
  split <;> omega
set_option maxRecDepth 100000 in
set_option maxHeartbeats 2000000 in
theorem bodyBits_any (w : World) (B kind : Nat) (ts : List Tok) (v : Value) (H : BdIs w B kind ts v) (hk : kind = 1 ∨ kind = 2) (hlen : ts.length ≤ 1000000) :
    Calls Tryz.prog 64 #[v] w fun e w' => e = .returned (.int .i64 (bdLen kind ts)) ∧ Below w.heap.size w w' := by
  obtain ⟨hp, a1, c1, b1, m1, d1, g1, a2, c2, b2, m2, d2, g2, ta, tc, rfl, k2, k1, i1, j1, _, i2, j2, _, _⟩ := H
  obtain ⟨hd, hhd, hhl, hhu⟩ : ∃ hd : Int, hd = (if kind = 2 then hdLen (hdT ts) else 0) ∧ 0 ≤ hd ∧ hd ≤ 71 + 19 * 30000000000 := by
    have := hdLen_bd (hdT_ok ts hlen)
    exact ⟨_, rfl, by split <;> omega, by split <;> omega⟩
  have hph : (hp = .pointer none) ∨ ∃ hb, hp = .pointer (some ⟨hb, 0, none⟩) := by
    rcases hk with rfl | rfl
    · exact .inl (k1 rfl)
    · obtain ⟨hb, e, _⟩ := k2 rfl; exact .inr ⟨hb, e⟩
  have HBH : Hid (∀ w', Below w.heap.size w w' → Calls Tryz.prog 90 #[hp] w' fun e w'' => e = .returned (.int .i64 hd) ∧ Below w'.heap.size w' w'') := Lib.hid (fun w' hb => by
    rcases hk with rfl | rfl
    · have e := k1 rfl
      subst e
      rw [hhd]
      exact hbits_nil w'
    · obtain ⟨hb', rfl, hhI⟩ := k2 rfl
      rw [hhd, if_pos rfl]
      exact hbits_any w' B hb' (hdT ts) (hhI.mono hb) (hdT_ok ts hlen))
  have hm1 := (LL_length kind ts).1
  have hm2 := (DL_length kind ts).1
  have e1 := j1.hlen
  have e2 := j2.hlen
  have HC1 : ∀ i, 0 ≤ (Pa.cts ts ts.length).1.getD i 0 ∧ (Pa.cts ts ts.length).1.getD i 0 ≤ 1000000000 := fun i => by have := (Pa.in_cts ts ts.length (Nat.le_refl _)).1.2 i; omega
  have HC2 : ∀ i, 0 ≤ (Pa.cts ts ts.length).2.getD i 0 ∧ (Pa.cts ts ts.length).2.getD i 0 ≤ 1000000000 := fun i => by have := (Pa.in_cts ts ts.length (Nat.le_refl _)).2.2 i; omega
  have HB1 := Lib.hid (fun w' (hb : Below w.heap.size w w') => bits_any .lit a1 286 c1 _ b1 m1 d1 _ g1 w' (i1.mono hb) (j1.mono hb) (by omega) (by omega) HC1 (LL_bd kind ts hlen))
  have HB2 := Lib.hid (fun w' (hb : Below w.heap.size w w') => bits_any .dst a2 30 c2 _ b2 m2 d2 _ g2 w' (i2.mono hb) (j2.mono hb) (by omega) (by omega) HC2 (DL_bd kind ts hlen))
  have hT1 := tot_le .lit HC1 (LL_bd kind ts hlen) 286
  have hT2 := tot_le .dst HC2 (DL_bd kind ts hlen) 30
  have HE : Hid (bdLen kind ts = hd + tot .lit (Pa.cts ts ts.length).1 (LL kind ts) 286 + tot .dst (Pa.cts ts ts.length).2 (DL kind ts) 30) := Lib.hid (by rw [hhd]; rfl)
  unfold tbV fvK at HB1 HB2
  clear HC1 HC2 e1 e2 hm1 hm2 k1 k2 i1 i2 j1 j2 hk hlen hhd
  generalize tot .lit (Pa.cts ts ts.length).1 (LL kind ts) 286 = T1 at *
  generalize tot .dst (Pa.cts ts ts.length).2 (DL kind ts) 30 = T2 at *
  have v1 : IntKind.i64.wrap (hd + T1) = hd + T1 := IntWalk.i64_in _ ⟨by omega, by omega⟩
  have v2 : IntKind.i64.wrap (hd + T1 + T2) = hd + T1 + T2 := IntWalk.i64_in _ ⟨by omega, by omega⟩
  unfold bdC
  have hal := below_alloc w (.cells #[hp, .slice a1 286 c1, .slice b1 m1 d1, .pointer (some ⟨g1, 0, none⟩), .func (.func 77) #[] #[], .slice a2 30 c2, .slice b2 m2 d2, .pointer (some ⟨g2, 0, none⟩), .func (.func 78) #[] #[], .slice ta ts.length tc] 86)
  have hrow := heap_alloc_last w (.cells #[hp, .slice a1 286 c1, .slice b1 m1 d1, .pointer (some ⟨g1, 0, none⟩), .func (.func 77) #[] #[], .slice a2 30 c2, .slice b2 m2 d2, .pointer (some ⟨g2, 0, none⟩), .func (.func 78) #[] #[], .slice ta ts.length tc] 86)
  have c0 := cell_of_row _ _ 0 _ _ (0, 0) hrow
  have c1' := cell_of_row _ _ 1 _ _ (0, 0) hrow
  have c2' := cell_of_row _ _ 2 _ _ (0, 0) hrow
  have c3' := cell_of_row _ _ 3 _ _ (0, 0) hrow
  have c4' := cell_of_row _ _ 4 _ _ (0, 0) hrow
  have c5' := cell_of_row _ _ 5 _ _ (0, 0) hrow
  have c6' := cell_of_row _ _ 6 _ _ (0, 0) hrow
  have c7' := cell_of_row _ _ 7 _ _ (0, 0) hrow
  have c8' := cell_of_row _ _ 8 _ _ (0, 0) hrow
  simp only [List.getElem?_toArray, List.getElem?_cons_zero, List.getElem?_cons_succ] at c0 c1' c2' c3' c4' c5' c6' c7' c8'
  have HQ : Hid (w.heap.size < (w.alloc (.cells #[hp, .slice a1 286 c1, .slice b1 m1 d1, .pointer (some ⟨g1, 0, none⟩), .func (.func 77) #[] #[], .slice a2 30 c2, .slice b2 m2 d2, .pointer (some ⟨g2, 0, none⟩), .func (.func 78) #[] #[], .slice ta ts.length tc] 86)).heap.size) := Lib.hid (by simp)
  have HAL := Lib.hid hal
  clear hrow hal
  have HBD : Hid (Below w.heap.size w (w.alloc (.cells #[hp, .slice a1 286 c1, .slice b1 m1 d1, .pointer (some ⟨g1, 0, none⟩), .func (.func 77) #[] #[], .slice a2 30 c2, .slice b2 m2 d2, .pointer (some ⟨g2, 0, none⟩), .func (.func 78) #[] #[], .slice ta ts.length tc] 86)).drew) := Lib.hid (Below.drew HAL.out)
  clear HAL
  rcases hph with rfl | ⟨hb, rfl⟩
  · go_enter Tryz.func64, Tryz.ntmps64
    go_wp2_with fail
    revert c0 c1' c2' c3' c4' c5' c6' c7' c8' HQ HBD
    generalize (w.alloc (.cells #[.pointer none, .slice a1 286 c1, .slice b1 m1 d1, .pointer (some ⟨g1, 0, none⟩), .func (.func 77) #[] #[], .slice a2 30 c2, .slice b2 m2 d2, .pointer (some ⟨g2, 0, none⟩), .func (.func 78) #[] #[], .slice ta ts.length tc] 86)) = w1
    intro c0 c1' c2' c3' c4' c5' c6' c7' c8' HQ HBD
    have hq1 : w.heap.size < w1.heap.size := HQ.out
    go_region_held3 (fun w' => w'.cell? ⟨w.heap.size, 0, none⟩ = some (.pointer none) ∧ w'.cell? ⟨w.heap.size, 1, none⟩ = some (.slice a1 286 c1) ∧ w'.cell? ⟨w.heap.size, 2, none⟩ = some (.slice b1 m1 d1) ∧ w'.cell? ⟨w.heap.size, 3, none⟩ = some (.pointer (some ⟨g1, 0, none⟩)) ∧ w'.cell? ⟨w.heap.size, 4, none⟩ = some (.func (.func 77) #[] #[]) ∧ w'.cell? ⟨w.heap.size, 5, none⟩ = some (.slice a2 30 c2) ∧ w'.cell? ⟨w.heap.size, 6, none⟩ = some (.slice b2 m2 d2) ∧ w'.cell? ⟨w.heap.size, 7, none⟩ = some (.pointer (some ⟨g2, 0, none⟩)) ∧ w'.cell? ⟨w.heap.size, 8, none⟩ = some (.func (.func 78) #[] #[])) (go_keep)
      (first
        | (go_at_call 90; (with_reducible refine (HBH.out _ HBD.out).mono ?_); rintro e u1 ⟨rfl, hb1⟩; have HU1 := Lib.hid (below_then HBD.out hb1); have HQp := Lib.hid (show w.heap.size < w1.drew.heap.size from HQ.out); have HQ1 := Lib.hid (Nat.lt_of_lt_of_le HQp.out hb1.size); have p0 := (hb1.cell (p := ⟨w.heap.size, 0, none⟩) HQp.out).trans c0; have p1 := (hb1.cell (p := ⟨w.heap.size, 1, none⟩) HQp.out).trans c1'; have p2 := (hb1.cell (p := ⟨w.heap.size, 2, none⟩) HQp.out).trans c2'; have p3 := (hb1.cell (p := ⟨w.heap.size, 3, none⟩) HQp.out).trans c3'; have p4 := (hb1.cell (p := ⟨w.heap.size, 4, none⟩) HQp.out).trans c4'; have p5 := (hb1.cell (p := ⟨w.heap.size, 5, none⟩) HQp.out).trans c5'; have p6 := (hb1.cell (p := ⟨w.heap.size, 6, none⟩) HQp.out).trans c6'; have p7 := (hb1.cell (p := ⟨w.heap.size, 7, none⟩) HQp.out).trans c7'; have p8 := (hb1.cell (p := ⟨w.heap.size, 8, none⟩) HQp.out).trans c8'; clear hb1)
        | (go_at_call 91; (with_reducible refine (HB1.out _ HU1.out).mono ?_); rintro e u2 ⟨rfl, hb2⟩; have HU2 := Lib.hid (below_then HU1.out hb2); have HQr := Lib.hid HQ1.out; have HQ2 := Lib.hid (Nat.lt_of_lt_of_le HQ1.out hb2.size); have r0 := (hb2.cell (p := ⟨w.heap.size, 0, none⟩) HQr.out).trans p0; have r1 := (hb2.cell (p := ⟨w.heap.size, 1, none⟩) HQr.out).trans p1; have r2 := (hb2.cell (p := ⟨w.heap.size, 2, none⟩) HQr.out).trans p2; have r3 := (hb2.cell (p := ⟨w.heap.size, 3, none⟩) HQr.out).trans p3; have r4 := (hb2.cell (p := ⟨w.heap.size, 4, none⟩) HQr.out).trans p4; have r5 := (hb2.cell (p := ⟨w.heap.size, 5, none⟩) HQr.out).trans p5; have r6 := (hb2.cell (p := ⟨w.heap.size, 6, none⟩) HQr.out).trans p6; have r7 := (hb2.cell (p := ⟨w.heap.size, 7, none⟩) HQr.out).trans p7; have r8 := (hb2.cell (p := ⟨w.heap.size, 8, none⟩) HQr.out).trans p8; clear hb2)
        | (go_at_call 91; (with_reducible refine (HB2.out _ HU2.out).mono ?_); rintro e u3 ⟨rfl, hb3⟩; have HU3 := Lib.hid (below_then HU2.out hb3); have HQt := Lib.hid HQ2.out; have t0 := (hb3.cell (p := ⟨w.heap.size, 0, none⟩) HQt.out).trans r0; have t1 := (hb3.cell (p := ⟨w.heap.size, 1, none⟩) HQt.out).trans r1; have t2 := (hb3.cell (p := ⟨w.heap.size, 2, none⟩) HQt.out).trans r2; have t3 := (hb3.cell (p := ⟨w.heap.size, 3, none⟩) HQt.out).trans r3; have t4 := (hb3.cell (p := ⟨w.heap.size, 4, none⟩) HQt.out).trans r4; have t5 := (hb3.cell (p := ⟨w.heap.size, 5, none⟩) HQt.out).trans r5; have t6 := (hb3.cell (p := ⟨w.heap.size, 6, none⟩) HQt.out).trans r6; have t7 := (hb3.cell (p := ⟨w.heap.size, 7, none⟩) HQt.out).trans r7; have t8 := (hb3.cell (p := ⟨w.heap.size, 8, none⟩) HQt.out).trans r8; clear hb3))
    have HF := Lib.hid HU3.out
    clear v1 HBH HB1 HB2 HU1 HU2 HU3
    go_wp2
    go_ret
    exact ⟨by rw [HE.out]; rfl, HF.out⟩
  · go_enter Tryz.func64, Tryz.ntmps64
    go_wp2_with fail
    revert c0 c1' c2' c3' c4' c5' c6' c7' c8' HQ HBD
    generalize (w.alloc (.cells #[.pointer (some ⟨hb, 0, none⟩), .slice a1 286 c1, .slice b1 m1 d1, .pointer (some ⟨g1, 0, none⟩), .func (.func 77) #[] #[], .slice a2 30 c2, .slice b2 m2 d2, .pointer (some ⟨g2, 0, none⟩), .func (.func 78) #[] #[], .slice ta ts.length tc] 86)) = w1
    intro c0 c1' c2' c3' c4' c5' c6' c7' c8' HQ HBD
    have hq1 : w.heap.size < w1.heap.size := HQ.out
    go_region_held3 (fun w' => w'.cell? ⟨w.heap.size, 0, none⟩ = some (.pointer (some ⟨hb, 0, none⟩)) ∧ w'.cell? ⟨w.heap.size, 1, none⟩ = some (.slice a1 286 c1) ∧ w'.cell? ⟨w.heap.size, 2, none⟩ = some (.slice b1 m1 d1) ∧ w'.cell? ⟨w.heap.size, 3, none⟩ = some (.pointer (some ⟨g1, 0, none⟩)) ∧ w'.cell? ⟨w.heap.size, 4, none⟩ = some (.func (.func 77) #[] #[]) ∧ w'.cell? ⟨w.heap.size, 5, none⟩ = some (.slice a2 30 c2) ∧ w'.cell? ⟨w.heap.size, 6, none⟩ = some (.slice b2 m2 d2) ∧ w'.cell? ⟨w.heap.size, 7, none⟩ = some (.pointer (some ⟨g2, 0, none⟩)) ∧ w'.cell? ⟨w.heap.size, 8, none⟩ = some (.func (.func 78) #[] #[])) (go_keep)
      (first
        | (go_at_call 90; (with_reducible refine (HBH.out _ HBD.out).mono ?_); rintro e u1 ⟨rfl, hb1⟩; have HU1 := Lib.hid (below_then HBD.out hb1); have HQp := Lib.hid (show w.heap.size < w1.drew.heap.size from HQ.out); have HQ1 := Lib.hid (Nat.lt_of_lt_of_le HQp.out hb1.size); have p0 := (hb1.cell (p := ⟨w.heap.size, 0, none⟩) HQp.out).trans c0; have p1 := (hb1.cell (p := ⟨w.heap.size, 1, none⟩) HQp.out).trans c1'; have p2 := (hb1.cell (p := ⟨w.heap.size, 2, none⟩) HQp.out).trans c2'; have p3 := (hb1.cell (p := ⟨w.heap.size, 3, none⟩) HQp.out).trans c3'; have p4 := (hb1.cell (p := ⟨w.heap.size, 4, none⟩) HQp.out).trans c4'; have p5 := (hb1.cell (p := ⟨w.heap.size, 5, none⟩) HQp.out).trans c5'; have p6 := (hb1.cell (p := ⟨w.heap.size, 6, none⟩) HQp.out).trans c6'; have p7 := (hb1.cell (p := ⟨w.heap.size, 7, none⟩) HQp.out).trans c7'; have p8 := (hb1.cell (p := ⟨w.heap.size, 8, none⟩) HQp.out).trans c8'; clear hb1)
        | (go_at_call 91; (with_reducible refine (HB1.out _ HU1.out).mono ?_); rintro e u2 ⟨rfl, hb2⟩; have HU2 := Lib.hid (below_then HU1.out hb2); have HQr := Lib.hid HQ1.out; have HQ2 := Lib.hid (Nat.lt_of_lt_of_le HQ1.out hb2.size); have r0 := (hb2.cell (p := ⟨w.heap.size, 0, none⟩) HQr.out).trans p0; have r1 := (hb2.cell (p := ⟨w.heap.size, 1, none⟩) HQr.out).trans p1; have r2 := (hb2.cell (p := ⟨w.heap.size, 2, none⟩) HQr.out).trans p2; have r3 := (hb2.cell (p := ⟨w.heap.size, 3, none⟩) HQr.out).trans p3; have r4 := (hb2.cell (p := ⟨w.heap.size, 4, none⟩) HQr.out).trans p4; have r5 := (hb2.cell (p := ⟨w.heap.size, 5, none⟩) HQr.out).trans p5; have r6 := (hb2.cell (p := ⟨w.heap.size, 6, none⟩) HQr.out).trans p6; have r7 := (hb2.cell (p := ⟨w.heap.size, 7, none⟩) HQr.out).trans p7; have r8 := (hb2.cell (p := ⟨w.heap.size, 8, none⟩) HQr.out).trans p8; clear hb2)
        | (go_at_call 91; (with_reducible refine (HB2.out _ HU2.out).mono ?_); rintro e u3 ⟨rfl, hb3⟩; have HU3 := Lib.hid (below_then HU2.out hb3); have HQt := Lib.hid HQ2.out; have t0 := (hb3.cell (p := ⟨w.heap.size, 0, none⟩) HQt.out).trans r0; have t1 := (hb3.cell (p := ⟨w.heap.size, 1, none⟩) HQt.out).trans r1; have t2 := (hb3.cell (p := ⟨w.heap.size, 2, none⟩) HQt.out).trans r2; have t3 := (hb3.cell (p := ⟨w.heap.size, 3, none⟩) HQt.out).trans r3; have t4 := (hb3.cell (p := ⟨w.heap.size, 4, none⟩) HQt.out).trans r4; have t5 := (hb3.cell (p := ⟨w.heap.size, 5, none⟩) HQt.out).trans r5; have t6 := (hb3.cell (p := ⟨w.heap.size, 6, none⟩) HQt.out).trans r6; have t7 := (hb3.cell (p := ⟨w.heap.size, 7, none⟩) HQt.out).trans r7; have t8 := (hb3.cell (p := ⟨w.heap.size, 8, none⟩) HQt.out).trans r8; clear hb3))
    have HF := Lib.hid HU3.out
    clear v1 HBH HB1 HB2 HU1 HU2 HU3
    go_wp2
    go_ret
    exact ⟨by rw [HE.out]; rfl, HF.out⟩
end Bc
end Go.Proofs.YtpoilaappcjbeaaGreatDoor
end

section
namespace Go.Proofs.YtpoilaappcjbeaaGreatDoor
open Go.RowKit

namespace Bc
set_option maxRecDepth 100000 in
set_option maxHeartbeats 2000000 in
theorem size_0 (a : Option Addr) (len cap : Nat) (xa : Option Addr) (xn xc : Nat) (ts : List Tok) (w : World) (hx : xn ≤ 281474976710656) :
    Calls Tryz.prog 38 #[.agg #[.int .i64 0, .slice a len cap, .slice xa xn xc]] w fun e w' => e = .returned (.tuple #[.int .i64 (szB 0 ts xn), .nilIface]) ∧ Below w.heap.size w w' := by
  have HB := Lib.hid (below_alloc w (.cells #[.int .i64 0, .slice a len cap, .slice xa xn xc] 36))
  have hrow := heap_alloc_last w (.cells #[.int .i64 0, .slice a len cap, .slice xa xn xc] 36)
  have c0 := cell_of_row _ _ 0 _ _ (0, 0) hrow
  have c2 := cell_of_row _ _ 2 _ _ (0, 0) hrow
  simp only [List.getElem?_toArray, List.getElem?_cons_zero, List.getElem?_cons_succ] at c0 c2
  have HE : Hid (szB 0 ts xn = 42 + 8 * (xn : Int)) := Lib.hid rfl
  clear hrow
  go_enter Tryz.func38, Tryz.ntmps38
  go_wp2
  go_ret2
  exact ⟨by rw [HE.out]; rfl, HB.out⟩
set_option maxRecDepth 100000 in
set_option maxHeartbeats 2000000 in
theorem size_12 (kind : Nat) (hk : kind = 1 ∨ kind = 2) (a : Option Addr) (len cap : Nat) (xa : Option Addr) (xn xc : Nat) (ts : List Tok) (w : World) (h : Ts2 w a len cap ts) (hlen : len ≤ 1000000) (hoo : Oo w) (hz : 0 < w.heap.size) :
    Calls Tryz.prog 38 #[.agg #[.int .i64 (kind : Nat), .slice a len cap, .slice xa xn xc]] w fun e w' => e = .returned (.tuple #[.int .i64 (szB kind ts xn), .nilIface]) ∧ Below w.heap.size w w' := by
  have hl := h.hlen
  subst hl
  have hal := below_alloc w (.cells #[.int .i64 (kind : Nat), .slice a ts.length cap, .slice xa xn xc] 36)
  have HNB : Hid (Calls Tryz.prog 36 #[.agg #[.int .i64 (kind : Nat), .slice a ts.length cap, .slice xa xn xc]] (w.alloc (.cells #[.int .i64 (kind : Nat), .slice a ts.length cap, .slice xa xn xc] 36)) (BodyPost (w.alloc (.cells #[.int .i64 (kind : Nat), .slice a ts.length cap, .slice xa xn xc] 36)) kind ts (.slice a ts.length cap))) := Lib.hid (by
    have hz2 : 0 < (w.alloc (.cells #[.int .i64 (kind : Nat), .slice a ts.length cap, .slice xa xn xc] 36)).heap.size := Nat.lt_of_lt_of_le hz hal.size
    rcases hk with rfl | rfl
    · exact newBody_1 a ts.length cap ts xa xn xc _ (h.mono hal) hlen (hoo.mono hz hal) hz2
    · exact newBody_2 a ts.length cap ts xa xn xc _ (h.mono hal) hlen (hoo.mono hz hal) hz2)
  have HB := Lib.hid hal
  have hrow := heap_alloc_last w (.cells #[.int .i64 (kind : Nat), .slice a ts.length cap, .slice xa xn xc] 36)
  have c0 := cell_of_row _ _ 0 _ _ (0, 0) hrow
  have c1 := cell_of_row _ _ 1 _ _ (0, 0) hrow
  have c2 := cell_of_row _ _ 2 _ _ (0, 0) hrow
  simp only [List.getElem?_toArray, List.getElem?_cons_zero, List.getElem?_cons_succ] at c0 c1 c2
  have hbd := bdLen_bd kind ts hlen
  have HE : Hid (szB kind ts xn = 3 + bdLen kind ts) := Lib.hid (by unfold szB; rw [if_neg (by omega)])
  have HK := Lib.hid hk
  have HLN := Lib.hid hlen
  have dk : ((kind : Int) == 0) = false := by simp; omega
  clear hrow hal h hoo hz hk hlen
  go_enter Tryz.func38, Tryz.ntmps38
  go_wp2_with fail
  refine HNB.out.mono ?_
  rintro e w2 ⟨v, rfl, hbi, hb2, _⟩
  obtain ⟨hp, a1, c1', b1, m1, d1, g1, a2, c2', b2, m2, d2, g2, ta, tc, rfl, hr⟩ := id hbi
  obtain ⟨pp, rfl⟩ : ∃ pp, hp = .pointer pp := by
    rcases HK.out with h | h
    · exact ⟨none, hr.2.1 h⟩
    · obtain ⟨x, e, _⟩ := hr.1 h; exact ⟨_, e⟩
  have HB2 := Lib.hid (below_then HB.out hb2)
  have hal2 := below_alloc w2 (.cells (bdC (.pointer pp) a1 c1' b1 m1 d1 g1 a2 c2' b2 m2 d2 g2 ta ts.length tc) 86)
  have hbi2 : BdIs (w2.alloc (.cells (bdC (.pointer pp) a1 c1' b1 m1 d1 g1 a2 c2' b2 m2 d2 g2 ta ts.length tc) 86)) 0 kind ts (.agg (bdC (.pointer pp) a1 c1' b1 m1 d1 g1 a2 c2' b2 m2 d2 g2 ta ts.length tc)) := by
    obtain ⟨r1, r2, r3, r4, r5, r6, r7, r8, r9⟩ := hr
    exact ⟨.pointer pp, a1, c1', b1, m1, d1, g1, a2, c2', b2, m2, d2, g2, ta, tc, rfl, fun h => by obtain ⟨x, e, hx⟩ := r1 h; exact ⟨x, e, (hx.mono hal2).wide (Nat.zero_le _)⟩, r2, r3.mono hal2, r4.mono hal2, (r5.mono hal2).wide (fun _ _ => Nat.zero_le _), r6.mono hal2, r7.mono hal2, (r8.mono hal2).wide (fun _ _ => Nat.zero_le _), r9.mono hal2⟩
  have HBB := Lib.hid (bodyBits_any _ 0 kind ts _ hbi2 HK.out HLN.out)
  have hrow2 := heap_alloc_last w2 (.cells (bdC (.pointer pp) a1 c1' b1 m1 d1 g1 a2 c2' b2 m2 d2 g2 ta ts.length tc) 86)
  have HAL2 := Lib.hid hal2
  clear hbi hr hbi2 hb2 hal2 hrow2 HNB HB c0 c1 c2
  unfold bdC at HBB HAL2 ⊢
  go_wp2_with fail
  refine HBB.out.mono ?_
  rintro e w3 ⟨rfl, hb3⟩
  have HB3 := Lib.hid (below_then (below_then HB2.out HAL2.out) hb3)
  clear hb3 HBB HAL2 HB2
  generalize bdLen kind ts = x at *
  go_wp2
  go_ret2
  exact ⟨by rw [HE.out]; rfl, HB3.out⟩
/-- What a block's bits are told as. -/
def sizeOk (kind : Int) (ts : List Tok) (tx : List UInt8) : Value := if vB kind ts tx then .tuple #[.int .i64 (szB kind.toNat ts tx.length), .nilIface] else .tuple #[.int .i64 0, .iface 51 (.int .i64 6)]
set_option maxRecDepth 100000 in
theorem size_any (kind : Nat) (hk : kind ≤ 2) (a : Option Addr) (len cap : Nat) (xa : Option Addr) (xn xc : Nat) (ts : List Tok) (w : World) (h : Ts2 w a len cap ts) (hlen : len ≤ 1000000) (hx : xn ≤ 281474976710656) (hoo : Oo w) (hz : 0 < w.heap.size) :
    Calls Tryz.prog 38 #[.agg #[.int .i64 (kind : Nat), .slice a len cap, .slice xa xn xc]] w fun e w' => e = .returned (.tuple #[.int .i64 (szB kind ts xn), .nilIface]) ∧ Below w.heap.size w w' := by
  by_cases h0 : kind = 0
  · subst h0
    exact size_0 a len cap xa xn xc ts w hx
  · exact size_12 kind (by omega) a len cap xa xn xc ts w h hlen hoo hz
set_option maxRecDepth 100000 in
set_option maxHeartbeats 1000000 in
theorem bits_call (kind : Int) (a : Option Addr) (len cap : Nat) (ts : List Tok) (xa : Option Addr) (xn xc : Nat) (tx : List UInt8) (w : World) (h : Ts2 w a len cap ts) (hb : Bs w xa xn xc tx) (hlen : len ≤ 1000000) (hoo : Oo w) (hz : 0 < w.heap.size) :
    Calls Tryz.prog 14 #[.agg #[.int .i64 kind, .slice a len cap, .slice xa xn xc]] w fun e w' => e = .returned (sizeOk kind ts tx) ∧ Below w.heap.size w w' := by
  have hal := below_alloc w (.cells #[.int .i64 kind, .slice a len cap, .slice xa xn xc] 36)
  have hrow := heap_alloc_last w (.cells #[.int .i64 kind, .slice a len cap, .slice xa xn xc] 36)
  have c0 := cell_of_row _ _ 0 _ _ (0, 0) hrow
  have c1 := cell_of_row _ _ 1 _ _ (0, 0) hrow
  have c2 := cell_of_row _ _ 2 _ _ (0, 0) hrow
  simp only [List.getElem?_toArray, List.getElem?_cons_zero, List.getElem?_cons_succ] at c0 c1 c2
  have HV := Lib.hid (isValid_any kind a len cap ts xa xn xc tx _ (h.mono hal) (hb.mono hal) (by omega))
  have hxl := hb.hlen
  have hxc := hb.hcap
  have HSZ := Lib.hid (fun (k : Nat) (hk : k ≤ 2) w' (hb : Below w.heap.size w w') => size_any k hk a len cap xa xn xc ts w' (h.mono hb) hlen hxc (hoo.mono hz hb) (Nat.lt_of_lt_of_le hz hb.size))
  have HAL := Lib.hid hal
  have HXL := Lib.hid hxl
  have HRW := Lib.hid hrow
  clear hrow hal h hb hoo hz hxl
  go_enter Tryz.func14, Tryz.ntmps14
  go_wp2_with fail
  refine HV.out.mono ?_
  rintro e w1 ⟨rfl, hb1⟩
  have HB1 := Lib.hid (below_then HAL.out hb1)
  have hr1 := (hb1.block w.heap.size (by simp)).trans HRW.out
  have r0 := cell_of_row _ _ 0 _ _ (0, 0) hr1
  have r1 := cell_of_row _ _ 1 _ _ (0, 0) hr1
  have r2 := cell_of_row _ _ 2 _ _ (0, 0) hr1
  simp only [List.getElem?_toArray, List.getElem?_cons_zero, List.getElem?_cons_succ] at r0 r1 r2
  clear hb1 hr1 HRW HAL c0 c1 c2 HV
  cases hv : vB kind ts tx
  · have HE : Hid (sizeOk kind ts tx = .tuple #[.int .i64 0, .iface 51 (.int .i64 6)]) := Lib.hid (by unfold sizeOk; rw [hv]; rfl)
    clear hv HSZ
    go_wp2
    go_ret2
    exact ⟨by rw [HE.out]; rfl, HB1.out⟩
  · have HE : Hid (sizeOk kind ts tx = .tuple #[.int .i64 (szB kind.toNat ts tx.length), .nilIface]) := Lib.hid (by unfold sizeOk; rw [hv]; rfl)
    have hk : 0 ≤ kind ∧ kind ≤ 2 := by
      unfold vB at hv
      rw [Bool.and_eq_true, Bool.or_eq_true, decide_eq_true_eq, decide_eq_true_eq] at hv
      omega
    obtain ⟨k, rfl⟩ := Int.eq_ofNat_of_zero_le hk.1
    rw [Int.toNat_natCast] at HE
    have HS := Lib.hid (HSZ.out k (by omega) w1 HB1.out)
    clear hv HSZ hk
    rw [HXL.out] at HE
    go_wp2_with fail
    refine HS.out.mono ?_
    rintro e w2 ⟨rfl, hb2⟩
    have HB2 := Lib.hid (below_then HB1.out hb2)
    clear hb2 HS HB1
    generalize szB k ts xn = z at *
    go_wp2
    go_ret2
    exact ⟨by rw [HE.out]; rfl, HB2.out⟩
end Bc
end Go.Proofs.YtpoilaappcjbeaaGreatDoor
end

section
namespace Go.Proofs.YtpoilaappcjbeaaGreatDoor
open Go.RowKit

namespace Bc
/-- The best of the first k kinds, and its bits. -/
def bst (ts : List Tok) (n : Nat) : Nat → Nat × Int
  | 0 => (1, 9223372036854775807)
  | k + 1 => if k = 0 ∧ 65535 < n then bst ts n k else if szB k ts n < (bst ts n k).2 then (k, szB k ts n) else bst ts n k
theorem bst_next (ts : List Tok) (n k : Nat) : bst ts n (k + 1) = if k = 0 ∧ 65535 < n then bst ts n k else if szB k ts n < (bst ts n k).2 then (k, szB k ts n) else bst ts n k := rfl
theorem bst_le (ts : List Tok) (n : Nat) : ∀ k, k ≤ 3 → (bst ts n k).1 ≤ 2
  | 0, _ => by simp [bst]
  | k + 1, h => by
    have ih := bst_le ts n k (by omega)
    rw [bst_next]
    split
    · exact ih
    · split
      · simp only; omega
      · exact ih
theorem szB_bd (k : Nat) (ts : List Tok) (n : Nat) (h : ts.length ≤ 1000000) (hn : n ≤ 281474976710656) : 3 ≤ szB k ts n ∧ szB k ts n ≤ 3000000000000000 := by
  have := bdLen_bd k ts h
  unfold szB
  split <;> omega
theorem bst_bd (ts : List Tok) (n : Nat) (h : ts.length ≤ 1000000) (hn : n ≤ 281474976710656) : ∀ k, 0 ≤ (bst ts n k).2 ∧ (bst ts n k).2 ≤ 9223372036854775807
  | 0 => by simp [bst]
  | k + 1 => by
    have ih := bst_bd ts n h hn k
    have := szB_bd k ts n h hn
    rw [bst_next]
    split
    · exact ih
    · split
      · simp only; omega
      · exact ih
theorem set3_row {w : World} {q : Nat} {y0 y1 y2 : Value} {t : TypeId} (h : w.heap[q]? = some (.cells #[y0, y1, y2] t (0, 0))) (x0 x1 x2 : Value) : (((w.setCell ⟨q, 0, none⟩ x0).setCell ⟨q, 1, none⟩ x1).setCell ⟨q, 2, none⟩ x2).heap[q]? = some (.cells #[x0, x1, x2] t (0, 0)) :=
  heap_setCell_same _ q 2 _ _ x2 (heap_setCell_same _ q 1 _ _ x1 (heap_setCell_same w q 0 _ _ x0 h))
theorem set3_ch (w : World) (q : Nat) (x0 x1 x2 : Value) : Ch w (((w.setCell ⟨q, 0, none⟩ x0).setCell ⟨q, 1, none⟩ x1).setCell ⟨q, 2, none⟩ x2) (fun k => k = q) :=
  (((Ch.refl w (fun k => k = q)).set (p := ⟨q, 0, none⟩) (.inl rfl) x0).set (p := ⟨q, 1, none⟩) (.inl rfl) x1).set (p := ⟨q, 2, none⟩) (.inl rfl) x2
theorem best_results (tmps : Array Value) (W : World) (cb : Nat) (cs : Array Value) (u : Value) (h2 : tmps.getD 4 undef = .pointer (some ⟨cb, 0, none⟩)) (h3 : tmps.getD 5 undef = u) (hrow : W.heap[cb]? = some (.cells cs 36 (0, 0))) (hs : cs.size = 3) :
    (results Tryz.f20 tmps).run Tryz.prog W = .ok (.tuple #[.agg cs, u]) W := by
  refine (results_cell_tmp (p := 4) (u := 5) (ty := 36) (by kernel_rfl) tmps Tryz.prog W).trans ?_
  rw [h2, h3]
  have hl := run_loadVar_row (P := Tryz.prog) W cb 36 36 cs (0, 0) _ hrow Tryz.underlying36 rfl (by rw [hs]; kernel_rfl)
  simp [asAddr, hl, Result.andThen]
theorem _root_.Go.Proofs.YtpoilaappcjbeaaGreatDoor.Bs.keptB {w w' : World} {T : Nat → Prop} {a : Option Addr} {len cap : Nat} {l : List UInt8} (h : Bs w a len cap l) (c : Ch w w' T) (hn : ∀ ad, a = some ad → ¬ T ad.block) : Bs w' a len cap l :=
  ⟨h.hlen, h.hle, h.hcap, h.hmax, h.hnil, fun i hi => by
    obtain ⟨b, off, e, hlt, hc⟩ := h.at' i hi
    exact ⟨b, off, e, Nat.lt_of_lt_of_le hlt c.size, by rw [World.cell?_of_block (w := w) (c.block b hlt (hn _ e))]; exact hc⟩⟩
def BestPost (w : World) (ts : List Tok) (tx : List UInt8) (e : Ending) (w' : World) : Prop :=
  Below w.heap.size w w' ∧
  ((fit tx ts 0 = false ∧ e = .returned (.tuple #[.agg #[.int .i64 0, .slice none 0 0, .slice none 0 0], .iface 51 (.int .i64 6)])) ∨
   (fit tx ts 0 = true ∧ ∃ ta tc xa xc, e = .returned (.tuple #[.agg #[.int .i64 ((bst ts tx.length 3).1 : Nat), .slice ta ts.length tc, .slice xa tx.length xc], .nilIface]) ∧ Ts2 w' ta ts.length tc ts ∧ Bs w' xa tx.length xc tx))
set_option maxRecDepth 100000 in
set_option maxHeartbeats 800000 in
theorem best_call (a : Option Addr) (len cap : Nat) (ts : List Tok) (xa : Option Addr) (xn xc : Nat) (tx : List UInt8) (w : World) (h : Ts2 w a len cap ts) (hb : Bs w xa xn xc tx) (hlen : len ≤ 1000000) (hx47 : xn ≤ 140737488355328) (hoo : Oo w) (hz : 0 < w.heap.size) :
    Calls Tryz.prog 20 #[.slice a len cap, .slice xa xn xc] w (BestPost w ts tx) := by
  have hl := h.hlen
  have hxl := hb.hlen
  subst hl
  subst hxl
  have hal := below_alloc w (.cells #[.int .i64 0, .slice none 0 0, .slice none 0 0] 36)
  have HV := Lib.hid (isValid_any 1 a ts.length cap ts xa tx.length xc tx _ (h.mono hal) (hb.mono hal) (by omega))
  have HSZ := Lib.hid (fun (k : Nat) (hk : k ≤ 2) w' (hb' : Below w.heap.size w w') => size_any k hk a ts.length cap xa tx.length xc ts w' (h.mono hb') hlen (by omega) (hoo.mono hz hb') (Nat.lt_of_lt_of_le hz hb'.size))
  have HCT := Lib.hid (fun w' (hb' : Below w.heap.size w w') => tclone_any a ts.length cap ts w' (h.mono hb') (by omega))
  have HCX := Lib.hid (fun w' (hb' : Below w.heap.size w w') => clone_any xa tx.length xc tx w' (hb.mono hb') hx47)
  have HTW := Lib.hid h.wf
  have HAL := Lib.hid hal
  have HRW := Lib.hid (heap_alloc_last w (.cells #[.int .i64 0, .slice none 0 0, .slice none 0 0] 36))
  have HBD := Lib.hid (And.intro (fun k => szB_bd k ts tx.length hlen (by omega)) (bst_bd ts tx.length hlen (by omega)))
  have HLE := Lib.hid (bst_le ts tx.length)
  have HVB : Hid (vB 1 ts tx = fit tx ts 0) := Lib.hid (by unfold vB; simp)
  clear h hb hoo hz hal hlen
  go_enter Tryz.func20, Tryz.ntmps20
  go_wp2_with fail
  refine HV.out.mono ?_
  rintro e w1 ⟨rfl, hb1⟩
  rw [HVB.out]
  have HB1 := Lib.hid (below_then HAL.out hb1)
  have HQ : Hid (w.heap.size < w1.heap.size) := Lib.hid (by have := hb1.size; simp at this; omega)
  have HR1 := Lib.hid ((hb1.block w.heap.size (by simp)).trans HRW.out)
  clear hb1 HV HVB HRW HAL
  cases hf : fit tx ts 0
  · have HF := Lib.hid hf
    clear hf HSZ HCT HCX HTW
    have c0 := cell_of_row _ _ 0 _ _ (0, 0) HR1.out
    have c1 := cell_of_row _ _ 1 _ _ (0, 0) HR1.out
    have c2 := cell_of_row _ _ 2 _ _ (0, 0) HR1.out
    have f0 := frozen_of_row _ _ 0 _ _ HR1.out
    have f1 := frozen_of_row _ _ 1 _ _ HR1.out
    have f2 := frozen_of_row _ _ 2 _ _ HR1.out
    simp only [List.getElem?_toArray, List.getElem?_cons_zero, List.getElem?_cons_succ] at c0 c1 c2
    have HRF := Lib.hid (set3_row HR1.out (.int .i64 0) (.slice none 0 0) (.slice none 0 0))
    have HP : Hid (BestPost w ts tx (.returned (.tuple #[.agg #[.int .i64 0, .slice none 0 0, .slice none 0 0], .iface 51 (.int .i64 6)])) (((w1.setCell ⟨w.heap.size, 0, none⟩ (.int .i64 0)).setCell ⟨w.heap.size, 1, none⟩ (.slice none 0 0)).setCell ⟨w.heap.size, 2, none⟩ (.slice none 0 0))) := Lib.hid ⟨HB1.out.trans ((set3_ch w1 w.heap.size _ _ _).below HB1.out.size (fun j e => by omega)), .inl ⟨HF.out, rfl⟩⟩
    go_wp2
    exact bodyPost_ret (best_results _ _ _ _ _ rfl rfl HRF.out rfl) rfl HP.out
  · have HF := Lib.hid hf
    clear hf
    go_wp2_with fail
    go_loopw [6, 7, 18] (fun bv lv iv wr => ∃ k : Nat, k ≤ 3 ∧ iv = .int .i64 k ∧ bv = .int .i64 ((bst ts tx.length k).1 : Nat) ∧ lv = .int .i64 (bst ts tx.length k).2 ∧ Hid (Below w1.heap.size w1 wr)) (fun _ _ iv _ => 3 - (intOf iv).toNat)
    case atStart => exact ⟨0, by omega, rfl, rfl, rfl, Lib.hid (Below.refl _ _)⟩
    case round =>
      obtain ⟨k, hk, rfl, rfl, rfl, HB⟩ := hrel
      by_cases hlt : k < 3
      · have dk : decide ((k : Int) < 3) = true := decide_eq_true (by omega)
        have HN := Lib.hid (bst_next ts tx.length k)
        have hbd := HBD.out.1 k
        have hbb := HBD.out.2 k
        have HS := Lib.hid (HSZ.out k (by omega) wr (below_then HB1.out HB.out))
        by_cases hskip : k = 0 ∧ 65535 < tx.length
        · obtain ⟨rfl, hbig⟩ := hskip
          have HN2 : Hid (bst ts tx.length (0 + 1) = bst ts tx.length 0) := Lib.hid (by rw [HN.out, if_pos ⟨rfl, hbig⟩])
          have db : decide ((65535 : Int) < (tx.length : Int)) = true := decide_eq_true (by omega)
          clear HN HS hbd hbb hbig
          go_wp2
          go_roundw
          case rel => exact ⟨0 + 1, by omega, by go_num, by rw [HN2.out], by rw [HN2.out], HB⟩
          case measure => simp [intOf]
        · have HN2 : Hid (bst ts tx.length (k + 1) = if szB k ts tx.length < (bst ts tx.length k).2 then (k, szB k ts tx.length) else bst ts tx.length k) := Lib.hid (by rw [HN.out, if_neg hskip])
          clear HN
          by_cases hk0 : k = 0
          · have db : decide ((65535 : Int) < (tx.length : Int)) = false := decide_eq_false (by omega)
            have dk0 : ((k : Int) == 0) = true := by simp; omega
            clear hskip hk0
            go_wp2_with fail
            refine HS.out.mono ?_
            rintro e w5 ⟨rfl, hb5⟩
            have HB5 := Lib.hid (below_then HB.out hb5)
            clear hb5 HS HB
            generalize hpe : bst ts tx.length k = p at *
            have HPE := Lib.hid hpe
            clear hpe
            obtain ⟨pb, pl⟩ := p
            simp only at hbb HN2
            generalize szB k ts tx.length = z at *
            by_cases hlz : z < pl
            · have dz : decide (z < pl) = true := decide_eq_true hlz
              have HN3 : Hid (bst ts tx.length (k + 1) = (k, z)) := Lib.hid (by rw [HN2.out, if_pos hlz])
              clear HN2 hlz
              go_wp2
              go_roundw
              case rel => exact ⟨k + 1, by omega, by go_num, by rw [HN3.out], by rw [HN3.out], HB5⟩
              case measure => simp [intOf]; omega
            · have dz : decide (z < pl) = false := decide_eq_false hlz
              have HN3 : Hid (bst ts tx.length (k + 1) = (pb, pl)) := Lib.hid (by rw [HN2.out, if_neg hlz])
              clear HN2 hlz
              go_wp2
              go_roundw
              case rel => exact ⟨k + 1, by omega, by go_num, by rw [HN3.out], by rw [HN3.out], HB5⟩
              case measure => simp [intOf]; omega
          · have dk0 : ((k : Int) == 0) = false := by simp; omega
            clear hskip hk0
            go_wp2_with fail
            refine HS.out.mono ?_
            rintro e w5 ⟨rfl, hb5⟩
            have HB5 := Lib.hid (below_then HB.out hb5)
            clear hb5 HS HB
            generalize hpe : bst ts tx.length k = p at *
            have HPE := Lib.hid hpe
            clear hpe
            obtain ⟨pb, pl⟩ := p
            simp only at hbb HN2
            generalize szB k ts tx.length = z at *
            by_cases hlz : z < pl
            · have dz : decide (z < pl) = true := decide_eq_true hlz
              have HN3 : Hid (bst ts tx.length (k + 1) = (k, z)) := Lib.hid (by rw [HN2.out, if_pos hlz])
              clear HN2 hlz
              go_wp2
              go_roundw
              case rel => exact ⟨k + 1, by omega, by go_num, by rw [HN3.out], by rw [HN3.out], HB5⟩
              case measure => simp [intOf]; omega
            · have dz : decide (z < pl) = false := decide_eq_false hlz
              have HN3 : Hid (bst ts tx.length (k + 1) = (pb, pl)) := Lib.hid (by rw [HN2.out, if_neg hlz])
              clear HN2 hlz
              go_wp2
              go_roundw
              case rel => exact ⟨k + 1, by omega, by go_num, by rw [HN3.out], by rw [HN3.out], HB5⟩
              case measure => simp [intOf]; omega
      · obtain ⟨k3, hk3⟩ : ∃ k3 : Nat, k = k3 ∧ k3 = 3 := ⟨k, rfl, by omega⟩
        obtain ⟨rfl, hk3⟩ := hk3
        have HK3 := Lib.hid hk3
        have dk : decide ((k : Int) < 3) = false := decide_eq_false (by omega)
        have HBW := Lib.hid (below_then HB1.out HB.out)
        have HRW2 := Lib.hid ((HB.out.block w.heap.size HQ.out).trans HR1.out)
        have HT := Lib.hid (HCT.out wr HBW.out)
        have HQW : Hid (w.heap.size < wr.heap.size) := Lib.hid (Nat.lt_of_lt_of_le HQ.out HB.out.size)
        clear hk3 HCT HSZ HB HR1 HB1
        go_wp2_with fail
        refine HT.out.mono ?_
        rintro e w6 ⟨v6, rfl, own6, hb6⟩
        obtain ⟨ta, tc, rfl, hts⟩ := own_ts2 own6 HTW.out
        have HX := Lib.hid (HCX.out w6 (below_then HBW.out hb6))
        have HT6 := Lib.hid hts
        have HR6 := Lib.hid ((hb6.block w.heap.size HQW.out).trans HRW2.out)
        have HB6 := Lib.hid (below_then HBW.out hb6)
        have HZ6 : Hid (wr.heap.size ≤ w6.heap.size) := Lib.hid hb6.size
        have HNT : Hid (∀ ad, ta = some ad → ¬ ad.block = w.heap.size) := Lib.hid (fun ad e he => by
          subst e
          have := (own6.lt ad.block rfl).1
          have := HQW.out
          omega)
        clear own6 hts hb6 HCX HT HRW2
        go_wp2_with fail
        refine HX.out.mono ?_
        rintro e w7 ⟨v7, rfl, own7, hb7⟩
        obtain ⟨ya, yc, rfl, hbs⟩ := own_bs own7 (by omega)
        have hr7 := (hb7.block w.heap.size (Nat.lt_of_lt_of_le HQW.out (by have := HZ6.out; exact this))).trans HR6.out
        have hne6 : ∀ ad, ta = some ad → ¬ ad.block = w.heap.size := HNT.out
        have hne7 : ∀ ad, ya = some ad → ¬ ad.block = w.heap.size := fun ad e he => by
          subst e
          have := (own7.lt ad.block rfl).1
          have := HZ6.out
          have := HQW.out
          omega
        have c0 := cell_of_row _ _ 0 _ _ (0, 0) hr7
        have c1 := cell_of_row _ _ 1 _ _ (0, 0) hr7
        have c2 := cell_of_row _ _ 2 _ _ (0, 0) hr7
        have f0 := frozen_of_row _ _ 0 _ _ hr7
        have f1 := frozen_of_row _ _ 1 _ _ hr7
        have f2 := frozen_of_row _ _ 2 _ _ hr7
        simp only [List.getElem?_toArray, List.getElem?_cons_zero, List.getElem?_cons_succ] at c0 c1 c2
        have ch := set3_ch w7 w.heap.size (.int .i64 ((bst ts tx.length k).1 : Nat)) (.slice ta ts.length tc) (.slice ya tx.length yc)
        have HRF := Lib.hid (set3_row hr7 (.int .i64 ((bst ts tx.length k).1 : Nat)) (.slice ta ts.length tc) (.slice ya tx.length yc))
        have hB7 := below_then HB6.out hb7
        have HP : Hid (BestPost w ts tx (.returned (.tuple #[.agg #[.int .i64 ((bst ts tx.length k).1 : Nat), .slice ta ts.length tc, .slice ya tx.length yc], .nilIface])) (((w7.setCell ⟨w.heap.size, 0, none⟩ (.int .i64 ((bst ts tx.length k).1 : Nat))).setCell ⟨w.heap.size, 1, none⟩ (.slice ta ts.length tc)).setCell ⟨w.heap.size, 2, none⟩ (.slice ya tx.length yc))) := Lib.hid ⟨hB7.trans (ch.below hB7.size (fun j e => by omega)), .inr ⟨HF.out, ta, tc, ya, yc, by rw [HK3.out], (HT6.out.mono hb7).kept ch hne6, hbs.keptB ch hne7⟩⟩
        clear own7 hb7 hbs hr7 hne6 hne7 ch hB7 HX HT6 HR6 HB6 HNT HZ6 HBD HLE
        generalize (bst ts tx.length k).1 = kb at *
        go_wp2
        exact bodyPost_ret (best_results _ _ _ _ _ rfl rfl HRF.out rfl) rfl HP.out
end Bc
end Go.Proofs.YtpoilaappcjbeaaGreatDoor
end

section
namespace Go.Proofs.YtpoilaappcjbeaaGreatDoor
open Go.RowKit

namespace Bc
theorem bst_min (ts : List Tok) (n : Nat) (h : ts.length ≤ 1000000) (hn : n ≤ 65535) : ∀ K, 1 ≤ K → (bst ts n K).2 = szB (bst ts n K).1 ts n ∧ (bst ts n K).1 < K ∧ ∀ j, j < K → (bst ts n K).2 ≤ szB j ts n ∧ (szB j ts n = (bst ts n K).2 → (bst ts n K).1 ≤ j)
  | 0, h1 => absurd h1 (by omega)
  | 1, _ => by
    have hb := szB_bd 0 ts n h (by omega)
    have e : bst ts n 1 = (0, szB 0 ts n) := by
      rw [bst_next, if_neg (by omega)]
      rw [if_pos (by show szB 0 ts n < 9223372036854775807; omega)]
    rw [e]
    refine ⟨rfl, by simp, fun j hj => ?_⟩
    obtain rfl : j = 0 := by omega
    exact ⟨Int.le_refl _, fun _ => Nat.le_refl _⟩
  | K + 2, _ => by
    obtain ⟨i1, i2, i3⟩ := bst_min ts n h hn (K + 1) (by omega)
    rw [bst_next, if_neg (by omega)]
    split
    · rename_i hlt
      refine ⟨rfl, by simp, fun j hj => ?_⟩
      by_cases e : j = K + 1
      · subst e; exact ⟨Int.le_refl _, fun _ => Nat.le_refl _⟩
      · have := (i3 j (by omega)).1
        simp only
        exact ⟨by omega, fun e2 => by omega⟩
    · rename_i hge
      refine ⟨i1, by omega, fun j hj => ?_⟩
      by_cases e : j = K + 1
      · subst e; exact ⟨by omega, fun _ => by omega⟩
      · exact i3 j (by omega)
end Bc
end Go.Proofs.YtpoilaappcjbeaaGreatDoor
end
