/- block.standFor, isValid: their contracts. block: how many bits a body has, and a block. block: size, Bits: their contracts. slices.Clone over tokens: its contract. slices.Clone over bytes: its contract. -/
import Derived.Test.YtpoilaappcjbeaaGreatDoorZ25
import Derived.WalkSpells
import Derived.Lib.SliceRun
set_option linter.unusedSimpArgs false
set_option linter.unusedVariables false
section
namespace Go.Proofs.YtpoilaappcjbeaaGreatDoor
open Go.RowKit

namespace Bc
theorem fit_at {tx : List UInt8} {ts : List Tok} {k a : Nat} (hk : k < ts.length) : fit tx (ts.drop k) a = (Tk.isTok (ts.getD k (0, 0)) && (decide (a + Tk.size (ts.getD k (0, 0)) ≤ tx.length) && (agB tx (ts.getD k (0, 0)) a (Tk.size (ts.getD k (0, 0))) && fit tx (ts.drop (k + 1)) (a + Tk.size (ts.getD k (0, 0)))))) := by
  rw [List.drop_eq_getElem_cons hk]
  simp [List.getD, List.getElem?_eq_getElem hk, fit]
theorem fit_end {tx : List UInt8} {ts : List Tok} {k a : Nat} (hk : ts.length ≤ k) : fit tx (ts.drop k) a = decide (a = tx.length) := by
  rw [List.drop_eq_nil_of_le hk]; rfl
end Bc
set_option maxHeartbeats 4000000 in
set_option maxRecDepth 100000 in
theorem standFor_any (a : Option Addr) (len cap : Nat) (ts : List Tok) (b : Option Addr) (blen bcap : Nat) (tx : List UInt8) (w : World) (h : Ts2 w a len cap ts) (hb : Bs w b blen bcap tx) (hlen : len ≤ 1000000000) :
    Calls Tryz.prog 56 #[.slice a len cap, .slice b blen bcap] w fun e w' => e = .returned (.bool (Bc.fit tx ts 0)) ∧ Below w.heap.size w w' := by
  have H := Lib.hid h
  have H' := Lib.hid hb
  have HLN := Lib.hid h.hlen
  have HLB := Lib.hid hb.hlen
  have hcap := hb.hcap
  obtain ⟨R, hR⟩ : ∃ R, Bc.fit tx ts 0 = R := ⟨_, rfl⟩
  rw [hR]
  have HR := Lib.hid hR
  clear h hb hR
  go_enter Tryz.func56, Tryz.ntmps56
  go_wp2
  go_loopw [5, 11] (fun av iv wr => ∃ k q : Nat, k ≤ len ∧ q ≤ blen ∧ av = .int .i64 q ∧ iv = .int .i64 k ∧ Hid (Below w.heap.size w wr) ∧ Hid (Bc.fit tx (ts.drop k) q = R)) (fun _ iv _ => len - (intOf iv).toNat)
  case atStart => exact ⟨0, 0, by omega, by omega, rfl, rfl, Lib.hid (Below.refl _ _), Lib.hid (by rw [List.drop_zero]; exact HR.out)⟩
  case round =>
    obtain ⟨k, q, hk, hq, rfl, rfl, HB, HF⟩ := hrel
    clear HR
    by_cases hlt : k < len
    · obtain ⟨b1, off, rfl, _, t0, t1⟩ := (H.out.mono HB.out).at' k hlt
      have hwf := H.out.wf k hlt
      have hst := Bc.fit_at (tx := tx) (a := q) (show k < ts.length by rw [HLN.out]; exact hlt)
      rw [HF.out] at hst
      have HST := Lib.hid hst
      clear HF hst
      generalize ts.getD k (0, 0) = t at *
      obtain ⟨x, y⟩ := t
      simp only at t0 t1 hwf
      have HWF := Lib.hid hwf
      have hb5 := below_alloc wr (.cells #[.int .i64 x, .int .i64 y] 59)
      have HB5 := Lib.hid (below_then HB.out hb5)
      have hrow : (wr.alloc (.cells #[.int .i64 x, .int .i64 y] 59)).heap[wr.heap.size]? = some (.cells #[.int .i64 x, .int .i64 y] 59 (0, 0)) := heap_alloc_last wr _
      have hxw : -9223372036854775808 ≤ x ∧ x ≤ 9223372036854775807 := by simpa [Lit.wf, IntKind.min, IntKind.max, IntKind.signed, IntKind.bits] using hwf.1
      clear hwf hb5
      cases hc : Tk.isTok (x, y)
      · have HE : Hid (R = false) := Lib.hid (by rw [HST.out, hc, Bool.false_and])
        have HTK := Lib.hid hc
        clear HST hc H'
        by_cases hx1 : x < 1
        · have d1 : decide (x < 1) = true := decide_eq_true hx1
          go_wp2_with fail
          refine (isToken_any (x, y) _ HWF.out).mono ?_
          rintro e w6 ⟨rfl, hb6⟩
          rw [HTK.out]
          have HB6 := Lib.hid (below_then HB5.out hb6)
          clear hb6
          go_wp2
          go_ret
          exact ⟨by rw [HE.out]; rfl, HB6.out⟩
        · have d1 : decide (x < 1) = false := decide_eq_false hx1
          have hx2 : 1 ≤ x := by omega
          go_wp2_with fail
          refine (isToken_any (x, y) _ HWF.out).mono ?_
          rintro e w6 ⟨rfl, hb6⟩
          rw [HTK.out]
          have HB6 := Lib.hid (below_then HB5.out hb6)
          clear hb6
          go_wp2
          go_ret
          exact ⟨by rw [HE.out]; rfl, HB6.out⟩
      · have htr := Tk.tok_range hc
        simp only at htr
        by_cases h0 : x = 0
        · subst h0
          obtain ⟨en, hen⟩ : ∃ en : Nat, en = q + 1 := ⟨_, rfl⟩
          have hfold : (q : Int) + 1 = (en : Int) := by omega
          have HEN := Lib.hid hen
          have HTK := Lib.hid hc
          clear hc hen
          go_wp2_with fail
          refine (isToken_any (0, y) _ HWF.out).mono ?_
          rintro e w6 ⟨rfl, hb6⟩
          rw [HTK.out]
          have HB6 := Lib.hid (below_then HB5.out hb6)
          have hrow6 := (hb6.block wr.heap.size (by simp)).trans hrow
          have y0 : w6.cell? ⟨wr.heap.size, 0, none⟩ = some (.int .i64 (0)) := by rw [cell_of_row _ _ _ _ _ (0, 0) hrow6]; rfl
          have y1 : w6.cell? ⟨wr.heap.size, 1, none⟩ = some (.int .i64 y) := by rw [cell_of_row _ _ _ _ _ (0, 0) hrow6]; rfl
          clear hb6 hrow hrow6 HB5 HB t0 t1
          by_cases hbig : blen < en
          · have HE : Hid (R = false) := Lib.hid (by rw [HST.out, decide_eq_false (by rw [HLB.out]; have := HEN.out; show ¬ (q + 1 ≤ blen); omega)]; simp)
            have dbig : decide (blen < en) = true := decide_eq_true hbig
            clear hbig
            go_wp2
            go_ret
            exact ⟨by rw [HE.out]; rfl, HB6.out⟩
          · have dbig : decide (blen < en) = false := decide_eq_false hbig
            have HAG := Lib.hid (agrees_any (0, y) b blen bcap tx q (1) en w6 HTK.out (H'.out.mono HB6.out) (by rfl) HEN.out (by omega))
            have HS2 : Hid (R = (Bc.agB tx (0, y) q (1) && Bc.fit tx (ts.drop (k + 1)) en)) := Lib.hid (by
              rw [HST.out, HTK.out, decide_eq_true (show q + Tk.size (0, y) ≤ tx.length by rw [HLB.out]; have := HEN.out; show q + (1) ≤ blen; omega), Bool.true_and, Bool.true_and, HEN.out]; rfl)
            clear HST
            go_wp2_with fail
            refine HAG.out.mono ?_
            rintro e w7 ⟨rfl, hb7⟩
            have HB7 := Lib.hid (below_then HB6.out hb7)
            clear hb7 HAG
            cases hag : Bc.agB tx (0, y) q (1)
            · have HE : Hid (R = false) := Lib.hid (by rw [HS2.out, hag, Bool.false_and])
              clear hag
              go_wp2
              go_ret
              exact ⟨by rw [HE.out]; rfl, HB7.out⟩
            · have HE : Hid (Bc.fit tx (ts.drop (k + 1)) en = R) := Lib.hid (by rw [HS2.out, hag, Bool.true_and])
              clear hag
              go_wp2
              go_roundw
              case rel => exact ⟨k + 1, en, by omega, by omega, rfl, by go_num, HB7, HE⟩
              case measure => simp [intOf]; omega
        · obtain ⟨m, rfl⟩ := Int.eq_ofNat_of_zero_le htr.1
          have hm3 : 3 ≤ m := by have := (htr.2.2.2.2.2 h0).1; omega
          have hsz : Tk.size ((m : Int), y) = m := by unfold Tk.size; simp only; rw [if_neg h0]; rfl
          have HSZ := Lib.hid hsz
          have d1 : decide ((m : Int) < 1) = false := decide_eq_false (by omega)
          clear h0 hsz
          obtain ⟨en, hen⟩ : ∃ en : Nat, en = q + m := ⟨_, rfl⟩
          have hfold : (q : Int) + (m : Int) = (en : Int) := by omega
          have HEN := Lib.hid hen
          have HTK := Lib.hid hc
          clear hc hen
          go_wp2_with fail
          refine (isToken_any ((m : Int), y) _ HWF.out).mono ?_
          rintro e w6 ⟨rfl, hb6⟩
          rw [HTK.out]
          have HB6 := Lib.hid (below_then HB5.out hb6)
          have hrow6 := (hb6.block wr.heap.size (by simp)).trans hrow
          have y0 : w6.cell? ⟨wr.heap.size, 0, none⟩ = some (.int .i64 ((m : Int))) := by rw [cell_of_row _ _ _ _ _ (0, 0) hrow6]; rfl
          have y1 : w6.cell? ⟨wr.heap.size, 1, none⟩ = some (.int .i64 y) := by rw [cell_of_row _ _ _ _ _ (0, 0) hrow6]; rfl
          clear hb6 hrow hrow6 HB5 HB t0 t1
          by_cases hbig : blen < en
          · have HE : Hid (R = false) := Lib.hid (by rw [HST.out, decide_eq_false (by rw [HLB.out, HSZ.out]; have := HEN.out; omega)]; simp)
            have dbig : decide (blen < en) = true := decide_eq_true hbig
            clear hbig
            go_wp2
            go_ret
            exact ⟨by rw [HE.out]; rfl, HB6.out⟩
          · have dbig : decide (blen < en) = false := decide_eq_false hbig
            have HAG := Lib.hid (agrees_any ((m : Int), y) b blen bcap tx q (m) en w6 HTK.out (H'.out.mono HB6.out) HSZ.out.symm HEN.out (by omega))
            have HS2 : Hid (R = (Bc.agB tx ((m : Int), y) q (m) && Bc.fit tx (ts.drop (k + 1)) en)) := Lib.hid (by
              rw [HST.out, HTK.out, decide_eq_true (show q + Tk.size ((m : Int), y) ≤ tx.length by rw [HLB.out]; have := HEN.out; rw [HSZ.out]; omega), Bool.true_and, Bool.true_and, HSZ.out, HEN.out])
            clear HST
            go_wp2_with fail
            refine HAG.out.mono ?_
            rintro e w7 ⟨rfl, hb7⟩
            have HB7 := Lib.hid (below_then HB6.out hb7)
            clear hb7 HAG
            cases hag : Bc.agB tx ((m : Int), y) q (m)
            · have HE : Hid (R = false) := Lib.hid (by rw [HS2.out, hag, Bool.false_and])
              clear hag
              go_wp2
              go_ret
              exact ⟨by rw [HE.out]; rfl, HB7.out⟩
            · have HE : Hid (Bc.fit tx (ts.drop (k + 1)) en = R) := Lib.hid (by rw [HS2.out, hag, Bool.true_and])
              clear hag
              go_wp2
              go_roundw
              case rel => exact ⟨k + 1, en, by omega, by omega, rfl, by go_num, HB7, HE⟩
              case measure => simp [intOf]; omega
    · obtain rfl : len = k := by omega
      have HE : Hid (R = decide (q = blen)) := Lib.hid (by rw [← HF.out, Bc.fit_end (by rw [HLN.out]; exact Nat.le_refl _), HLB.out])
      by_cases hqe : q = blen
      · have HE2 : Hid (R = true) := Lib.hid (by rw [HE.out]; exact decide_eq_true hqe)
        have dq : ((q : Int) == (blen : Int)) = true := by simp; omega
        clear hqe HE
        go_wp2
        go_ret
        exact ⟨by rw [HE2.out]; rfl, HB.out⟩
      · have HE2 : Hid (R = false) := Lib.hid (by rw [HE.out]; exact decide_eq_false hqe)
        have dq : ((q : Int) == (blen : Int)) = false := by simp; omega
        clear hqe HE
        go_wp2
        go_ret
        exact ⟨by rw [HE2.out]; rfl, HB.out⟩
/-- Is a block valid? -/
def Bc.vB (kind : Int) (ts : List Tok) (tx : List UInt8) : Bool := (decide (kind = 0 ∧ tx.length ≤ 65535) || decide (kind = 1 ∨ kind = 2)) && Bc.fit tx ts 0
theorem isValid_any (kind : Int) (a : Option Addr) (len cap : Nat) (ts : List Tok) (b : Option Addr) (blen bcap : Nat) (tx : List UInt8) (w : World) (h : Ts2 w a len cap ts) (hb : Bs w b blen bcap tx) (hlen : len ≤ 1000000000) :
    Calls Tryz.prog 32 #[.agg #[.int .i64 kind, .slice a len cap, .slice b blen bcap]] w fun e w' => e = .returned (.bool (Bc.vB kind ts tx)) ∧ Below w.heap.size w w' := by
  have HB := Lib.hid (below_alloc w (.cells #[.int .i64 kind, .slice a len cap, .slice b blen bcap] 36))
  have hrow : (w.alloc (.cells #[.int .i64 kind, .slice a len cap, .slice b blen bcap] 36)).heap[w.heap.size]? = some (.cells #[.int .i64 kind, .slice a len cap, .slice b blen bcap] 36 (0, 0)) := heap_alloc_last w _
  have c0 : (w.alloc (.cells #[.int .i64 kind, .slice a len cap, .slice b blen bcap] 36)).cell? ⟨w.heap.size, 0, none⟩ = some (.int .i64 kind) := by rw [cell_of_row _ _ _ _ _ (0, 0) hrow]; rfl
  have c1 : (w.alloc (.cells #[.int .i64 kind, .slice a len cap, .slice b blen bcap] 36)).cell? ⟨w.heap.size, 1, none⟩ = some (.slice a len cap) := by rw [cell_of_row _ _ _ _ _ (0, 0) hrow]; rfl
  have c2 : (w.alloc (.cells #[.int .i64 kind, .slice a len cap, .slice b blen bcap] 36)).cell? ⟨w.heap.size, 2, none⟩ = some (.slice b blen bcap) := by rw [cell_of_row _ _ _ _ _ (0, 0) hrow]; rfl
  have HC := Lib.hid (standFor_any a len cap ts b blen bcap tx _ (h.mono HB.out) (hb.mono HB.out) hlen)
  have HLB := Lib.hid hb.hlen
  clear h hb hrow
  by_cases k0 : kind = 0
  · subst k0
    by_cases hx : blen ≤ 65535
    · have HE : Hid (Bc.vB 0 ts tx = Bc.fit tx ts 0) := Lib.hid (by unfold Bc.vB; rw [decide_eq_true (show (0 : Int) = 0 ∧ tx.length ≤ 65535 from ⟨rfl, by rw [HLB.out]; exact hx⟩)]; simp)
      have d1 : decide ((blen : Int) ≤ 65535) = true := decide_eq_true (by omega)
      have d2 : decide (blen ≤ 65535) = true := decide_eq_true hx
      clear hx
      go_enter Tryz.func32, Tryz.ntmps32
      go_wp2_with fail
      refine HC.out.mono ?_
      rintro e w1 ⟨rfl, hb1⟩
      have HB1 := Lib.hid (below_then HB.out hb1)
      clear hb1
      go_wp2
      go_ret
      exact ⟨by rw [HE.out]; rfl, HB1.out⟩
    · have HE : Hid (Bc.vB 0 ts tx = false) := Lib.hid (by unfold Bc.vB; rw [decide_eq_false (show ¬ ((0 : Int) = 0 ∧ tx.length ≤ 65535) from fun h => hx (by rw [← HLB.out]; exact h.2))]; simp)
      have d1 : decide ((blen : Int) ≤ 65535) = false := decide_eq_false (by omega)
      have d2 : decide (blen ≤ 65535) = false := decide_eq_false hx
      clear hx HC
      go_enter Tryz.func32, Tryz.ntmps32
      go_wp2
      go_ret
      exact ⟨by rw [HE.out]; rfl, HB.out⟩
  · have d0 : (kind == 0) = false := by simpa using k0
    by_cases k1 : kind = 1
    · subst k1
      have HE : Hid (Bc.vB 1 ts tx = Bc.fit tx ts 0) := Lib.hid (by unfold Bc.vB; simp)
      clear k0
      go_enter Tryz.func32, Tryz.ntmps32
      go_wp2_with fail
      refine HC.out.mono ?_
      rintro e w1 ⟨rfl, hb1⟩
      have HB1 := Lib.hid (below_then HB.out hb1)
      clear hb1
      go_wp2
      go_ret
      exact ⟨by rw [HE.out]; rfl, HB1.out⟩
    · have d1 : (kind == 1) = false := by simpa using k1
      by_cases k2 : kind = 2
      · subst k2
        have HE : Hid (Bc.vB 2 ts tx = Bc.fit tx ts 0) := Lib.hid (by unfold Bc.vB; simp)
        clear k0 k1
        go_enter Tryz.func32, Tryz.ntmps32
        go_wp2_with fail
        refine HC.out.mono ?_
        rintro e w1 ⟨rfl, hb1⟩
        have HB1 := Lib.hid (below_then HB.out hb1)
        clear hb1
        go_wp2
        go_ret
        exact ⟨by rw [HE.out]; rfl, HB1.out⟩
      · have d2 : (kind == 2) = false := by simpa using k2
        have HE : Hid (Bc.vB kind ts tx = false) := Lib.hid (by unfold Bc.vB; simp [k0, k1, k2])
        clear k0 k1 k2 HC
        go_enter Tryz.func32, Tryz.ntmps32
        go_wp2
        go_ret
        exact ⟨by rw [HE.out]; rfl, HB.out⟩
end Go.Proofs.YtpoilaappcjbeaaGreatDoor
end

section
namespace Go.Proofs.YtpoilaappcjbeaaGreatDoor
open Go.RowKit

namespace Bc
theorem LL_bd (kind : Nat) (ts : List Tok) (h : ts.length ≤ 1000000) (i : Nat) : 0 ≤ (LL kind ts).getD i 0 ∧ (LL kind ts).getD i 0 ≤ 16 := by
  unfold LL
  split
  · exact getD_bd (by omega) (fun i hi => by
      rw [cmpl_length] at hi
      have := (co_cts ts h).1.range i hi
      omega) i
  · exact getD_bd (by omega) (fun i hi => by have := litL_le i hi; omega) i
theorem DL_bd (kind : Nat) (ts : List Tok) (h : ts.length ≤ 1000000) (i : Nat) : 0 ≤ (DL kind ts).getD i 0 ∧ (DL kind ts).getD i 0 ≤ 16 := by
  unfold DL
  split
  · exact getD_bd (by omega) (fun i hi => by
      rw [Mg.lensOf_length] at hi
      have := (co_cts ts h).2.lens i hi
      omega) i
  · exact getD_bd (by omega) (fun i hi => by have := dstL_le i hi; omega) i
theorem hdLen_bd {h : Hd} (H : HdOk h) : 14 ≤ hdLen h ∧ hdLen h ≤ 71 + 19 * 30000000000 := by
  have h1 := tot_le .run H.hC H.hR 19
  have h2 := H.ho
  unfold hdLen
  omega
theorem bdLen_bd (kind : Nat) (ts : List Tok) (h : ts.length ≤ 1000000) : 0 ≤ bdLen kind ts ∧ bdLen kind ts ≤ 100000000000000 := by
  have h1 := tot_le .lit (C := (Pa.cts ts ts.length).1) (fun i => by have := (Pa.in_cts ts ts.length (Nat.le_refl _)).1.2 i; omega) (LL_bd kind ts h) 286
  have h2 := tot_le .dst (C := (Pa.cts ts ts.length).2) (fun i => by have := (Pa.in_cts ts ts.length (Nat.le_refl _)).2.2 i; omega) (DL_bd kind ts h) 30
  have h3 := hdLen_bd (hdT_ok ts h)
  unfold bdLen
  split <;> omega
set_option maxRecDepth 100000 in
set_option maxHeartbeats 2000000 in
theorem bodyBits_any (w : World) (B kind : Nat) (ts : List Tok) (v : Value) (H : BdIs w B kind ts v) (hk : kind = 1 ∨ kind = 2) (hlen : ts.length ≤ 1000000) :
    Calls Tryz.prog 64 #[v] w fun e w' => e = .returned (.int .i64 (bdLen kind ts)) ∧ Below w.heap.size w w' := by
  obtain ⟨hp, a1, c1, b1, m1, d1, g1, a2, c2, b2, m2, d2, g2, ta, tc, rfl, k2, k1, i1, j1, _, i2, j2, _, _⟩ := H
  obtain ⟨hd, hhd, hhl, hhu⟩ : ∃ hd : Int, hd = (if kind = 2 then hdLen (hdT ts) else 0) ∧ 0 ≤ hd ∧ hd ≤ 71 + 19 * 30000000000 := by
    have := hdLen_bd (hdT_ok ts hlen)
    exact ⟨_, rfl, by split <;> omega, by split <;> omega⟩
  have hph : (hp = .pointer none) ∨ ∃ hb, hp = .pointer (some ⟨hb, 0, none⟩) := by
    rcases hk with rfl | rfl
    · exact .inl (k1 rfl)
    · obtain ⟨hb, e, _⟩ := k2 rfl; exact .inr ⟨hb, e⟩
  have HBH : Hid (∀ w', Below w.heap.size w w' → Calls Tryz.prog 90 #[hp] w' fun e w'' => e = .returned (.int .i64 hd) ∧ Below w'.heap.size w' w'') := Lib.hid (fun w' hb => by
    rcases hk with rfl | rfl
    · have e := k1 rfl
      subst e
      rw [hhd]
      exact hbits_nil w'
    · obtain ⟨hb', rfl, hhI⟩ := k2 rfl
      rw [hhd, if_pos rfl]
      exact hbits_any w' B hb' (hdT ts) (hhI.mono hb) (hdT_ok ts hlen))
  have hm1 := (LL_length kind ts).1
  have hm2 := (DL_length kind ts).1
  have e1 := j1.hlen
  have e2 := j2.hlen
  have HC1 : ∀ i, 0 ≤ (Pa.cts ts ts.length).1.getD i 0 ∧ (Pa.cts ts ts.length).1.getD i 0 ≤ 1000000000 := fun i => by have := (Pa.in_cts ts ts.length (Nat.le_refl _)).1.2 i; omega
  have HC2 : ∀ i, 0 ≤ (Pa.cts ts ts.length).2.getD i 0 ∧ (Pa.cts ts ts.length).2.getD i 0 ≤ 1000000000 := fun i => by have := (Pa.in_cts ts ts.length (Nat.le_refl _)).2.2 i; omega
  have HB1 := Lib.hid (fun w' (hb : Below w.heap.size w w') => bits_any .lit a1 286 c1 _ b1 m1 d1 _ g1 w' (i1.mono hb) (j1.mono hb) (by omega) (by omega) HC1 (LL_bd kind ts hlen))
  have HB2 := Lib.hid (fun w' (hb : Below w.heap.size w w') => bits_any .dst a2 30 c2 _ b2 m2 d2 _ g2 w' (i2.mono hb) (j2.mono hb) (by omega) (by omega) HC2 (DL_bd kind ts hlen))
  have hT1 := tot_le .lit HC1 (LL_bd kind ts hlen) 286
  have hT2 := tot_le .dst HC2 (DL_bd kind ts hlen) 30
  have HE : Hid (bdLen kind ts = hd + tot .lit (Pa.cts ts ts.length).1 (LL kind ts) 286 + tot .dst (Pa.cts ts ts.length).2 (DL kind ts) 30) := Lib.hid (by rw [hhd]; rfl)
  unfold tbV fvK at HB1 HB2
  clear HC1 HC2 e1 e2 hm1 hm2 k1 k2 i1 i2 j1 j2 hk hlen hhd
  generalize tot .lit (Pa.cts ts ts.length).1 (LL kind ts) 286 = T1 at *
  generalize tot .dst (Pa.cts ts ts.length).2 (DL kind ts) 30 = T2 at *
  have v1 : IntKind.i64.wrap (hd + T1) = hd + T1 := IntWalk.i64_in _ ⟨by omega, by omega⟩
  have v2 : IntKind.i64.wrap (hd + T1 + T2) = hd + T1 + T2 := IntWalk.i64_in _ ⟨by omega, by omega⟩
  unfold bdC
  have hal := below_alloc w (.cells #[hp, .slice a1 286 c1, .slice b1 m1 d1, .pointer (some ⟨g1, 0, none⟩), .func (.func 77) #[] #[], .slice a2 30 c2, .slice b2 m2 d2, .pointer (some ⟨g2, 0, none⟩), .func (.func 78) #[] #[], .slice ta ts.length tc] 86)
  have hrow := heap_alloc_last w (.cells #[hp, .slice a1 286 c1, .slice b1 m1 d1, .pointer (some ⟨g1, 0, none⟩), .func (.func 77) #[] #[], .slice a2 30 c2, .slice b2 m2 d2, .pointer (some ⟨g2, 0, none⟩), .func (.func 78) #[] #[], .slice ta ts.length tc] 86)
  have c0 := cell_of_row _ _ 0 _ _ (0, 0) hrow
  have c1' := cell_of_row _ _ 1 _ _ (0, 0) hrow
  have c2' := cell_of_row _ _ 2 _ _ (0, 0) hrow
  have c3' := cell_of_row _ _ 3 _ _ (0, 0) hrow
  have c4' := cell_of_row _ _ 4 _ _ (0, 0) hrow
  have c5' := cell_of_row _ _ 5 _ _ (0, 0) hrow
  have c6' := cell_of_row _ _ 6 _ _ (0, 0) hrow
  have c7' := cell_of_row _ _ 7 _ _ (0, 0) hrow
  have c8' := cell_of_row _ _ 8 _ _ (0, 0) hrow
  simp only [List.getElem?_toArray, List.getElem?_cons_zero, List.getElem?_cons_succ] at c0 c1' c2' c3' c4' c5' c6' c7' c8'
  have HQ : Hid (w.heap.size < (w.alloc (.cells #[hp, .slice a1 286 c1, .slice b1 m1 d1, .pointer (some ⟨g1, 0, none⟩), .func (.func 77) #[] #[], .slice a2 30 c2, .slice b2 m2 d2, .pointer (some ⟨g2, 0, none⟩), .func (.func 78) #[] #[], .slice ta ts.length tc] 86)).heap.size) := Lib.hid (by simp)
  have HAL := Lib.hid hal
  clear hrow hal
  have HBD : Hid (Below w.heap.size w (w.alloc (.cells #[hp, .slice a1 286 c1, .slice b1 m1 d1, .pointer (some ⟨g1, 0, none⟩), .func (.func 77) #[] #[], .slice a2 30 c2, .slice b2 m2 d2, .pointer (some ⟨g2, 0, none⟩), .func (.func 78) #[] #[], .slice ta ts.length tc] 86)).drew) := Lib.hid (Below.drew HAL.out)
  clear HAL
  rcases hph with rfl | ⟨hb, rfl⟩
  · go_enter Tryz.func64, Tryz.ntmps64
    go_wp2_with fail
    revert c0 c1' c2' c3' c4' c5' c6' c7' c8' HQ HBD
    generalize (w.alloc (.cells #[.pointer none, .slice a1 286 c1, .slice b1 m1 d1, .pointer (some ⟨g1, 0, none⟩), .func (.func 77) #[] #[], .slice a2 30 c2, .slice b2 m2 d2, .pointer (some ⟨g2, 0, none⟩), .func (.func 78) #[] #[], .slice ta ts.length tc] 86)) = w1
    intro c0 c1' c2' c3' c4' c5' c6' c7' c8' HQ HBD
    have hq1 : w.heap.size < w1.heap.size := HQ.out
    go_region_held3 (fun w' => w'.cell? ⟨w.heap.size, 0, none⟩ = some (.pointer none) ∧ w'.cell? ⟨w.heap.size, 1, none⟩ = some (.slice a1 286 c1) ∧ w'.cell? ⟨w.heap.size, 2, none⟩ = some (.slice b1 m1 d1) ∧ w'.cell? ⟨w.heap.size, 3, none⟩ = some (.pointer (some ⟨g1, 0, none⟩)) ∧ w'.cell? ⟨w.heap.size, 4, none⟩ = some (.func (.func 77) #[] #[]) ∧ w'.cell? ⟨w.heap.size, 5, none⟩ = some (.slice a2 30 c2) ∧ w'.cell? ⟨w.heap.size, 6, none⟩ = some (.slice b2 m2 d2) ∧ w'.cell? ⟨w.heap.size, 7, none⟩ = some (.pointer (some ⟨g2, 0, none⟩)) ∧ w'.cell? ⟨w.heap.size, 8, none⟩ = some (.func (.func 78) #[] #[])) (go_keep)
      (first
        | (go_at_call 90; (with_reducible refine (HBH.out _ HBD.out).mono ?_); rintro e u1 ⟨rfl, hb1⟩; have HU1 := Lib.hid (below_then HBD.out hb1); have HQp := Lib.hid (show w.heap.size < w1.drew.heap.size from HQ.out); have HQ1 := Lib.hid (Nat.lt_of_lt_of_le HQp.out hb1.size); have p0 := (hb1.cell (p := ⟨w.heap.size, 0, none⟩) HQp.out).trans c0; have p1 := (hb1.cell (p := ⟨w.heap.size, 1, none⟩) HQp.out).trans c1'; have p2 := (hb1.cell (p := ⟨w.heap.size, 2, none⟩) HQp.out).trans c2'; have p3 := (hb1.cell (p := ⟨w.heap.size, 3, none⟩) HQp.out).trans c3'; have p4 := (hb1.cell (p := ⟨w.heap.size, 4, none⟩) HQp.out).trans c4'; have p5 := (hb1.cell (p := ⟨w.heap.size, 5, none⟩) HQp.out).trans c5'; have p6 := (hb1.cell (p := ⟨w.heap.size, 6, none⟩) HQp.out).trans c6'; have p7 := (hb1.cell (p := ⟨w.heap.size, 7, none⟩) HQp.out).trans c7'; have p8 := (hb1.cell (p := ⟨w.heap.size, 8, none⟩) HQp.out).trans c8'; clear hb1)
        | (go_at_call 91; (with_reducible refine (HB1.out _ HU1.out).mono ?_); rintro e u2 ⟨rfl, hb2⟩; have HU2 := Lib.hid (below_then HU1.out hb2); have HQr := Lib.hid HQ1.out; have HQ2 := Lib.hid (Nat.lt_of_lt_of_le HQ1.out hb2.size); have r0 := (hb2.cell (p := ⟨w.heap.size, 0, none⟩) HQr.out).trans p0; have r1 := (hb2.cell (p := ⟨w.heap.size, 1, none⟩) HQr.out).trans p1; have r2 := (hb2.cell (p := ⟨w.heap.size, 2, none⟩) HQr.out).trans p2; have r3 := (hb2.cell (p := ⟨w.heap.size, 3, none⟩) HQr.out).trans p3; have r4 := (hb2.cell (p := ⟨w.heap.size, 4, none⟩) HQr.out).trans p4; have r5 := (hb2.cell (p := ⟨w.heap.size, 5, none⟩) HQr.out).trans p5; have r6 := (hb2.cell (p := ⟨w.heap.size, 6, none⟩) HQr.out).trans p6; have r7 := (hb2.cell (p := ⟨w.heap.size, 7, none⟩) HQr.out).trans p7; have r8 := (hb2.cell (p := ⟨w.heap.size, 8, none⟩) HQr.out).trans p8; clear hb2)
        | (go_at_call 91; (with_reducible refine (HB2.out _ HU2.out).mono ?_); rintro e u3 ⟨rfl, hb3⟩; have HU3 := Lib.hid (below_then HU2.out hb3); have HQt := Lib.hid HQ2.out; have t0 := (hb3.cell (p := ⟨w.heap.size, 0, none⟩) HQt.out).trans r0; have t1 := (hb3.cell (p := ⟨w.heap.size, 1, none⟩) HQt.out).trans r1; have t2 := (hb3.cell (p := ⟨w.heap.size, 2, none⟩) HQt.out).trans r2; have t3 := (hb3.cell (p := ⟨w.heap.size, 3, none⟩) HQt.out).trans r3; have t4 := (hb3.cell (p := ⟨w.heap.size, 4, none⟩) HQt.out).trans r4; have t5 := (hb3.cell (p := ⟨w.heap.size, 5, none⟩) HQt.out).trans r5; have t6 := (hb3.cell (p := ⟨w.heap.size, 6, none⟩) HQt.out).trans r6; have t7 := (hb3.cell (p := ⟨w.heap.size, 7, none⟩) HQt.out).trans r7; have t8 := (hb3.cell (p := ⟨w.heap.size, 8, none⟩) HQt.out).trans r8; clear hb3))
    have HF := Lib.hid HU3.out
    clear v1 HBH HB1 HB2 HU1 HU2 HU3
    go_wp2
    go_ret
    exact ⟨by rw [HE.out]; rfl, HF.out⟩
  · go_enter Tryz.func64, Tryz.ntmps64
    go_wp2_with fail
    revert c0 c1' c2' c3' c4' c5' c6' c7' c8' HQ HBD
    generalize (w.alloc (.cells #[.pointer (some ⟨hb, 0, none⟩), .slice a1 286 c1, .slice b1 m1 d1, .pointer (some ⟨g1, 0, none⟩), .func (.func 77) #[] #[], .slice a2 30 c2, .slice b2 m2 d2, .pointer (some ⟨g2, 0, none⟩), .func (.func 78) #[] #[], .slice ta ts.length tc] 86)) = w1
    intro c0 c1' c2' c3' c4' c5' c6' c7' c8' HQ HBD
    have hq1 : w.heap.size < w1.heap.size := HQ.out
    go_region_held3 (fun w' => w'.cell? ⟨w.heap.size, 0, none⟩ = some (.pointer (some ⟨hb, 0, none⟩)) ∧ w'.cell? ⟨w.heap.size, 1, none⟩ = some (.slice a1 286 c1) ∧ w'.cell? ⟨w.heap.size, 2, none⟩ = some (.slice b1 m1 d1) ∧ w'.cell? ⟨w.heap.size, 3, none⟩ = some (.pointer (some ⟨g1, 0, none⟩)) ∧ w'.cell? ⟨w.heap.size, 4, none⟩ = some (.func (.func 77) #[] #[]) ∧ w'.cell? ⟨w.heap.size, 5, none⟩ = some (.slice a2 30 c2) ∧ w'.cell? ⟨w.heap.size, 6, none⟩ = some (.slice b2 m2 d2) ∧ w'.cell? ⟨w.heap.size, 7, none⟩ = some (.pointer (some ⟨g2, 0, none⟩)) ∧ w'.cell? ⟨w.heap.size, 8, none⟩ = some (.func (.func 78) #[] #[])) (go_keep)
      (first
        | (go_at_call 90; (with_reducible refine (HBH.out _ HBD.out).mono ?_); rintro e u1 ⟨rfl, hb1⟩; have HU1 := Lib.hid (below_then HBD.out hb1); have HQp := Lib.hid (show w.heap.size < w1.drew.heap.size from HQ.out); have HQ1 := Lib.hid (Nat.lt_of_lt_of_le HQp.out hb1.size); have p0 := (hb1.cell (p := ⟨w.heap.size, 0, none⟩) HQp.out).trans c0; have p1 := (hb1.cell (p := ⟨w.heap.size, 1, none⟩) HQp.out).trans c1'; have p2 := (hb1.cell (p := ⟨w.heap.size, 2, none⟩) HQp.out).trans c2'; have p3 := (hb1.cell (p := ⟨w.heap.size, 3, none⟩) HQp.out).trans c3'; have p4 := (hb1.cell (p := ⟨w.heap.size, 4, none⟩) HQp.out).trans c4'; have p5 := (hb1.cell (p := ⟨w.heap.size, 5, none⟩) HQp.out).trans c5'; have p6 := (hb1.cell (p := ⟨w.heap.size, 6, none⟩) HQp.out).trans c6'; have p7 := (hb1.cell (p := ⟨w.heap.size, 7, none⟩) HQp.out).trans c7'; have p8 := (hb1.cell (p := ⟨w.heap.size, 8, none⟩) HQp.out).trans c8'; clear hb1)
        | (go_at_call 91; (with_reducible refine (HB1.out _ HU1.out).mono ?_); rintro e u2 ⟨rfl, hb2⟩; have HU2 := Lib.hid (below_then HU1.out hb2); have HQr := Lib.hid HQ1.out; have HQ2 := Lib.hid (Nat.lt_of_lt_of_le HQ1.out hb2.size); have r0 := (hb2.cell (p := ⟨w.heap.size, 0, none⟩) HQr.out).trans p0; have r1 := (hb2.cell (p := ⟨w.heap.size, 1, none⟩) HQr.out).trans p1; have r2 := (hb2.cell (p := ⟨w.heap.size, 2, none⟩) HQr.out).trans p2; have r3 := (hb2.cell (p := ⟨w.heap.size, 3, none⟩) HQr.out).trans p3; have r4 := (hb2.cell (p := ⟨w.heap.size, 4, none⟩) HQr.out).trans p4; have r5 := (hb2.cell (p := ⟨w.heap.size, 5, none⟩) HQr.out).trans p5; have r6 := (hb2.cell (p := ⟨w.heap.size, 6, none⟩) HQr.out).trans p6; have r7 := (hb2.cell (p := ⟨w.heap.size, 7, none⟩) HQr.out).trans p7; have r8 := (hb2.cell (p := ⟨w.heap.size, 8, none⟩) HQr.out).trans p8; clear hb2)
        | (go_at_call 91; (with_reducible refine (HB2.out _ HU2.out).mono ?_); rintro e u3 ⟨rfl, hb3⟩; have HU3 := Lib.hid (below_then HU2.out hb3); have HQt := Lib.hid HQ2.out; have t0 := (hb3.cell (p := ⟨w.heap.size, 0, none⟩) HQt.out).trans r0; have t1 := (hb3.cell (p := ⟨w.heap.size, 1, none⟩) HQt.out).trans r1; have t2 := (hb3.cell (p := ⟨w.heap.size, 2, none⟩) HQt.out).trans r2; have t3 := (hb3.cell (p := ⟨w.heap.size, 3, none⟩) HQt.out).trans r3; have t4 := (hb3.cell (p := ⟨w.heap.size, 4, none⟩) HQt.out).trans r4; have t5 := (hb3.cell (p := ⟨w.heap.size, 5, none⟩) HQt.out).trans r5; have t6 := (hb3.cell (p := ⟨w.heap.size, 6, none⟩) HQt.out).trans r6; have t7 := (hb3.cell (p := ⟨w.heap.size, 7, none⟩) HQt.out).trans r7; have t8 := (hb3.cell (p := ⟨w.heap.size, 8, none⟩) HQt.out).trans r8; clear hb3))
    have HF := Lib.hid HU3.out
    clear v1 HBH HB1 HB2 HU1 HU2 HU3
    go_wp2
    go_ret
    exact ⟨by rw [HE.out]; rfl, HF.out⟩
end Bc
end Go.Proofs.YtpoilaappcjbeaaGreatDoor
end

section
namespace Go.Proofs.YtpoilaappcjbeaaGreatDoor
open Go.RowKit

namespace Bc
set_option maxRecDepth 100000 in
set_option maxHeartbeats 2000000 in
theorem size_0 (a : Option Addr) (len cap : Nat) (xa : Option Addr) (xn xc : Nat) (ts : List Tok) (w : World) (hx : xn ≤ 281474976710656) :
    Calls Tryz.prog 38 #[.agg #[.int .i64 0, .slice a len cap, .slice xa xn xc]] w fun e w' => e = .returned (.tuple #[.int .i64 (szB 0 ts xn), .nilIface]) ∧ Below w.heap.size w w' := by
  have HB := Lib.hid (below_alloc w (.cells #[.int .i64 0, .slice a len cap, .slice xa xn xc] 36))
  have hrow := heap_alloc_last w (.cells #[.int .i64 0, .slice a len cap, .slice xa xn xc] 36)
  have c0 := cell_of_row _ _ 0 _ _ (0, 0) hrow
  have c2 := cell_of_row _ _ 2 _ _ (0, 0) hrow
  simp only [List.getElem?_toArray, List.getElem?_cons_zero, List.getElem?_cons_succ] at c0 c2
  have HE : Hid (szB 0 ts xn = 42 + 8 * (xn : Int)) := Lib.hid rfl
  clear hrow
  go_enter Tryz.func38, Tryz.ntmps38
  go_wp2
  go_ret2
  exact ⟨by rw [HE.out]; rfl, HB.out⟩
set_option maxRecDepth 100000 in
set_option maxHeartbeats 2000000 in
theorem size_12 (kind : Nat) (hk : kind = 1 ∨ kind = 2) (a : Option Addr) (len cap : Nat) (xa : Option Addr) (xn xc : Nat) (ts : List Tok) (w : World) (h : Ts2 w a len cap ts) (hlen : len ≤ 1000000) (hoo : Oo w) (hz : 0 < w.heap.size) :
    Calls Tryz.prog 38 #[.agg #[.int .i64 (kind : Nat), .slice a len cap, .slice xa xn xc]] w fun e w' => e = .returned (.tuple #[.int .i64 (szB kind ts xn), .nilIface]) ∧ Below w.heap.size w w' := by
  have hl := h.hlen
  subst hl
  have hal := below_alloc w (.cells #[.int .i64 (kind : Nat), .slice a ts.length cap, .slice xa xn xc] 36)
  have HNB : Hid (Calls Tryz.prog 36 #[.agg #[.int .i64 (kind : Nat), .slice a ts.length cap, .slice xa xn xc]] (w.alloc (.cells #[.int .i64 (kind : Nat), .slice a ts.length cap, .slice xa xn xc] 36)) (BodyPost (w.alloc (.cells #[.int .i64 (kind : Nat), .slice a ts.length cap, .slice xa xn xc] 36)) kind ts (.slice a ts.length cap))) := Lib.hid (by
    have hz2 : 0 < (w.alloc (.cells #[.int .i64 (kind : Nat), .slice a ts.length cap, .slice xa xn xc] 36)).heap.size := Nat.lt_of_lt_of_le hz hal.size
    rcases hk with rfl | rfl
    · exact newBody_1 a ts.length cap ts xa xn xc _ (h.mono hal) hlen (hoo.mono hz hal) hz2
    · exact newBody_2 a ts.length cap ts xa xn xc _ (h.mono hal) hlen (hoo.mono hz hal) hz2)
  have HB := Lib.hid hal
  have hrow := heap_alloc_last w (.cells #[.int .i64 (kind : Nat), .slice a ts.length cap, .slice xa xn xc] 36)
  have c0 := cell_of_row _ _ 0 _ _ (0, 0) hrow
  have c1 := cell_of_row _ _ 1 _ _ (0, 0) hrow
  have c2 := cell_of_row _ _ 2 _ _ (0, 0) hrow
  simp only [List.getElem?_toArray, List.getElem?_cons_zero, List.getElem?_cons_succ] at c0 c1 c2
  have hbd := bdLen_bd kind ts hlen
  have HE : Hid (szB kind ts xn = 3 + bdLen kind ts) := Lib.hid (by unfold szB; rw [if_neg (by omega)])
  have HK := Lib.hid hk
  have HLN := Lib.hid hlen
  have dk : ((kind : Int) == 0) = false := by simp; omega
  clear hrow hal h hoo hz hk hlen
  go_enter Tryz.func38, Tryz.ntmps38
  go_wp2_with fail
  refine HNB.out.mono ?_
  rintro e w2 ⟨v, rfl, hbi, hb2, _⟩
  obtain ⟨hp, a1, c1', b1, m1, d1, g1, a2, c2', b2, m2, d2, g2, ta, tc, rfl, hr⟩ := id hbi
  obtain ⟨pp, rfl⟩ : ∃ pp, hp = .pointer pp := by
    rcases HK.out with h | h
    · exact ⟨none, hr.2.1 h⟩
    · obtain ⟨x, e, _⟩ := hr.1 h; exact ⟨_, e⟩
  have HB2 := Lib.hid (below_then HB.out hb2)
  have hal2 := below_alloc w2 (.cells (bdC (.pointer pp) a1 c1' b1 m1 d1 g1 a2 c2' b2 m2 d2 g2 ta ts.length tc) 86)
  have hbi2 : BdIs (w2.alloc (.cells (bdC (.pointer pp) a1 c1' b1 m1 d1 g1 a2 c2' b2 m2 d2 g2 ta ts.length tc) 86)) 0 kind ts (.agg (bdC (.pointer pp) a1 c1' b1 m1 d1 g1 a2 c2' b2 m2 d2 g2 ta ts.length tc)) := by
    obtain ⟨r1, r2, r3, r4, r5, r6, r7, r8, r9⟩ := hr
    exact ⟨.pointer pp, a1, c1', b1, m1, d1, g1, a2, c2', b2, m2, d2, g2, ta, tc, rfl, fun h => by obtain ⟨x, e, hx⟩ := r1 h; exact ⟨x, e, (hx.mono hal2).wide (Nat.zero_le _)⟩, r2, r3.mono hal2, r4.mono hal2, (r5.mono hal2).wide (fun _ _ => Nat.zero_le _), r6.mono hal2, r7.mono hal2, (r8.mono hal2).wide (fun _ _ => Nat.zero_le _), r9.mono hal2⟩
  have HBB := Lib.hid (bodyBits_any _ 0 kind ts _ hbi2 HK.out HLN.out)
  have hrow2 := heap_alloc_last w2 (.cells (bdC (.pointer pp) a1 c1' b1 m1 d1 g1 a2 c2' b2 m2 d2 g2 ta ts.length tc) 86)
  have HAL2 := Lib.hid hal2
  clear hbi hr hbi2 hb2 hal2 hrow2 HNB HB c0 c1 c2
  unfold bdC at HBB HAL2 ⊢
  go_wp2_with fail
  refine HBB.out.mono ?_
  rintro e w3 ⟨rfl, hb3⟩
  have HB3 := Lib.hid (below_then (below_then HB2.out HAL2.out) hb3)
  clear hb3 HBB HAL2 HB2
  generalize bdLen kind ts = x at *
  go_wp2
  go_ret2
  exact ⟨by rw [HE.out]; rfl, HB3.out⟩
/-- What a block's bits are told as. -/
def sizeOk (kind : Int) (ts : List Tok) (tx : List UInt8) : Value := if vB kind ts tx then .tuple #[.int .i64 (szB kind.toNat ts tx.length), .nilIface] else .tuple #[.int .i64 0, .iface 51 (.int .i64 6)]
set_option maxRecDepth 100000 in
theorem size_any (kind : Nat) (hk : kind ≤ 2) (a : Option Addr) (len cap : Nat) (xa : Option Addr) (xn xc : Nat) (ts : List Tok) (w : World) (h : Ts2 w a len cap ts) (hlen : len ≤ 1000000) (hx : xn ≤ 281474976710656) (hoo : Oo w) (hz : 0 < w.heap.size) :
    Calls Tryz.prog 38 #[.agg #[.int .i64 (kind : Nat), .slice a len cap, .slice xa xn xc]] w fun e w' => e = .returned (.tuple #[.int .i64 (szB kind ts xn), .nilIface]) ∧ Below w.heap.size w w' := by
  by_cases h0 : kind = 0
  · subst h0
    exact size_0 a len cap xa xn xc ts w hx
  · exact size_12 kind (by omega) a len cap xa xn xc ts w h hlen hoo hz
set_option maxRecDepth 100000 in
set_option maxHeartbeats 1000000 in
theorem bits_call (kind : Int) (a : Option Addr) (len cap : Nat) (ts : List Tok) (xa : Option Addr) (xn xc : Nat) (tx : List UInt8) (w : World) (h : Ts2 w a len cap ts) (hb : Bs w xa xn xc tx) (hlen : len ≤ 1000000) (hoo : Oo w) (hz : 0 < w.heap.size) :
    Calls Tryz.prog 14 #[.agg #[.int .i64 kind, .slice a len cap, .slice xa xn xc]] w fun e w' => e = .returned (sizeOk kind ts tx) ∧ Below w.heap.size w w' := by
  have hal := below_alloc w (.cells #[.int .i64 kind, .slice a len cap, .slice xa xn xc] 36)
  have hrow := heap_alloc_last w (.cells #[.int .i64 kind, .slice a len cap, .slice xa xn xc] 36)
  have c0 := cell_of_row _ _ 0 _ _ (0, 0) hrow
  have c1 := cell_of_row _ _ 1 _ _ (0, 0) hrow
  have c2 := cell_of_row _ _ 2 _ _ (0, 0) hrow
  simp only [List.getElem?_toArray, List.getElem?_cons_zero, List.getElem?_cons_succ] at c0 c1 c2
  have HV := Lib.hid (isValid_any kind a len cap ts xa xn xc tx _ (h.mono hal) (hb.mono hal) (by omega))
  have hxl := hb.hlen
  have hxc := hb.hcap
  have HSZ := Lib.hid (fun (k : Nat) (hk : k ≤ 2) w' (hb : Below w.heap.size w w') => size_any k hk a len cap xa xn xc ts w' (h.mono hb) hlen hxc (hoo.mono hz hb) (Nat.lt_of_lt_of_le hz hb.size))
  have HAL := Lib.hid hal
  have HXL := Lib.hid hxl
  have HRW := Lib.hid hrow
  clear hrow hal h hb hoo hz hxl
  go_enter Tryz.func14, Tryz.ntmps14
  go_wp2_with fail
  refine HV.out.mono ?_
  rintro e w1 ⟨rfl, hb1⟩
  have HB1 := Lib.hid (below_then HAL.out hb1)
  have hr1 := (hb1.block w.heap.size (by simp)).trans HRW.out
  have r0 := cell_of_row _ _ 0 _ _ (0, 0) hr1
  have r1 := cell_of_row _ _ 1 _ _ (0, 0) hr1
  have r2 := cell_of_row _ _ 2 _ _ (0, 0) hr1
  simp only [List.getElem?_toArray, List.getElem?_cons_zero, List.getElem?_cons_succ] at r0 r1 r2
  clear hb1 hr1 HRW HAL c0 c1 c2 HV
  cases hv : vB kind ts tx
  · have HE : Hid (sizeOk kind ts tx = .tuple #[.int .i64 0, .iface 51 (.int .i64 6)]) := Lib.hid (by unfold sizeOk; rw [hv]; rfl)
    clear hv HSZ
    go_wp2
    go_ret2
    exact ⟨by rw [HE.out]; rfl, HB1.out⟩
  · have HE : Hid (sizeOk kind ts tx = .tuple #[.int .i64 (szB kind.toNat ts tx.length), .nilIface]) := Lib.hid (by unfold sizeOk; rw [hv]; rfl)
    have hk : 0 ≤ kind ∧ kind ≤ 2 := by
      unfold vB at hv
      rw [Bool.and_eq_true, Bool.or_eq_true, decide_eq_true_eq, decide_eq_true_eq] at hv
      omega
    obtain ⟨k, rfl⟩ := Int.eq_ofNat_of_zero_le hk.1
    rw [Int.toNat_natCast] at HE
    have HS := Lib.hid (HSZ.out k (by omega) w1 HB1.out)
    clear hv HSZ hk
    rw [HXL.out] at HE
    go_wp2_with fail
    refine HS.out.mono ?_
    rintro e w2 ⟨rfl, hb2⟩
    have HB2 := Lib.hid (below_then HB1.out hb2)
    clear hb2 HS HB1
    generalize szB k ts xn = z at *
    go_wp2
    go_ret2
    exact ⟨by rw [HE.out]; rfl, HB2.out⟩
end Bc
end Go.Proofs.YtpoilaappcjbeaaGreatDoor
end

section
namespace Go.Proofs.YtpoilaappcjbeaaGreatDoor
open Go.RowKit

def TClonePost (w : World) (len : Nat) (l : List Tok) (e : Ending) (w' : World) : Prop :=
  ∃ v, e = .returned v ∧ w'.ownsRow w.heap.size 59 2 v len (tks l) ∧ Below w.heap.size w w'
theorem tclone_any (a : Option Addr) (len cap : Nat) (l : List Tok) (w : World) (H : Ts2 w a len cap l) (hr : len ≤ 1000000000) :
    Calls Tryz.prog 49 #[.slice a len cap] w (TClonePost w len l) := by
  cases a with
  | none =>
    have hc := H.hnil rfl
    have hle := H.hle
    obtain rfl : cap = 0 := hc
    obtain rfl : len = 0 := by omega
    have hl : l = [] := List.eq_nil_of_length_eq_zero H.hlen
    subst hl
    clear H
    have hnil : ∀ w, (binOp .eql 23 (.slice none 0 0) (.slice none 0 0)).run Tryz.prog w = .ok (.bool true) w := fun w => Lib.run_eql_slice_nil w _ 59 none 0 0 0 0 Tryz.underlying23
    go_enter Tryz.func49, Tryz.ntmps49
    go_wp2
    go_ret
    exact ⟨_, rfl, World.ownsRow_nil _ _ _ _, Below.refl _ _⟩
  | some ad =>
    have own0 : Hid ((w.alloc (.cells #[] 59)).ownsRow w.heap.size 59 2 (.slice (some ⟨w.heap.size, 0, none⟩) 0 0) 0 (tks [])) := Lib.hid ⟨by simp [tks], .inr ⟨w.heap.size, 0, #[], rfl, Nat.le_refl _, heap_alloc_last w _, by omega, by unfold maxLen; omega, rfl, rfl⟩⟩
    have hsrc := (H.mono (below_alloc w (.cells #[] 59))).src
    have hle := H.hle
    clear H
    have hnil : ∀ w, (binOp .eql 23 (.slice (some ad) len cap) (.slice none 0 0)).run Tryz.prog w = .ok (.bool false) w := fun w => Lib.run_eql_slice_nil w _ 59 (some ad) len cap 0 0 Tryz.underlying23
    go_enter Tryz.func49, Tryz.ntmps49
    go_wp2_with (at_builtin; refine wpl_append tyT rfl _ _ rfl own0.out hsrc rfl rfl (by omega) (by omega) (by simp) ?_)
    intro v1 w1 own1 hg1 _
    have hb1 : Below w.heap.size w w1 := (below_alloc w _).grown hg1 (by simp) (fun k hk => (own0.out.lt k hk).1)
    have H1 := Lib.hid own1
    clear own1 hg1 hsrc own0
    go_wp2
    go_ret
    exact ⟨_, rfl, by simpa [tks] using H1.out, hb1⟩
end Go.Proofs.YtpoilaappcjbeaaGreatDoor
end

section
namespace Go.Proofs.YtpoilaappcjbeaaGreatDoor
open Go.RowKit

def ClonePost (w : World) (len : Nat) (l : List UInt8) (e : Ending) (w' : World) : Prop :=
  ∃ v, e = .returned v ∧ w'.ownsRow w.heap.size 5 1 v len (bvs l) ∧ Below w.heap.size w w'
theorem clone_any (a : Option Addr) (len cap : Nat) (l : List UInt8) (w : World) (H : Bs w a len cap l) (hr : len ≤ 140737488355328) :
    Calls Tryz.prog 39 #[.slice a len cap] w (ClonePost w len l) := by
  cases a with
  | none =>
    obtain ⟨rfl, rfl⟩ := H.nil0 rfl
    have hl : l = [] := List.eq_nil_of_length_eq_zero H.hlen
    subst hl
    clear H
    have hnil : ∀ w, (binOp .eql 22 (.slice none 0 0) (.slice none 0 0)).run Tryz.prog w = .ok (.bool true) w := fun w => Lib.run_eql_slice_nil w _ 5 none 0 0 0 0 Tryz.underlying22
    go_enter Tryz.func39, Tryz.ntmps39
    go_wp2
    go_ret
    exact ⟨_, rfl, World.ownsRow_nil _ _ _ _, Below.refl _ _⟩
  | some ad =>
    have own0 := Lib.hid (own_new w w.heap.size 5 #[] [] (Nat.le_refl _) (by simp) 0 rfl rfl)
    have hsrc := (H.mono (below_alloc w (.cells #[] 5))).src
    have hle := H.hcap
    clear H
    have hnil : ∀ w, (binOp .eql 22 (.slice (some ad) len cap) (.slice none 0 0)).run Tryz.prog w = .ok (.bool false) w := fun w => Lib.run_eql_slice_nil w _ 5 (some ad) len cap 0 0 Tryz.underlying22
    go_enter Tryz.func39, Tryz.ntmps39
    go_wp2_with (at_builtin; refine wpl_append tyB rfl _ _ rfl own0.out hsrc rfl rfl (by omega) (by omega) (by simp) ?_)
    intro v1 w1 own1 hg1 _
    have hb1 : Below w.heap.size w w1 := (below_alloc w _).grown hg1 (by simp) (fun k hk => (own0.out.lt k hk).1)
    have H1 := Lib.hid own1
    clear own1 hg1 hsrc own0
    go_wp2
    go_ret
    exact ⟨_, rfl, by simpa [bvs] using H1.out, hb1⟩

end Go.Proofs.YtpoilaappcjbeaaGreatDoor
end
