/- bytes.Equal: its contract. block's tokens and a text: agrees, standFor, isValid. block.standFor, isValid: their contracts. -/
import Derived.Test.YtjjbgdmalefdlaaGreatDoorZ9
import Derived.Test.YtjjbgdmalefdlaaGreatDoorZ12
import Derived.Test.YtjjbgdmalefdlaaGreatDoorProg
import Derived.BigQuiet
import Derived.Deep.RegionHeld3
import Derived.Deep.QuietTactic
set_option linter.unusedSimpArgs false
set_option linter.unusedVariables false
section
namespace Go.Proofs.YtjjbgdmalefdlaaGreatDoor
open Go.RowKit

theorem equal_any (a b : Option Addr) (len cap len' cap' : Nat) (l m : List UInt8) (w : World) (h : Bs w a len cap l) (h' : Bs w b len' cap' m) :
    Calls Tryz.prog 100 #[.slice a len cap, .slice b len' cap'] w fun e w' => e = .returned (.bool (l == m)) ∧ w = w' := by
  have c1 := conv_bs (P := Tryz.prog) h 22 9 5 Tryz.underlying22 Tryz.underlying5 Tryz.underlying9
  have c2 := conv_bs (P := Tryz.prog) h' 22 9 5 Tryz.underlying22 Tryz.underlying5 Tryz.underlying9
  clear h h'
  have HE : Hid (((str l).toList == (str m).toList) = (l == m)) := Lib.hid (by rw [str_list, str_list])
  go_enter Tryz.func100, Tryz.ntmps100
  go_wp2
  go_ret
  exact ⟨by show Ending.returned (.bool ((str l).toList == (str m).toList)) = _; rw [HE.out], rfl⟩
end Go.Proofs.YtjjbgdmalefdlaaGreatDoor
end

section
namespace Go.Proofs.YtjjbgdmalefdlaaGreatDoor
open Go.RowKit

namespace Bc
/-- Does a token stand for n bytes of a text from a place on? -/
def agB (tx : List UInt8) (t : Tok) (at' n : Nat) : Bool :=
  if t.1 = 0 then decide ((gb tx at' : Int) = t.2) else decide (∀ k, k < n → t.2.toNat ≤ at' + k → gb tx (at' + k) = gb tx (at' + k - t.2.toNat))
/-- Do tokens stand for a text from a place on? -/
def fit (tx : List UInt8) : List Tok → Nat → Bool
  | [], a => decide (a = tx.length)
  | t :: ts, a => Tk.isTok t && (decide (a + Tk.size t ≤ tx.length) && (agB tx t a (Tk.size t) && fit tx ts (a + Tk.size t)))
theorem gb_ext {l m : List UInt8} (h : l.length = m.length) (h2 : ∀ i, i < l.length → gb l i = gb m i) : l = m := by
  apply List.ext_getElem h
  intro i h1 h3
  have := h2 i h1
  unfold gb at this
  rw [List.getD, List.getD, List.getElem?_eq_getElem h1, List.getElem?_eq_getElem h3] at this
  exact UInt8.toNat_inj.1 this
theorem gb_cut (l : List UInt8) (s n i : Nat) (hi : i < n) : gb ((l.drop s).take n) i = gb l (s + i) := by
  simp [gb, List.getD, List.getElem?_take, hi, List.getElem?_drop]
/-- Two pieces of a text are the same. -/
theorem cut_eq (tx : List UInt8) (f d n : Nat) (hd : d ≤ f) (hl : f + n ≤ tx.length) : (((tx.drop f).take n) == ((tx.drop (f - d)).take n)) = decide (∀ k, k < n → gb tx (f + k) = gb tx (f + k - d)) := by
  by_cases h : ∀ k, k < n → gb tx (f + k) = gb tx (f + k - d)
  · rw [decide_eq_true h]
    apply beq_of_eq
    refine gb_ext (by simp; omega) (fun i hi => ?_)
    have hi2 : i < n := by simp at hi; omega
    rw [gb_cut _ _ _ _ hi2, gb_cut _ _ _ _ hi2, h i hi2]
    congr 1; omega
  · rw [decide_eq_false h]
    apply beq_false_of_ne
    intro e
    apply h
    intro k hk
    have : gb ((tx.drop f).take n) k = gb ((tx.drop (f - d)).take n) k := by rw [e]
    rw [gb_cut _ _ _ _ hk, gb_cut _ _ _ _ hk] at this
    rw [this]; congr 1; omega
end Bc
theorem Bs.mid {w : World} {b off len cap : Nat} {l : List UInt8} (h : Bs w (some ⟨b, off, none⟩) len cap l) (s n : Nat) (hs : s + n ≤ len) : Bs w (some ⟨b, off + s, none⟩) n (cap - s) ((l.drop s).take n) := by
  have h1 := h.hlen
  have h2 := h.hle
  have h3 := h.hcap
  have h4 := h.hmax
  refine ⟨by simp; omega, by omega, by omega, by omega, fun e => by simp at e, fun i hi => ?_⟩
  obtain ⟨b', off', e', hb', hc⟩ := h.at' (s + i) (by omega)
  simp only [Option.some.injEq, Addr.mk.injEq, and_true] at e'
  obtain ⟨rfl, rfl⟩ := e'
  refine ⟨b, off + s, rfl, hb', ?_⟩
  rw [Nat.add_assoc, hc, Bc.gb_cut _ _ _ _ hi]
set_option maxHeartbeats 2000000 in
theorem agrees_any (t : Tok) (a : Option Addr) (len cap : Nat) (tx : List UInt8) (at' n en : Nat) (w : World) (hw : Tk.isTok t = true) (h : Bs w a len cap tx) (hn : n = Tk.size t) (he : en = at' + n) (hl : en ≤ len) :
    Calls Tryz.prog 81 #[.agg #[.int .i64 t.1, .int .i64 t.2], .slice a len cap, .int .i64 (at' : Nat), .int .i64 (en : Nat)] w fun e w' => e = .returned (.bool (Bc.agB tx t at' n)) ∧ Below w.heap.size w w' := by
  obtain ⟨x, y⟩ := t
  have htr := Tk.tok_range hw
  simp only at htr
  have hcap := h.hcap
  have hle := h.hle
  have hn1 : 1 ≤ n := by
    subst hn; unfold Tk.size; simp only; split <;> omega
  have HB := Lib.hid (below_alloc w (.cells #[.int .i64 x, .int .i64 y] 59))
  have HBn : Hid (∀ n, Below w.heap.size w ((w.alloc (.cells #[.int .i64 x, .int .i64 y] 59)).drewN n)) := Lib.hid (fun n => below_then HB.out (drewN_is _ n))
  have hrow : (w.alloc (.cells #[.int .i64 x, .int .i64 y] 59)).heap[w.heap.size]? = some (.cells #[.int .i64 x, .int .i64 y] 59 (0, 0)) := heap_alloc_last w _
  have c0 : (w.alloc (.cells #[.int .i64 x, .int .i64 y] 59)).cell? ⟨w.heap.size, 0, none⟩ = some (.int .i64 x) := by rw [cell_of_row _ _ _ _ _ (0, 0) hrow]; rfl
  have c1 : (w.alloc (.cells #[.int .i64 x, .int .i64 y] 59)).cell? ⟨w.heap.size, 1, none⟩ = some (.int .i64 y) := by rw [cell_of_row _ _ _ _ _ (0, 0) hrow]; rfl
  have H := Lib.hid (h.mono HB.out)
  have HLN := Lib.hid h.hlen
  obtain ⟨b, off, rfl, hbl, e0⟩ := h.at' at' (by omega)
  clear h hrow
  by_cases h0 : x = 0
  · subst h0
    have e1 : (w.alloc (.cells #[.int .i64 0, .int .i64 y] 59)).cell? ⟨b, off + at', none⟩ = some (.int .u8 (gb tx at')) := (HB.out.cell (p := ⟨b, off + at', none⟩) hbl).trans e0
    have HE : Hid (Bc.agB tx (0, y) at' n = ((gb tx at' : Int) == y)) := Lib.hid (by
      unfold Bc.agB
      rw [if_pos rfl]
      by_cases h : (gb tx at' : Int) = y <;> simp [h])
    have hg := gb_lt tx at'
    have dl : at' < len := by omega
    clear hw hn htr e0 H HB he
    generalize gb tx at' = z at *
    go_enter Tryz.func81, Tryz.ntmps81
    go_wp2
    go_quiet (fail)
    go_wp2
    go_ret
    exact ⟨by rw [HE.out]; rfl, HBn.out _⟩
  · have d0 : (x == 0) = false := by simpa using h0
    have hy := htr.2.2.2.2.2 h0
    obtain ⟨d, rfl⟩ := Int.eq_ofNat_of_zero_le (show 0 ≤ y by omega)
    have HE : Hid (Bc.agB tx (x, (d : Int)) at' n = decide (∀ k, k < n → d ≤ at' + k → gb tx (at' + k) = gb tx (at' + k - d))) := Lib.hid (by
      unfold Bc.agB
      rw [if_neg h0]; rfl)
    have hen := Lib.hid he
    have hlo : at' < en := by omega
    clear hw hn h0 e0 hbl
    by_cases hge : en ≤ d
    · have HT : Hid (Bc.agB tx (x, (d : Int)) at' n = true) := Lib.hid (by
        rw [HE.out]
        apply decide_eq_true
        intro k hk hd
        omega)
      have dge : decide (en ≤ d) = true := decide_eq_true hge
      have hlt : at' < d := by omega
      clear HE hge he
      go_enter Tryz.func81, Tryz.ntmps81
      go_wp2
      go_quiet (fail)
      go_wp2
      go_ret
      exact ⟨by rw [HT.out]; rfl, HBn.out _⟩
    · have dge : decide (en ≤ d) = false := decide_eq_false hge
      obtain ⟨f, hf⟩ : ∃ f, f = max at' d := ⟨_, rfl⟩
      have hfd : d ≤ f := by omega
      have hfe : f < en := by omega
      have HQ : Hid (∀ N, Calls Tryz.prog 100 #[.slice (some ⟨b, off + f, none⟩) (en - f) (cap - f), .slice (some ⟨b, off + (f - d), none⟩) (en - f) (cap - (f - d))] ((w.alloc (.cells #[.int .i64 x, .int .i64 (d : Nat)] 59)).drewN N) fun e w' => e = .returned (.bool (Bc.agB tx (x, (d : Int)) at' n)) ∧ w' = (w.alloc (.cells #[.int .i64 x, .int .i64 (d : Nat)] 59)).drewN N) := Lib.hid (fun N => by
        have m1 := (H.out.mono (drewN_is _ N)).mid f (en - f) (by omega)
        have m2 := (H.out.mono (drewN_is _ N)).mid (f - d) (en - f) (by omega)
        refine (equal_any _ _ _ _ _ _ _ _ _ m1 m2).mono ?_
        rintro e w' ⟨rfl, rfl⟩
        refine ⟨?_, rfl⟩
        rw [Bc.cut_eq tx f d (en - f) hfd (by rw [HLN.out]; omega), HE.out]
        congr 2
        apply decide_eq_decide.2
        constructor
        · intro h k hk hd
          have e : at' + k = f + (at' + k - f) := by omega
          rw [e]
          exact h (at' + k - f) (by omega)
        · intro h k hk
          have e : f + k = at' + (f + k - at') := by omega
          rw [e]
          exact h (f + k - at') (by omega) (by omega))
      clear HE H htr hy dge
      have hcl : en ≤ cap := by omega
      have hcf : (cap = f) = False := by simp; omega
      by_cases hmx : at' < d
      · obtain rfl : f = d := by omega
        have dge : decide (en ≤ f) = false := decide_eq_false hge
        have w1 : IntKind.i64.wrap ((f : Int) - (f : Int)) = 0 := by rw [IntWalk.i64_in _ (by omega)]; omega
        have w2 : IntKind.i64.wrap ((en : Int) - (f : Int)) = ((en - f : Nat) : Int) := by rw [IntWalk.i64_in _ (by omega)]; omega
        have i1 : (f : Int) ≤ (en : Int) := by omega
        have i2 : (en : Int) ≤ (cap : Int) := by omega
        rw [Nat.sub_self] at HQ
        clear hge hf he hlo hfe hl hn1 hfd
        go_enter Tryz.func81, Tryz.ntmps81
        go_wp2
        go_quiet (first | (go_at_call 100; exact Calls.quiet_of_same (HQ.out _)))
        go_wp2
        go_ret
        exact ⟨rfl, HBn.out _⟩
      · obtain rfl : f = at' := by omega
        have dge : decide (en ≤ f) = false := decide_eq_false (by omega)
        have w1 : IntKind.i64.wrap ((f : Int) - (d : Int)) = ((f - d : Nat) : Int) := by rw [IntWalk.i64_in _ (by omega)]; omega
        have w2 : IntKind.i64.wrap ((en : Int) - (d : Int)) = ((en - d : Nat) : Int) := by rw [IntWalk.i64_in _ (by omega)]; omega
        have e3 : en - d - (f - d) = en - f := by omega
        have hcf2 : (cap = f - d) = False := by simp; omega
        have i1 : (f : Int) ≤ (en : Int) := by omega
        have i2 : (en : Int) ≤ (cap : Int) := by omega
        have i3 : ((f - d : Nat) : Int) ≤ ((en - d : Nat) : Int) := by omega
        have i4 : ((en - d : Nat) : Int) ≤ (cap : Int) := by omega
        clear hge hf he hlo hfe hl hn1
        go_enter Tryz.func81, Tryz.ntmps81
        go_wp2
        go_quiet (first | (go_at_call 100; exact Calls.quiet_of_same (HQ.out _)))
        go_wp2
        go_ret
        exact ⟨rfl, HBn.out _⟩
end Go.Proofs.YtjjbgdmalefdlaaGreatDoor
end

section
namespace Go.Proofs.YtjjbgdmalefdlaaGreatDoor
open Go.RowKit

namespace Bc
theorem fit_at {tx : List UInt8} {ts : List Tok} {k a : Nat} (hk : k < ts.length) : fit tx (ts.drop k) a = (Tk.isTok (ts.getD k (0, 0)) && (decide (a + Tk.size (ts.getD k (0, 0)) ≤ tx.length) && (agB tx (ts.getD k (0, 0)) a (Tk.size (ts.getD k (0, 0))) && fit tx (ts.drop (k + 1)) (a + Tk.size (ts.getD k (0, 0)))))) := by
  rw [List.drop_eq_getElem_cons hk]
  simp [List.getD, List.getElem?_eq_getElem hk, fit]
theorem fit_end {tx : List UInt8} {ts : List Tok} {k a : Nat} (hk : ts.length ≤ k) : fit tx (ts.drop k) a = decide (a = tx.length) := by
  rw [List.drop_eq_nil_of_le hk]; rfl
end Bc
set_option maxHeartbeats 4000000 in
set_option maxRecDepth 100000 in
theorem standFor_any (a : Option Addr) (len cap : Nat) (ts : List Tok) (b : Option Addr) (blen bcap : Nat) (tx : List UInt8) (w : World) (h : Ts2 w a len cap ts) (hb : Bs w b blen bcap tx) (hlen : len ≤ 1000000000) :
    Calls Tryz.prog 56 #[.slice a len cap, .slice b blen bcap] w fun e w' => e = .returned (.bool (Bc.fit tx ts 0)) ∧ Below w.heap.size w w' := by
  have H := Lib.hid h
  have H' := Lib.hid hb
  have HLN := Lib.hid h.hlen
  have HLB := Lib.hid hb.hlen
  have hcap := hb.hcap
  obtain ⟨R, hR⟩ : ∃ R, Bc.fit tx ts 0 = R := ⟨_, rfl⟩
  rw [hR]
  have HR := Lib.hid hR
  clear h hb hR
  go_enter Tryz.func56, Tryz.ntmps56
  go_wp2
  go_loopw [5, 11] (fun av iv wr => ∃ k q : Nat, k ≤ len ∧ q ≤ blen ∧ av = .int .i64 q ∧ iv = .int .i64 k ∧ Hid (Below w.heap.size w wr) ∧ Hid (Bc.fit tx (ts.drop k) q = R)) (fun _ iv _ => len - (intOf iv).toNat)
  case atStart => exact ⟨0, 0, by omega, by omega, rfl, rfl, Lib.hid (Below.refl _ _), Lib.hid (by rw [List.drop_zero]; exact HR.out)⟩
  case round =>
    obtain ⟨k, q, hk, hq, rfl, rfl, HB, HF⟩ := hrel
    clear HR
    by_cases hlt : k < len
    · obtain ⟨b1, off, rfl, _, t0, t1⟩ := (H.out.mono HB.out).at' k hlt
      have hwf := H.out.wf k hlt
      have hst := Bc.fit_at (tx := tx) (a := q) (show k < ts.length by rw [HLN.out]; exact hlt)
      rw [HF.out] at hst
      have HST := Lib.hid hst
      clear HF hst
      generalize ts.getD k (0, 0) = t at *
      obtain ⟨x, y⟩ := t
      simp only at t0 t1 hwf
      have HWF := Lib.hid hwf
      have hb5 := below_alloc wr (.cells #[.int .i64 x, .int .i64 y] 59)
      have HB5 := Lib.hid (below_then HB.out hb5)
      have hrow : (wr.alloc (.cells #[.int .i64 x, .int .i64 y] 59)).heap[wr.heap.size]? = some (.cells #[.int .i64 x, .int .i64 y] 59 (0, 0)) := heap_alloc_last wr _
      have hxw : -9223372036854775808 ≤ x ∧ x ≤ 9223372036854775807 := by simpa [Lit.wf, IntKind.min, IntKind.max, IntKind.signed, IntKind.bits] using hwf.1
      clear hwf hb5
      cases hc : Tk.isTok (x, y)
      · have HE : Hid (R = false) := Lib.hid (by rw [HST.out, hc, Bool.false_and])
        have HTK := Lib.hid hc
        clear HST hc H'
        by_cases hx1 : x < 1
        · have d1 : decide (x < 1) = true := decide_eq_true hx1
          go_wp2_with fail
          refine (isToken_any (x, y) _ HWF.out).mono ?_
          rintro e w6 ⟨rfl, hb6⟩
          rw [HTK.out]
          have HB6 := Lib.hid (below_then HB5.out hb6)
          clear hb6
          go_wp2
          go_ret
          exact ⟨by rw [HE.out]; rfl, HB6.out⟩
        · have d1 : decide (x < 1) = false := decide_eq_false hx1
          have hx2 : 1 ≤ x := by omega
          go_wp2_with fail
          refine (isToken_any (x, y) _ HWF.out).mono ?_
          rintro e w6 ⟨rfl, hb6⟩
          rw [HTK.out]
          have HB6 := Lib.hid (below_then HB5.out hb6)
          clear hb6
          go_wp2
          go_ret
          exact ⟨by rw [HE.out]; rfl, HB6.out⟩
      · have htr := Tk.tok_range hc
        simp only at htr
        by_cases h0 : x = 0
        · subst h0
          obtain ⟨en, hen⟩ : ∃ en : Nat, en = q + 1 := ⟨_, rfl⟩
          have hfold : (q : Int) + 1 = (en : Int) := by omega
          have HEN := Lib.hid hen
          have HTK := Lib.hid hc
          clear hc hen
          go_wp2_with fail
          refine (isToken_any (0, y) _ HWF.out).mono ?_
          rintro e w6 ⟨rfl, hb6⟩
          rw [HTK.out]
          have HB6 := Lib.hid (below_then HB5.out hb6)
          have hrow6 := (hb6.block wr.heap.size (by simp)).trans hrow
          have y0 : w6.cell? ⟨wr.heap.size, 0, none⟩ = some (.int .i64 (0)) := by rw [cell_of_row _ _ _ _ _ (0, 0) hrow6]; rfl
          have y1 : w6.cell? ⟨wr.heap.size, 1, none⟩ = some (.int .i64 y) := by rw [cell_of_row _ _ _ _ _ (0, 0) hrow6]; rfl
          clear hb6 hrow hrow6 HB5 HB t0 t1
          by_cases hbig : blen < en
          · have HE : Hid (R = false) := Lib.hid (by rw [HST.out, decide_eq_false (by rw [HLB.out]; have := HEN.out; show ¬ (q + 1 ≤ blen); omega)]; simp)
            have dbig : decide (blen < en) = true := decide_eq_true hbig
            clear hbig
            go_wp2
            go_ret
            exact ⟨by rw [HE.out]; rfl, HB6.out⟩
          · have dbig : decide (blen < en) = false := decide_eq_false hbig
            have HAG := Lib.hid (agrees_any (0, y) b blen bcap tx q (1) en w6 HTK.out (H'.out.mono HB6.out) (by rfl) HEN.out (by omega))
            have HS2 : Hid (R = (Bc.agB tx (0, y) q (1) && Bc.fit tx (ts.drop (k + 1)) en)) := Lib.hid (by
              rw [HST.out, HTK.out, decide_eq_true (show q + Tk.size (0, y) ≤ tx.length by rw [HLB.out]; have := HEN.out; show q + (1) ≤ blen; omega), Bool.true_and, Bool.true_and, HEN.out]; rfl)
            clear HST
            go_wp2_with fail
            refine HAG.out.mono ?_
            rintro e w7 ⟨rfl, hb7⟩
            have HB7 := Lib.hid (below_then HB6.out hb7)
            clear hb7 HAG
            cases hag : Bc.agB tx (0, y) q (1)
            · have HE : Hid (R = false) := Lib.hid (by rw [HS2.out, hag, Bool.false_and])
              clear hag
              go_wp2
              go_ret
              exact ⟨by rw [HE.out]; rfl, HB7.out⟩
            · have HE : Hid (Bc.fit tx (ts.drop (k + 1)) en = R) := Lib.hid (by rw [HS2.out, hag, Bool.true_and])
              clear hag
              go_wp2
              go_roundw
              case rel => exact ⟨k + 1, en, by omega, by omega, rfl, by go_num, HB7, HE⟩
              case measure => simp [intOf]; omega
        · obtain ⟨m, rfl⟩ := Int.eq_ofNat_of_zero_le htr.1
          have hm3 : 3 ≤ m := by have := (htr.2.2.2.2.2 h0).1; omega
          have hsz : Tk.size ((m : Int), y) = m := by unfold Tk.size; simp only; rw [if_neg h0]; rfl
          have HSZ := Lib.hid hsz
          have d1 : decide ((m : Int) < 1) = false := decide_eq_false (by omega)
          clear h0 hsz
          obtain ⟨en, hen⟩ : ∃ en : Nat, en = q + m := ⟨_, rfl⟩
          have hfold : (q : Int) + (m : Int) = (en : Int) := by omega
          have HEN := Lib.hid hen
          have HTK := Lib.hid hc
          clear hc hen
          go_wp2_with fail
          refine (isToken_any ((m : Int), y) _ HWF.out).mono ?_
          rintro e w6 ⟨rfl, hb6⟩
          rw [HTK.out]
          have HB6 := Lib.hid (below_then HB5.out hb6)
          have hrow6 := (hb6.block wr.heap.size (by simp)).trans hrow
          have y0 : w6.cell? ⟨wr.heap.size, 0, none⟩ = some (.int .i64 ((m : Int))) := by rw [cell_of_row _ _ _ _ _ (0, 0) hrow6]; rfl
          have y1 : w6.cell? ⟨wr.heap.size, 1, none⟩ = some (.int .i64 y) := by rw [cell_of_row _ _ _ _ _ (0, 0) hrow6]; rfl
          clear hb6 hrow hrow6 HB5 HB t0 t1
          by_cases hbig : blen < en
          · have HE : Hid (R = false) := Lib.hid (by rw [HST.out, decide_eq_false (by rw [HLB.out, HSZ.out]; have := HEN.out; omega)]; simp)
            have dbig : decide (blen < en) = true := decide_eq_true hbig
            clear hbig
            go_wp2
            go_ret
            exact ⟨by rw [HE.out]; rfl, HB6.out⟩
          · have dbig : decide (blen < en) = false := decide_eq_false hbig
            have HAG := Lib.hid (agrees_any ((m : Int), y) b blen bcap tx q (m) en w6 HTK.out (H'.out.mono HB6.out) HSZ.out.symm HEN.out (by omega))
            have HS2 : Hid (R = (Bc.agB tx ((m : Int), y) q (m) && Bc.fit tx (ts.drop (k + 1)) en)) := Lib.hid (by
              rw [HST.out, HTK.out, decide_eq_true (show q + Tk.size ((m : Int), y) ≤ tx.length by rw [HLB.out]; have := HEN.out; rw [HSZ.out]; omega), Bool.true_and, Bool.true_and, HSZ.out, HEN.out])
            clear HST
            go_wp2_with fail
            refine HAG.out.mono ?_
            rintro e w7 ⟨rfl, hb7⟩
            have HB7 := Lib.hid (below_then HB6.out hb7)
            clear hb7 HAG
            cases hag : Bc.agB tx ((m : Int), y) q (m)
            · have HE : Hid (R = false) := Lib.hid (by rw [HS2.out, hag, Bool.false_and])
              clear hag
              go_wp2
              go_ret
              exact ⟨by rw [HE.out]; rfl, HB7.out⟩
            · have HE : Hid (Bc.fit tx (ts.drop (k + 1)) en = R) := Lib.hid (by rw [HS2.out, hag, Bool.true_and])
              clear hag
              go_wp2
              go_roundw
              case rel => exact ⟨k + 1, en, by omega, by omega, rfl, by go_num, HB7, HE⟩
              case measure => simp [intOf]; omega
    · obtain rfl : len = k := by omega
      have HE : Hid (R = decide (q = blen)) := Lib.hid (by rw [← HF.out, Bc.fit_end (by rw [HLN.out]; exact Nat.le_refl _), HLB.out])
      by_cases hqe : q = blen
      · have HE2 : Hid (R = true) := Lib.hid (by rw [HE.out]; exact decide_eq_true hqe)
        have dq : ((q : Int) == (blen : Int)) = true := by simp; omega
        clear hqe HE
        go_wp2
        go_ret
        exact ⟨by rw [HE2.out]; rfl, HB.out⟩
      · have HE2 : Hid (R = false) := Lib.hid (by rw [HE.out]; exact decide_eq_false hqe)
        have dq : ((q : Int) == (blen : Int)) = false := by simp; omega
        clear hqe HE
        go_wp2
        go_ret
        exact ⟨by rw [HE2.out]; rfl, HB.out⟩
/-- Is a block valid? -/
def Bc.vB (kind : Int) (ts : List Tok) (tx : List UInt8) : Bool := (decide (kind = 0 ∧ tx.length ≤ 65535) || decide (kind = 1 ∨ kind = 2)) && Bc.fit tx ts 0
theorem isValid_any (kind : Int) (a : Option Addr) (len cap : Nat) (ts : List Tok) (b : Option Addr) (blen bcap : Nat) (tx : List UInt8) (w : World) (h : Ts2 w a len cap ts) (hb : Bs w b blen bcap tx) (hlen : len ≤ 1000000000) :
    Calls Tryz.prog 32 #[.agg #[.int .i64 kind, .slice a len cap, .slice b blen bcap]] w fun e w' => e = .returned (.bool (Bc.vB kind ts tx)) ∧ Below w.heap.size w w' := by
  have HB := Lib.hid (below_alloc w (.cells #[.int .i64 kind, .slice a len cap, .slice b blen bcap] 36))
  have hrow : (w.alloc (.cells #[.int .i64 kind, .slice a len cap, .slice b blen bcap] 36)).heap[w.heap.size]? = some (.cells #[.int .i64 kind, .slice a len cap, .slice b blen bcap] 36 (0, 0)) := heap_alloc_last w _
  have c0 : (w.alloc (.cells #[.int .i64 kind, .slice a len cap, .slice b blen bcap] 36)).cell? ⟨w.heap.size, 0, none⟩ = some (.int .i64 kind) := by rw [cell_of_row _ _ _ _ _ (0, 0) hrow]; rfl
  have c1 : (w.alloc (.cells #[.int .i64 kind, .slice a len cap, .slice b blen bcap] 36)).cell? ⟨w.heap.size, 1, none⟩ = some (.slice a len cap) := by rw [cell_of_row _ _ _ _ _ (0, 0) hrow]; rfl
  have c2 : (w.alloc (.cells #[.int .i64 kind, .slice a len cap, .slice b blen bcap] 36)).cell? ⟨w.heap.size, 2, none⟩ = some (.slice b blen bcap) := by rw [cell_of_row _ _ _ _ _ (0, 0) hrow]; rfl
  have HC := Lib.hid (standFor_any a len cap ts b blen bcap tx _ (h.mono HB.out) (hb.mono HB.out) hlen)
  have HLB := Lib.hid hb.hlen
  clear h hb hrow
  by_cases k0 : kind = 0
  · subst k0
    by_cases hx : blen ≤ 65535
    · have HE : Hid (Bc.vB 0 ts tx = Bc.fit tx ts 0) := Lib.hid (by unfold Bc.vB; rw [decide_eq_true (show (0 : Int) = 0 ∧ tx.length ≤ 65535 from ⟨rfl, by rw [HLB.out]; exact hx⟩)]; simp)
      have d1 : decide ((blen : Int) ≤ 65535) = true := decide_eq_true (by omega)
      have d2 : decide (blen ≤ 65535) = true := decide_eq_true hx
      clear hx
      go_enter Tryz.func32, Tryz.ntmps32
      go_wp2_with fail
      refine HC.out.mono ?_
      rintro e w1 ⟨rfl, hb1⟩
      have HB1 := Lib.hid (below_then HB.out hb1)
      clear hb1
      go_wp2
      go_ret
      exact ⟨by rw [HE.out]; rfl, HB1.out⟩
    · have HE : Hid (Bc.vB 0 ts tx = false) := Lib.hid (by unfold Bc.vB; rw [decide_eq_false (show ¬ ((0 : Int) = 0 ∧ tx.length ≤ 65535) from fun h => hx (by rw [← HLB.out]; exact h.2))]; simp)
      have d1 : decide ((blen : Int) ≤ 65535) = false := decide_eq_false (by omega)
      have d2 : decide (blen ≤ 65535) = false := decide_eq_false hx
      clear hx HC
      go_enter Tryz.func32, Tryz.ntmps32
      go_wp2
      go_ret
      exact ⟨by rw [HE.out]; rfl, HB.out⟩
  · have d0 : (kind == 0) = false := by simpa using k0
    by_cases k1 : kind = 1
    · subst k1
      have HE : Hid (Bc.vB 1 ts tx = Bc.fit tx ts 0) := Lib.hid (by unfold Bc.vB; simp)
      clear k0
      go_enter Tryz.func32, Tryz.ntmps32
      go_wp2_with fail
      refine HC.out.mono ?_
      rintro e w1 ⟨rfl, hb1⟩
      have HB1 := Lib.hid (below_then HB.out hb1)
      clear hb1
      go_wp2
      go_ret
      exact ⟨by rw [HE.out]; rfl, HB1.out⟩
    · have d1 : (kind == 1) = false := by simpa using k1
      by_cases k2 : kind = 2
      · subst k2
        have HE : Hid (Bc.vB 2 ts tx = Bc.fit tx ts 0) := Lib.hid (by unfold Bc.vB; simp)
        clear k0 k1
        go_enter Tryz.func32, Tryz.ntmps32
        go_wp2_with fail
        refine HC.out.mono ?_
        rintro e w1 ⟨rfl, hb1⟩
        have HB1 := Lib.hid (below_then HB.out hb1)
        clear hb1
        go_wp2
        go_ret
        exact ⟨by rw [HE.out]; rfl, HB1.out⟩
      · have d2 : (kind == 2) = false := by simpa using k2
        have HE : Hid (Bc.vB kind ts tx = false) := Lib.hid (by unfold Bc.vB; simp [k0, k1, k2])
        clear k0 k1 k2 HC
        go_enter Tryz.func32, Tryz.ntmps32
        go_wp2
        go_ret
        exact ⟨by rw [HE.out]; rfl, HB.out⟩
end Go.Proofs.YtjjbgdmalefdlaaGreatDoor
end
