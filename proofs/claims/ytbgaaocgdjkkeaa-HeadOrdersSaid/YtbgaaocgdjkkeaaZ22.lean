/- head.holdsPalette, holdsAlpha, holds, complete: their contracts. -/
import Derived.Test.YtbgaaocgdjkkeaaZ21
set_option linter.unusedSimpArgs false
set_option linter.unusedVariables false
section
namespace Go.Proofs.Ytbgaaocgdjkkeaa
open Go.RowKit

namespace Hd
def palP (x : H) (n : Nat) : Bool := if x.c = 0 ∨ x.c = 4 then false else decide (0 < n) && (decide (n % 3 = 0) && decide (n / 3 ≤ if x.c = 3 then 2 ^ x.d.toNat else 256))
def alphaP (x : H) (ent : Nat) (l : List UInt8) : Bool := if x.c = 0 then keyP l 1 x.d.toNat else if x.c = 2 then keyP l 3 x.d.toNat else if x.c = 3 then decide (0 < l.length) && decide (l.length ≤ ent) else false
def holdsP (x : H) (ent : Nat) (nm l : List UInt8) : Bool := if nm = Nm.PL then palP x l.length else if nm = Nm.TR then alphaP x ent l else true
def compP (x : H) (f : List UInt8 → Nat) : Bool := (!nz f [Nm.ID]) && (!decide (x.c = 3) || !nz f [Nm.PL])
theorem good_c {x : H} (h : bad x = 0) : (x.c = 0 ∨ x.c = 2 ∨ x.c = 3 ∨ x.c = 4 ∨ x.c = 6) ∧ (x.d = 1 ∨ x.d = 2 ∨ x.d = 4 ∨ x.d = 8 ∨ x.d = 16) ∧ (x.c = 3 → x.d ≠ 16) := by
  have hm := (good_all h).2.2.2.2.2.1
  obtain ⟨h1, h2, h3⟩ := dep_small hm
  refine ⟨h3, ?_⟩
  unfold deps at hm
  rcases h3 with e | e | e | e | e <;> rw [e] at hm <;> simp at hm <;> omega
set_option maxRecDepth 100000 in
set_option maxHeartbeats 4000000 in
theorem pal_any {w : World} {g mb n : Nat} {x : H} {f : List UInt8 → Nat} {prev : List UInt8} {ent : Nat} (h : Sq w g mb n x f prev ent) (hg : bad x = 0) (a : Option Addr) (len cap : Nat) (hlen : len ≤ 140737488355328) :
    Calls Try.prog 85 #[.pointer (some ⟨g, 0, none⟩), .slice a len cap] w fun e w' => e = .returned (.bool (palP x len)) ∧ w = w' := by
  obtain ⟨c2, c3, _, _, _⟩ := h.cells
  have hgc := good_c hg
  have HP : Hid (palP x len = if x.c = 0 ∨ x.c = 4 then false else decide (0 < len) && (decide (len % 3 = 0) && decide (len / 3 ≤ if x.c = 3 then 2 ^ x.d.toNat else 256))) := Lib.hid rfl
  clear h hg
  generalize palP x len = pp at *
  obtain ⟨xw, xh, xd, xc, xl⟩ := x
  simp only at c2 c3 hgc HP
  have tail : ∀ (mst : Nat), (∃ b0 b1 b2 : Bool, decide (0 < len) = b0 ∧ decide (len % 3 = 0) = b1 ∧ decide (len / 3 ≤ mst) = b2) := fun mst => ⟨_, _, _, rfl, rfl, rfl⟩
  by_cases h04 : xc = 0 ∨ xc = 4
  · have HR : Hid (pp = false) := Lib.hid (by rw [HP.out, if_pos h04])
    clear HP tail hgc
    rcases h04 with rfl | rfl
    all_goals
      go_enter Try.func85, Try.ntmps85
      go_wp2
      go_ret
      exact ⟨by rw [HR.out]; rfl, rfl⟩
  rw [if_neg h04] at HP
  obtain ⟨mst, hmst⟩ : ∃ mst, (if xc = 3 then 2 ^ xd.toNat else 256) = mst := ⟨_, rfl⟩
  rw [hmst] at HP
  have hms : (xc = 3 ∧ ((xd = 1 ∧ mst = 2) ∨ (xd = 2 ∧ mst = 4) ∨ (xd = 4 ∧ mst = 16) ∨ (xd = 8 ∧ mst = 256))) ∨ ((xc = 2 ∨ xc = 6) ∧ mst = 256) := by
    by_cases h3 : xc = 3
    · rw [if_pos h3] at hmst
      refine .inl ⟨h3, ?_⟩
      rcases hgc.2.1 with e | e | e | e | e <;> rw [e] at hmst <;> simp at hmst <;> first | omega | exact absurd e (hgc.2.2 h3)
    · rw [if_neg h3] at hmst
      refine .inr ⟨by omega, by omega⟩
  clear hgc hmst h04 tail
  by_cases h0 : 0 < len
  rotate_left
  · have d0 : decide (0 < len) = false := decide_eq_false h0
    have HR : Hid (pp = false) := Lib.hid (by rw [HP.out, d0]; rfl)
    clear HP h0
    rcases hms with ⟨rfl, ⟨rfl, _⟩ | ⟨rfl, _⟩ | ⟨rfl, _⟩ | ⟨rfl, _⟩⟩ | ⟨rfl | rfl, _⟩
    all_goals
      go_enter Try.func85, Try.ntmps85
      go_wp2
      go_ret
      exact ⟨by rw [HR.out]; rfl, rfl⟩
  have d0 : decide (0 < len) = true := decide_eq_true h0
  by_cases h1 : len % 3 = 0
  rotate_left
  · have d1 : decide (len % 3 = 0) = false := decide_eq_false h1
    have d2 : (((len : Int) % 3) == 0) = false := by simp; omega
    have HR : Hid (pp = false) := Lib.hid (by rw [HP.out, d0, d1]; rfl)
    clear HP h0 h1
    rcases hms with ⟨rfl, ⟨rfl, _⟩ | ⟨rfl, _⟩ | ⟨rfl, _⟩ | ⟨rfl, _⟩⟩ | ⟨rfl | rfl, _⟩
    all_goals
      go_enter Try.func85, Try.ntmps85
      go_wp2
      go_ret
      exact ⟨by rw [HR.out]; rfl, rfl⟩
  have d1 : decide (len % 3 = 0) = true := decide_eq_true h1
  have d2 : (((len : Int) % 3) == 0) = true := by simp; omega
  cases hb : decide (len / 3 ≤ mst) with
  | true =>
    have hbt := of_decide_eq_true hb
    have HR : Hid (pp = true) := Lib.hid (by rw [HP.out, d0, d1, hb]; rfl)
    clear HP h0 h1 hb
    rcases hms with ⟨rfl, ⟨rfl, rfl⟩ | ⟨rfl, rfl⟩ | ⟨rfl, rfl⟩ | ⟨rfl, rfl⟩⟩ | ⟨rfl | rfl, rfl⟩
    all_goals
      first
      | have d3 : decide ((len : Int) / 3 ≤ 2) = true := by simp; omega
      | have d3 : decide ((len : Int) / 3 ≤ 4) = true := by simp; omega
      | have d3 : decide ((len : Int) / 3 ≤ 16) = true := by simp; omega
      | have d3 : decide ((len : Int) / 3 ≤ 256) = true := by simp; omega
      clear hbt
      go_enter Try.func85, Try.ntmps85
      go_wp2
      go_ret
      exact ⟨by rw [HR.out]; rfl, rfl⟩
  | false =>
    have hbt := of_decide_eq_false hb
    have HR : Hid (pp = false) := Lib.hid (by rw [HP.out, d0, d1, hb]; rfl)
    clear HP h0 h1 hb
    rcases hms with ⟨rfl, ⟨rfl, rfl⟩ | ⟨rfl, rfl⟩ | ⟨rfl, rfl⟩ | ⟨rfl, rfl⟩⟩ | ⟨rfl | rfl, rfl⟩
    all_goals
      first
      | have d3 : decide ((len : Int) / 3 ≤ 256) = false := by simp; omega
      | have d3 : decide ((len : Int) / 3 ≤ 16) = false := by simp; omega
      | have d3 : decide ((len : Int) / 3 ≤ 4) = false := by simp; omega
      | have d3 : decide ((len : Int) / 3 ≤ 2) = false := by simp; omega
      clear hbt
      go_enter Try.func85, Try.ntmps85
      go_wp2
      go_ret
      exact ⟨by rw [HR.out]; rfl, rfl⟩
set_option maxRecDepth 100000 in
set_option maxHeartbeats 2000000 in
theorem alpha_any {w : World} {g mb n : Nat} {x : H} {f : List UInt8 → Nat} {prev : List UInt8} {ent : Nat} (h : Sq w g mb n x f prev ent) (hg : bad x = 0) (a : Option Addr) (len cap : Nat) (l : List UInt8) (hb : Bs w a len cap l) (hlen : len ≤ 140737488355328) :
    Calls Try.prog 86 #[.pointer (some ⟨g, 0, none⟩), .slice a len cap] w fun e w' => e = .returned (.bool (alphaP x ent l)) ∧ Below w.heap.size w w' := by
  obtain ⟨c2, c3, _, _, c7⟩ := h.cells
  have hgc := good_c hg
  have hlt := h.lt
  have hl := hb.hlen
  have HP : Hid (alphaP x ent l = if x.c = 0 then keyP l 1 x.d.toNat else if x.c = 2 then keyP l 3 x.d.toNat else if x.c = 3 then decide (0 < l.length) && decide (l.length ≤ ent) else false) := Lib.hid rfl
  have HB := Lib.hid hb
  clear h hg hb
  generalize alphaP x ent l = pp at *
  obtain ⟨xw, xh, xd, xc, xl⟩ := x
  simp only at c2 c3 hgc HP
  obtain ⟨dn, rfl⟩ := Int.eq_ofNat_of_zero_le (show 0 ≤ xd by omega)
  have HCH := Lib.hid (fun w => chan_any xc w)
  have HK : Hid (∀ c W (ci : Int), (c = 1 ∨ c = 3) → ci = ((c : Nat) : Int) → Below w.heap.size w W → Calls Try.prog 91 #[.slice a len cap, .int .i64 ci, .int .i64 (dn : Nat)] W fun e w' => e = .returned (.bool (keyP l c dn)) ∧ Below W.heap.size W w') := Lib.hid (fun c W ci hc hci hbw => hci ▸ key_any a len cap c dn l W (HB.out.mono hbw) hlen hc (by omega))
  have HC0 : Hid (chan 0 = ((1 : Nat) : Int)) := Lib.hid (by decide)
  have HC2 : Hid (chan 2 = ((3 : Nat) : Int)) := Lib.hid (by decide)
  have HD : Hid (Below w.heap.size w w.drew) := Lib.hid (Below.refl _ _).drew
  rcases hgc.1 with rfl | rfl | rfl | rfl | rfl
  · have HR : Hid (pp = keyP l 1 dn) := Lib.hid (by rw [HP.out]; rfl)
    clear HP hgc
    go_enter Try.func86, Try.ntmps86
    go_wp2_with fail
    go_region_held3 (fun w' => w'.cell? ⟨g, 2, none⟩ = some (.int .i64 (dn : Nat)) ∧ w'.cell? ⟨g, 3, none⟩ = some (.int .i64 0)) (first | (with_reducible exact ⟨c2, c3⟩) | (with_reducible exact ⟨e2, e3⟩) | go_keep)
      (first
        | (go_at_call 56; (with_reducible refine (HCH.out _).mono ?_); rintro e w' ⟨rfl, rfl⟩)
        | (go_at_call 91; (with_reducible refine (HK.out 1 _ _ (.inl rfl) HC0.out HD.out).mono ?_); rintro e w3 ⟨rfl, hb3⟩; have HB3 := Lib.hid (HD.out.trans hb3); have hq : g < w.drew.heap.size := hlt; have e2 := (hb3.cell (p := ⟨g, 2, none⟩) hq).trans c2; have e3 := (hb3.cell (p := ⟨g, 3, none⟩) hq).trans c3; clear hb3))
    go_wp2
    go_ret
    exact ⟨by rw [HR.out]; rfl, HB3.out⟩
  · have HR : Hid (pp = keyP l 3 dn) := Lib.hid (by rw [HP.out]; rfl)
    clear HP hgc
    go_enter Try.func86, Try.ntmps86
    go_wp2_with fail
    go_region_held3 (fun w' => w'.cell? ⟨g, 2, none⟩ = some (.int .i64 (dn : Nat)) ∧ w'.cell? ⟨g, 3, none⟩ = some (.int .i64 2)) (first | (with_reducible exact ⟨c2, c3⟩) | (with_reducible exact ⟨e2, e3⟩) | go_keep)
      (first
        | (go_at_call 56; (with_reducible refine (HCH.out _).mono ?_); rintro e w' ⟨rfl, rfl⟩)
        | (go_at_call 91; (with_reducible refine (HK.out 3 _ _ (.inr rfl) HC2.out HD.out).mono ?_); rintro e w3 ⟨rfl, hb3⟩; have HB3 := Lib.hid (HD.out.trans hb3); have hq : g < w.drew.heap.size := hlt; have e2 := (hb3.cell (p := ⟨g, 2, none⟩) hq).trans c2; have e3 := (hb3.cell (p := ⟨g, 3, none⟩) hq).trans c3; clear hb3))
    go_wp2
    go_ret
    exact ⟨by rw [HR.out]; rfl, HB3.out⟩
  · by_cases h0 : 0 < len
    rotate_left
    · have d0 : decide (0 < len) = false := decide_eq_false h0
      have HR : Hid (pp = false) := Lib.hid (by rw [HP.out, hl, d0]; rfl)
      clear HP hgc h0 hl
      go_enter Try.func86, Try.ntmps86
      go_wp2
      go_ret
      exact ⟨by rw [HR.out]; rfl, Below.refl _ _⟩
    have d0 : decide (0 < len) = true := decide_eq_true h0
    cases he : decide (len ≤ ent)
    all_goals
      have HR := Lib.hid (show pp = _ by rw [HP.out, hl, d0, he])
      clear HP hgc h0 hl
      go_enter Try.func86, Try.ntmps86
      go_wp2
      go_ret
      exact ⟨by rw [HR.out]; rfl, Below.refl _ _⟩
  · have HR : Hid (pp = false) := Lib.hid (by rw [HP.out]; rfl)
    clear HP hgc hl
    go_enter Try.func86, Try.ntmps86
    go_wp2
    go_ret
    exact ⟨by rw [HR.out]; rfl, Below.refl _ _⟩
  · have HR : Hid (pp = false) := Lib.hid (by rw [HP.out]; rfl)
    clear HP hgc hl
    go_enter Try.func86, Try.ntmps86
    go_wp2
    go_ret
    exact ⟨by rw [HR.out]; rfl, Below.refl _ _⟩
set_option maxRecDepth 100000 in
set_option maxHeartbeats 1000000 in
theorem holds_any {w : World} {g mb n : Nat} {x : H} {f : List UInt8 → Nat} {prev : List UInt8} {ent : Nat} (h : Sq w g mb n x f prev ent) (hg : bad x = 0) (nm : List UInt8) (a : Option Addr) (len cap : Nat) (l : List UInt8) (hb : Bs w a len cap l) (hlen : len ≤ 140737488355328) :
    Calls Try.prog 65 #[.pointer (some ⟨g, 0, none⟩), .agg #[.string (str nm), .slice a len cap]] w fun e w' => e = .returned (.bool (holdsP x ent nm l)) ∧ Below w.heap.size w w' := by
  have hl := hb.hlen
  have hbx := below_alloc w (.cells #[.string (str nm), .slice a len cap] 26)
  have hrow := heap_alloc_last w (.cells #[.string (str nm), .slice a len cap] 26)
  have c0 := (cell_of_row _ _ 0 _ _ (0, 0) hrow).trans rfl
  have c1 := (cell_of_row _ _ 1 _ _ (0, 0) hrow).trans rfl
  have HPA := Lib.hid (pal_any (h.below hbx) hg a len cap hlen)
  have HAL := Lib.hid (alpha_any (h.below hbx) hg a len cap l (hb.mono hbx) hlen)
  have HBX := Lib.hid hbx
  clear h hb hbx hrow
  by_cases hPL : nm = Nm.PL
  · have e1 : ((str nm).toList == [80, 76, 84, 69]) = true := str_is nm _ true (by rw [hPL]; decide)
    have HR : Hid (holdsP x ent nm l = palP x len) := Lib.hid (by unfold holdsP; rw [if_pos hPL, hl])
    clear hPL hl
    go_enter Try.func65, Try.ntmps65
    go_wp2_with fail
    refine HPA.out.mono ?_
    rintro e w' ⟨rfl, rfl⟩
    go_wp2
    go_ret
    exact ⟨by rw [HR.out]; rfl, HBX.out⟩
  have e1 : ((str nm).toList == [80, 76, 84, 69]) = false := str_is nm _ false (by simpa [Nm.PL] using hPL)
  by_cases hTR : nm = Nm.TR
  · have e2 : ((str nm).toList == [116, 82, 78, 83]) = true := str_is nm _ true (by rw [hTR]; decide)
    have HR : Hid (holdsP x ent nm l = alphaP x ent l) := Lib.hid (by unfold holdsP; rw [if_neg hPL, if_pos hTR])
    clear hPL hTR hl
    go_enter Try.func65, Try.ntmps65
    go_wp2_with fail
    refine HAL.out.mono ?_
    rintro e w2 ⟨rfl, hb2⟩
    have HB2 := Lib.hid (below_then HBX.out hb2)
    clear hb2
    go_wp2
    go_ret
    exact ⟨by rw [HR.out]; rfl, HB2.out⟩
  · have e2 : ((str nm).toList == [116, 82, 78, 83]) = false := str_is nm _ false (by simpa [Nm.TR] using hTR)
    have HR : Hid (holdsP x ent nm l = true) := Lib.hid (by unfold holdsP; rw [if_neg hPL, if_neg hTR])
    clear hPL hTR hl
    go_enter Try.func65, Try.ntmps65
    go_wp2
    go_ret
    exact ⟨by rw [HR.out]; rfl, HBX.out⟩
set_option maxRecDepth 100000 in
set_option maxHeartbeats 1000000 in
theorem comp_any {w : World} {g mb n : Nat} {x : H} {f : List UInt8 → Nat} {prev : List UInt8} {ent : Nat} (h : Sq w g mb n x f prev ent) :
    Calls Try.prog 37 #[.pointer (some ⟨g, 0, none⟩)] w fun e w' => e = .returned (.bool (compP x f)) ∧ Below w.heap.size w w' := by
  have hb1 := below_alloc w (.cells (sts [Nm.ID]) 9)
  have HN := Lib.hid (none_any (h.below hb1) [Nm.ID] w.heap.size 1 rfl (heap_alloc_last w _) (fun k hk => by
    obtain rfl : k = 0 := by omega
    decide) (by omega))
  have H1 := Lib.hid (h.below hb1)
  have HB1 := Lib.hid hb1
  have HC : Hid (compP x f = ((!nz f [Nm.ID]) && (!decide (x.c = 3) || !nz f [Nm.PL]))) := Lib.hid rfl
  clear hb1 h
  obtain ⟨_, c3, _, _, _⟩ := H1.out.cells
  generalize compP x f = cp at *
  generalize nz f [Nm.ID] = b1 at *
  have hs : (w.alloc (.cells (sts [Nm.ID]) 9)) = (w.alloc (.cells #[.string (str [73, 68, 65, 84])] 9)) := rfl
  obtain ⟨w1, hw1⟩ : ∃ w1, (w.alloc (.cells #[.string (str [73, 68, 65, 84])] 9)) = w1 := ⟨_, rfl⟩
  rw [hs, hw1] at HN H1 HB1 c3
  clear hs
  go_enter Try.func37, Try.ntmps37
  go_wp2_with fail
  refine (show Calls Try.prog 66 _ (w.alloc (.cells #[.string (str [73, 68, 65, 84])] 9)) _ from hw1 ▸ HN.out).mono ?_
  rintro e w' ⟨rfl, rfl⟩
  rw [hw1]
  clear hw1 HN
  cases b1 with
  | true =>
    have HR : Hid (cp = false) := Lib.hid (by rw [HC.out]; rfl)
    clear HC
    go_wp2
    go_ret
    exact ⟨by rw [HR.out]; rfl, HB1.out⟩
  | false =>
    by_cases h3 : x.c = 3
    rotate_left
    · have d3 : (x.c != 3) = true := by simpa using h3
      have HR : Hid (cp = true) := Lib.hid (by rw [HC.out, decide_eq_false h3]; rfl)
      clear HC h3
      go_wp2
      go_ret
      exact ⟨by rw [HR.out]; rfl, HB1.out⟩
    · have d3 : (x.c != 3) = false := by simpa using h3
      have HR : Hid (cp = !nz f [Nm.PL]) := Lib.hid (by rw [HC.out, decide_eq_true h3]; simp)
      clear HC h3
      have hb2 := below_alloc w1 (.cells (sts [Nm.PL]) 9)
      have HN2 := Lib.hid (none_any (H1.out.below hb2) [Nm.PL] w1.heap.size 1 rfl (heap_alloc_last w1 _) (fun k hk => by
        obtain rfl : k = 0 := by omega
        decide) (by omega))
      have HB2 := Lib.hid (HB1.out.trans (hb2.mono HB1.out.size))
      generalize nz f [Nm.PL] = b2 at *
      clear hb2
      go_wp2_with fail
      refine HN2.out.mono ?_
      rintro e w' ⟨rfl, rfl⟩
      go_wp2
      go_ret
      exact ⟨by rw [HR.out]; rfl, HB2.out⟩
end Hd
end Go.Proofs.Ytbgaaocgdjkkeaa
end
