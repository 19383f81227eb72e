/- The order of chunks: the code's steps and the document's are the same. -/
import Derived.Test.YtbgaaocgdjkkeaaZ36
import Derived.Test.YtbgaaocgdjkkeaaZ39
set_option linter.unusedSimpArgs false
set_option linter.unusedVariables false
section
namespace Go.Proofs.Ytbgaaocgdjkkeaa
open Go.RowKit

namespace Hd
theorem inP_one (c nm : List UInt8) : inP [c] nm = decide (nm = c) := by
  unfold inP
  rw [Bool.eq_iff_iff]
  simp
theorem bef_one (L : List Ck.C) (k : Nat) (hk : k < L.length) (c : List UInt8) : bef L (k + 1) [c] = bef L k [c] + if (Ck.nth L k).1 = c then 1 else 0 := by
  rw [bef_succ L k hk, inP_one]
  simp
theorem bef_pos (L : List Ck.C) (n : Nat) (cs : List (List UInt8)) : 0 < bef L n cs ↔ ∃ c ∈ cs, 0 < bef L n [c] := by
  unfold bef
  simp only [List.countP_pos_iff]
  constructor
  · rintro ⟨a, ha, hb⟩
    have h1 : a.1 ∈ cs := by simpa [inP] using hb
    exact ⟨a.1, h1, a, ha, by rw [inP_one]; simp⟩
  · rintro ⟨c, hc, a, ha, hb⟩
    rw [inP_one] at hb
    have hb2 : a.1 = c := by simpa using hb
    exact ⟨a, ha, by unfold inP; simp [hb2, hc]⟩
theorem entR_snoc : ∀ (l : List Ck.C) (c : Ck.C), c.1 ≠ Nm.PL → entR (l ++ [c]) = entR l
  | [], c, h => by show (if c.1 = Nm.PL then _ else entR []) = _; rw [if_neg h]
  | a :: l, c, h => by
    rw [List.cons_append]
    show (if a.1 = Nm.PL then _ else entR (l ++ [c])) = (if a.1 = Nm.PL then _ else entR l)
    rw [entR_snoc l c h]
theorem none_before {L : List Ck.C} {n : Nat} {c : List UInt8} (h : bef L n [c] = 0) : ∀ a ∈ L.take n, a.1 ≠ c := by
  intro a ha e
  have h1 : 0 < bef L n [c] := by
    unfold bef
    rw [List.countP_pos_iff]
    exact ⟨a, ha, by rw [inP_one]; simp [e]⟩
  omega
/-- What is known behind i chunks, the head among them. -/
structure Iv (L : List Ck.C) (i : Nat) (s : St) : Prop where
  cnt : ∀ nm, nm ≠ Nm.IH → s.f nm = bef L i [nm]
  prev : 2 ≤ i → s.p = (Ck.nth L (i - 1)).1
  ent : s.e = entR (L.take i)
  hist : 0 < s.f Nm.HI → 0 < s.f Nm.PL
  head : 0 < bef L i [Nm.IH]
  one : 1 ≤ i
theorem kv_kr (l : List UInt8) (k : Nat) (h : 2 * k + 2 ≤ l.length) : kv l k = kr l k := by
  unfold kv kr
  have e : (l.drop (2 * k)).take 2 = [l.getD (2 * k) 0, l.getD (2 * k + 1) 0] := by
    apply List.ext_getElem
    · simp; omega
    · intro i h1 h2
      simp only [List.length_cons, List.length_nil] at h2
      rcases (show i = 0 ∨ i = 1 by omega) with rfl | rfl
      · simp [List.getD, List.getElem?_eq_getElem (show 2 * k < l.length by omega)]
      · simp [List.getD, List.getElem?_eq_getElem (show 2 * k + 1 < l.length by omega)]
  rw [e]
  simp [Pt.num, gb]
  omega
theorem key_eq (l : List UInt8) (c d : Nat) : (!decide (l.length = 2 * c) || keyR l c d) = !keyP l c d := by
  unfold keyP keyR pw
  by_cases h : l.length = 2 * c
  · rw [decide_eq_true h]
    simp only [Bool.not_true, Bool.false_or, Bool.true_and]
    rw [List.not_all_eq_any_not, Bool.eq_iff_iff]
    simp only [List.any_eq_true, List.mem_range, decide_eq_true_eq, Bool.not_eq_true', decide_eq_false_iff_not]
    constructor
    · rintro ⟨q, hq, h1⟩
      exact ⟨q, hq, by rw [kv_kr l q (by omega)]; omega⟩
    · rintro ⟨q, hq, h1⟩
      rw [kv_kr l q (by omega)] at h1
      exact ⟨q, hq, by omega⟩
  · rw [decide_eq_false h]; simp
theorem alpha_eq {x : H} (hg : bad x = 0) (L : List Ck.C) (i : Nat) (e : Nat) (he : e = entR (L.take i)) (d : List UInt8) : swTR x L i d = !alphaP x e d := by
  have hc := (good_c hg).1
  unfold swTR alphaP
  rcases hc with h | h | h | h | h
  · rw [if_neg (by omega), if_pos h, if_pos h]; exact key_eq d 1 _
  · rw [if_neg (by omega), if_neg (by omega), if_pos h, if_neg (by omega), if_pos h]; exact key_eq d 3 _
  · rw [if_pos h, if_neg (by omega), if_neg (by omega), if_pos h, ← he]
    by_cases h1 : d.length < 1
    · rw [decide_eq_true h1, show decide (0 < d.length) = false from decide_eq_false (by omega)]; rfl
    · rw [decide_eq_false h1, show decide (0 < d.length) = true from decide_eq_true (by omega)]
      by_cases h2 : e < d.length
      · rw [decide_eq_true h2, show decide (d.length ≤ e) = false by simp; omega]; rfl
      · rw [decide_eq_false h2, show decide (d.length ≤ e) = true by simp; omega]; rfl
  · rw [if_neg (by omega), if_neg (by omega), if_neg (by omega), if_neg (by omega), if_neg (by omega), if_neg (by omega)]; rfl
  · rw [if_neg (by omega), if_neg (by omega), if_neg (by omega), if_neg (by omega), if_neg (by omega), if_neg (by omega)]; rfl
theorem pal_eq {x : H} (hg : bad x = 0) (n : Nat) : ((!decide (n % 3 = 0) || decide (n / 3 < 1) || decide (256 < n / 3)) || (decide (x.c = 0) || decide (x.c = 4) || (decide (x.c = 3) && decide (pw x.d.toNat < n / 3)))) = !palP x n := by
  have hc := good_c hg
  have hpw : x.c = 3 → 2 ^ x.d.toNat ≤ 256 := by
    intro h
    have h3 := hc.2.2 h
    have h4 : x.d.toNat ≤ 8 := by omega
    exact Nat.le_trans (Nat.pow_le_pow_right (by omega) h4) (by decide)
  unfold palP pw
  generalize 2 ^ x.d.toNat = P at *
  by_cases h0 : x.c = 0 ∨ x.c = 4
  · rw [if_pos h0]
    rcases h0 with h0 | h0 <;> simp [h0]
  · rw [if_neg h0, show decide (x.c = 0) = false by simp; omega, show decide (x.c = 4) = false by simp; omega]
    by_cases h3 : x.c = 3
    · rw [if_pos h3, decide_eq_true h3, Bool.eq_iff_iff]
      have := hpw h3
      simp only [Bool.or_eq_true, Bool.not_eq_true', decide_eq_false_iff_not, decide_eq_true_eq, Bool.and_eq_true, Bool.and_eq_false_iff, Bool.false_or, Bool.true_and]
      omega
    · rw [if_neg h3, decide_eq_false h3, Bool.eq_iff_iff]
      simp only [Bool.or_eq_true, Bool.not_eq_true', decide_eq_false_iff_not, decide_eq_true_eq, Bool.and_eq_true, Bool.and_eq_false_iff, Bool.false_or, Bool.false_and, Bool.or_false, Bool.false_eq_true, or_false]
      omega
theorem nz_cons (f : List UInt8 → Nat) (a : List UInt8) (l : List (List UInt8)) : nz f (a :: l) = (decide (f a = 0) && nz f l) := by
  unfold nz
  rw [List.all_cons]
  rfl
theorem nz_nil (f : List UInt8 → Nat) : nz f [] = true := rfl
theorem bpos (L : List Ck.C) (n : Nat) (c : List UInt8) : decide (0 < bef L n [c]) = !decide (bef L n [c] = 0) := by
  by_cases h : bef L n [c] = 0
  · simp [h]
  · rw [decide_eq_false h, decide_eq_true (by omega : 0 < bef L n [c])]; rfl
set_option maxHeartbeats 2000000 in
/-- A chunk is wrong just where the code says so. -/
theorem wr_eq {x : H} (hg : bad x = 0) {L : List Ck.C} {i : Nat} {s : St} (hv : Iv L i s) (hi : i < L.length) (h0 : (Ck.nth L 0).1 = Nm.IH) (nm d : List UInt8) : wrR x L i nm d = (!fitsP s.f s.p nm || !holdsP x s.e nm d) := by
  have c1 := fun m hm => hv.cnt m hm
  unfold wrR swR
  by_cases n1 : nm = Nm.IH
  · subst n1
    have hh := hv.head
    rw [show inP A1 Nm.IH = true by decide, decide_eq_true hh]
    simp [fitsP]
  rw [bpos]
  generalize hb0 : bef L i [nm] = q at *
  by_cases n2 : nm = Nm.PL
  · subst n2
    have e1 := c1 Nm.PL (by decide); have e2 := c1 Nm.TR (by decide); have e3 := c1 Nm.BK (by decide); have e4 := c1 Nm.ID (by decide); have e5 := c1 Nm.HI (by decide)
    have hh := hv.hist
    have hp := pal_eq hg d.length
    have h4 : decide (0 < bef L i A4) = (decide (0 < s.f Nm.TR) || decide (0 < s.f Nm.BK) || decide (0 < s.f Nm.HI)) := by
      rw [Bool.eq_iff_iff]
      simp only [decide_eq_true_eq, Bool.or_eq_true]
      rw [bef_pos, e2, e3, e5]
      unfold A4
      simp [or_assoc]
    unfold swPL
    rw [show inP A1 Nm.PL = true by decide, show inP A2 Nm.PL = true by decide, show inP A3 Nm.PL = false by decide, if_pos rfl, h4, bpos, ← e4]
    rw [show fitsP s.f s.p Nm.PL = nz s.f [Nm.PL, Nm.TR, Nm.BK, Nm.ID] by unfold fitsP; rw [if_neg (by decide), if_pos rfl], show holdsP x s.e Nm.PL d = palP x d.length by unfold holdsP; rw [if_pos rfl], ← hp]
    simp only [nz_cons, nz_nil]
    have e6 : q = s.f Nm.PL := by rw [e1, hb0]
    rw [e6]
    generalize s.f Nm.PL = a at *
    generalize s.f Nm.TR = b at *
    generalize s.f Nm.BK = c at *
    generalize s.f Nm.ID = e at *
    generalize s.f Nm.HI = f at *
    generalize (decide (x.c = 0) || decide (x.c = 4) || (decide (x.c = 3) && decide (pw x.d.toNat < d.length / 3))) = X
    generalize (!decide (d.length % 3 = 0)) = Y1
    generalize decide (d.length / 3 < 1) = Y2
    generalize decide (256 < d.length / 3) = Y3
    clear hp h4 e1 e2 e3 e4 e5 e6 hb0 c1 hv
    by_cases a0 : a = 0
    · have f0 : f = 0 := by omega
      subst a0 f0
      by_cases b0 : b = 0 <;> by_cases c0 : c = 0 <;> by_cases e0 : e = 0 <;> simp [b0, c0, e0, Nat.pos_of_ne_zero, Bool.or_assoc]
    · simp [a0]
  have e1 := c1 Nm.PL (by decide); have e4 := c1 Nm.ID (by decide)
  by_cases n3 : nm = Nm.ID
  · subst n3
    rw [show inP A1 Nm.ID = false by decide, show inP A2 Nm.ID = false by decide, show inP A3 Nm.ID = false by decide, if_neg n2, if_pos rfl]
    rw [show fitsP s.f s.p Nm.ID = ((nz s.f [Nm.ID]) || s.p == Nm.ID) by unfold fitsP; rw [if_neg (by decide), if_neg (by decide), if_pos rfl], show holdsP x s.e Nm.ID d = true by unfold holdsP; rw [if_neg (by decide), if_neg (by decide)]]
    unfold swID
    simp only [nz_cons, nz_nil, e4, bpos, hb0]
    by_cases hq : q = 0
    · simp [hq]
    · have hi2 : 2 ≤ i := by
        by_cases h1 : i = 1
        · exfalso
          have h9 : bef L 1 [Nm.ID] = bef L 0 [Nm.ID] + if (Ck.nth L 0).1 = Nm.ID then 1 else 0 := bef_one L 0 (by omega) Nm.ID
          rw [h0, if_neg (by decide)] at h9
          subst h1
          have : bef L 0 [Nm.ID] = 0 := rfl
          omega
        · have := hv.one; omega
      rw [hv.prev hi2]
      simp [hq, Nat.pos_of_ne_zero hq]
  have sw0 : ∀ b : Bool, (nm = Nm.HI → b = decide (bef L i [Nm.PL] = 0)) → (nm = Nm.TR → b = swTR x L i d) → (nm ≠ Nm.HI → nm ≠ Nm.TR → b = false) → (if nm = Nm.PL then swPL x L i d else if nm = Nm.ID then swID L i else if nm = Nm.HI then decide (bef L i [Nm.PL] = 0) else if nm = Nm.TR then swTR x L i d else false) = b := by
    intro b b1 b2 b3
    rw [if_neg n2, if_neg n3]
    by_cases m1 : nm = Nm.HI
    · rw [if_pos m1, b1 m1]
    · rw [if_neg m1]
      by_cases m2 : nm = Nm.TR
      · rw [if_pos m2, b2 m2]
      · rw [if_neg m2, b3 m1 m2]
  by_cases n4 : nm = Nm.CH ∨ nm = Nm.GA ∨ nm = Nm.IC ∨ nm = Nm.SB ∨ nm = Nm.SR
  · have ha : inP A1 nm = true ∧ inP A2 nm = true ∧ inP A3 nm = true ∧ nm ≠ Nm.HI ∧ nm ≠ Nm.TR := by
      rcases n4 with rfl | rfl | rfl | rfl | rfl <;> decide
    obtain ⟨a1, a2, a3, a4, a5⟩ := ha
    rw [sw0 false (fun h => absurd h a4) (fun h => absurd h a5) (fun _ _ => rfl), a1, a2, a3]
    rw [show fitsP s.f s.p nm = nz s.f [nm, Nm.PL, Nm.ID] by unfold fitsP; rw [if_neg n1, if_neg n2, if_neg n3, if_pos n4], show holdsP x s.e nm d = true by unfold holdsP; rw [if_neg n2, if_neg a5]]
    simp only [nz_cons, nz_nil, c1 nm n1, e1, e4, bpos, hb0]
    by_cases hq : q = 0 <;> by_cases b0 : bef L i [Nm.PL] = 0 <;> by_cases e0 : bef L i [Nm.ID] = 0 <;> simp [hq, b0, e0]
  by_cases n5 : nm = Nm.HI
  · subst n5
    rw [sw0 _ (fun _ => rfl) (fun h => absurd h (by decide)) (fun h => absurd rfl h), show inP A1 Nm.HI = true by decide, show inP A2 Nm.HI = true by decide, show inP A3 Nm.HI = false by decide]
    rw [show fitsP s.f s.p Nm.HI = ((!(nz s.f [Nm.PL])) && (nz s.f [Nm.HI, Nm.ID])) by unfold fitsP; rw [if_neg n1, if_neg n2, if_neg n3, if_neg n4, if_pos rfl], show holdsP x s.e Nm.HI d = true by unfold holdsP; rw [if_neg n2, if_neg (by decide)]]
    simp only [nz_cons, nz_nil, c1 Nm.HI n1, e1, e4, bpos, hb0]
    by_cases hq : q = 0 <;> by_cases b0 : bef L i [Nm.PL] = 0 <;> by_cases e0 : bef L i [Nm.ID] = 0 <;> simp [hq, b0, e0]
  by_cases n6 : nm = Nm.TR
  · subst n6
    rw [sw0 _ (fun h => absurd h (by decide)) (fun _ => rfl) (fun _ h => absurd rfl h), show inP A1 Nm.TR = true by decide, show inP A2 Nm.TR = true by decide, show inP A3 Nm.TR = false by decide]
    rw [show fitsP s.f s.p Nm.TR = nz s.f [Nm.TR, Nm.ID] by unfold fitsP; rw [if_neg n1, if_neg n2, if_neg n3, if_neg n4, if_neg n5, if_pos (.inl rfl)], show holdsP x s.e Nm.TR d = alphaP x s.e d by unfold holdsP; rw [if_neg n2, if_pos rfl], alpha_eq hg L i s.e hv.ent d]
    simp only [nz_cons, nz_nil, c1 Nm.TR n1, e1, e4, bpos, hb0]
    by_cases hq : q = 0 <;> by_cases e0 : bef L i [Nm.ID] = 0 <;> simp [hq, e0]
  have hh0 : holdsP x s.e nm d = true := by unfold holdsP; rw [if_neg n2, if_neg n6]
  rw [sw0 false (fun h => absurd h n5) (fun h => absurd h n6) (fun _ _ => rfl), hh0]
  by_cases n7 : nm = Nm.BK ∨ nm = Nm.PH
  · have ha : inP A1 nm = true ∧ inP A2 nm = true ∧ inP A3 nm = false := by
      rcases n7 with rfl | rfl <;> decide
    obtain ⟨a1, a2, a3⟩ := ha
    rw [a1, a2, a3, show fitsP s.f s.p nm = nz s.f [nm, Nm.ID] by unfold fitsP; rw [if_neg n1, if_neg n2, if_neg n3, if_neg n4, if_neg n5, if_pos (.inr n7)]]
    simp only [nz_cons, nz_nil, c1 nm n1, e4, bpos, hb0]
    by_cases hq : q = 0 <;> by_cases e0 : bef L i [Nm.ID] = 0 <;> simp [hq, e0]
  have n8 : ¬ (nm = Nm.TR ∨ nm = Nm.BK ∨ nm = Nm.PH) := fun h => h.elim n6 n7
  by_cases n9 : nm = Nm.SP
  · subst n9
    rw [show inP A1 Nm.SP = false by decide, show inP A2 Nm.SP = true by decide, show inP A3 Nm.SP = false by decide, show fitsP s.f s.p Nm.SP = nz s.f [Nm.ID] by unfold fitsP; rw [if_neg n1, if_neg n2, if_neg n3, if_neg n4, if_neg n5, if_neg n8, if_pos rfl]]
    simp only [nz_cons, nz_nil, e4, bpos]
    by_cases e0 : bef L i [Nm.ID] = 0 <;> simp [e0]
  by_cases n10 : nm = Nm.TI
  · subst n10
    rw [show inP A1 Nm.TI = true by decide, show inP A2 Nm.TI = false by decide, show inP A3 Nm.TI = false by decide, show fitsP s.f s.p Nm.TI = nz s.f [Nm.TI] by unfold fitsP; rw [if_neg n1, if_neg n2, if_neg n3, if_neg n4, if_neg n5, if_neg n8, if_neg n9, if_pos rfl]]
    simp only [nz_cons, nz_nil, c1 Nm.TI n1, hb0]
    by_cases hq : q = 0 <;> simp [hq]
  have k1 : inP A1 nm = false ∧ inP A2 nm = false ∧ inP A3 nm = false := by
    simp only [not_or] at n4 n7
    obtain ⟨m1, m2, m3, m4, m5⟩ := n4
    obtain ⟨m6, m7⟩ := n7
    unfold inP A1 A2 A3
    refine ⟨?_, ?_, ?_⟩ <;> simp [*]
  obtain ⟨a1, a2, a3⟩ := k1
  rw [a1, a2, a3, show fitsP s.f s.p nm = true by unfold fitsP; rw [if_neg n1, if_neg n2, if_neg n3, if_neg n4, if_neg n5, if_neg n8, if_neg n9, if_neg n10]]
  rfl
/-- One chunk more, by the document. -/
def adR (x : H) (L : List Ck.C) (i : Nat) (nm d : List UInt8) : Nat := if !Ck.small (nm.getD 0 0) && !inP [Nm.IH, Nm.PL, Nm.ID, Nm.IE] nm then 3 else if wrR x L i nm d then 2 else 0
def goR (x : H) (L : List Ck.C) : Nat → Nat → Nat × H
  | 0, _ => if bef L L.length [Nm.ID] = 0 ∨ (x.c = 3 ∧ bef L L.length [Nm.PL] = 0) then (2, zero) else (0, x)
  | m + 1, k => if adR x L (k + 1) (Ck.nth L (k + 1)).1 (Ck.nth L (k + 1)).2 ≠ 0 then (adR x L (k + 1) (Ck.nth L (k + 1)).1 (Ck.nth L (k + 1)).2, zero) else goR x L m (k + 1)
def ordR (L : List Ck.C) : Nat × H :=
  if Ck.good L = false then (6, zero)
  else if (Ck.nth L 0).1 ≠ Nm.IH then (2, zero)
  else if (take (Ck.nth L 0).2).1 ≠ 0 then ((take (Ck.nth L 0).2).1, zero)
  else goR (take (Ck.nth L 0).2).2 L (L.length - 1) 0
theorem ad_eq {x : H} (hg : bad x = 0) {L : List Ck.C} {i : Nat} {s : St} (hv : Iv L i s) (hi : i < L.length) (hgd : Ck.good L = true) (h0 : (Ck.nth L 0).1 = Nm.IH) (d : List UInt8) : adR x L i (Ck.nth L i).1 d = addP x s.f s.p s.e (Ck.nth L i).1 d := by
  have hnm : Ck.named (Ck.nth L i).1 = true := by
    have := (Ck.good_all hgd).2 i hi
    unfold Ck.okAt at this
    simp only [Bool.and_eq_true] at this
    exact this.1.1
  unfold adR addP crP
  rw [wr_eq hg hv hi h0, hnm, Bool.true_and]
  have hk : inP [Nm.IH, Nm.PL, Nm.ID, Nm.IE] (Ck.nth L i).1 = knownP (Ck.nth L i).1 := by
    unfold inP knownP
    rw [Bool.eq_iff_iff]
    simp [or_assoc]
  rw [hk]
theorem iv_one {L : List Ck.C} (hl : 0 < L.length) (h0 : (Ck.nth L 0).1 = Nm.IH) : Iv L 1 (stN L 0) := by
  have h1 : ∀ c, bef L 1 [c] = if Nm.IH = c then 1 else 0 := fun c => by
    have h9 : bef L 1 [c] = bef L 0 [c] + if (Ck.nth L 0).1 = c then 1 else 0 := bef_one L 0 hl c
    have h2 : bef L 0 [c] = 0 := rfl
    rw [h9, h2, h0, Nat.zero_add]
  refine ⟨fun nm hn => ?_, fun h => by omega, ?_, fun h => ?_, ?_, Nat.le_refl _⟩
  · rw [h1, if_neg (fun e => hn e.symm)]; rfl
  · have : L.take 1 = [Ck.nth L 0] := by have := Ck.take_succ L 0 hl; simpa using this
    rw [this]
    show 0 = if (Ck.nth L 0).1 = Nm.PL then _ else entR []
    rw [h0, if_neg (by decide)]; rfl
  · exact absurd h (by show ¬ 0 < 0; omega)
  · rw [h1, if_pos rfl]; omega
theorem iv_next {x : H} {L : List Ck.C} {k : Nat} (hv : Iv L (k + 1) (stN L k)) (hk : k + 1 < L.length) (hp : ePr x L k = 0) : Iv L (k + 2) (stN L (k + 1)) := by
  have hstep : stN L (k + 1) = ⟨bmp (stN L k).f (Ck.nth L (k + 1)).1, (Ck.nth L (k + 1)).1, entP (stN L k).e (Ck.nth L (k + 1)).1 (Ck.nth L (k + 1)).2⟩ := rfl
  have hf : fitsP (stN L k).f (stN L k).p (Ck.nth L (k + 1)).1 = true := by
    unfold ePr addP at hp
    split at hp
    · omega
    · split at hp
      · omega
      · rename_i h1 h2
        simp only [Bool.or_eq_true, Bool.not_eq_true', not_or] at h2
        simpa using h2.1
  rw [hstep]
  generalize hs : stN L k = s at *
  have htk := Ck.take_succ L (k + 1) hk
  have hbf := fun c => bef_one L (k + 1) hk c
  rcases hcn : Ck.nth L (k + 1) with ⟨cn, cd⟩
  rw [hcn] at hf htk hbf
  simp only at hf hbf ⊢
  refine ⟨fun nm hn => ?_, fun _ => ?_, ?_, fun h => ?_, ?_, by omega⟩
  · show bmp s.f cn nm = bef L (k + 2) [nm]
    rw [hbf nm]
    unfold bmp
    by_cases e : nm = cn
    · subst e; rw [if_pos rfl, if_pos rfl, hv.cnt nm hn]
    · rw [if_neg e, if_neg (fun h => e h.symm), hv.cnt nm hn]; rfl
  · show cn = (Ck.nth L (k + 2 - 1)).1
    rw [show k + 2 - 1 = k + 1 by omega, hcn]
  · show entP s.e cn cd = entR (L.take (k + 2))
    rw [htk]
    unfold entP
    by_cases e : cn = Nm.PL
    · subst e
      rw [if_pos rfl]
      have h1 : s.f Nm.PL = 0 := by
        unfold fitsP at hf
        rw [if_neg (by decide), if_pos rfl] at hf
        simp only [nz_cons, Bool.and_eq_true, decide_eq_true_eq] at hf
        exact hf.1
      rw [hv.cnt _ (by decide)] at h1
      rw [entR_app _ _ (none_before h1)]
      show _ = if Nm.PL = Nm.PL then _ else _
      rw [if_pos rfl]
    · rw [if_neg e, entR_snoc _ _ e, hv.ent]
  · show 0 < bmp s.f cn Nm.PL
    have h' : 0 < bmp s.f cn Nm.HI := h
    unfold bmp at h' ⊢
    by_cases e : Nm.HI = cn
    · have h1 : 0 < s.f Nm.PL := by
        rw [← e] at hf
        unfold fitsP at hf
        rw [if_neg (by decide), if_neg (by decide), if_neg (by decide), if_neg (by decide), if_pos rfl] at hf
        simp only [nz_cons, nz_nil, Bool.and_eq_true, Bool.not_eq_true', Bool.and_true, decide_eq_false_iff_not] at hf
        omega
      split <;> omega
    · rw [if_neg e] at h'
      have := hv.hist h'
      split <;> omega
  · rw [hbf]
    have := hv.head
    omega
theorem go_eq {x : H} (hg : bad x = 0) {L : List Ck.C} (hgd : Ck.good L = true) (h0 : (Ck.nth L 0).1 = Nm.IH) : ∀ m k, k + 1 + m = L.length → Iv L (k + 1) (stN L k) → goP x L m k = goR x L m k
  | 0, k, hm, hv => by
    unfold goP goR compP
    have e1 := hv.cnt Nm.ID (by decide)
    have e2 := hv.cnt Nm.PL (by decide)
    rw [show k + 1 = L.length by omega] at e1 e2
    simp only [nz_cons, nz_nil, Bool.and_true, e1, e2]
    by_cases q1 : bef L L.length [Nm.ID] = 0
    · simp [q1]
    · by_cases q2 : x.c = 3
      · by_cases q3 : bef L L.length [Nm.PL] = 0
        · simp [q1, q2, q3]
        · simp [q1, q2, q3]
      · simp [q1, q2]
  | m + 1, k, hm, hv => by
    have ha := ad_eq hg hv (by omega) hgd h0 (Ck.nth L (k + 1)).2
    unfold goP goR
    rw [ha]
    have e : ePr x L k = addP x (stN L k).f (stN L k).p (stN L k).e (Ck.nth L (k + 1)).1 (Ck.nth L (k + 1)).2 := rfl
    rw [← e]
    by_cases hp : ePr x L k = 0
    · rw [if_neg (by omega), if_neg (by omega), go_eq hg hgd h0 m (k + 1) (by omega) (iv_next hv (by omega) hp)]
    · rw [if_pos hp, if_pos hp]
/-- The code's order is the document's. -/
theorem ord_eq (L : List Ck.C) : ord L = ordR L := by
  unfold ord ordR
  cases hgd : Ck.good L
  · rfl
  · have htf : ¬ (true = false) := by simp
    rw [if_neg htf, if_neg htf]
    by_cases h0 : (Ck.nth L 0).1 ≠ Nm.IH
    · rw [if_pos h0, if_pos h0]
    · rw [if_neg h0, if_neg h0]
      have h0' : (Ck.nth L 0).1 = Nm.IH := Classical.not_not.1 h0
      by_cases ht : (take (Ck.nth L 0).2).1 ≠ 0
      · rw [if_pos ht, if_pos ht]
      · rw [if_neg ht, if_neg ht]
        have hl := (Ck.good_all hgd).1
        have ht' : (take (Ck.nth L 0).2).1 = 0 := by omega
        refine go_eq (take_back (l := (Ck.nth L 0).2) (x := (take (Ck.nth L 0).2).2) ?_).1 hgd h0' _ 0 (by omega) (iv_one hl h0')
        exact Prod.ext ht' rfl
end Hd
end Go.Proofs.Ytbgaaocgdjkkeaa
end
