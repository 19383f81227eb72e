/- block: symbols that occur have codes; a header of tokens can be written. block.Write of the kinds 1 and 2: its contract (made by tools/gen_bcwrite.py). NewWriter: its contract. bits: order.fill. -/
import Derived.Test.YtpoilaappcjbeaaGreatDoorZ28
set_option linter.unusedSimpArgs false
set_option linter.unusedVariables false
section
namespace Go.Proofs.YtpoilaappcjbeaaGreatDoor
open Go.RowKit

namespace Bc
theorem bmp_ge (l : List Int) (i j : Nat) : l.getD j 0 ≤ (Pa.bmp l i).getD j 0 := by
  unfold Pa.bmp
  by_cases e : i = j
  · subst e
    by_cases hl : i < l.length
    · have : (l.set i (l.getD i 0 + 1)).getD i 0 = l.getD i 0 + 1 := by simp [List.getD, hl]
      rw [this]; omega
    · have h1 : (l.set i (l.getD i 0 + 1)).getD i 0 = 0 := by simp [List.getD, List.getElem?_eq_none (by simpa using Nat.le_of_not_lt hl : (l.set i (l[i]?.getD 0 + 1)).length ≤ i)]
      have h2 : l.getD i 0 = 0 := by simp [List.getD, List.getElem?_eq_none (Nat.le_of_not_lt hl)]
      rw [h1, h2]
      exact Int.le_refl _
  · have : (l.set i (l.getD i 0 + 1)).getD j 0 = l.getD j 0 := by simp [List.getD, List.getElem?_set_ne e]
    rw [this]; exact Int.le_refl _
theorem bmp_at (l : List Int) (i : Nat) (hl : i < l.length) : (Pa.bmp l i).getD i 0 = l.getD i 0 + 1 := by
  unfold Pa.bmp
  simp [List.getD, hl]
theorem stC_ge (p : List Int × List Int) (t : Tok) (j : Nat) : p.1.getD j 0 ≤ (Pa.stC p t).1.getD j 0 ∧ p.2.getD j 0 ≤ (Pa.stC p t).2.getD j 0 := by
  unfold Pa.stC
  split
  · split
    · exact ⟨bmp_ge _ _ _, Int.le_refl _⟩
    · exact ⟨bmp_ge _ _ _, bmp_ge _ _ _⟩
  · exact ⟨Int.le_refl _, Int.le_refl _⟩
theorem cts_ge (ts : List Tok) (j k : Nat) : ∀ d, k + d ≤ ts.length → (Pa.cts ts k).1.getD j 0 ≤ (Pa.cts ts (k + d)).1.getD j 0 ∧ (Pa.cts ts k).2.getD j 0 ≤ (Pa.cts ts (k + d)).2.getD j 0
  | 0, _ => ⟨Int.le_refl _, Int.le_refl _⟩
  | d + 1, h => by
    have ih := cts_ge ts j k d (by omega)
    have h1 := stC_ge (Pa.cts ts (k + d)) (ts.getD (k + d) (0, 0)) j
    rw [← Nat.add_assoc, Pa.cts_next ts (k + d) (by omega)]
    exact ⟨Int.le_trans ih.1 h1.1, Int.le_trans ih.2 h1.2⟩
theorem cts_end (ts : List Tok) : 0 < (Pa.cts ts ts.length).1.getD 256 0 := by
  have h := (cts_ge ts 256 0 ts.length (by omega)).1
  rw [Nat.zero_add] at h
  have h0 : (Pa.cts ts 0).1.getD 256 0 = 1 := by
    show Pa.c0.1.getD 256 0 = 1
    decide +kernel
  omega
/-- A token whose symbols lie in their tables. -/
theorem top_of (f : Nat → Nat) (n : Nat) (h0 : f 0 ≤ n) : ∀ m, ∃ s, s ≤ m ∧ f s ≤ n ∧ (s < m → n < f (s + 1))
  | 0 => ⟨0, Nat.le_refl _, h0, fun h => absurd h (by omega)⟩
  | m + 1 => by
    by_cases hm : f (m + 1) ≤ n
    · exact ⟨m + 1, Nat.le_refl _, hm, fun h => absurd h (by omega)⟩
    · obtain ⟨s, h1, h2, h3⟩ := top_of f n h0 m
      refine ⟨s, by omega, h2, fun h => ?_⟩
      by_cases e : s = m
      · subst e; omega
      · exact h3 (by omega)
theorem lb_gap : ∀ s, s < 28 → (Sy.lb (s + 1)).1 ≤ (Sy.lb s).1 + 2 ^ (Sy.lb s).2 := by decide +kernel
theorem db_gap : ∀ s, s < 29 → (Sy.db (s + 1)).1 ≤ (Sy.db s).1 + 2 ^ (Sy.db s).2 := by decide +kernel
theorem lsy_in (n : Nat) (h : 3 ≤ n ∧ n ≤ 258) : Sy.lsy n ≤ 28 ∧ (Sy.lb (Sy.lsy n)).1 ≤ n ∧ n - (Sy.lb (Sy.lsy n)).1 < 2 ^ (Sy.lb (Sy.lsy n)).2 := by
  obtain ⟨s, h1, h2, h3⟩ := top_of (fun s => (Sy.lb s).1) n (by rw [show (Sy.lb 0).1 = 3 from by decide]; exact h.1) 28
  rw [Sy.lsy_of h1 h2 h3]
  refine ⟨h1, h2, ?_⟩
  by_cases e : s < 28
  · have := lb_gap s e
    have := h3 e
    omega
  · obtain rfl : s = 28 := by omega
    have e1 : (Sy.lb 28).1 = 258 := by decide
    have e2 : (Sy.lb 28).2 = 0 := by decide
    rw [e1, e2]
    omega
theorem dsy_in (n : Nat) (h : 1 ≤ n ∧ n ≤ 32768) : Sy.dsy n ≤ 29 ∧ (Sy.db (Sy.dsy n)).1 ≤ n ∧ n - (Sy.db (Sy.dsy n)).1 < 2 ^ (Sy.db (Sy.dsy n)).2 := by
  obtain ⟨s, h1, h2, h3⟩ := top_of (fun s => (Sy.db s).1) n (by rw [show (Sy.db 0).1 = 1 from by decide]; exact h.1) 29
  rw [Sy.dsy_of h1 h2 h3]
  refine ⟨h1, h2, ?_⟩
  by_cases e : s < 29
  · have := db_gap s e
    have := h3 e
    omega
  · obtain rfl : s = 29 := by omega
    have e1 : (Sy.db 29).1 = 24577 := by decide
    have e2 : (Sy.db 29).2 = 13 := by decide
    have e3 : (2 : Nat) ^ 13 = 8192 := rfl
    rw [e1, e2, e3]
    omega
theorem bse_lit (p : Nat) (h : p ≤ 28) : bse .lit ((257 + p : Nat) : Int) = Sy.lb p := by
  simp only [bse]
  rw [if_pos (by omega), show (((257 + p : Nat) : Int) - 257).toNat = p by omega]
theorem bse_dst (p : Nat) (h : p ≤ 29) : bse .dst ((p : Nat) : Int) = Sy.db p := by
  simp only [bse]
  rw [if_pos (by omega), Int.toNat_natCast]
theorem cts_lit (ts : List Tok) (i : Nat) (hi : i < ts.length) (y : Int) (h : ts.getD i (0, 0) = (0, y)) (hy : 0 ≤ y ∧ y ≤ 255) : 0 < (Pa.cts ts ts.length).1.getD y.toNat 0 := by
  have hg := (cts_ge ts y.toNat (i + 1) (ts.length - (i + 1)) (by omega)).1
  rw [show i + 1 + (ts.length - (i + 1)) = ts.length by omega] at hg
  rw [Pa.cts_next ts i hi, h] at hg
  have hin := (Pa.in_cts ts i (by omega)).1
  have ht : Tk.isTok (0, y) = true := by simp [Tk.isTok, hy.1, hy.2]
  have h2 : (Pa.stC (Pa.cts ts i) (0, y)).1 = Pa.bmp (Pa.cts ts i).1 y.toNat := by unfold Pa.stC; rw [if_pos ht, if_pos rfl]
  rw [h2, bmp_at _ _ (by rw [hin.1]; omega)] at hg
  have := hin.2 y.toNat
  omega
theorem cts_mat (ts : List Tok) (i : Nat) (hi : i < ts.length) (x y : Int) (h : ts.getD i (0, 0) = (x, y)) (hx0 : x ≠ 0) (hx : 3 ≤ x ∧ x ≤ 258) (hy : 1 ≤ y ∧ y ≤ 32768) :
    0 < (Pa.cts ts ts.length).1.getD (257 + Sy.lsy x.toNat) 0 ∧ 0 < (Pa.cts ts ts.length).2.getD (Sy.dsy y.toNat) 0 := by
  have hl := lsy_in x.toNat (by omega)
  have hd := dsy_in y.toNat (by omega)
  have hg := (cts_ge ts (257 + Sy.lsy x.toNat) (i + 1) (ts.length - (i + 1)) (by omega)).1
  have hg2 := (cts_ge ts (Sy.dsy y.toNat) (i + 1) (ts.length - (i + 1)) (by omega)).2
  rw [show i + 1 + (ts.length - (i + 1)) = ts.length by omega, Pa.cts_next ts i hi, h] at hg hg2
  have hin := Pa.in_cts ts i (by omega)
  have ht : Tk.isTok (x, y) = true := by simp only [Tk.isTok]; rw [if_neg hx0]; exact decide_eq_true ⟨hx.1, hx.2, hy.1, hy.2⟩
  have h2 : Pa.stC (Pa.cts ts i) (x, y) = (Pa.bmp (Pa.cts ts i).1 (257 + Sy.lsy x.toNat), Pa.bmp (Pa.cts ts i).2 (Sy.dsy y.toNat)) := by unfold Pa.stC; rw [if_pos ht, if_neg hx0]
  rw [h2] at hg hg2
  simp only at hg hg2
  rw [bmp_at _ _ (by rw [hin.1.1]; omega)] at hg
  rw [bmp_at _ _ (by rw [hin.2.1]; omega)] at hg2
  have := hin.1.2 (257 + Sy.lsy x.toNat)
  have := hin.2.2 (Sy.dsy y.toNat)
  omega
theorem litL_get : ∀ s, s < 288 → 0 < litL.getD s 0 := by decide +kernel
theorem dstL_get : ∀ s, s < 32 → 0 < dstL.getD s 0 := by decide +kernel
theorem LL_1 (kind : Nat) (h : kind ≠ 2) (ts : List Tok) : LL kind ts = litL := by unfold LL; rw [if_neg h]
theorem DL_1 (kind : Nat) (h : kind ≠ 2) (ts : List Tok) : DL kind ts = dstL := by unfold DL; rw [if_neg h]
theorem LL_2 (ts : List Tok) : LL 2 ts = cmpl (Pa.cts ts ts.length).1 15 := by unfold LL; rw [if_pos rfl]
theorem DL_2 (ts : List Tok) : DL 2 ts = Mg.lensOf (Pa.cts ts ts.length).2 15 := by unfold DL; rw [if_pos rfl]
theorem sd_LL (kind : Nat) (ts : List Tok) (h : ts.length ≤ 1000000) (s : Nat) (hs : s < 286) (hp : 0 < (Pa.cts ts ts.length).1.getD s 0) : Sd (LL kind ts) (s : Int) := by
  refine sd_of (free_LL kind ts h) s (by have := LL_length kind ts; omega) ?_
  by_cases e : kind = 2
  · subst e
    rw [LL_2]
    exact ((co_cts ts h).1.range s (by rw [(Pa.in_cts ts ts.length (Nat.le_refl _)).1.1]; exact hs)).2.2 hp
  · rw [LL_1 kind e]; exact litL_get s (by omega)
theorem sd_DL (kind : Nat) (ts : List Tok) (h : ts.length ≤ 1000000) (s : Nat) (hs : s < 30) (hp : 0 < (Pa.cts ts ts.length).2.getD s 0) : Sd (DL kind ts) (s : Int) := by
  refine sd_of (free_DL kind ts h) s (by have := DL_length kind ts; omega) ?_
  by_cases e : kind = 2
  · subst e
    rw [DL_2]
    have h1 := (co_cts ts h).2.lens s (by rw [(Pa.in_cts ts ts.length (Nat.le_refl _)).2.1]; exact hs)
    have h2 : ¬ (Mg.lensOf (Pa.cts ts ts.length).2 15).getD s 0 = 0 := fun e => by have := h1.2.2.1 e; omega
    have h3 := h1.1
    show 0 < (Mg.lensOf (Pa.cts ts ts.length).2 15).getD s 0
    omega
  · rw [DL_1 kind e]; exact dstL_get s (by omega)
theorem sd_end (kind : Nat) (ts : List Tok) (h : ts.length ≤ 1000000) : Sd (LL kind ts) 256 := sd_LL kind ts h 256 (by omega) (cts_end ts)
theorem tkS_of (kind : Nat) (ts : List Tok) (h : ts.length ≤ 1000000) (i : Nat) (hi : i < ts.length) (ht : Tk.isTok (ts.getD i (0, 0)) = true) : TkS (LL kind ts) (DL kind ts) (ts.getD i (0, 0)) := by
  cases hq : ts.getD i (0, 0) with
  | mk x y =>
    rw [hq] at ht
    unfold TkS
    simp only
    by_cases hx : x = 0
    · subst hx
      have hy : 0 ≤ y ∧ y ≤ 255 := by simpa [Tk.isTok] using ht
      have hs := sd_LL kind ts h y.toNat (by omega) (cts_lit ts i hi y hq hy)
      rw [Int.toNat_of_nonneg hy.1] at hs
      exact ⟨fun _ => ⟨hy.1, hy.2, hs⟩, fun e => absurd rfl e⟩
    · have ht2 : 3 ≤ x ∧ x ≤ 258 ∧ 1 ≤ y ∧ y ≤ 32768 := by simp only [Tk.isTok] at ht; rw [if_neg hx] at ht; exact of_decide_eq_true ht
      have hl := lsy_in x.toNat (by omega)
      have hd := dsy_in y.toNat (by omega)
      have hc := cts_mat ts i hi x y hq hx ⟨ht2.1, ht2.2.1⟩ ⟨ht2.2.2.1, ht2.2.2.2⟩
      refine ⟨fun e => absurd e hx, fun _ => ⟨⟨ht2.1, ht2.2.1⟩, ⟨ht2.2.2.1, ht2.2.2.2⟩, sd_LL kind ts h _ (by omega) hc.1, sd_DL kind ts h _ (by omega) hc.2, hl.1, hd.1, ?_, ?_, ?_, ?_⟩⟩
      · rw [bse_lit _ hl.1]; exact hl.2.1
      · unfold xt; rw [bse_lit _ hl.1]; exact hl.2.2
      · rw [bse_dst _ hd.1]; exact hd.2.1
      · unfold xt; rw [bse_dst _ hd.1]; exact hd.2.2
theorem rc_ge (rs : List Tok) (j k : Nat) : ∀ d, k + d ≤ rs.length → (rc rs k).getD j 0 ≤ (rc rs (k + d)).getD j 0
  | 0, _ => Int.le_refl _
  | d + 1, h => by
    have ih := rc_ge rs j k d (by omega)
    rw [← Nat.add_assoc, rc_next rs (k + d) (by omega)]
    exact Int.le_trans ih (bmp_ge _ _ _)
theorem rc_pos (rs : List Tok) (i : Nat) (hi : i < rs.length) (hs : (rs.getD i (0, 0)).1.toNat < 19) : 0 < (rc rs rs.length).getD (rs.getD i (0, 0)).1.toNat 0 := by
  have hg := rc_ge rs (rs.getD i (0, 0)).1.toNat (i + 1) (rs.length - (i + 1)) (by omega)
  rw [show i + 1 + (rs.length - (i + 1)) = rs.length by omega, rc_next rs i hi] at hg
  have hin := rc_in rs i (by omega)
  rw [bmp_at _ _ (by rw [hin.1]; exact hs)] at hg
  have := hin.2 (rs.getD i (0, 0)).1.toNat
  omega
theorem unrL_ok : ∀ (rs : List Tok) (o p : List Int), Bl.unrL o rs = some p → ∀ t ∈ rs, 0 ≤ t.1 ∧ t.1 ≤ 18 ∧ 0 ≤ t.2 ∧ t.2 ≤ Bl.top t.1
  | [], _, _, _ => fun t ht => by simp at ht
  | r :: rs, o, p, h => fun t ht => by
    rw [Bl.unrL] at h
    cases hs : Bl.stp o r with
    | none => rw [hs] at h; simp at h
    | some q =>
      rw [hs] at h
      rcases List.mem_cons.1 ht with rfl | h2
      · exact (Bl.stp_inv (y := t.1) (x := t.2) hs).1
      · exact unrL_ok rs q p h t h2
theorem top_bits (y : Int) (h : 0 ≤ y ∧ y ≤ 18) (x : Int) (h0 : 0 ≤ x) (hx : x ≤ Bl.top y) : x.toNat < 2 ^ xt .run y := by
  simp only [xt, bse]
  rw [if_pos h]
  simp only
  by_cases e1 : y = 16
  · subst e1
    have a : Bl.top 16 = 3 := by decide
    have b : 2 ^ Bl.bits 16 = 4 := by decide
    rw [b]; omega
  · by_cases e2 : y = 17
    · subst e2
      have a : Bl.top 17 = 7 := by decide
      have b : 2 ^ Bl.bits 17 = 8 := by decide
      rw [b]; omega
    · by_cases e3 : y = 18
      · subst e3
        have a : Bl.top 18 = 127 := by decide
        have b : 2 ^ Bl.bits 18 = 128 := by decide
        rw [b]; omega
      · have a : Bl.top y = 0 := by unfold Bl.top; rw [if_neg e1, if_neg e2, if_neg e3]
        have b : Bl.bits y = 0 := by unfold Bl.bits; rw [if_neg e1, if_neg e2, if_neg e3]
        rw [b]; omega
theorem hdW_of (L D : List Int) (rs : List Tok) (hL : 257 ≤ L.length ∧ L.length ≤ 288) (hD : 1 ≤ D.length ∧ D.length ≤ 32) (hrl : rs.length ≤ 600) (hok : ∀ t ∈ rs, 0 ≤ t.1 ∧ t.1 ≤ 18 ∧ 0 ≤ t.2 ∧ t.2 ≤ Bl.top t.1) : HdW (hdOf L D rs) := by
  have hc := co_rc rs (by omega)
  have hin := rc_in rs rs.length (Nat.le_refl _)
  have hR : ∀ i, 0 ≤ (hdOf L D rs).R.getD i 0 ∧ (hdOf L D rs).R.getD i 0 ≤ 7 := fun i => by
    rw [hdOf_R]
    exact getD_bd (by omega) (fun i hi => by
      rw [cmpl_length] at hi
      have := hc.range i hi
      omega) i
  have h1 : (hdOf L D rs).ll.length = shn L 257 L.length := by show (short L 257).length = _; unfold short; rw [List.length_take]; have := shn_le L 257 L.length; omega
  have h2 : (hdOf L D rs).dl.length = shn D 1 D.length := by show (short D 1).length = _; unfold short; rw [List.length_take]; have := shn_le D 1 D.length; omega
  refine ⟨?_, ?_, ?_, fun i hi => ?_, by rw [hdOf_rs]; exact hrl, fun i hi => ?_, by rw [hdOf_R, cmpl_length]; exact hin.1⟩
  · rw [h1]; have := shn_le L 257 L.length; have := shn_ge L 257 L.length hL.1; omega
  · rw [h2]; have := shn_le D 1 D.length; have := shn_ge D 1 D.length hD.1; omega
  · rw [own_len]; exact ⟨shn_ge _ 4 19 (by omega), shn_le _ _ _⟩
  · rw [own_len] at hi
    have h19 := shn_le (ownR (hdOf L D rs).R 19) 4 19
    have e : (hdOf L D rs).own.getD i 0 = (ownR (hdOf L D rs).R 19).getD i 0 := by
      rw [own_eq, List.getD, List.getD, List.getElem?_take, if_pos hi]
    rw [e, ownR_get _ i (by omega)]
    have := hR (order.getD i 0)
    omega
  · rw [hdOf_rs] at hi ⊢
    have hm := hok (rs.getD i (0, 0)) (by simp [List.getD, List.getElem?_eq_getElem hi])
    have hp := rc_pos rs i hi (by omega)
    have hr := (hc.range (rs.getD i (0, 0)).1.toNat (by rw [hin.1]; omega)).2.2 hp
    have hs := sd_of (L := cmpl (rc rs rs.length) 7) hc.cfree (rs.getD i (0, 0)).1.toNat (by rw [cmpl_length, hin.1]; omega) hr
    rw [Int.toNat_of_nonneg hm.1] at hs
    exact ⟨by rw [hdOf_R]; exact hs, hm.2.2.1, top_bits _ ⟨hm.1, hm.2.1⟩ _ hm.2.2.1 hm.2.2.2⟩
theorem hdT_w (ts : List Tok) (h : ts.length ≤ 1000000) : HdW (hdT ts) := by
  have hr := ru_le (hdT_runs ts h)
  have h1 := LL_length 2 ts
  have h2 := DL_length 2 ts
  exact hdW_of _ _ _ (by omega) (by omega) (hdT_rl ts h) (unrL_ok _ _ _ hr.2.2)
end Bc
end Go.Proofs.YtpoilaappcjbeaaGreatDoor
end

section
namespace Go.Proofs.YtpoilaappcjbeaaGreatDoor
open Go.RowKit

namespace Bc
theorem fit_tok (tx : List UInt8) (ts : List Tok) : ∀ n k a, ts.length - k = n → fit tx (ts.drop k) a = true → ∀ i, k ≤ i → i < ts.length → Tk.isTok (ts.getD i (0, 0)) = true
  | 0, k, a, hn, _, i, h1, h2 => by omega
  | n + 1, k, a, hn, hf, i, h1, h2 => by
    have hk : k < ts.length := by omega
    rw [fit_at hk] at hf
    simp only [Bool.and_eq_true] at hf
    by_cases e : k = i
    · subst e; exact hf.1
    · exact fit_tok tx ts n (k + 1) _ (by omega) hf.2.2.2 i (by omega) h2
theorem bdZ_of {w : World} {B kind : Nat} {ts : List Tok} {v : Value} {a : Option Addr} {cap : Nat} (H : BdIs w B kind ts v) (hv : ∃ cs : Array Value, v = .agg cs ∧ cs[9]? = some (.slice a ts.length cap)) (h : Ts2 w a ts.length cap ts) :
    BdZ w (fun j => (B ≤ j ∧ j < w.heap.size) ∨ (0 < ts.length ∧ ∃ ad, a = some ad ∧ j = ad.block)) kind ts v := by
  obtain ⟨hp, a1, c1, b1, m1, d1, g1, a2, c2, b2, m2, d2, g2, ta, tc, rfl, k2, k1, i1, j1, hw1, i2, j2, hw2, hts⟩ := H
  obtain ⟨cs, e1, e2⟩ := hv
  obtain rfl := (Value.agg.injEq _ _).mp e1
  have e3 : Value.slice ta ts.length tc = .slice a ts.length cap := by
    have : (bdC hp a1 c1 b1 m1 d1 g1 a2 c2 b2 m2 d2 g2 ta ts.length tc)[9]? = some (.slice ta ts.length tc) := rfl
    rw [this] at e2
    exact Option.some.inj e2
  simp only [Value.slice.injEq, true_and] at e3
  obtain ⟨rfl, rfl⟩ := e3
  refine ⟨hp, a1, c1, b1, m1, d1, g1, a2, c2, b2, m2, d2, g2, ta, tc, rfl, fun e => ?_, k1, hw1.here.wide (fun k hk => .inl hk), hw2.here.wide (fun k hk => .inl hk), hts, fun hn ad e => .inr ⟨hn, ad, e, rfl⟩⟩
  obtain ⟨hb, e1, e2⟩ := k2 e
  have hz := hdZ_of e2
  obtain ⟨ra, rcap, oa, oc, ca, cc, la, m, d, g, hrow, h1, h2, h3, h4, h5, h6⟩ := hz
  exact ⟨hb, e1, ra, rcap, oa, oc, ca, cc, la, m, d, g, hrow, h1, fun hn ad e => .inl (h2 hn ad e), h3, fun hn ad e => .inl (h4 hn ad e), h5.wide (fun k hk => .inl hk), .inl h6⟩
theorem BdZ.kept {w w' : World} {D T : Nat → Prop} {kind : Nat} {ts : List Tok} {v : Value} (H : BdZ w D kind ts v) (c : Ch w w' T) (hD : ∀ k, D k → ¬ T k) : BdZ w' D kind ts v := by
  obtain ⟨hp, a1, c1, b1, m1, d1, g1, a2, c2, b2, m2, d2, g2, ta, tc, rfl, k2, k1, hw1, hw2, hts, htD⟩ := H
  exact ⟨hp, a1, c1, b1, m1, d1, g1, a2, c2, b2, m2, d2, g2, ta, tc, rfl, fun e => by obtain ⟨hb, e1, e2⟩ := k2 e; exact ⟨hb, e1, e2.kept c hD⟩, k1, hw1.kept c hD, hw2.kept c hD, hts.kept0 c (fun hn ad e => hD _ (htD hn ad e)), htD⟩
def WPost (w : World) (B g : Nat) (v : Value) (l : List Bool) (e : Ending) (w' : World) : Prop :=
  e = .returned .nilIface ∧ ∃ v', Wr w' B g false v' l ∧ Ch w w' (Wt g v) ∧ ∀ k, v'.ownBlock = some k → v.ownBlock = some k ∨ w.heap.size ≤ k
/-- What a pen did, told of the writer. -/
theorem wpost_of {w w1 w2 : World} {B gp g : Nat} {v : Value} {l : List Bool} {e : Ending} (hb : Below w.heap.size w w1) (hgp : w.heap.size ≤ gp) (h : PPost w1 B gp g v l e w2) : WPost w B g v l (.returned .nilIface) w2 := by
  obtain ⟨_, v', hp, hc, hf⟩ := h
  refine ⟨rfl, v', hp.wr, ?_, fun k hk => (hf k hk).imp id (fun h => Nat.le_trans hb.size h)⟩
  have c1 := Ch.of_below (T := Wt g v) hb
  refine ⟨hc.os.trans c1.os, hc.tape.trans c1.tape, hc.output.trans c1.output, Nat.le_trans c1.size hc.size, fun k hk hn => (hc.block k (Nat.lt_of_lt_of_le hk c1.size) (fun e => ?_)).trans (c1.block k hk hn)⟩
  rcases e with e | e
  · omega
  · exact hn e
set_option maxRecDepth 100000 in
set_option maxHeartbeats 2000000 in
theorem write_1 (w : World) (B g : Nat) (v : Value) (l : List Bool) (a : Option Addr) (cap : Nat) (ts : List Tok) (xa : Option Addr) (xn xc : Nat) (tx : List UInt8) (last : Bool) (hw : Wr w B g false v l) (hB : B ≤ w.heap.size) (h : Ts2 w a ts.length cap ts) (hb : Bs w xa xn xc tx) (hlen : ts.length ≤ 1000000) (hoo : Oo w) (hz : 0 < w.heap.size)
    (hta : 0 < ts.length → ∀ ad, a = some ad → ¬ Wt g v ad.block) (hv : fit tx ts 0 = true) (hl : l.length ≤ 600000000000) :
    Calls Tryz.prog 10 #[.pointer (some ⟨g, 0, none⟩), .agg #[.int .i64 1, .slice a ts.length cap, .slice xa xn xc], .bool last] w (WPost w B g v (l ++ headB 1 last ++ bdBits 1 ts)) := by
  have hal := below_alloc w (.cells #[.int .i64 1, .slice a ts.length cap, .slice xa xn xc] 36)
  have hrow := heap_alloc_last w (.cells #[.int .i64 1, .slice a ts.length cap, .slice xa xn xc] 36)
  have HV := Lib.hid (isValid_any 1 a ts.length cap ts xa xn xc tx _ (h.mono hal) (hb.mono hal) (by omega))
  have HVB : Hid (vB 1 ts tx = true) := Lib.hid (by rw [← hv]; unfold vB; simp)
  have htok := fit_tok tx ts _ 0 0 rfl (by rw [List.drop_zero]; exact hv)
  have HTK := Lib.hid (fun i (hi : i < ts.length) => tkS_of 1 ts hlen i hi (htok i (Nat.zero_le _) hi))
  have HLN := Lib.hid hlen
  have HNB := Lib.hid (fun w' (hb' : Below w.heap.size w w') => newBody_1 a ts.length cap ts xa xn xc w' (h.mono hb') hlen (hoo.mono hz hb') (Nat.lt_of_lt_of_le hz hb'.size))
  have HTS := Lib.hid (fun w' (hb' : Below w.heap.size w w') => h.mono hb')
  have HW := Lib.hid (fun w' (hb' : Below w.heap.size w w') => hw.mono hb')
  have HTA : Hid (∀ k, (0 < ts.length ∧ ∃ ad, a = some ad ∧ k = ad.block) → k < w.heap.size ∧ ¬ Wt g v k) := Lib.hid (fun k hk => by
    obtain ⟨hn, ad, e, rfl⟩ := hk
    refine ⟨?_, hta hn ad e⟩
    obtain ⟨b, off, e1, hlt, _⟩ := h.at' 0 hn
    rw [e1] at e
    obtain rfl := Option.some.inj e
    exact hlt)
  have HLT : Hid (∀ k, Wt g v k → k < w.heap.size) := Lib.hid (fun k hk => by
    rcases hk with rfl | hk
    · exact hw.lt
    · exact (hw.own.lt k hk).2)
  have HB := Lib.hid hB
  have HL := Lib.hid hl
  have HAL := Lib.hid hal
  have HRW := Lib.hid hrow
  have c0 := cell_of_row _ _ 0 _ _ (0, 0) hrow
  have c1 := cell_of_row _ _ 1 _ _ (0, 0) hrow
  have c2 := cell_of_row _ _ 2 _ _ (0, 0) hrow
  simp only [List.getElem?_toArray, List.getElem?_cons_zero, List.getElem?_cons_succ] at c0 c1 c2
  clear hal hrow h hb hoo hz hta hv hw hB hl hlen htok
  obtain ⟨Y, hY⟩ : ∃ Y, Y = l ++ headB 1 last ++ bdBits 1 ts := ⟨_, rfl⟩
  rw [← hY]
  have HY := Lib.hid hY
  clear hY
  go_enter Tryz.func10, Tryz.ntmps10
  go_wp2_with fail
  refine HV.out.mono ?_
  rintro e w2 ⟨rfl, hb2⟩
  rw [HVB.out]
  have HB2 := Lib.hid (below_then HAL.out hb2)
  have HH := Lib.hid (high_any w2 B g false v l (HW.out _ HB2.out))
  have hr2 := (hb2.block w.heap.size (by simp)).trans HRW.out
  have HQ2 : Hid (w.heap.size < w2.heap.size) := Lib.hid (by have := hb2.size; simp at this; omega)
  clear hb2 HV HVB HAL HRW c0 c1 c2
  go_wp2_with fail
  refine HH.out.mono ?_
  rintro e w' ⟨rfl, rfl⟩
  -- the pen
  have hal3 := below_alloc w2 (.cells #[.pointer (some ⟨g, 0, none⟩), .nilIface] 77)
  have hrow3 := heap_alloc_last w2 (.cells #[.pointer (some ⟨g, 0, none⟩), .nilIface] 77)
  have hb3 := below_then HB2.out hal3
  have hp3 : Pn (w2.alloc (.cells #[.pointer (some ⟨g, 0, none⟩), .nilIface] 77)) B w2.heap.size g v l := ⟨hrow3, HW.out _ hb3, fun e => by have := HLT.out g (.inl rfl); have := HQ2.out; omega, fun e => by have := HLT.out _ (.inr e); have := HQ2.out; omega⟩
  have hr3 := (hal3.block w.heap.size HQ2.out).trans hr2
  have HR3 := Lib.hid hr3
  have HP3 := Lib.hid hp3
  have HN3 := Lib.hid (HNB.out _ hb3)
  have HB3 := Lib.hid hb3
  have HQ3 : Hid (w2.heap.size < (w2.alloc (.cells #[.pointer (some ⟨g, 0, none⟩), .nilIface] 77)).heap.size) := Lib.hid (by simp)
  have HGP : Hid (w.heap.size ≤ w2.heap.size) := Lib.hid (by have := HQ2.out; omega)
  have c0 := cell_of_row _ _ 0 _ _ (0, 0) hr3
  have c1 := cell_of_row _ _ 1 _ _ (0, 0) hr3
  have c2 := cell_of_row _ _ 2 _ _ (0, 0) hr3
  simp only [List.getElem?_toArray, List.getElem?_cons_zero, List.getElem?_cons_succ] at c0 c1 c2
  clear hal3 hrow3 hb3 hp3 hr3 hr2 HH HNB
  go_wp2_with fail
  refine HN3.out.mono ?_
  rintro e w4 ⟨vb, rfl, hbi, hb4, hcs⟩
  have HZ0 := bdZ_of hbi hcs (HTS.out _ (below_then HB3.out hb4))
  clear hcs c0 c1 c2
  obtain ⟨hp, a1, c1, b1, m1, d1, g1, a2, c2, b2, m2, d2, g2, ta, tc, rfl, hr⟩ := hbi
  obtain ⟨pp, rfl⟩ : ∃ pp, hp = .pointer pp := by
    exact ⟨none, hr.2.1 rfl⟩
  clear hr
  have hal5 := below_alloc w4 (.cells (bdC (.pointer pp) a1 c1 b1 m1 d1 g1 a2 c2 b2 m2 d2 g2 ta ts.length tc) 86)
  have hrow5 := heap_alloc_last w4 (.cells (bdC (.pointer pp) a1 c1 b1 m1 d1 g1 a2 c2 b2 m2 d2 g2 ta ts.length tc) 86)
  have hb5 := below_then hb4 hal5
  have hp5 := HP3.out.mono hb5
  have hr5 := (hb5.block w.heap.size (by have := HQ2.out; have := HQ3.out; omega)).trans HR3.out
  have HB5 := Lib.hid (below_then HB3.out hb5)
  have hhd := head_any _ B w2.heap.size g v l 1 last hp5 (Nat.le_trans HB.out HB5.out.size) (by omega) (by have := HL.out; omega)
  rw [show (((1 : Nat)) : Int) = 1 from rfl] at hhd
  have HHD := Lib.hid hhd
  clear hhd
  have HK : Hid (∀ w6 e l6, PPost (w4.alloc (.cells (bdC (.pointer pp) a1 c1 b1 m1 d1 g1 a2 c2 b2 m2 d2 g2 ta ts.length tc) 86)) B w2.heap.size g v l6 e w6 → w6.heap[w4.heap.size]? = some (.cells (bdC (.pointer pp) a1 c1 b1 m1 d1 g1 a2 c2 b2 m2 d2 g2 ta ts.length tc) 86 (0, 0))) := Lib.hid (fun w6 e l6 h6 => by
    obtain ⟨_, _, _, c6, _⟩ := h6
    refine (c6.block w4.heap.size (by simp) (fun e => ?_)).trans hrow5
    have h1 := hb4.size
    have h2 := HQ3.out
    have h3 := HGP.out
    rcases e with e | e
    · omega
    · have := HLT.out _ e; omega)
  have HBD : Hid (∀ w6 e l6, l6.length ≤ 700000000000 → PPost (w4.alloc (.cells (bdC (.pointer pp) a1 c1 b1 m1 d1 g1 a2 c2 b2 m2 d2 g2 ta ts.length tc) 86)) B w2.heap.size g v l6 e w6 → Calls Tryz.prog 37 #[.pointer (some ⟨w2.heap.size, 0, none⟩), .agg (bdC (.pointer pp) a1 c1 b1 m1 d1 g1 a2 c2 b2 m2 d2 g2 ta ts.length tc)] w6 (PPost (w4.alloc (.cells (bdC (.pointer pp) a1 c1 b1 m1 d1 g1 a2 c2 b2 m2 d2 g2 ta ts.length tc) 86)) B w2.heap.size g v (l6 ++ bdBits 1 ts))) := Lib.hid (fun w6 e l6 hl6 h6 => by
    obtain ⟨_, v6, p6, c6, f6⟩ := h6
    have hDv : ∀ k, ((w2.alloc (.cells #[.pointer (some ⟨g, 0, none⟩), .nilIface] 77)).heap.size ≤ k ∧ k < w4.heap.size) ∨ (0 < ts.length ∧ ∃ ad, a = some ad ∧ k = ad.block) → k < w4.heap.size ∧ ¬ Pt w2.heap.size g v k := fun k hk => by
      have h2 := HQ3.out
      have h3 := HGP.out
      have h4 := hb4.size
      rcases hk with hk | hk
      · exact ⟨hk.2, fun e => by
          rcases e with e | e
          · omega
          · have := HLT.out _ e; omega⟩
      · have := HTA.out k hk
        exact ⟨by omega, fun e => by
          rcases e with e | e
          · omega
          · exact this.2 e⟩
    have hz6 := (HZ0.kept (Ch.of_below (T := fun _ => False) hal5) (fun _ _ h => h)).kept c6 (fun k hk => (hDv k hk).2)
    refine (pbody_1 w6 B w2.heap.size g v6 l6 ts _ _ p6 (Nat.le_trans (Nat.le_trans HB.out HB5.out.size) c6.size) hz6 (fun k hk e => ?_) HLN.out HTK.out (sd_end 1 ts HLN.out) hl6).mono (fun e7 w7 h7 => PPost.trans p6 c6 f6 h7)
    have hd := hDv k hk
    rcases e with e | e | e
    · exact hd.2 (.inl e)
    · exact hd.2 (.inr (.inl e))
    · rcases f6 k e with h | h
      · exact hd.2 (.inr (.inr h))
      · have := hal5.size; omega)
  have c0 := cell_of_row _ _ 0 _ _ (0, 0) hr5
  have hrb := hrow5
  unfold bdC at hrb
  simp only [List.getElem?_toArray, List.getElem?_cons_zero, List.getElem?_cons_succ] at c0
  have HHL : Hid ((l ++ headB 1 last).length ≤ 700000000000) := Lib.hid (by
    have := HL.out
    unfold headB
    rw [List.length_append, List.length_append, Bt.dg_length, Bt.dg_length]; omega)
  clear hr5 hp5 hrow5 hal5 hb5 hb4 HZ0 hrb HN3 HP3 HR3
  unfold bdC at c0 HHD HK HBD HB5 ⊢
  go_wp2_with fail
  refine HHD.out.mono ?_
  rintro e w6 hp6
  have hk6 := HK.out _ _ _ hp6
  have HBDY := Lib.hid (HBD.out w6 e _ HHL.out hp6)
  obtain ⟨rfl, _⟩ := hp6
  have y0 := cell_of_row _ _ 0 _ _ (0, 0) hk6
  have y1 := cell_of_row _ _ 1 _ _ (0, 0) hk6
  have y2 := cell_of_row _ _ 2 _ _ (0, 0) hk6
  have y3 := cell_of_row _ _ 3 _ _ (0, 0) hk6
  have y4 := cell_of_row _ _ 4 _ _ (0, 0) hk6
  have y5 := cell_of_row _ _ 5 _ _ (0, 0) hk6
  have y6 := cell_of_row _ _ 6 _ _ (0, 0) hk6
  have y7 := cell_of_row _ _ 7 _ _ (0, 0) hk6
  have y8 := cell_of_row _ _ 8 _ _ (0, 0) hk6
  have y9 := cell_of_row _ _ 9 _ _ (0, 0) hk6
  simp only [List.getElem?_toArray, List.getElem?_cons_zero, List.getElem?_cons_succ] at y0 y1 y2 y3 y4 y5 y6 y7 y8 y9
  clear hk6 HHD HBD HK c0
  go_wp2_with fail
  refine HBDY.out.mono ?_
  rintro e w7 hp7
  have HF : Hid (WPost w B g v Y (.returned .nilIface) w7) := Lib.hid (by rw [HY.out]; exact wpost_of HB5.out HGP.out hp7)
  obtain ⟨rfl, v7, p7, _, _⟩ := hp7
  have k1 := cell_of_row _ _ 1 _ _ (0, 0) p7.row
  simp only [List.getElem?_toArray, List.getElem?_cons_zero, List.getElem?_cons_succ] at k1
  clear p7 y0 y1 y2 y3 y4 y5 y6 y7 y8 y9 HBDY HB5
  go_wp2
  go_ret
  exact HF.out
set_option maxRecDepth 100000 in
set_option maxHeartbeats 2000000 in
theorem write_2 (w : World) (B g : Nat) (v : Value) (l : List Bool) (a : Option Addr) (cap : Nat) (ts : List Tok) (xa : Option Addr) (xn xc : Nat) (tx : List UInt8) (last : Bool) (hw : Wr w B g false v l) (hB : B ≤ w.heap.size) (h : Ts2 w a ts.length cap ts) (hb : Bs w xa xn xc tx) (hlen : ts.length ≤ 1000000) (hoo : Oo w) (hz : 0 < w.heap.size)
    (hta : 0 < ts.length → ∀ ad, a = some ad → ¬ Wt g v ad.block) (hv : fit tx ts 0 = true) (hl : l.length ≤ 600000000000) :
    Calls Tryz.prog 10 #[.pointer (some ⟨g, 0, none⟩), .agg #[.int .i64 2, .slice a ts.length cap, .slice xa xn xc], .bool last] w (WPost w B g v (l ++ headB 2 last ++ bdBits 2 ts)) := by
  have hal := below_alloc w (.cells #[.int .i64 2, .slice a ts.length cap, .slice xa xn xc] 36)
  have hrow := heap_alloc_last w (.cells #[.int .i64 2, .slice a ts.length cap, .slice xa xn xc] 36)
  have HV := Lib.hid (isValid_any 2 a ts.length cap ts xa xn xc tx _ (h.mono hal) (hb.mono hal) (by omega))
  have HVB : Hid (vB 2 ts tx = true) := Lib.hid (by rw [← hv]; unfold vB; simp)
  have htok := fit_tok tx ts _ 0 0 rfl (by rw [List.drop_zero]; exact hv)
  have HTK := Lib.hid (fun i (hi : i < ts.length) => tkS_of 2 ts hlen i hi (htok i (Nat.zero_le _) hi))
  have HLN := Lib.hid hlen
  have HNB := Lib.hid (fun w' (hb' : Below w.heap.size w w') => newBody_2 a ts.length cap ts xa xn xc w' (h.mono hb') hlen (hoo.mono hz hb') (Nat.lt_of_lt_of_le hz hb'.size))
  have HTS := Lib.hid (fun w' (hb' : Below w.heap.size w w') => h.mono hb')
  have HW := Lib.hid (fun w' (hb' : Below w.heap.size w w') => hw.mono hb')
  have HTA : Hid (∀ k, (0 < ts.length ∧ ∃ ad, a = some ad ∧ k = ad.block) → k < w.heap.size ∧ ¬ Wt g v k) := Lib.hid (fun k hk => by
    obtain ⟨hn, ad, e, rfl⟩ := hk
    refine ⟨?_, hta hn ad e⟩
    obtain ⟨b, off, e1, hlt, _⟩ := h.at' 0 hn
    rw [e1] at e
    obtain rfl := Option.some.inj e
    exact hlt)
  have HLT : Hid (∀ k, Wt g v k → k < w.heap.size) := Lib.hid (fun k hk => by
    rcases hk with rfl | hk
    · exact hw.lt
    · exact (hw.own.lt k hk).2)
  have HB := Lib.hid hB
  have HL := Lib.hid hl
  have HAL := Lib.hid hal
  have HRW := Lib.hid hrow
  have c0 := cell_of_row _ _ 0 _ _ (0, 0) hrow
  have c1 := cell_of_row _ _ 1 _ _ (0, 0) hrow
  have c2 := cell_of_row _ _ 2 _ _ (0, 0) hrow
  simp only [List.getElem?_toArray, List.getElem?_cons_zero, List.getElem?_cons_succ] at c0 c1 c2
  clear hal hrow h hb hoo hz hta hv hw hB hl hlen htok
  obtain ⟨Y, hY⟩ : ∃ Y, Y = l ++ headB 2 last ++ bdBits 2 ts := ⟨_, rfl⟩
  rw [← hY]
  have HY := Lib.hid hY
  clear hY
  go_enter Tryz.func10, Tryz.ntmps10
  go_wp2_with fail
  refine HV.out.mono ?_
  rintro e w2 ⟨rfl, hb2⟩
  rw [HVB.out]
  have HB2 := Lib.hid (below_then HAL.out hb2)
  have HH := Lib.hid (high_any w2 B g false v l (HW.out _ HB2.out))
  have hr2 := (hb2.block w.heap.size (by simp)).trans HRW.out
  have HQ2 : Hid (w.heap.size < w2.heap.size) := Lib.hid (by have := hb2.size; simp at this; omega)
  clear hb2 HV HVB HAL HRW c0 c1 c2
  go_wp2_with fail
  refine HH.out.mono ?_
  rintro e w' ⟨rfl, rfl⟩
  -- the pen
  have hal3 := below_alloc w2 (.cells #[.pointer (some ⟨g, 0, none⟩), .nilIface] 77)
  have hrow3 := heap_alloc_last w2 (.cells #[.pointer (some ⟨g, 0, none⟩), .nilIface] 77)
  have hb3 := below_then HB2.out hal3
  have hp3 : Pn (w2.alloc (.cells #[.pointer (some ⟨g, 0, none⟩), .nilIface] 77)) B w2.heap.size g v l := ⟨hrow3, HW.out _ hb3, fun e => by have := HLT.out g (.inl rfl); have := HQ2.out; omega, fun e => by have := HLT.out _ (.inr e); have := HQ2.out; omega⟩
  have hr3 := (hal3.block w.heap.size HQ2.out).trans hr2
  have HR3 := Lib.hid hr3
  have HP3 := Lib.hid hp3
  have HN3 := Lib.hid (HNB.out _ hb3)
  have HB3 := Lib.hid hb3
  have HQ3 : Hid (w2.heap.size < (w2.alloc (.cells #[.pointer (some ⟨g, 0, none⟩), .nilIface] 77)).heap.size) := Lib.hid (by simp)
  have HGP : Hid (w.heap.size ≤ w2.heap.size) := Lib.hid (by have := HQ2.out; omega)
  have c0 := cell_of_row _ _ 0 _ _ (0, 0) hr3
  have c1 := cell_of_row _ _ 1 _ _ (0, 0) hr3
  have c2 := cell_of_row _ _ 2 _ _ (0, 0) hr3
  simp only [List.getElem?_toArray, List.getElem?_cons_zero, List.getElem?_cons_succ] at c0 c1 c2
  clear hal3 hrow3 hb3 hp3 hr3 hr2 HH HNB
  go_wp2_with fail
  refine HN3.out.mono ?_
  rintro e w4 ⟨vb, rfl, hbi, hb4, hcs⟩
  have HZ0 := bdZ_of hbi hcs (HTS.out _ (below_then HB3.out hb4))
  clear hcs c0 c1 c2
  obtain ⟨hp, a1, c1, b1, m1, d1, g1, a2, c2, b2, m2, d2, g2, ta, tc, rfl, hr⟩ := hbi
  obtain ⟨pp, rfl⟩ : ∃ pp, hp = .pointer pp := by
    obtain ⟨x, e, _⟩ := hr.1 rfl; exact ⟨_, e⟩
  clear hr
  have hal5 := below_alloc w4 (.cells (bdC (.pointer pp) a1 c1 b1 m1 d1 g1 a2 c2 b2 m2 d2 g2 ta ts.length tc) 86)
  have hrow5 := heap_alloc_last w4 (.cells (bdC (.pointer pp) a1 c1 b1 m1 d1 g1 a2 c2 b2 m2 d2 g2 ta ts.length tc) 86)
  have hb5 := below_then hb4 hal5
  have hp5 := HP3.out.mono hb5
  have hr5 := (hb5.block w.heap.size (by have := HQ2.out; have := HQ3.out; omega)).trans HR3.out
  have HB5 := Lib.hid (below_then HB3.out hb5)
  have hhd := head_any _ B w2.heap.size g v l 2 last hp5 (Nat.le_trans HB.out HB5.out.size) (by omega) (by have := HL.out; omega)
  rw [show (((2 : Nat)) : Int) = 2 from rfl] at hhd
  have HHD := Lib.hid hhd
  clear hhd
  have HK : Hid (∀ w6 e l6, PPost (w4.alloc (.cells (bdC (.pointer pp) a1 c1 b1 m1 d1 g1 a2 c2 b2 m2 d2 g2 ta ts.length tc) 86)) B w2.heap.size g v l6 e w6 → w6.heap[w4.heap.size]? = some (.cells (bdC (.pointer pp) a1 c1 b1 m1 d1 g1 a2 c2 b2 m2 d2 g2 ta ts.length tc) 86 (0, 0))) := Lib.hid (fun w6 e l6 h6 => by
    obtain ⟨_, _, _, c6, _⟩ := h6
    refine (c6.block w4.heap.size (by simp) (fun e => ?_)).trans hrow5
    have h1 := hb4.size
    have h2 := HQ3.out
    have h3 := HGP.out
    rcases e with e | e
    · omega
    · have := HLT.out _ e; omega)
  have HBD : Hid (∀ w6 e l6, l6.length ≤ 700000000000 → PPost (w4.alloc (.cells (bdC (.pointer pp) a1 c1 b1 m1 d1 g1 a2 c2 b2 m2 d2 g2 ta ts.length tc) 86)) B w2.heap.size g v l6 e w6 → Calls Tryz.prog 37 #[.pointer (some ⟨w2.heap.size, 0, none⟩), .agg (bdC (.pointer pp) a1 c1 b1 m1 d1 g1 a2 c2 b2 m2 d2 g2 ta ts.length tc)] w6 (PPost (w4.alloc (.cells (bdC (.pointer pp) a1 c1 b1 m1 d1 g1 a2 c2 b2 m2 d2 g2 ta ts.length tc) 86)) B w2.heap.size g v (l6 ++ bdBits 2 ts))) := Lib.hid (fun w6 e l6 hl6 h6 => by
    obtain ⟨_, v6, p6, c6, f6⟩ := h6
    have hDv : ∀ k, ((w2.alloc (.cells #[.pointer (some ⟨g, 0, none⟩), .nilIface] 77)).heap.size ≤ k ∧ k < w4.heap.size) ∨ (0 < ts.length ∧ ∃ ad, a = some ad ∧ k = ad.block) → k < w4.heap.size ∧ ¬ Pt w2.heap.size g v k := fun k hk => by
      have h2 := HQ3.out
      have h3 := HGP.out
      have h4 := hb4.size
      rcases hk with hk | hk
      · exact ⟨hk.2, fun e => by
          rcases e with e | e
          · omega
          · have := HLT.out _ e; omega⟩
      · have := HTA.out k hk
        exact ⟨by omega, fun e => by
          rcases e with e | e
          · omega
          · exact this.2 e⟩
    have hz6 := (HZ0.kept (Ch.of_below (T := fun _ => False) hal5) (fun _ _ h => h)).kept c6 (fun k hk => (hDv k hk).2)
    refine (pbody_2 w6 B w2.heap.size g v6 l6 ts _ _ p6 (Nat.le_trans (Nat.le_trans HB.out HB5.out.size) c6.size) hz6 (fun k hk e => ?_) (hdT_w ts HLN.out) HLN.out HTK.out (sd_end 2 ts HLN.out) hl6).mono (fun e7 w7 h7 => PPost.trans p6 c6 f6 h7)
    have hd := hDv k hk
    rcases e with e | e | e
    · exact hd.2 (.inl e)
    · exact hd.2 (.inr (.inl e))
    · rcases f6 k e with h | h
      · exact hd.2 (.inr (.inr h))
      · have := hal5.size; omega)
  have c0 := cell_of_row _ _ 0 _ _ (0, 0) hr5
  have hrb := hrow5
  unfold bdC at hrb
  simp only [List.getElem?_toArray, List.getElem?_cons_zero, List.getElem?_cons_succ] at c0
  have HHL : Hid ((l ++ headB 2 last).length ≤ 700000000000) := Lib.hid (by
    have := HL.out
    unfold headB
    rw [List.length_append, List.length_append, Bt.dg_length, Bt.dg_length]; omega)
  clear hr5 hp5 hrow5 hal5 hb5 hb4 HZ0 hrb HN3 HP3 HR3
  unfold bdC at c0 HHD HK HBD HB5 ⊢
  go_wp2_with fail
  refine HHD.out.mono ?_
  rintro e w6 hp6
  have hk6 := HK.out _ _ _ hp6
  have HBDY := Lib.hid (HBD.out w6 e _ HHL.out hp6)
  obtain ⟨rfl, _⟩ := hp6
  have y0 := cell_of_row _ _ 0 _ _ (0, 0) hk6
  have y1 := cell_of_row _ _ 1 _ _ (0, 0) hk6
  have y2 := cell_of_row _ _ 2 _ _ (0, 0) hk6
  have y3 := cell_of_row _ _ 3 _ _ (0, 0) hk6
  have y4 := cell_of_row _ _ 4 _ _ (0, 0) hk6
  have y5 := cell_of_row _ _ 5 _ _ (0, 0) hk6
  have y6 := cell_of_row _ _ 6 _ _ (0, 0) hk6
  have y7 := cell_of_row _ _ 7 _ _ (0, 0) hk6
  have y8 := cell_of_row _ _ 8 _ _ (0, 0) hk6
  have y9 := cell_of_row _ _ 9 _ _ (0, 0) hk6
  simp only [List.getElem?_toArray, List.getElem?_cons_zero, List.getElem?_cons_succ] at y0 y1 y2 y3 y4 y5 y6 y7 y8 y9
  clear hk6 HHD HBD HK c0
  go_wp2_with fail
  refine HBDY.out.mono ?_
  rintro e w7 hp7
  have HF : Hid (WPost w B g v Y (.returned .nilIface) w7) := Lib.hid (by rw [HY.out]; exact wpost_of HB5.out HGP.out hp7)
  obtain ⟨rfl, v7, p7, _, _⟩ := hp7
  have k1 := cell_of_row _ _ 1 _ _ (0, 0) p7.row
  simp only [List.getElem?_toArray, List.getElem?_cons_zero, List.getElem?_cons_succ] at k1
  clear p7 y0 y1 y2 y3 y4 y5 y6 y7 y8 y9 HBDY HB5
  go_wp2
  go_ret
  exact HF.out
end Bc
end Go.Proofs.YtpoilaappcjbeaaGreatDoor
end

section
namespace Go.Proofs.YtpoilaappcjbeaaGreatDoor
open Go.RowKit

theorem newWriter_any (h : Bool) (B : Nat) (w : World) (hB : B ≤ w.heap.size) :
    Calls Tryz.prog 9 #[.bool h] w fun e w' => e = .returned (.pointer (some ⟨w.heap.size, 0, none⟩)) ∧ Wr w' B w.heap.size h (.slice none 0 0) [] ∧ Below w.heap.size w w' := by
  go_enter Tryz.func9, Tryz.ntmps9
  go_wp2
  go_ret
  refine ⟨rfl, ⟨heap_alloc_last w _, World.ownsRow_nil _ _ _ _, hB, by simp [Value.ownBlock]⟩, below_alloc w _⟩
end Go.Proofs.YtpoilaappcjbeaaGreatDoor
end

section
namespace Go.Proofs.YtpoilaappcjbeaaGreatDoor
open Go.RowKit
theorem fill_any (h : Bool) (n : Nat) (w : World) (hn : n ≤ 7) :
    Calls Tryz.prog 40 #[.agg #[.bool h], .int .i64 n] w fun e w' => e = .returned (.int .i64 (if h then 2 ^ n - 1 else 0 : Nat)) ∧ w' = w.alloc (.cells #[.bool h] 71) := by
  cases h
  · go_enter Tryz.func40, Tryz.ntmps40
    go_wp2
    go_ret
    exact ⟨ret_int (by simp), rfl⟩
  · go_enter Tryz.func40, Tryz.ntmps40
    go_wp2
    go_ret
    exact ⟨ret_int (by exact Bt.mask_wrap n (by omega)), rfl⟩
end Go.Proofs.YtpoilaappcjbeaaGreatDoor
end
