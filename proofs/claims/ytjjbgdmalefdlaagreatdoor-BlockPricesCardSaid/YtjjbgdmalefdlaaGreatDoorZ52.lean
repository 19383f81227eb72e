/- block's pen: body: its contract (made by tools/gen_bcpenb.py). block: symbols that occur have codes; a header of tokens can be written. -/
import Derived.Test.YtjjbgdmalefdlaaGreatDoorZ12
import Derived.Test.YtjjbgdmalefdlaaGreatDoorZ51
set_option linter.unusedSimpArgs false
set_option linter.unusedVariables false
section
namespace Go.Proofs.YtjjbgdmalefdlaaGreatDoor
open Go.RowKit

namespace Bc
/-- A body in memory, in a zone. -/
def BdZ (w : World) (D : Nat → Prop) (kind : Nat) (ts : List Tok) (v : Value) : Prop :=
  ∃ hp a1 c1 b1 m1 d1 g1 a2 c2 b2 m2 d2 g2 ta tc, v = .agg (bdC hp a1 c1 b1 m1 d1 g1 a2 c2 b2 m2 d2 g2 ta ts.length tc) ∧
    (kind = 2 → ∃ hb, hp = .pointer (some ⟨hb, 0, none⟩) ∧ HdZ w D hb (hdT ts)) ∧ (kind = 1 → hp = .pointer none) ∧
    Bw w D g1 (LL kind ts) ∧ Bw w D g2 (DL kind ts) ∧ Ts2 w ta ts.length tc ts ∧ (0 < ts.length → ∀ ad, ta = some ad → D ad.block)
/-- A token whose symbols have codes. -/
def TkS (L D : List Int) (t : Tok) : Prop :=
  (t.1 = 0 → 0 ≤ t.2 ∧ t.2 ≤ 255 ∧ Sd L t.2) ∧
  (t.1 ≠ 0 → (3 ≤ t.1 ∧ t.1 ≤ 258) ∧ (1 ≤ t.2 ∧ t.2 ≤ 32768) ∧ Sd L ((257 + Sy.lsy t.1.toNat : Nat) : Int) ∧ Sd D ((Sy.dsy t.2.toNat : Nat) : Int) ∧
    Sy.lsy t.1.toNat ≤ 28 ∧ Sy.dsy t.2.toNat ≤ 29 ∧
    (bse .lit ((257 + Sy.lsy t.1.toNat : Nat) : Int)).1 ≤ t.1.toNat ∧ t.1.toNat - (bse .lit ((257 + Sy.lsy t.1.toNat : Nat) : Int)).1 < 2 ^ xt .lit ((257 + Sy.lsy t.1.toNat : Nat) : Int) ∧
    (bse .dst ((Sy.dsy t.2.toNat : Nat) : Int)).1 ≤ t.2.toNat ∧ t.2.toNat - (bse .dst ((Sy.dsy t.2.toNat : Nat) : Int)).1 < 2 ^ xt .dst ((Sy.dsy t.2.toNat : Nat) : Int))
theorem xt_256 : xt .lit 256 = 0 := by decide
theorem xt_lit {s : Int} (h : s ≤ 255) : xt .lit s = 0 := by
  simp only [xt, bse]
  rw [if_neg (by omega)]
theorem tkB_le {L D : List Int} {t : Tok} (h : TkS L D t) : (tkB L D t).length ≤ 58 := by
  unfold tkB
  split
  · rename_i h0
    have := syB_le (k := .lit) (z := 0) (h.1 h0).2.2
    omega
  · rename_i h0
    obtain ⟨_, _, h1, h2, _⟩ := h.2 h0
    rw [List.length_append]
    have e1 := syB_le (k := .lit) (z := t.1.toNat - (bse .lit ((257 + Sy.lsy t.1.toNat : Nat) : Int)).1) h1
    have e2 := syB_le (k := .dst) (z := t.2.toNat - (bse .dst ((Sy.dsy t.2.toNat : Nat) : Int)).1) h2
    unfold mtB
    omega
theorem hdBits_le {h : Hd} (hk : HdW h) : (hdBits h).length ≤ 20000 := by
  have e1 := fl_le (fun x : Int => Bt.dg false x.toNat 3) h.own 0 3 (fun i _ => by simp [Bt.dg_length]) h.own.length (Nat.le_refl _)
  have e2 := fl_le (fun t : Tok => syB .run h.R t.1 t.2.toNat) h.rs (0, 0) 29 (fun i hi => syB_le (hk.hrv i hi).1) h.rs.length (Nat.le_refl _)
  rw [fl_all] at e1 e2
  have o := hk.ho
  have r := hk.hr
  unfold hdBits
  rw [List.length_append, List.length_append, List.length_append, List.length_append, Bt.dg_length, Bt.dg_length, Bt.dg_length]
  omega
set_option maxRecDepth 100000 in
set_option maxHeartbeats 4000000 in
theorem pbody_1 (w : World) (B gp g : Nat) (v : Value) (l : List Bool) (ts : List Tok) (vb : Value) (D : Nat → Prop) (hp : Pn w B gp g v l) (hB : B ≤ w.heap.size) (H : BdZ w D 1 ts vb) (hD : ∀ k, D k → ¬ Pt gp g v k) (hlen : ts.length ≤ 1000000)
    (hts : ∀ i, i < ts.length → TkS (LL 1 ts) (DL 1 ts) (ts.getD i (0, 0))) (hs6 : Sd (LL 1 ts) 256) (hl : l.length ≤ 700000000000) :
    Calls Tryz.prog 37 #[.pointer (some ⟨gp, 0, none⟩), vb] w (PPost w B gp g v (l ++ bdBits 1 ts)) := by
  obtain ⟨hp0, a1, c1, b1, m1, d1, g1, a2, c2, b2, m2, d2, g2, ta, tc, rfl, k2, k1, hw1, hw2, hta, htD⟩ := H
  have hL1 := LL_length 1 ts
  have hL2 := DL_length 1 ts
  obtain rfl := k1 rfl
  have HBITS : Hid (l ++ bdBits 1 ts = l ++ ([] : List Bool) ++ fl (tkB (LL 1 ts) (DL 1 ts)) ts ts.length ++ syB .lit (LL 1 ts) 256 0) := Lib.hid (by
    rw [fl_all]; unfold bdBits syB; rw [xt_256]; simp only [(by decide : ¬ (1 : Nat) = 2), if_false, List.append_assoc, Bt.dg, List.range_zero, List.map_nil, List.append_nil, List.nil_append])
  have HFL := Lib.hid (fl_le (tkB (LL 1 ts) (DL 1 ts)) ts (0, 0) 58 (fun i hi => tkB_le (hts i hi)))
  have HNX := Lib.hid (fun k (hk : k < ts.length) => fl_next (tkB (LL 1 ts) (DL 1 ts)) ts k (0, 0) hk)
  have HH2 : Hid ((l ++ ([] : List Bool)).length ≤ 700000020000) := Lib.hid (by rw [List.append_nil]; omega)
  generalize LL 1 ts = L1 at *
  generalize DL 1 ts = L2 at *
  have hal := below_alloc w (.cells #[.pointer none, .slice a1 286 c1, .slice b1 m1 d1, .pointer (some ⟨g1, 0, none⟩), .func (.func 77) #[] #[], .slice a2 30 c2, .slice b2 m2 d2, .pointer (some ⟨g2, 0, none⟩), .func (.func 78) #[] #[], .slice ta ts.length tc] 86)
  have hrow := heap_alloc_last w (.cells #[.pointer none, .slice a1 286 c1, .slice b1 m1 d1, .pointer (some ⟨g1, 0, none⟩), .func (.func 77) #[] #[], .slice a2 30 c2, .slice b2 m2 d2, .pointer (some ⟨g2, 0, none⟩), .func (.func 78) #[] #[], .slice ta ts.length tc] 86)
  have hp1 := hp.mono hal
  have hq : ¬ Pt gp g v w.heap.size := fun e => by have := hp.own_lt e; omega
  have hqs : w.heap.size < (w.alloc (.cells #[.pointer none, .slice a1 286 c1, .slice b1 m1 d1, .pointer (some ⟨g1, 0, none⟩), .func (.func 77) #[] #[], .slice a2 30 c2, .slice b2 m2 d2, .pointer (some ⟨g2, 0, none⟩), .func (.func 78) #[] #[], .slice ta ts.length tc] 86)).heap.size := by simp
  have HK : Hid (∀ w', Ch (w.alloc (.cells #[.pointer none, .slice a1 286 c1, .slice b1 m1 d1, .pointer (some ⟨g1, 0, none⟩), .func (.func 77) #[] #[], .slice a2 30 c2, .slice b2 m2 d2, .pointer (some ⟨g2, 0, none⟩), .func (.func 78) #[] #[], .slice ta ts.length tc] 86)) w' (Pt gp g v) → w'.heap[w.heap.size]? = some (.cells #[.pointer none, .slice a1 286 c1, .slice b1 m1 d1, .pointer (some ⟨g1, 0, none⟩), .func (.func 77) #[] #[], .slice a2 30 c2, .slice b2 m2 d2, .pointer (some ⟨g2, 0, none⟩), .func (.func 78) #[] #[], .slice ta ts.length tc] 86 (0, 0)) ∧ Bw w' D g1 L1 ∧ Bw w' D g2 L2 ∧ Ts2 w' ta ts.length tc ts) := Lib.hid (fun w' c =>
    ⟨(c.block w.heap.size hqs hq).trans hrow, (hw1.mono hal).kept c hD, (hw2.mono hal).kept c hD, (hta.mono hal).kept0 c (fun hn ad e => hD _ (htD hn ad e))⟩)
  have HFIN : Hid (∀ l2 e w2, PPost (w.alloc (.cells #[.pointer none, .slice a1 286 c1, .slice b1 m1 d1, .pointer (some ⟨g1, 0, none⟩), .func (.func 77) #[] #[], .slice a2 30 c2, .slice b2 m2 d2, .pointer (some ⟨g2, 0, none⟩), .func (.func 78) #[] #[], .slice ta ts.length tc] 86)) B gp g v l2 e w2 → PPost w B gp g v l2 e w2) := Lib.hid (fun l2 e w2 hp => PPost.below hal hp)
  have HP1 := Lib.hid hp1
  have HTS := Lib.hid hts
  have HS6 := Lib.hid hs6
  have HLS := Lib.hid (And.intro hL1 hL2)
  have HB : Hid (B ≤ (w.alloc (.cells #[.pointer none, .slice a1 286 c1, .slice b1 m1 d1, .pointer (some ⟨g1, 0, none⟩), .func (.func 77) #[] #[], .slice a2 30 c2, .slice b2 m2 d2, .pointer (some ⟨g2, 0, none⟩), .func (.func 78) #[] #[], .slice ta ts.length tc] 86)).heap.size) := Lib.hid (Nat.le_trans hB hal.size)
  clear hw1 hw2 hta htD hp hD hp1 hts hs6 hal hrow hq hqs hB k1 k2 hL1 hL2
  obtain ⟨Y, hY⟩ : ∃ Y, Y = l ++ bdBits 1 ts := ⟨_, rfl⟩
  rw [← hY]
  have HY := Lib.hid hY
  clear hY
  unfold bdC
  go_enter Tryz.func37, Tryz.ntmps37
  have cc0 := cell_of_row _ _ 0 _ _ (0, 0) (HK.out _ (Ch.refl _ _)).1
  have cc9 := cell_of_row _ _ 9 _ _ (0, 0) (HK.out _ (Ch.refl _ _)).1
  simp only [List.getElem?_toArray, List.getElem?_cons_zero, List.getElem?_cons_succ] at cc0 cc9
  go_wp2_with fail
  clear cc0 cc9
  revert HK HFIN HP1 HB 
  generalize w.alloc (.cells #[.pointer none, .slice a1 286 c1, .slice b1 m1 d1, .pointer (some ⟨g1, 0, none⟩), .func (.func 77) #[] #[], .slice a2 30 c2, .slice b2 m2 d2, .pointer (some ⟨g2, 0, none⟩), .func (.func 78) #[] #[], .slice ta ts.length tc] 86) = W1
  generalize hqq : w.heap.size = q
  clear hqq
  intro HK HFIN HP1 HB 
  have HST : Hid (PPost W1 B gp g v (l ++ ([] : List Bool)) (.returned (.tuple #[])) W1) := Lib.hid ⟨rfl, v, by rw [List.append_nil]; exact HP1.out, Ch.refl _ _, fun k h => .inl h⟩
  generalize l ++ ([] : List Bool) = Z at *
  go_loopw [20] (fun iv wr => ∃ k : Nat, k ≤ ts.length ∧ iv = .int .i64 k ∧ Hid (PPost W1 B gp g v (Z ++ fl (tkB L1 L2) ts k) (.returned (.tuple #[])) wr)) (fun iv _ => ts.length - (intOf iv).toNat)
  case atStart => exact ⟨0, by omega, rfl, by simpa [fl] using HST⟩
  case round =>
    obtain ⟨k, hk, rfl, HP⟩ := hrel
    clear HST
    by_cases hlt : k < ts.length
    · obtain ⟨_, v5, q5, c5, f5⟩ := HP.out
      have hk5 := HK.out wr c5
      obtain ⟨br, orr, rfl, _, t0, t1⟩ := hk5.2.2.2.at' k hlt
      have hwf := hk5.2.2.2.wf k hlt
      have hr := HTS.out k hlt
      have hnx := HNX.out k hlt
      have hfr := HFL.out k hk
      have hb1 := hk5.2.1
      have hs5 := hk5.1
      clear hk5
      generalize ts.getD k (0, 0) = tt at *
      obtain ⟨x, y⟩ := tt
      simp only at t0 t1 hwf
      have hal := below_alloc wr (.cells #[.int .i64 x, .int .i64 y] 59)
      have hrow := heap_alloc_last wr (.cells #[.int .i64 x, .int .i64 y] 59)
      have HLE : Hid ((Z ++ fl (tkB L1 L2) ts k).length ≤ 800000000000) := Lib.hid (by rw [List.length_append]; have := HH2.out; omega)
      have hBw : B ≤ (wr.alloc (.cells #[.int .i64 x, .int .i64 y] 59)).heap.size := by have := hal.size; have := c5.size; have := HB.out; omega
      have HT5 : Hid (∀ l2 e w3, PPost (wr.alloc (.cells #[.int .i64 x, .int .i64 y] 59)) B gp g v5 l2 e w3 → PPost W1 B gp g v l2 e w3) := Lib.hid (fun l2 e w3 hp => PPost.trans q5 c5 f5 (PPost.below hal hp))
      have HRK : Hid (∀ l2 e w3, PPost (wr.alloc (.cells #[.int .i64 x, .int .i64 y] 59)) B gp g v5 l2 e w3 → w3.heap[wr.heap.size]? = some (.cells #[.int .i64 x, .int .i64 y] 59 (0, 0))) := Lib.hid (fun l2 e w3 hp => by
        obtain ⟨_, _, _, c, _⟩ := hp
        exact (c.block wr.heap.size (by simp) (fun e => by have := q5.own_lt e; omega)).trans hrow)
      have HS5 := Lib.hid ((hal.block q (Array.getElem?_eq_some_iff.1 hs5).1).trans hs5)
      have HRW := Lib.hid hrow
      by_cases hx : x = 0
      · subst hx
        obtain ⟨y0, y1, hsd⟩ := hr.1 rfl
        simp only at y0 y1 hsd
        have hsy := symbol_any .lit (wr.alloc (.cells #[.int .i64 0, .int .i64 y] 59)) B gp g v5 _ a1 286 c1 b1 m1 d1 g1 L1 D y 0 (q5.mono hal) hBw (hb1.mono hal) (by have := HLS.out; omega) hsd (by rw [xt_lit y1]; decide) hwf.2 (by have := HLE.out; omega : (Z ++ fl (tkB L1 L2) ts k).length ≤ 900000000000)
        unfold tbV fvK at hsy
        rw [show (((0 : Nat)) : Int) = 0 from rfl] at hsy
        have HSY := Lib.hid hsy
        have HNX2 : Hid (fl (tkB L1 L2) ts (k + 1) = fl (tkB L1 L2) ts k ++ syB .lit L1 y 0) := Lib.hid (by rw [hnx]; simp only [tkB, if_true])
        clear hal hrow hsy hs5 hb1 hnx hfr hr hwf q5 c5 f5 HP hsd y0 y1 hBw HRK
        have r0 := cell_of_row _ _ 0 _ _ (0, 0) HRW.out
        have r1 := cell_of_row _ _ 1 _ _ (0, 0) HRW.out
        have e1 := cell_of_row _ _ 1 _ _ (0, 0) HS5.out
        have e2 := cell_of_row _ _ 2 _ _ (0, 0) HS5.out
        have e3 := cell_of_row _ _ 3 _ _ (0, 0) HS5.out
        have e4 := cell_of_row _ _ 4 _ _ (0, 0) HS5.out
        simp only [List.getElem?_toArray, List.getElem?_cons_zero, List.getElem?_cons_succ] at r0 r1 e1 e2 e3 e4
        go_wp2_with fail
        refine HSY.out.mono ?_
        rintro e w6 hpp
        have hpq := HT5.out _ _ _ hpp
        clear hpp
        have HPQ : Hid (PPost W1 B gp g v (Z ++ fl (tkB L1 L2) ts (k + 1)) e w6) := Lib.hid (by rw [HNX2.out, ← List.append_assoc]; exact hpq)
        obtain ⟨rfl, _⟩ := hpq
        clear r0 r1 e1 e2 e3 e4 HSY HT5 HS5 HRW HNX2
        go_wp2
        go_roundw
        case rel => exact ⟨k + 1, by omega, by go_num, HPQ⟩
        case measure => simp [intOf]; omega
      · obtain ⟨hx1, hy1, hd1, hd2, hls, hds, z1, z2, z3, z4⟩ := hr.2 hx
        simp only at hx1 hy1 hd1 hd2 hls hds z1 z2 z3 z4
        have d0 : (x == 0) = false := by simpa using hx
        have HLS2 := Lib.hid (lsym_any x (wr.alloc (.cells #[.int .i64 x, .int .i64 y] 59)) hwf.1)
        have HDS2 := Lib.hid (fun w' => dsym_any y w' hwf.2)
        have HNX2 : Hid (fl (tkB L1 L2) ts (k + 1) = fl (tkB L1 L2) ts k ++ (mtB .lit L1 ((257 + Sy.lsy x.toNat : Nat) : Int) x.toNat ++ mtB .dst L2 ((Sy.dsy y.toNat : Nat) : Int) y.toNat)) := Lib.hid (by rw [hnx]; simp only [tkB]; rw [if_neg hx])
        have hM := match_any .lit (wr.alloc (.cells #[.int .i64 x, .int .i64 y] 59)) B gp g v5 _ a1 286 c1 b1 m1 d1 g1 L1 D ((257 + Sy.lsy x.toNat : Nat) : Int) x.toNat (q5.mono hal) hBw (hb1.mono hal) (by have := HLS.out; omega) hd1 z1 z2 (by omega) (by simp only [Lit.wf, IntKind.min, IntKind.max, IntKind.signed, IntKind.bits, Bool.and_eq_true, decide_eq_true_eq, if_true]; simp; omega) (by have := HLE.out; omega : (Z ++ fl (tkB L1 L2) ts k).length ≤ 900000000000)
        unfold tbV fvK at hM
        rw [Int.toNat_of_nonneg (by omega)] at hM
        have HM := Lib.hid hM
        have HM2 : Hid (∀ w6 v6 l6, Pn w6 B gp g v6 l6 → Ch W1 w6 (Pt gp g v) → l6.length ≤ 900000000000 → Calls Tryz.prog 62 #[.pointer (some ⟨gp, 0, none⟩), .agg #[.slice a2 30 c2, .slice b2 m2 d2, .pointer (some ⟨g2, 0, none⟩), .func (.func 78) #[] #[]], .int .i64 ((Sy.dsy y.toNat : Nat) : Int), .int .i64 y] w6 (PPost w6 B gp g v6 (l6 ++ mtB .dst L2 ((Sy.dsy y.toNat : Nat) : Int) y.toNat))) := Lib.hid (fun w6 v6 l6 q6 c6 h6 => by
          have h := match_any .dst w6 B gp g v6 l6 a2 30 c2 b2 m2 d2 g2 L2 D ((Sy.dsy y.toNat : Nat) : Int) y.toNat q6 (Nat.le_trans HB.out c6.size) (HK.out w6 c6).2.2.1 (by have := HLS.out; omega) hd2 z3 z4 (by omega) (by simp only [Lit.wf, IntKind.min, IntKind.max, IntKind.signed, IntKind.bits, Bool.and_eq_true, decide_eq_true_eq, if_true]; simp; omega) h6
          unfold tbV fvK at h
          rw [Int.toNat_of_nonneg (by omega)] at h
          exact h)
        have HX := Lib.hid (And.intro hx1 hy1)
        have HML : Hid ((mtB .lit L1 ((257 + Sy.lsy x.toNat : Nat) : Int) x.toNat).length ≤ 29) := Lib.hid (syB_le hd1)
        have HRK2 := Lib.hid (HRK.out)
        clear hM hal hrow hs5 hb1 hnx hfr hr hwf q5 c5 f5 HP hBw hx hx1 hy1 hd1 hd2 hls hds z1 z2 z3 z4 HRK
        have r0 := cell_of_row _ _ 0 _ _ (0, 0) HRW.out
        have r1 := cell_of_row _ _ 1 _ _ (0, 0) HRW.out
        have e1 := cell_of_row _ _ 1 _ _ (0, 0) HS5.out
        have e2 := cell_of_row _ _ 2 _ _ (0, 0) HS5.out
        have e3 := cell_of_row _ _ 3 _ _ (0, 0) HS5.out
        have e4 := cell_of_row _ _ 4 _ _ (0, 0) HS5.out
        simp only [List.getElem?_toArray, List.getElem?_cons_zero, List.getElem?_cons_succ] at r0 r1 e1 e2 e3 e4
        go_wp2_with fail
        refine HLS2.out.mono ?_
        rintro e w6 ⟨⟨s1, rfl, hs1⟩, rfl⟩
        obtain rfl := hs1 HX.out.1
        clear hs1
        generalize decide (3 ≤ x ∧ x ≤ 258) = ok1
        go_wp2_with fail
        refine HM.out.mono ?_
        rintro e w6 hpp
        have hpq := HT5.out _ _ _ hpp
        have hrq := HRK2.out _ _ _ hpp
        clear hpp
        obtain ⟨rfl, v6, q6, c6, f6⟩ := hpq
        have hs6 := (HK.out w6 c6).1
        have HM3 := Lib.hid (HM2.out w6 v6 _ q6 c6 (by rw [List.length_append]; have := HLE.out; have := HML.out; omega))
        have HT6 : Hid (∀ l2 e w3, PPost w6 B gp g v6 l2 e w3 → PPost W1 B gp g v l2 e w3) := Lib.hid (fun l2 e w3 hp => PPost.trans q6 c6 f6 hp)
        clear r0 r1 e1 e2 e3 e4 HLS2 HM HT5 HS5 HRW HRK2 q6 c6 f6 HM2
        have r0 := cell_of_row _ _ 0 _ _ (0, 0) hrq
        have r1 := cell_of_row _ _ 1 _ _ (0, 0) hrq
        have e5 := cell_of_row _ _ 5 _ _ (0, 0) hs6
        have e6 := cell_of_row _ _ 6 _ _ (0, 0) hs6
        have e7 := cell_of_row _ _ 7 _ _ (0, 0) hs6
        have e8 := cell_of_row _ _ 8 _ _ (0, 0) hs6
        simp only [List.getElem?_toArray, List.getElem?_cons_zero, List.getElem?_cons_succ] at r0 r1 e5 e6 e7 e8
        clear hrq hs6
        go_wp2_with fail
        refine (HDS2.out _).mono ?_
        rintro e w7 ⟨⟨s2, rfl, hs2⟩, rfl⟩
        obtain rfl := hs2 HX.out.2
        clear hs2
        generalize decide (1 ≤ y ∧ y ≤ 32768) = ok2
        go_wp2_with fail
        refine HM3.out.mono ?_
        rintro e w7 hpp
        have hpq := HT6.out _ _ _ hpp
        clear hpp
        have HPQ : Hid (PPost W1 B gp g v (Z ++ fl (tkB L1 L2) ts (k + 1)) e w7) := Lib.hid (by rw [HNX2.out, ← List.append_assoc, ← List.append_assoc]; exact hpq)
        obtain ⟨rfl, _⟩ := hpq
        clear r0 r1 e5 e6 e7 e8 HM3 HT6 HNX2 HDS2 HML HX
        go_wp2
        go_roundw
        case rel => exact ⟨k + 1, by omega, by go_num, HPQ⟩
        case measure => simp [intOf]; omega
    · obtain rfl : ts.length = k := by omega
      have hfr := HFL.out _ hk
      obtain ⟨_, v5, q5, c5, f5⟩ := HP.out
      have hk5 := HK.out wr c5
      have hs5 := hk5.1
      have hsy := symbol_any .lit wr B gp g v5 _ a1 286 c1 b1 m1 d1 g1 L1 D 256 0 q5 (Nat.le_trans HB.out c5.size) hk5.2.1 (by have := HLS.out; omega) HS6.out (by rw [xt_256]; decide) (by decide) (by rw [List.length_append]; have := HH2.out; omega : (Z ++ fl (tkB L1 L2) ts ts.length).length ≤ 900000000000)
      unfold tbV fvK at hsy
      rw [show (((0 : Nat)) : Int) = 0 from rfl] at hsy
      have HSY := Lib.hid hsy
      have HT5 : Hid (∀ l2 e w3, PPost wr B gp g v5 l2 e w3 → PPost W1 B gp g v l2 e w3) := Lib.hid (fun l2 e w3 hp => PPost.trans q5 c5 f5 hp)
      have e1 := cell_of_row _ _ 1 _ _ (0, 0) hs5
      have e2 := cell_of_row _ _ 2 _ _ (0, 0) hs5
      have e3 := cell_of_row _ _ 3 _ _ (0, 0) hs5
      have e4 := cell_of_row _ _ 4 _ _ (0, 0) hs5
      simp only [List.getElem?_toArray, List.getElem?_cons_zero, List.getElem?_cons_succ] at e1 e2 e3 e4
      clear hk5 hs5 hsy q5 c5 f5 hfr
      go_wp2_with fail
      refine HSY.out.mono ?_
      rintro e w6 hpp
      have HPF : Hid (PPost w B gp g v Y e w6) := Lib.hid (by rw [HY.out, HBITS.out]; exact HFIN.out _ _ _ (HT5.out _ _ _ hpp))
      obtain ⟨rfl, _⟩ := hpp
      clear e1 e2 e3 e4 HSY HT5
      go_wp2
      go_end0
      exact HPF.out
set_option maxRecDepth 100000 in
set_option maxHeartbeats 4000000 in
theorem pbody_2 (w : World) (B gp g : Nat) (v : Value) (l : List Bool) (ts : List Tok) (vb : Value) (D : Nat → Prop) (hp : Pn w B gp g v l) (hB : B ≤ w.heap.size) (H : BdZ w D 2 ts vb) (hD : ∀ k, D k → ¬ Pt gp g v k) (hW : HdW (hdT ts)) (hlen : ts.length ≤ 1000000)
    (hts : ∀ i, i < ts.length → TkS (LL 2 ts) (DL 2 ts) (ts.getD i (0, 0))) (hs6 : Sd (LL 2 ts) 256) (hl : l.length ≤ 700000000000) :
    Calls Tryz.prog 37 #[.pointer (some ⟨gp, 0, none⟩), vb] w (PPost w B gp g v (l ++ bdBits 2 ts)) := by
  obtain ⟨hp0, a1, c1, b1, m1, d1, g1, a2, c2, b2, m2, d2, g2, ta, tc, rfl, k2, k1, hw1, hw2, hta, htD⟩ := H
  have hL1 := LL_length 2 ts
  have hL2 := DL_length 2 ts
  obtain ⟨hb, rfl, hhz⟩ := k2 rfl
  have HBITS : Hid (l ++ bdBits 2 ts = l ++ (hdBits (hdT ts)) ++ fl (tkB (LL 2 ts) (DL 2 ts)) ts ts.length ++ syB .lit (LL 2 ts) 256 0) := Lib.hid (by
    rw [fl_all]; unfold bdBits syB; rw [xt_256]; simp only [if_true, List.append_assoc, Bt.dg, List.range_zero, List.map_nil, List.append_nil, List.nil_append])
  have HFL := Lib.hid (fl_le (tkB (LL 2 ts) (DL 2 ts)) ts (0, 0) 58 (fun i hi => tkB_le (hts i hi)))
  have HNX := Lib.hid (fun k (hk : k < ts.length) => fl_next (tkB (LL 2 ts) (DL 2 ts)) ts k (0, 0) hk)
  have HH2 : Hid ((l ++ (hdBits (hdT ts))).length ≤ 700000020000) := Lib.hid (by rw [List.length_append]; have := hdBits_le hW; omega)
  generalize LL 2 ts = L1 at *
  generalize DL 2 ts = L2 at *
  have hal := below_alloc w (.cells #[.pointer (some ⟨hb, 0, none⟩), .slice a1 286 c1, .slice b1 m1 d1, .pointer (some ⟨g1, 0, none⟩), .func (.func 77) #[] #[], .slice a2 30 c2, .slice b2 m2 d2, .pointer (some ⟨g2, 0, none⟩), .func (.func 78) #[] #[], .slice ta ts.length tc] 86)
  have hrow := heap_alloc_last w (.cells #[.pointer (some ⟨hb, 0, none⟩), .slice a1 286 c1, .slice b1 m1 d1, .pointer (some ⟨g1, 0, none⟩), .func (.func 77) #[] #[], .slice a2 30 c2, .slice b2 m2 d2, .pointer (some ⟨g2, 0, none⟩), .func (.func 78) #[] #[], .slice ta ts.length tc] 86)
  have hp1 := hp.mono hal
  have hq : ¬ Pt gp g v w.heap.size := fun e => by have := hp.own_lt e; omega
  have hqs : w.heap.size < (w.alloc (.cells #[.pointer (some ⟨hb, 0, none⟩), .slice a1 286 c1, .slice b1 m1 d1, .pointer (some ⟨g1, 0, none⟩), .func (.func 77) #[] #[], .slice a2 30 c2, .slice b2 m2 d2, .pointer (some ⟨g2, 0, none⟩), .func (.func 78) #[] #[], .slice ta ts.length tc] 86)).heap.size := by simp
  have HK : Hid (∀ w', Ch (w.alloc (.cells #[.pointer (some ⟨hb, 0, none⟩), .slice a1 286 c1, .slice b1 m1 d1, .pointer (some ⟨g1, 0, none⟩), .func (.func 77) #[] #[], .slice a2 30 c2, .slice b2 m2 d2, .pointer (some ⟨g2, 0, none⟩), .func (.func 78) #[] #[], .slice ta ts.length tc] 86)) w' (Pt gp g v) → w'.heap[w.heap.size]? = some (.cells #[.pointer (some ⟨hb, 0, none⟩), .slice a1 286 c1, .slice b1 m1 d1, .pointer (some ⟨g1, 0, none⟩), .func (.func 77) #[] #[], .slice a2 30 c2, .slice b2 m2 d2, .pointer (some ⟨g2, 0, none⟩), .func (.func 78) #[] #[], .slice ta ts.length tc] 86 (0, 0)) ∧ Bw w' D g1 L1 ∧ Bw w' D g2 L2 ∧ Ts2 w' ta ts.length tc ts) := Lib.hid (fun w' c =>
    ⟨(c.block w.heap.size hqs hq).trans hrow, (hw1.mono hal).kept c hD, (hw2.mono hal).kept c hD, (hta.mono hal).kept0 c (fun hn ad e => hD _ (htD hn ad e))⟩)
  have HHD : Hid (Calls Tryz.prog 60 #[.pointer (some ⟨gp, 0, none⟩), .pointer (some ⟨hb, 0, none⟩)] (w.alloc (.cells #[.pointer (some ⟨hb, 0, none⟩), .slice a1 286 c1, .slice b1 m1 d1, .pointer (some ⟨g1, 0, none⟩), .func (.func 77) #[] #[], .slice a2 30 c2, .slice b2 m2 d2, .pointer (some ⟨g2, 0, none⟩), .func (.func 78) #[] #[], .slice ta ts.length tc] 86)) (PPost (w.alloc (.cells #[.pointer (some ⟨hb, 0, none⟩), .slice a1 286 c1, .slice b1 m1 d1, .pointer (some ⟨g1, 0, none⟩), .func (.func 77) #[] #[], .slice a2 30 c2, .slice b2 m2 d2, .pointer (some ⟨g2, 0, none⟩), .func (.func 78) #[] #[], .slice ta ts.length tc] 86)) B gp g v (l ++ hdBits (hdT ts)))) := Lib.hid (pheader_any _ B gp g v l hb (hdT ts) D hp1 (Nat.le_trans hB hal.size) (hhz.kept (Ch.of_below (T := fun _ => False) hal) (fun _ _ h => h)) hD hW (by omega))
  clear hhz hW
  have HFIN : Hid (∀ l2 e w2, PPost (w.alloc (.cells #[.pointer (some ⟨hb, 0, none⟩), .slice a1 286 c1, .slice b1 m1 d1, .pointer (some ⟨g1, 0, none⟩), .func (.func 77) #[] #[], .slice a2 30 c2, .slice b2 m2 d2, .pointer (some ⟨g2, 0, none⟩), .func (.func 78) #[] #[], .slice ta ts.length tc] 86)) B gp g v l2 e w2 → PPost w B gp g v l2 e w2) := Lib.hid (fun l2 e w2 hp => PPost.below hal hp)
  have HP1 := Lib.hid hp1
  have HTS := Lib.hid hts
  have HS6 := Lib.hid hs6
  have HLS := Lib.hid (And.intro hL1 hL2)
  have HB : Hid (B ≤ (w.alloc (.cells #[.pointer (some ⟨hb, 0, none⟩), .slice a1 286 c1, .slice b1 m1 d1, .pointer (some ⟨g1, 0, none⟩), .func (.func 77) #[] #[], .slice a2 30 c2, .slice b2 m2 d2, .pointer (some ⟨g2, 0, none⟩), .func (.func 78) #[] #[], .slice ta ts.length tc] 86)).heap.size) := Lib.hid (Nat.le_trans hB hal.size)
  clear hw1 hw2 hta htD hp hD hp1 hts hs6 hal hrow hq hqs hB k1 k2 hL1 hL2
  obtain ⟨Y, hY⟩ : ∃ Y, Y = l ++ bdBits 2 ts := ⟨_, rfl⟩
  rw [← hY]
  have HY := Lib.hid hY
  clear hY
  unfold bdC
  go_enter Tryz.func37, Tryz.ntmps37
  have cc0 := cell_of_row _ _ 0 _ _ (0, 0) (HK.out _ (Ch.refl _ _)).1
  
  simp only [List.getElem?_toArray, List.getElem?_cons_zero, List.getElem?_cons_succ] at cc0
  go_wp2_with fail
  refine HHD.out.mono ?_
  rintro e w2 hp2
  have HST := Lib.hid hp2
  obtain ⟨rfl, v2, q2', c2', f2'⟩ := hp2
  have cc9 := cell_of_row _ _ 9 _ _ (0, 0) (HK.out w2 c2').1
  simp only [List.getElem?_toArray, List.getElem?_cons_zero, List.getElem?_cons_succ] at cc9
  clear q2' c2' f2' HHD
  go_wp2_with fail
  clear cc9
  clear cc0
  revert HK HFIN HP1 HB HST
  generalize w.alloc (.cells #[.pointer (some ⟨hb, 0, none⟩), .slice a1 286 c1, .slice b1 m1 d1, .pointer (some ⟨g1, 0, none⟩), .func (.func 77) #[] #[], .slice a2 30 c2, .slice b2 m2 d2, .pointer (some ⟨g2, 0, none⟩), .func (.func 78) #[] #[], .slice ta ts.length tc] 86) = W1
  generalize hqq : w.heap.size = q
  clear hqq
  intro HK HFIN HP1 HB HST
  generalize l ++ (hdBits (hdT ts)) = Z at *
  go_loopw [20] (fun iv wr => ∃ k : Nat, k ≤ ts.length ∧ iv = .int .i64 k ∧ Hid (PPost W1 B gp g v (Z ++ fl (tkB L1 L2) ts k) (.returned (.tuple #[])) wr)) (fun iv _ => ts.length - (intOf iv).toNat)
  case atStart => exact ⟨0, by omega, rfl, by simpa [fl] using HST⟩
  case round =>
    obtain ⟨k, hk, rfl, HP⟩ := hrel
    clear HST
    by_cases hlt : k < ts.length
    · obtain ⟨_, v5, q5, c5, f5⟩ := HP.out
      have hk5 := HK.out wr c5
      obtain ⟨br, orr, rfl, _, t0, t1⟩ := hk5.2.2.2.at' k hlt
      have hwf := hk5.2.2.2.wf k hlt
      have hr := HTS.out k hlt
      have hnx := HNX.out k hlt
      have hfr := HFL.out k hk
      have hb1 := hk5.2.1
      have hs5 := hk5.1
      clear hk5
      generalize ts.getD k (0, 0) = tt at *
      obtain ⟨x, y⟩ := tt
      simp only at t0 t1 hwf
      have hal := below_alloc wr (.cells #[.int .i64 x, .int .i64 y] 59)
      have hrow := heap_alloc_last wr (.cells #[.int .i64 x, .int .i64 y] 59)
      have HLE : Hid ((Z ++ fl (tkB L1 L2) ts k).length ≤ 800000000000) := Lib.hid (by rw [List.length_append]; have := HH2.out; omega)
      have hBw : B ≤ (wr.alloc (.cells #[.int .i64 x, .int .i64 y] 59)).heap.size := by have := hal.size; have := c5.size; have := HB.out; omega
      have HT5 : Hid (∀ l2 e w3, PPost (wr.alloc (.cells #[.int .i64 x, .int .i64 y] 59)) B gp g v5 l2 e w3 → PPost W1 B gp g v l2 e w3) := Lib.hid (fun l2 e w3 hp => PPost.trans q5 c5 f5 (PPost.below hal hp))
      have HRK : Hid (∀ l2 e w3, PPost (wr.alloc (.cells #[.int .i64 x, .int .i64 y] 59)) B gp g v5 l2 e w3 → w3.heap[wr.heap.size]? = some (.cells #[.int .i64 x, .int .i64 y] 59 (0, 0))) := Lib.hid (fun l2 e w3 hp => by
        obtain ⟨_, _, _, c, _⟩ := hp
        exact (c.block wr.heap.size (by simp) (fun e => by have := q5.own_lt e; omega)).trans hrow)
      have HS5 := Lib.hid ((hal.block q (Array.getElem?_eq_some_iff.1 hs5).1).trans hs5)
      have HRW := Lib.hid hrow
      by_cases hx : x = 0
      · subst hx
        obtain ⟨y0, y1, hsd⟩ := hr.1 rfl
        simp only at y0 y1 hsd
        have hsy := symbol_any .lit (wr.alloc (.cells #[.int .i64 0, .int .i64 y] 59)) B gp g v5 _ a1 286 c1 b1 m1 d1 g1 L1 D y 0 (q5.mono hal) hBw (hb1.mono hal) (by have := HLS.out; omega) hsd (by rw [xt_lit y1]; decide) hwf.2 (by have := HLE.out; omega : (Z ++ fl (tkB L1 L2) ts k).length ≤ 900000000000)
        unfold tbV fvK at hsy
        rw [show (((0 : Nat)) : Int) = 0 from rfl] at hsy
        have HSY := Lib.hid hsy
        have HNX2 : Hid (fl (tkB L1 L2) ts (k + 1) = fl (tkB L1 L2) ts k ++ syB .lit L1 y 0) := Lib.hid (by rw [hnx]; simp only [tkB, if_true])
        clear hal hrow hsy hs5 hb1 hnx hfr hr hwf q5 c5 f5 HP hsd y0 y1 hBw HRK
        have r0 := cell_of_row _ _ 0 _ _ (0, 0) HRW.out
        have r1 := cell_of_row _ _ 1 _ _ (0, 0) HRW.out
        have e1 := cell_of_row _ _ 1 _ _ (0, 0) HS5.out
        have e2 := cell_of_row _ _ 2 _ _ (0, 0) HS5.out
        have e3 := cell_of_row _ _ 3 _ _ (0, 0) HS5.out
        have e4 := cell_of_row _ _ 4 _ _ (0, 0) HS5.out
        simp only [List.getElem?_toArray, List.getElem?_cons_zero, List.getElem?_cons_succ] at r0 r1 e1 e2 e3 e4
        go_wp2_with fail
        refine HSY.out.mono ?_
        rintro e w6 hpp
        have hpq := HT5.out _ _ _ hpp
        clear hpp
        have HPQ : Hid (PPost W1 B gp g v (Z ++ fl (tkB L1 L2) ts (k + 1)) e w6) := Lib.hid (by rw [HNX2.out, ← List.append_assoc]; exact hpq)
        obtain ⟨rfl, _⟩ := hpq
        clear r0 r1 e1 e2 e3 e4 HSY HT5 HS5 HRW HNX2
        go_wp2
        go_roundw
        case rel => exact ⟨k + 1, by omega, by go_num, HPQ⟩
        case measure => simp [intOf]; omega
      · obtain ⟨hx1, hy1, hd1, hd2, hls, hds, z1, z2, z3, z4⟩ := hr.2 hx
        simp only at hx1 hy1 hd1 hd2 hls hds z1 z2 z3 z4
        have d0 : (x == 0) = false := by simpa using hx
        have HLS2 := Lib.hid (lsym_any x (wr.alloc (.cells #[.int .i64 x, .int .i64 y] 59)) hwf.1)
        have HDS2 := Lib.hid (fun w' => dsym_any y w' hwf.2)
        have HNX2 : Hid (fl (tkB L1 L2) ts (k + 1) = fl (tkB L1 L2) ts k ++ (mtB .lit L1 ((257 + Sy.lsy x.toNat : Nat) : Int) x.toNat ++ mtB .dst L2 ((Sy.dsy y.toNat : Nat) : Int) y.toNat)) := Lib.hid (by rw [hnx]; simp only [tkB]; rw [if_neg hx])
        have hM := match_any .lit (wr.alloc (.cells #[.int .i64 x, .int .i64 y] 59)) B gp g v5 _ a1 286 c1 b1 m1 d1 g1 L1 D ((257 + Sy.lsy x.toNat : Nat) : Int) x.toNat (q5.mono hal) hBw (hb1.mono hal) (by have := HLS.out; omega) hd1 z1 z2 (by omega) (by simp only [Lit.wf, IntKind.min, IntKind.max, IntKind.signed, IntKind.bits, Bool.and_eq_true, decide_eq_true_eq, if_true]; simp; omega) (by have := HLE.out; omega : (Z ++ fl (tkB L1 L2) ts k).length ≤ 900000000000)
        unfold tbV fvK at hM
        rw [Int.toNat_of_nonneg (by omega)] at hM
        have HM := Lib.hid hM
        have HM2 : Hid (∀ w6 v6 l6, Pn w6 B gp g v6 l6 → Ch W1 w6 (Pt gp g v) → l6.length ≤ 900000000000 → Calls Tryz.prog 62 #[.pointer (some ⟨gp, 0, none⟩), .agg #[.slice a2 30 c2, .slice b2 m2 d2, .pointer (some ⟨g2, 0, none⟩), .func (.func 78) #[] #[]], .int .i64 ((Sy.dsy y.toNat : Nat) : Int), .int .i64 y] w6 (PPost w6 B gp g v6 (l6 ++ mtB .dst L2 ((Sy.dsy y.toNat : Nat) : Int) y.toNat))) := Lib.hid (fun w6 v6 l6 q6 c6 h6 => by
          have h := match_any .dst w6 B gp g v6 l6 a2 30 c2 b2 m2 d2 g2 L2 D ((Sy.dsy y.toNat : Nat) : Int) y.toNat q6 (Nat.le_trans HB.out c6.size) (HK.out w6 c6).2.2.1 (by have := HLS.out; omega) hd2 z3 z4 (by omega) (by simp only [Lit.wf, IntKind.min, IntKind.max, IntKind.signed, IntKind.bits, Bool.and_eq_true, decide_eq_true_eq, if_true]; simp; omega) h6
          unfold tbV fvK at h
          rw [Int.toNat_of_nonneg (by omega)] at h
          exact h)
        have HX := Lib.hid (And.intro hx1 hy1)
        have HML : Hid ((mtB .lit L1 ((257 + Sy.lsy x.toNat : Nat) : Int) x.toNat).length ≤ 29) := Lib.hid (syB_le hd1)
        have HRK2 := Lib.hid (HRK.out)
        clear hM hal hrow hs5 hb1 hnx hfr hr hwf q5 c5 f5 HP hBw hx hx1 hy1 hd1 hd2 hls hds z1 z2 z3 z4 HRK
        have r0 := cell_of_row _ _ 0 _ _ (0, 0) HRW.out
        have r1 := cell_of_row _ _ 1 _ _ (0, 0) HRW.out
        have e1 := cell_of_row _ _ 1 _ _ (0, 0) HS5.out
        have e2 := cell_of_row _ _ 2 _ _ (0, 0) HS5.out
        have e3 := cell_of_row _ _ 3 _ _ (0, 0) HS5.out
        have e4 := cell_of_row _ _ 4 _ _ (0, 0) HS5.out
        simp only [List.getElem?_toArray, List.getElem?_cons_zero, List.getElem?_cons_succ] at r0 r1 e1 e2 e3 e4
        go_wp2_with fail
        refine HLS2.out.mono ?_
        rintro e w6 ⟨⟨s1, rfl, hs1⟩, rfl⟩
        obtain rfl := hs1 HX.out.1
        clear hs1
        generalize decide (3 ≤ x ∧ x ≤ 258) = ok1
        go_wp2_with fail
        refine HM.out.mono ?_
        rintro e w6 hpp
        have hpq := HT5.out _ _ _ hpp
        have hrq := HRK2.out _ _ _ hpp
        clear hpp
        obtain ⟨rfl, v6, q6, c6, f6⟩ := hpq
        have hs6 := (HK.out w6 c6).1
        have HM3 := Lib.hid (HM2.out w6 v6 _ q6 c6 (by rw [List.length_append]; have := HLE.out; have := HML.out; omega))
        have HT6 : Hid (∀ l2 e w3, PPost w6 B gp g v6 l2 e w3 → PPost W1 B gp g v l2 e w3) := Lib.hid (fun l2 e w3 hp => PPost.trans q6 c6 f6 hp)
        clear r0 r1 e1 e2 e3 e4 HLS2 HM HT5 HS5 HRW HRK2 q6 c6 f6 HM2
        have r0 := cell_of_row _ _ 0 _ _ (0, 0) hrq
        have r1 := cell_of_row _ _ 1 _ _ (0, 0) hrq
        have e5 := cell_of_row _ _ 5 _ _ (0, 0) hs6
        have e6 := cell_of_row _ _ 6 _ _ (0, 0) hs6
        have e7 := cell_of_row _ _ 7 _ _ (0, 0) hs6
        have e8 := cell_of_row _ _ 8 _ _ (0, 0) hs6
        simp only [List.getElem?_toArray, List.getElem?_cons_zero, List.getElem?_cons_succ] at r0 r1 e5 e6 e7 e8
        clear hrq hs6
        go_wp2_with fail
        refine (HDS2.out _).mono ?_
        rintro e w7 ⟨⟨s2, rfl, hs2⟩, rfl⟩
        obtain rfl := hs2 HX.out.2
        clear hs2
        generalize decide (1 ≤ y ∧ y ≤ 32768) = ok2
        go_wp2_with fail
        refine HM3.out.mono ?_
        rintro e w7 hpp
        have hpq := HT6.out _ _ _ hpp
        clear hpp
        have HPQ : Hid (PPost W1 B gp g v (Z ++ fl (tkB L1 L2) ts (k + 1)) e w7) := Lib.hid (by rw [HNX2.out, ← List.append_assoc, ← List.append_assoc]; exact hpq)
        obtain ⟨rfl, _⟩ := hpq
        clear r0 r1 e5 e6 e7 e8 HM3 HT6 HNX2 HDS2 HML HX
        go_wp2
        go_roundw
        case rel => exact ⟨k + 1, by omega, by go_num, HPQ⟩
        case measure => simp [intOf]; omega
    · obtain rfl : ts.length = k := by omega
      have hfr := HFL.out _ hk
      obtain ⟨_, v5, q5, c5, f5⟩ := HP.out
      have hk5 := HK.out wr c5
      have hs5 := hk5.1
      have hsy := symbol_any .lit wr B gp g v5 _ a1 286 c1 b1 m1 d1 g1 L1 D 256 0 q5 (Nat.le_trans HB.out c5.size) hk5.2.1 (by have := HLS.out; omega) HS6.out (by rw [xt_256]; decide) (by decide) (by rw [List.length_append]; have := HH2.out; omega : (Z ++ fl (tkB L1 L2) ts ts.length).length ≤ 900000000000)
      unfold tbV fvK at hsy
      rw [show (((0 : Nat)) : Int) = 0 from rfl] at hsy
      have HSY := Lib.hid hsy
      have HT5 : Hid (∀ l2 e w3, PPost wr B gp g v5 l2 e w3 → PPost W1 B gp g v l2 e w3) := Lib.hid (fun l2 e w3 hp => PPost.trans q5 c5 f5 hp)
      have e1 := cell_of_row _ _ 1 _ _ (0, 0) hs5
      have e2 := cell_of_row _ _ 2 _ _ (0, 0) hs5
      have e3 := cell_of_row _ _ 3 _ _ (0, 0) hs5
      have e4 := cell_of_row _ _ 4 _ _ (0, 0) hs5
      simp only [List.getElem?_toArray, List.getElem?_cons_zero, List.getElem?_cons_succ] at e1 e2 e3 e4
      clear hk5 hs5 hsy q5 c5 f5 hfr
      go_wp2_with fail
      refine HSY.out.mono ?_
      rintro e w6 hpp
      have HPF : Hid (PPost w B gp g v Y e w6) := Lib.hid (by rw [HY.out, HBITS.out]; exact HFIN.out _ _ _ (HT5.out _ _ _ hpp))
      obtain ⟨rfl, _⟩ := hpp
      clear e1 e2 e3 e4 HSY HT5
      go_wp2
      go_end0
      exact HPF.out
end Bc
end Go.Proofs.YtjjbgdmalefdlaaGreatDoor
end

section
namespace Go.Proofs.YtjjbgdmalefdlaaGreatDoor
open Go.RowKit

namespace Bc
theorem bmp_ge (l : List Int) (i j : Nat) : l.getD j 0 ≤ (Pa.bmp l i).getD j 0 := by
  unfold Pa.bmp
  by_cases e : i = j
  · subst e
    by_cases hl : i < l.length
    · have : (l.set i (l.getD i 0 + 1)).getD i 0 = l.getD i 0 + 1 := by simp [List.getD, hl]
      rw [this]; omega
    · have h1 : (l.set i (l.getD i 0 + 1)).getD i 0 = 0 := by simp [List.getD, List.getElem?_eq_none (by simpa using Nat.le_of_not_lt hl : (l.set i (l[i]?.getD 0 + 1)).length ≤ i)]
      have h2 : l.getD i 0 = 0 := by simp [List.getD, List.getElem?_eq_none (Nat.le_of_not_lt hl)]
      rw [h1, h2]
      exact Int.le_refl _
  · have : (l.set i (l.getD i 0 + 1)).getD j 0 = l.getD j 0 := by simp [List.getD, List.getElem?_set_ne e]
    rw [this]; exact Int.le_refl _
theorem bmp_at (l : List Int) (i : Nat) (hl : i < l.length) : (Pa.bmp l i).getD i 0 = l.getD i 0 + 1 := by
  unfold Pa.bmp
  simp [List.getD, hl]
theorem stC_ge (p : List Int × List Int) (t : Tok) (j : Nat) : p.1.getD j 0 ≤ (Pa.stC p t).1.getD j 0 ∧ p.2.getD j 0 ≤ (Pa.stC p t).2.getD j 0 := by
  unfold Pa.stC
  split
  · split
    · exact ⟨bmp_ge _ _ _, Int.le_refl _⟩
    · exact ⟨bmp_ge _ _ _, bmp_ge _ _ _⟩
  · exact ⟨Int.le_refl _, Int.le_refl _⟩
theorem cts_ge (ts : List Tok) (j k : Nat) : ∀ d, k + d ≤ ts.length → (Pa.cts ts k).1.getD j 0 ≤ (Pa.cts ts (k + d)).1.getD j 0 ∧ (Pa.cts ts k).2.getD j 0 ≤ (Pa.cts ts (k + d)).2.getD j 0
  | 0, _ => ⟨Int.le_refl _, Int.le_refl _⟩
  | d + 1, h => by
    have ih := cts_ge ts j k d (by omega)
    have h1 := stC_ge (Pa.cts ts (k + d)) (ts.getD (k + d) (0, 0)) j
    rw [← Nat.add_assoc, Pa.cts_next ts (k + d) (by omega)]
    exact ⟨Int.le_trans ih.1 h1.1, Int.le_trans ih.2 h1.2⟩
theorem cts_end (ts : List Tok) : 0 < (Pa.cts ts ts.length).1.getD 256 0 := by
  have h := (cts_ge ts 256 0 ts.length (by omega)).1
  rw [Nat.zero_add] at h
  have h0 : (Pa.cts ts 0).1.getD 256 0 = 1 := by
    show Pa.c0.1.getD 256 0 = 1
    decide +kernel
  omega
/-- A token whose symbols lie in their tables. -/
theorem top_of (f : Nat → Nat) (n : Nat) (h0 : f 0 ≤ n) : ∀ m, ∃ s, s ≤ m ∧ f s ≤ n ∧ (s < m → n < f (s + 1))
  | 0 => ⟨0, Nat.le_refl _, h0, fun h => absurd h (by omega)⟩
  | m + 1 => by
    by_cases hm : f (m + 1) ≤ n
    · exact ⟨m + 1, Nat.le_refl _, hm, fun h => absurd h (by omega)⟩
    · obtain ⟨s, h1, h2, h3⟩ := top_of f n h0 m
      refine ⟨s, by omega, h2, fun h => ?_⟩
      by_cases e : s = m
      · subst e; omega
      · exact h3 (by omega)
theorem lb_gap : ∀ s, s < 28 → (Sy.lb (s + 1)).1 ≤ (Sy.lb s).1 + 2 ^ (Sy.lb s).2 := by decide +kernel
theorem db_gap : ∀ s, s < 29 → (Sy.db (s + 1)).1 ≤ (Sy.db s).1 + 2 ^ (Sy.db s).2 := by decide +kernel
theorem lsy_in (n : Nat) (h : 3 ≤ n ∧ n ≤ 258) : Sy.lsy n ≤ 28 ∧ (Sy.lb (Sy.lsy n)).1 ≤ n ∧ n - (Sy.lb (Sy.lsy n)).1 < 2 ^ (Sy.lb (Sy.lsy n)).2 := by
  obtain ⟨s, h1, h2, h3⟩ := top_of (fun s => (Sy.lb s).1) n (by rw [show (Sy.lb 0).1 = 3 from by decide]; exact h.1) 28
  rw [Sy.lsy_of h1 h2 h3]
  refine ⟨h1, h2, ?_⟩
  by_cases e : s < 28
  · have := lb_gap s e
    have := h3 e
    omega
  · obtain rfl : s = 28 := by omega
    have e1 : (Sy.lb 28).1 = 258 := by decide
    have e2 : (Sy.lb 28).2 = 0 := by decide
    rw [e1, e2]
    omega
theorem dsy_in (n : Nat) (h : 1 ≤ n ∧ n ≤ 32768) : Sy.dsy n ≤ 29 ∧ (Sy.db (Sy.dsy n)).1 ≤ n ∧ n - (Sy.db (Sy.dsy n)).1 < 2 ^ (Sy.db (Sy.dsy n)).2 := by
  obtain ⟨s, h1, h2, h3⟩ := top_of (fun s => (Sy.db s).1) n (by rw [show (Sy.db 0).1 = 1 from by decide]; exact h.1) 29
  rw [Sy.dsy_of h1 h2 h3]
  refine ⟨h1, h2, ?_⟩
  by_cases e : s < 29
  · have := db_gap s e
    have := h3 e
    omega
  · obtain rfl : s = 29 := by omega
    have e1 : (Sy.db 29).1 = 24577 := by decide
    have e2 : (Sy.db 29).2 = 13 := by decide
    have e3 : (2 : Nat) ^ 13 = 8192 := rfl
    rw [e1, e2, e3]
    omega
theorem bse_lit (p : Nat) (h : p ≤ 28) : bse .lit ((257 + p : Nat) : Int) = Sy.lb p := by
  simp only [bse]
  rw [if_pos (by omega), show (((257 + p : Nat) : Int) - 257).toNat = p by omega]
theorem bse_dst (p : Nat) (h : p ≤ 29) : bse .dst ((p : Nat) : Int) = Sy.db p := by
  simp only [bse]
  rw [if_pos (by omega), Int.toNat_natCast]
theorem cts_lit (ts : List Tok) (i : Nat) (hi : i < ts.length) (y : Int) (h : ts.getD i (0, 0) = (0, y)) (hy : 0 ≤ y ∧ y ≤ 255) : 0 < (Pa.cts ts ts.length).1.getD y.toNat 0 := by
  have hg := (cts_ge ts y.toNat (i + 1) (ts.length - (i + 1)) (by omega)).1
  rw [show i + 1 + (ts.length - (i + 1)) = ts.length by omega] at hg
  rw [Pa.cts_next ts i hi, h] at hg
  have hin := (Pa.in_cts ts i (by omega)).1
  have ht : Tk.isTok (0, y) = true := by simp [Tk.isTok, hy.1, hy.2]
  have h2 : (Pa.stC (Pa.cts ts i) (0, y)).1 = Pa.bmp (Pa.cts ts i).1 y.toNat := by unfold Pa.stC; rw [if_pos ht, if_pos rfl]
  rw [h2, bmp_at _ _ (by rw [hin.1]; omega)] at hg
  have := hin.2 y.toNat
  omega
theorem cts_mat (ts : List Tok) (i : Nat) (hi : i < ts.length) (x y : Int) (h : ts.getD i (0, 0) = (x, y)) (hx0 : x ≠ 0) (hx : 3 ≤ x ∧ x ≤ 258) (hy : 1 ≤ y ∧ y ≤ 32768) :
    0 < (Pa.cts ts ts.length).1.getD (257 + Sy.lsy x.toNat) 0 ∧ 0 < (Pa.cts ts ts.length).2.getD (Sy.dsy y.toNat) 0 := by
  have hl := lsy_in x.toNat (by omega)
  have hd := dsy_in y.toNat (by omega)
  have hg := (cts_ge ts (257 + Sy.lsy x.toNat) (i + 1) (ts.length - (i + 1)) (by omega)).1
  have hg2 := (cts_ge ts (Sy.dsy y.toNat) (i + 1) (ts.length - (i + 1)) (by omega)).2
  rw [show i + 1 + (ts.length - (i + 1)) = ts.length by omega, Pa.cts_next ts i hi, h] at hg hg2
  have hin := Pa.in_cts ts i (by omega)
  have ht : Tk.isTok (x, y) = true := by simp only [Tk.isTok]; rw [if_neg hx0]; exact decide_eq_true ⟨hx.1, hx.2, hy.1, hy.2⟩
  have h2 : Pa.stC (Pa.cts ts i) (x, y) = (Pa.bmp (Pa.cts ts i).1 (257 + Sy.lsy x.toNat), Pa.bmp (Pa.cts ts i).2 (Sy.dsy y.toNat)) := by unfold Pa.stC; rw [if_pos ht, if_neg hx0]
  rw [h2] at hg hg2
  simp only at hg hg2
  rw [bmp_at _ _ (by rw [hin.1.1]; omega)] at hg
  rw [bmp_at _ _ (by rw [hin.2.1]; omega)] at hg2
  have := hin.1.2 (257 + Sy.lsy x.toNat)
  have := hin.2.2 (Sy.dsy y.toNat)
  omega
theorem litL_get : ∀ s, s < 288 → 0 < litL.getD s 0 := by decide +kernel
theorem dstL_get : ∀ s, s < 32 → 0 < dstL.getD s 0 := by decide +kernel
theorem LL_1 (kind : Nat) (h : kind ≠ 2) (ts : List Tok) : LL kind ts = litL := by unfold LL; rw [if_neg h]
theorem DL_1 (kind : Nat) (h : kind ≠ 2) (ts : List Tok) : DL kind ts = dstL := by unfold DL; rw [if_neg h]
theorem LL_2 (ts : List Tok) : LL 2 ts = cmpl (Pa.cts ts ts.length).1 15 := by unfold LL; rw [if_pos rfl]
theorem DL_2 (ts : List Tok) : DL 2 ts = Mg.lensOf (Pa.cts ts ts.length).2 15 := by unfold DL; rw [if_pos rfl]
theorem sd_LL (kind : Nat) (ts : List Tok) (h : ts.length ≤ 1000000) (s : Nat) (hs : s < 286) (hp : 0 < (Pa.cts ts ts.length).1.getD s 0) : Sd (LL kind ts) (s : Int) := by
  refine sd_of (free_LL kind ts h) s (by have := LL_length kind ts; omega) ?_
  by_cases e : kind = 2
  · subst e
    rw [LL_2]
    exact ((co_cts ts h).1.range s (by rw [(Pa.in_cts ts ts.length (Nat.le_refl _)).1.1]; exact hs)).2.2 hp
  · rw [LL_1 kind e]; exact litL_get s (by omega)
theorem sd_DL (kind : Nat) (ts : List Tok) (h : ts.length ≤ 1000000) (s : Nat) (hs : s < 30) (hp : 0 < (Pa.cts ts ts.length).2.getD s 0) : Sd (DL kind ts) (s : Int) := by
  refine sd_of (free_DL kind ts h) s (by have := DL_length kind ts; omega) ?_
  by_cases e : kind = 2
  · subst e
    rw [DL_2]
    have h1 := (co_cts ts h).2.lens s (by rw [(Pa.in_cts ts ts.length (Nat.le_refl _)).2.1]; exact hs)
    have h2 : ¬ (Mg.lensOf (Pa.cts ts ts.length).2 15).getD s 0 = 0 := fun e => by have := h1.2.2.1 e; omega
    have h3 := h1.1
    show 0 < (Mg.lensOf (Pa.cts ts ts.length).2 15).getD s 0
    omega
  · rw [DL_1 kind e]; exact dstL_get s (by omega)
theorem sd_end (kind : Nat) (ts : List Tok) (h : ts.length ≤ 1000000) : Sd (LL kind ts) 256 := sd_LL kind ts h 256 (by omega) (cts_end ts)
theorem tkS_of (kind : Nat) (ts : List Tok) (h : ts.length ≤ 1000000) (i : Nat) (hi : i < ts.length) (ht : Tk.isTok (ts.getD i (0, 0)) = true) : TkS (LL kind ts) (DL kind ts) (ts.getD i (0, 0)) := by
  cases hq : ts.getD i (0, 0) with
  | mk x y =>
    rw [hq] at ht
    unfold TkS
    simp only
    by_cases hx : x = 0
    · subst hx
      have hy : 0 ≤ y ∧ y ≤ 255 := by simpa [Tk.isTok] using ht
      have hs := sd_LL kind ts h y.toNat (by omega) (cts_lit ts i hi y hq hy)
      rw [Int.toNat_of_nonneg hy.1] at hs
      exact ⟨fun _ => ⟨hy.1, hy.2, hs⟩, fun e => absurd rfl e⟩
    · have ht2 : 3 ≤ x ∧ x ≤ 258 ∧ 1 ≤ y ∧ y ≤ 32768 := by simp only [Tk.isTok] at ht; rw [if_neg hx] at ht; exact of_decide_eq_true ht
      have hl := lsy_in x.toNat (by omega)
      have hd := dsy_in y.toNat (by omega)
      have hc := cts_mat ts i hi x y hq hx ⟨ht2.1, ht2.2.1⟩ ⟨ht2.2.2.1, ht2.2.2.2⟩
      refine ⟨fun e => absurd e hx, fun _ => ⟨⟨ht2.1, ht2.2.1⟩, ⟨ht2.2.2.1, ht2.2.2.2⟩, sd_LL kind ts h _ (by omega) hc.1, sd_DL kind ts h _ (by omega) hc.2, hl.1, hd.1, ?_, ?_, ?_, ?_⟩⟩
      · rw [bse_lit _ hl.1]; exact hl.2.1
      · unfold xt; rw [bse_lit _ hl.1]; exact hl.2.2
      · rw [bse_dst _ hd.1]; exact hd.2.1
      · unfold xt; rw [bse_dst _ hd.1]; exact hd.2.2
theorem rc_ge (rs : List Tok) (j k : Nat) : ∀ d, k + d ≤ rs.length → (rc rs k).getD j 0 ≤ (rc rs (k + d)).getD j 0
  | 0, _ => Int.le_refl _
  | d + 1, h => by
    have ih := rc_ge rs j k d (by omega)
    rw [← Nat.add_assoc, rc_next rs (k + d) (by omega)]
    exact Int.le_trans ih (bmp_ge _ _ _)
theorem rc_pos (rs : List Tok) (i : Nat) (hi : i < rs.length) (hs : (rs.getD i (0, 0)).1.toNat < 19) : 0 < (rc rs rs.length).getD (rs.getD i (0, 0)).1.toNat 0 := by
  have hg := rc_ge rs (rs.getD i (0, 0)).1.toNat (i + 1) (rs.length - (i + 1)) (by omega)
  rw [show i + 1 + (rs.length - (i + 1)) = rs.length by omega, rc_next rs i hi] at hg
  have hin := rc_in rs i (by omega)
  rw [bmp_at _ _ (by rw [hin.1]; exact hs)] at hg
  have := hin.2 (rs.getD i (0, 0)).1.toNat
  omega
theorem unrL_ok : ∀ (rs : List Tok) (o p : List Int), Bl.unrL o rs = some p → ∀ t ∈ rs, 0 ≤ t.1 ∧ t.1 ≤ 18 ∧ 0 ≤ t.2 ∧ t.2 ≤ Bl.top t.1
  | [], _, _, _ => fun t ht => by simp at ht
  | r :: rs, o, p, h => fun t ht => by
    rw [Bl.unrL] at h
    cases hs : Bl.stp o r with
    | none => rw [hs] at h; simp at h
    | some q =>
      rw [hs] at h
      rcases List.mem_cons.1 ht with rfl | h2
      · exact (Bl.stp_inv (y := t.1) (x := t.2) hs).1
      · exact unrL_ok rs q p h t h2
theorem top_bits (y : Int) (h : 0 ≤ y ∧ y ≤ 18) (x : Int) (h0 : 0 ≤ x) (hx : x ≤ Bl.top y) : x.toNat < 2 ^ xt .run y := by
  simp only [xt, bse]
  rw [if_pos h]
  simp only
  by_cases e1 : y = 16
  · subst e1
    have a : Bl.top 16 = 3 := by decide
    have b : 2 ^ Bl.bits 16 = 4 := by decide
    rw [b]; omega
  · by_cases e2 : y = 17
    · subst e2
      have a : Bl.top 17 = 7 := by decide
      have b : 2 ^ Bl.bits 17 = 8 := by decide
      rw [b]; omega
    · by_cases e3 : y = 18
      · subst e3
        have a : Bl.top 18 = 127 := by decide
        have b : 2 ^ Bl.bits 18 = 128 := by decide
        rw [b]; omega
      · have a : Bl.top y = 0 := by unfold Bl.top; rw [if_neg e1, if_neg e2, if_neg e3]
        have b : Bl.bits y = 0 := by unfold Bl.bits; rw [if_neg e1, if_neg e2, if_neg e3]
        rw [b]; omega
theorem hdW_of (L D : List Int) (rs : List Tok) (hL : 257 ≤ L.length ∧ L.length ≤ 288) (hD : 1 ≤ D.length ∧ D.length ≤ 32) (hrl : rs.length ≤ 600) (hok : ∀ t ∈ rs, 0 ≤ t.1 ∧ t.1 ≤ 18 ∧ 0 ≤ t.2 ∧ t.2 ≤ Bl.top t.1) : HdW (hdOf L D rs) := by
  have hc := co_rc rs (by omega)
  have hin := rc_in rs rs.length (Nat.le_refl _)
  have hR : ∀ i, 0 ≤ (hdOf L D rs).R.getD i 0 ∧ (hdOf L D rs).R.getD i 0 ≤ 7 := fun i => by
    rw [hdOf_R]
    exact getD_bd (by omega) (fun i hi => by
      rw [cmpl_length] at hi
      have := hc.range i hi
      omega) i
  have h1 : (hdOf L D rs).ll.length = shn L 257 L.length := by show (short L 257).length = _; unfold short; rw [List.length_take]; have := shn_le L 257 L.length; omega
  have h2 : (hdOf L D rs).dl.length = shn D 1 D.length := by show (short D 1).length = _; unfold short; rw [List.length_take]; have := shn_le D 1 D.length; omega
  refine ⟨?_, ?_, ?_, fun i hi => ?_, by rw [hdOf_rs]; exact hrl, fun i hi => ?_, by rw [hdOf_R, cmpl_length]; exact hin.1⟩
  · rw [h1]; have := shn_le L 257 L.length; have := shn_ge L 257 L.length hL.1; omega
  · rw [h2]; have := shn_le D 1 D.length; have := shn_ge D 1 D.length hD.1; omega
  · rw [own_len]; exact ⟨shn_ge _ 4 19 (by omega), shn_le _ _ _⟩
  · rw [own_len] at hi
    have h19 := shn_le (ownR (hdOf L D rs).R 19) 4 19
    have e : (hdOf L D rs).own.getD i 0 = (ownR (hdOf L D rs).R 19).getD i 0 := by
      rw [own_eq, List.getD, List.getD, List.getElem?_take, if_pos hi]
    rw [e, ownR_get _ i (by omega)]
    have := hR (order.getD i 0)
    omega
  · rw [hdOf_rs] at hi ⊢
    have hm := hok (rs.getD i (0, 0)) (by simp [List.getD, List.getElem?_eq_getElem hi])
    have hp := rc_pos rs i hi (by omega)
    have hr := (hc.range (rs.getD i (0, 0)).1.toNat (by rw [hin.1]; omega)).2.2 hp
    have hs := sd_of (L := cmpl (rc rs rs.length) 7) hc.cfree (rs.getD i (0, 0)).1.toNat (by rw [cmpl_length, hin.1]; omega) hr
    rw [Int.toNat_of_nonneg hm.1] at hs
    exact ⟨by rw [hdOf_R]; exact hs, hm.2.2.1, top_bits _ ⟨hm.1, hm.2.1⟩ _ hm.2.2.1 hm.2.2.2⟩
theorem hdT_w (ts : List Tok) (h : ts.length ≤ 1000000) : HdW (hdT ts) := by
  have hr := ru_le (hdT_runs ts h)
  have h1 := LL_length 2 ts
  have h2 := DL_length 2 ts
  exact hdW_of _ _ _ (by omega) (by omega) (hdT_rl ts h) (unrL_ok _ _ _ hr.2.2)
end Bc
end Go.Proofs.YtjjbgdmalefdlaaGreatDoor
end
