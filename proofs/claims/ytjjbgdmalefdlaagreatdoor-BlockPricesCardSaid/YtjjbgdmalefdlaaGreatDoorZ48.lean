/- block.tables: its contract. -/
import Derived.Test.YtjjbgdmalefdlaaGreatDoorZ15
import Derived.Test.YtjjbgdmalefdlaaGreatDoorZ37
import Derived.Test.YtjjbgdmalefdlaaGreatDoorZ47
import Derived.RegionTactic
set_option linter.unusedSimpArgs false
set_option linter.unusedVariables false
section
namespace Go.Proofs.YtjjbgdmalefdlaaGreatDoor
open Go.RowKit

namespace Bc
theorem used_le (l : List Int) : Mg.used l ≤ l.length := List.length_filter_le _ _
theorem co_in {m n : Nat} {l : List Int} (h : Pa.In m l n) (hn : n ≤ 1000000000) (h2 : 2 ≤ m) (h3 : m ≤ 300) : Co l 15 :=
  ⟨fun k _ => (h.2 k).1, fun k _ => by have := (h.2 k).2; omega, by omega, by omega, by rw [h.1]; omega, by rw [h.1]; omega, by
    have := used_le l
    rw [h.1] at this
    have : (2 : Nat) ^ 15 = 32768 := rfl
    omega⟩
theorem co_cts (ts : List Tok) (h : ts.length ≤ 1000000) : Co (Pa.cts ts ts.length).1 15 ∧ Co (Pa.cts ts ts.length).2 15 := by
  have h1 := Pa.in_cts ts ts.length (Nat.le_refl _)
  exact ⟨co_in h1.1 (by omega) (by omega) (by omega), co_in h1.2 (by omega) (by omega) (by omega)⟩
theorem free_LL (kind : Nat) (ts : List Tok) (h : ts.length ≤ 1000000) : Cn.freeB (LL kind ts) = true := by
  unfold LL; split
  · exact (co_cts ts h).1.cfree
  · exact free_litL
theorem free_DL (kind : Nat) (ts : List Tok) (h : ts.length ≤ 1000000) : Cn.freeB (DL kind ts) = true := by
  unfold DL; split
  · exact (co_cts ts h).2.free.1
  · exact free_dstL
theorem LL_length (kind : Nat) (ts : List Tok) : 286 ≤ (LL kind ts).length ∧ (LL kind ts).length ≤ 288 := by
  unfold LL; split
  · rw [cmpl_length, (Pa.in_cts ts ts.length (Nat.le_refl _)).1.1]; omega
  · rw [litL_length]; omega
theorem DL_length (kind : Nat) (ts : List Tok) : 30 ≤ (DL kind ts).length ∧ (DL kind ts).length ≤ 32 := by
  unfold DL; split
  · rw [Mg.lensOf_length, (Pa.in_cts ts ts.length (Nat.le_refl _)).2.1]; omega
  · rw [dstL_length]; omega
/-- No cell of a table is a number. -/
def NoInt (cs : Array Value) : Prop := ∀ (i : Nat) (z : Int), cs[i]? ≠ some (.int .i64 z)
theorem noInt4 {x0 x1 x2 x3 : Value} (h0 : ∀ z, x0 ≠ .int .i64 z) (h1 : ∀ z, x1 ≠ .int .i64 z) (h2 : ∀ z, x2 ≠ .int .i64 z) (h3 : ∀ z, x3 ≠ .int .i64 z) : NoInt #[x0, x1, x2, x3] := fun i z e => by
  match i with
  | 0 => exact h0 z (by simpa using e)
  | 1 => exact h1 z (by simpa using e)
  | 2 => exact h2 z (by simpa using e)
  | 3 => exact h3 z (by simpa using e)
  | i + 4 => simp at e
theorem is_ne {w : World} {a : Option Addr} {n c q : Nat} {l : List Int} {cs : Array Value} {t : TypeId} (h : Is .i64 w a n c l) (hn : 0 < n) (hr : w.heap[q]? = some (.cells cs t (0, 0))) (hc : NoInt cs) : ∀ ad, a = some ad → ¬ ad.block = q := fun ad e he => by
  obtain ⟨b, off, e1, _, hcell⟩ := h.at' 0 hn
  rw [e] at e1
  obtain rfl := Option.some.inj e1
  simp only at he
  subst he
  rw [cell_of_row _ _ _ _ _ (0, 0) hr] at hcell
  exact hc _ _ hcell
theorem set4_row {w : World} {q : Nat} {y0 y1 y2 y3 : Value} {t : TypeId} (h : w.heap[q]? = some (.cells #[y0, y1, y2, y3] t (0, 0))) (x0 x1 x2 x3 : Value) : ((((w.setCell ⟨q, 0, none⟩ x0).setCell ⟨q, 1, none⟩ x1).setCell ⟨q, 2, none⟩ x2).setCell ⟨q, 3, none⟩ x3).heap[q]? = some (.cells #[x0, x1, x2, x3] t (0, 0)) :=
  heap_setCell_same _ q 3 _ _ x3 (heap_setCell_same _ q 2 _ _ x2 (heap_setCell_same _ q 1 _ _ x1 (heap_setCell_same w q 0 _ _ x0 h)))
theorem set4_ch (w : World) (q : Nat) (x0 x1 x2 x3 : Value) : Ch w ((((w.setCell ⟨q, 0, none⟩ x0).setCell ⟨q, 1, none⟩ x1).setCell ⟨q, 2, none⟩ x2).setCell ⟨q, 3, none⟩ x3) (fun k => k = q) :=
  ((((Ch.refl w (fun k => k = q)).set (p := ⟨q, 0, none⟩) (.inl rfl) x0).set (p := ⟨q, 1, none⟩) (.inl rfl) x1).set (p := ⟨q, 2, none⟩) (.inl rfl) x2).set (p := ⟨q, 3, none⟩) (.inl rfl) x3
theorem drew_row (w : World) (q : Nat) : w.drew.heap[q]? = w.heap[q]? := rfl
theorem set4_size (w : World) (q : Nat) (x0 x1 x2 x3 : Value) : ((((w.setCell ⟨q, 0, none⟩ x0).setCell ⟨q, 1, none⟩ x1).setCell ⟨q, 2, none⟩ x2).setCell ⟨q, 3, none⟩ x3).heap.size = w.heap.size := by simp
/-- A table in memory. -/
def TbIs (w : World) (B : Nat) (k : Kd) (C L : List Int) (n : Nat) (v : Value) : Prop :=
  ∃ a c b m d g, v = tbV a n c b m d g k ∧ Is .i64 w a n c C ∧ Is .i64 w b m d L ∧ Bw w (fun j => B ≤ j) g L
theorem TbIs.mono {w w' : World} {B : Nat} {k : Kd} {C L : List Int} {n : Nat} {v : Value} (h : TbIs w B k C L n v) (hb : Below w.heap.size w w') : TbIs w' B k C L n v := by
  obtain ⟨a, c, b, m, d, g, h1, h2, h3, h4⟩ := h
  exact ⟨a, c, b, m, d, g, h1, h2.mono hb, h3.mono hb, h4.mono hb⟩
theorem TbIs.wide {w : World} {B B' : Nat} {k : Kd} {C L : List Int} {n : Nat} {v : Value} (h : TbIs w B k C L n v) (hb : B' ≤ B) : TbIs w B' k C L n v := by
  obtain ⟨a, c, b, m, d, g, h1, h2, h3, h4⟩ := h
  exact ⟨a, c, b, m, d, g, h1, h2, h3, h4.wide (fun k hk => Nat.le_trans hb hk)⟩
def TablesPost (w : World) (kind : Nat) (ts : List Tok) (e : Ending) (w' : World) : Prop :=
  ∃ v1 v2, e = .returned (.tuple #[v1, v2, .nilIface]) ∧ TbIs w' w.heap.size .lit (Pa.cts ts ts.length).1 (LL kind ts) 286 v1 ∧ TbIs w' w.heap.size .dst (Pa.cts ts ts.length).2 (DL kind ts) 30 v2 ∧ Below w.heap.size w w'
theorem tables_results (tmps : Array Value) (W : World) (p q : Nat) (cs ds : Array Value) (u : Value) (h1 : tmps.getD 4 undef = .pointer (some ⟨p, 0, none⟩)) (h2 : tmps.getD 5 undef = .pointer (some ⟨q, 0, none⟩)) (h3 : tmps.getD 6 undef = u)
    (r1 : W.heap[p]? = some (.cells cs 84 (0, 0))) (r2 : W.heap[q]? = some (.cells ds 84 (0, 0))) (hs : cs.size = 4) (hd : ds.size = 4) :
    (results Tryz.f52 tmps).run Tryz.prog W = .ok (.tuple #[.agg cs, .agg ds, u]) W := by
  have hr : Tryz.f52.results = #[.cell 4 84, .cell 5 84, .tmp 6] := by kernel_rfl
  have h1' : tmps[4]?.getD undef = .pointer (some ⟨p, 0, none⟩) := by simpa using h1
  have h2' : tmps[5]?.getD undef = .pointer (some ⟨q, 0, none⟩) := by simpa using h2
  have h3' : tmps[6]?.getD undef = u := by simpa using h3
  simp [results, hr, h1', h2', h3', asAddr, load_tab W p cs hs r1, load_tab W q ds hd r2]
set_option maxRecDepth 100000 in
set_option maxHeartbeats 1500000 in
theorem tables_1 (a : Option Addr) (len cap : Nat) (ts : List Tok) (w : World) (h : Ts2 w a len cap ts) (hlen : len ≤ 1000000) :
    Calls Tryz.prog 52 #[.int .i64 1, .slice a len cap] w (TablesPost w 1 ts) := by
  have hl := h.hlen
  subst hl
  have HCO := Lib.hid (co_cts ts hlen)
  have HCT := Lib.hid (fun w' (hb : Below w.heap.size w w') => count_any a ts.length cap ts w' (h.mono hb) hlen)
  have HFL := Lib.hid (And.intro (free_LL 1 ts hlen) (free_DL 1 ts hlen))
  have HLN := Lib.hid (And.intro (LL_length 1 ts) (DL_length 1 ts))
  have HIN := Lib.hid (Pa.in_cts ts ts.length (Nat.le_refl _))
  have hb0 := (below_alloc w (.cells #[.slice none 0 0, .slice none 0 0, .pointer none, .nilFunc] 84))
  have hb1 := below_then hb0 (below_alloc (w.alloc (.cells #[.slice none 0 0, .slice none 0 0, .pointer none, .nilFunc] 84)) (.cells #[.slice none 0 0, .slice none 0 0, .pointer none, .nilFunc] 84))
  have hr0 := heap_alloc_last w (.cells #[.slice none 0 0, .slice none 0 0, .pointer none, .nilFunc] 84)
  have hsz : (w.alloc (.cells #[.slice none 0 0, .slice none 0 0, .pointer none, .nilFunc] 84)).heap.size = w.heap.size + 1 := by simp
  have hr1 := heap_alloc_last (w.alloc (.cells #[.slice none 0 0, .slice none 0 0, .pointer none, .nilFunc] 84)) (.cells #[.slice none 0 0, .slice none 0 0, .pointer none, .nilFunc] 84)
  have hr2 := ((below_alloc (w.alloc (.cells #[.slice none 0 0, .slice none 0 0, .pointer none, .nilFunc] 84)) (.cells #[.slice none 0 0, .slice none 0 0, .pointer none, .nilFunc] 84)).block w.heap.size (by rw [hsz]; omega)).trans hr0
  have hs2 : ((w.alloc (.cells #[.slice none 0 0, .slice none 0 0, .pointer none, .nilFunc] 84)).alloc (.cells #[.slice none 0 0, .slice none 0 0, .pointer none, .nilFunc] 84)).heap.size = w.heap.size + 2 := by simp
  rw [hsz] at hr1
  have HB := Lib.hid hb1
  have HR0 := Lib.hid hr2
  have HR1 := Lib.hid hr1
  have HS2 := Lib.hid hs2
  clear h hb0 hb1 hr0 hr1 hr2 hsz hs2
  go_enter Tryz.func52, Tryz.ntmps52
  go_wp2_with fail
  refine (HCT.out _ HB.out).mono ?_
  rintro e w1 ⟨g1, g2, rfl, hcn⟩
  revert HB HR0 HR1 HS2 hcn
  generalize ((w.alloc (.cells #[.slice none 0 0, .slice none 0 0, .pointer none, .nilFunc] 84)).alloc (.cells #[.slice none 0 0, .slice none 0 0, .pointer none, .nilFunc] 84)) = w0
  intro HB HR0 HR1 HS2 hcn
  have hq1 : w.heap.size + 1 < w0.heap.size := by rw [HS2.out]; omega
  have hI1 := is_of_own hcn.own1 (HIN.out.1.wf (by omega)) 0 286 286 (by omega) (by omega)
  rw [List.drop_zero, List.take_of_length_le (by rw [HIN.out.1.1]; omega)] at hI1
  have hI2 := is_of_own hcn.own2 (HIN.out.2.wf (by omega)) 0 30 30 (by omega) (by omega)
  rw [List.drop_zero, List.take_of_length_le (by rw [HIN.out.2.1]; omega)] at hI2
  have HI1 := Lib.hid hI1
  have HI2 := Lib.hid hI2
  have HR0' := Lib.hid ((hcn.bel.block w.heap.size (by omega)).trans HR0.out)
  have HR1' := Lib.hid ((hcn.bel.block (w.heap.size + 1) (by omega)).trans HR1.out)
  have HB1 := Lib.hid (below_then HB.out hcn.bel)
  have HS1 : Hid (w.heap.size + 2 ≤ w1.heap.size) := Lib.hid (by have := hcn.bel.size; rw [HS2.out] at this; exact this)
  clear hcn hI1 hI2 HB HR0 HR1 HS2 HCT hq1 HIN
  go_wp2_with fail
  refine (fixed_any w1).mono ?_
  rintro e w2 ⟨a5, c5, a6, c6, rfl, i5, i6, hb2⟩
  have HL5 : Hid (Is .i64 w2 a5 288 c5 (LL 1 ts)) := Lib.hid i5
  have HL6 : Hid (Is .i64 w2 a6 32 c6 (DL 1 ts)) := Lib.hid i6
  have HR2 := Lib.hid ((hb2.block w.heap.size (by have := HS1.out; omega)).trans HR0'.out)
  have HR3 := Lib.hid ((hb2.block (w.heap.size + 1) (by have := HS1.out; omega)).trans HR1'.out)
  have HJ1 := Lib.hid (HI1.out.mono hb2)
  have HJ2 := Lib.hid (HI2.out.mono hb2)
  have HB2 := Lib.hid (below_then HB1.out hb2)
  have HS3 : Hid (w.heap.size + 2 ≤ w2.heap.size) := Lib.hid (by have := HS1.out; have := hb2.size; omega)
  obtain ⟨nL, hnL, hnL2⟩ : ∃ nL : Nat, nL = 288 ∧ nL ≤ 600 := ⟨288, rfl, by omega⟩
  obtain ⟨nD, hnD, hnD2⟩ : ∃ nD : Nat, nD = 32 ∧ nD ≤ 600 := ⟨32, rfl, by omega⟩
  rw [← hnL] at HL5
  rw [← hnD] at HL6
  rw [← hnL, ← hnD]
  clear hb2 i5 i6 HI1 HI2 HR0' HR1' HB1 HS1 hnL hnD
  have HN1 := Lib.hid (newTable_any .lit (some ⟨g1, 0, none⟩) 286 286 a5 nL c5 (LL 1 ts) w2 HL5.out HFL.out.1 (by omega))
  unfold TabPost fvK at HN1
  go_wp2_with fail
  refine HN1.out.mono ?_
  rintro e w4 ⟨gb, rfl, hbw, hb4⟩
  unfold tbV fvK
  have HR4 := Lib.hid ((hb4.block w.heap.size (by have := HS3.out; omega)).trans HR2.out)
  have HR5 := Lib.hid ((hb4.block (w.heap.size + 1) (by have := HS3.out; omega)).trans HR3.out)
  have HJ3 := Lib.hid (HJ1.out.mono hb4)
  have HJ4 := Lib.hid (HJ2.out.mono hb4)
  have HL7 := Lib.hid (HL5.out.mono hb4)
  have HL8 := Lib.hid (HL6.out.mono hb4)
  have HB4 := Lib.hid (below_then HB2.out hb4)
  have HS4 : Hid (w.heap.size + 2 ≤ w4.heap.size) := Lib.hid (by have := HS3.out; have := hb4.size; omega)
  have HBW4 : Hid (Bw w4 (fun j => w.heap.size + 2 ≤ j) gb (LL 1 ts)) := Lib.hid (hbw.wide (fun j hj => by have := HS3.out; omega))
  clear hbw hb4 HJ1 HJ2 HR2 HR3 HL5 HL6 HB2 HS3 HN1
  have c0 := cell_of_row w4 w.heap.size 0 _ _ (0, 0) HR4.out
  have c1 := cell_of_row w4 w.heap.size 1 _ _ (0, 0) HR4.out
  have c2 := cell_of_row w4 w.heap.size 2 _ _ (0, 0) HR4.out
  have c3 := cell_of_row w4 w.heap.size 3 _ _ (0, 0) HR4.out
  have f0 := frozen_of_row w4 w.heap.size 0 _ _ HR4.out
  have f1 := frozen_of_row w4 w.heap.size 1 _ _ HR4.out
  have f2 := frozen_of_row w4 w.heap.size 2 _ _ HR4.out
  have f3 := frozen_of_row w4 w.heap.size 3 _ _ HR4.out
  simp only [List.getElem?_toArray, List.getElem?_cons_zero, List.getElem?_cons_succ] at c0 c1 c2 c3
  go_wp2_with fail
  have HNZ : Hid (NoInt #[.slice none 0 0, .slice none 0 0, .pointer none, .nilFunc]) := Lib.hid (noInt4 (fun z h => by cases h) (fun z h => by cases h) (fun z h => by cases h) (fun z h => by cases h))
  have hch := set4_ch w4 w.heap.size (.slice (some ⟨g1, 0, none⟩) 286 286) (.slice a5 nL c5) (.pointer (some ⟨gb, 0, none⟩)) (.func (.func 77) #[] #[])
  have HRA := Lib.hid (set4_row HR4.out (.slice (some ⟨g1, 0, none⟩) 286 286) (.slice a5 nL c5) (.pointer (some ⟨gb, 0, none⟩)) (.func (.func 77) #[] #[]))
  have HSA := Lib.hid (set4_size w4 w.heap.size (.slice (some ⟨g1, 0, none⟩) 286 286) (.slice a5 nL c5) (.pointer (some ⟨gb, 0, none⟩)) (.func (.func 77) #[] #[]))
  have HRB := Lib.hid ((hch.block (w.heap.size + 1) (by have := HS4.out; omega) (by omega)).trans HR5.out)
  have hp1 : 0 < nL := by have := HL7.out.hlen; have := HLN.out.1.1; omega
  have hp2 : 0 < nD := by have := HL8.out.hlen; have := HLN.out.2.1; omega
  have HK1 := Lib.hid (HJ3.out.kept hch (is_ne HJ3.out (by omega) HR4.out HNZ.out))
  have HK2 := Lib.hid (HJ4.out.kept hch (is_ne HJ4.out (by omega) HR4.out HNZ.out))
  have HK3 := Lib.hid (HL7.out.kept hch (is_ne HL7.out hp1 HR4.out HNZ.out))
  have HK4 := Lib.hid (HL8.out.kept hch (is_ne HL8.out hp2 HR4.out HNZ.out))
  have HKB := Lib.hid (HBW4.out.kept hch (fun j hj e => by omega))
  have HBX := Lib.hid (HB4.out.trans (hch.below (by have := HS4.out; omega) (fun j e => by omega) : Below w.heap.size w4 _))
  clear hch c0 c1 c2 c3 f0 f1 f2 f3 HJ3 HJ4 HL7 HL8 HBW4 HB4 HR4 HR5
  revert HRA HSA HRB HK1 HK2 HK3 HK4 HKB HBX
  generalize ((((w4.setCell ⟨w.heap.size, 0, none⟩ (.slice (some ⟨g1, 0, none⟩) 286 286)).setCell ⟨w.heap.size, 1, none⟩ (.slice a5 nL c5)).setCell ⟨w.heap.size, 2, none⟩ (.pointer (some ⟨gb, 0, none⟩))).setCell ⟨w.heap.size, 3, none⟩ (.func (.func 77) #[] #[])) = wx
  intro HRA HSA HRB HK1 HK2 HK3 HK4 HKB HBX
  have HSX : Hid (w.heap.size + 2 ≤ wx.heap.size) := Lib.hid (by rw [HSA.out]; exact HS4.out)
  have HN2 := Lib.hid (newTable_any .dst (some ⟨g2, 0, none⟩) 30 30 a6 nD c6 (DL 1 ts) wx HK4.out HFL.out.2 (by omega))
  clear HSA HS4
  unfold TabPost fvK at HN2
  refine HN2.out.mono ?_
  rintro e w5 ⟨gc, rfl, hbw, hb5⟩
  unfold tbV fvK
  have HR4 := Lib.hid ((hb5.block w.heap.size (by have := HSX.out; omega)).trans HRA.out)
  have HR5 := Lib.hid ((hb5.block (w.heap.size + 1) (by have := HSX.out; omega)).trans HRB.out)
  have HJ3 := Lib.hid (HK1.out.mono hb5)
  have HJ4 := Lib.hid (HK2.out.mono hb5)
  have HL7 := Lib.hid (HK3.out.mono hb5)
  have HL8 := Lib.hid (HK4.out.mono hb5)
  have HB5 := Lib.hid (below_then HBX.out hb5)
  have HS5 : Hid (w.heap.size + 2 ≤ w5.heap.size) := Lib.hid (by have := HSX.out; have := hb5.size; omega)
  have HBW4 := Lib.hid (HKB.out.mono hb5)
  have HBW5 : Hid (Bw w5 (fun j => w.heap.size + 2 ≤ j) gc (DL 1 ts)) := Lib.hid (hbw.wide (fun j hj => by have := HSX.out; omega))
  clear hbw hb5 HRA HRB HK1 HK2 HK3 HK4 HKB HBX HSX HN2
  have c0 := cell_of_row w5 (w.heap.size + 1) 0 _ _ (0, 0) HR5.out
  have c1 := cell_of_row w5 (w.heap.size + 1) 1 _ _ (0, 0) HR5.out
  have c2 := cell_of_row w5 (w.heap.size + 1) 2 _ _ (0, 0) HR5.out
  have c3 := cell_of_row w5 (w.heap.size + 1) 3 _ _ (0, 0) HR5.out
  have f0 := frozen_of_row w5 (w.heap.size + 1) 0 _ _ HR5.out
  have f1 := frozen_of_row w5 (w.heap.size + 1) 1 _ _ HR5.out
  have f2 := frozen_of_row w5 (w.heap.size + 1) 2 _ _ HR5.out
  have f3 := frozen_of_row w5 (w.heap.size + 1) 3 _ _ HR5.out
  simp only [List.getElem?_toArray, List.getElem?_cons_zero, List.getElem?_cons_succ] at c0 c1 c2 c3
  go_wp2_with fail
  have hch := set4_ch w5 (w.heap.size + 1) (.slice (some ⟨g2, 0, none⟩) 30 30) (.slice a6 nD c6) (.pointer (some ⟨gc, 0, none⟩)) (.func (.func 78) #[] #[])
  have HRA := Lib.hid (set4_row HR5.out (.slice (some ⟨g2, 0, none⟩) 30 30) (.slice a6 nD c6) (.pointer (some ⟨gc, 0, none⟩)) (.func (.func 78) #[] #[]))
  have HRB := Lib.hid ((hch.block w.heap.size (by have := HS5.out; omega) (by omega)).trans HR4.out)
  have HK1 := Lib.hid (HJ3.out.kept hch (is_ne HJ3.out (by omega) HR5.out HNZ.out))
  have HK2 := Lib.hid (HJ4.out.kept hch (is_ne HJ4.out (by omega) HR5.out HNZ.out))
  have HK3 := Lib.hid (HL7.out.kept hch (is_ne HL7.out hp1 HR5.out HNZ.out))
  have HK4 := Lib.hid (HL8.out.kept hch (is_ne HL8.out hp2 HR5.out HNZ.out))
  have HKB := Lib.hid (HBW4.out.kept hch (fun j hj e => by omega))
  have HKC := Lib.hid (HBW5.out.kept hch (fun j hj e => by omega))
  have HBX := Lib.hid (HB5.out.trans (hch.below (by have := HS5.out; omega) (fun j e => by omega) : Below w.heap.size w5 _))
  clear hch c0 c1 c2 c3 f0 f1 f2 f3 HJ3 HJ4 HL7 HL8 HBW4 HB5 HR4 HR5 HNZ HBW5
  revert HRA HRB HK1 HK2 HK3 HK4 HKB HKC HBX
  generalize ((((w5.setCell ⟨w.heap.size + 1, 0, none⟩ (.slice (some ⟨g2, 0, none⟩) 30 30)).setCell ⟨w.heap.size + 1, 1, none⟩ (.slice a6 nD c6)).setCell ⟨w.heap.size + 1, 2, none⟩ (.pointer (some ⟨gc, 0, none⟩))).setCell ⟨w.heap.size + 1, 3, none⟩ (.func (.func 78) #[] #[])) = wy
  intro HRA HRB HK1 HK2 HK3 HK4 HKB HKC HBX
  have c0 := cell_of_row wy w.heap.size 0 _ _ (0, 0) HRB.out
  have c1 := cell_of_row wy w.heap.size 1 _ _ (0, 0) HRB.out
  have c2 := cell_of_row wy w.heap.size 2 _ _ (0, 0) HRB.out
  have c3 := cell_of_row wy w.heap.size 3 _ _ (0, 0) HRB.out
  have f0 := frozen_of_row wy w.heap.size 0 _ _ HRB.out
  have f1 := frozen_of_row wy w.heap.size 1 _ _ HRB.out
  have f2 := frozen_of_row wy w.heap.size 2 _ _ HRB.out
  have f3 := frozen_of_row wy w.heap.size 3 _ _ HRB.out
  have e0 := cell_of_row wy (w.heap.size + 1) 0 _ _ (0, 0) HRA.out
  have e1 := cell_of_row wy (w.heap.size + 1) 1 _ _ (0, 0) HRA.out
  have e2 := cell_of_row wy (w.heap.size + 1) 2 _ _ (0, 0) HRA.out
  have e3 := cell_of_row wy (w.heap.size + 1) 3 _ _ (0, 0) HRA.out
  have h0 := frozen_of_row wy (w.heap.size + 1) 0 _ _ HRA.out
  have h1 := frozen_of_row wy (w.heap.size + 1) 1 _ _ HRA.out
  have h2 := frozen_of_row wy (w.heap.size + 1) 2 _ _ HRA.out
  have h3 := frozen_of_row wy (w.heap.size + 1) 3 _ _ HRA.out
  simp only [List.getElem?_toArray, List.getElem?_cons_zero, List.getElem?_cons_succ] at c0 c1 c2 c3 e0 e1 e2 e3
  go_region
  have n1 : NoInt #[.slice (some ⟨g1, 0, none⟩) 286 286, .slice a5 nL c5, .pointer (some ⟨gb, 0, none⟩), .func (.func 77) #[] #[]] := noInt4 (fun z h => by cases h) (fun z h => by cases h) (fun z h => by cases h) (fun z h => by cases h)
  have n2 : NoInt #[.slice (some ⟨g2, 0, none⟩) 30 30, .slice a6 nD c6, .pointer (some ⟨gc, 0, none⟩), .func (.func 78) #[] #[]] := noInt4 (fun z h => by cases h) (fun z h => by cases h) (fun z h => by cases h) (fun z h => by cases h)
  have ch1 := set4_ch wy w.heap.size (.slice (some ⟨g1, 0, none⟩) 286 286) (.slice a5 nL c5) (.pointer (some ⟨gb, 0, none⟩)) (.func (.func 77) #[] #[])
  have ch2 := set4_ch ((((wy.setCell ⟨w.heap.size, 0, none⟩ (.slice (some ⟨g1, 0, none⟩) 286 286)).setCell ⟨w.heap.size, 1, none⟩ (.slice a5 nL c5)).setCell ⟨w.heap.size, 2, none⟩ (.pointer (some ⟨gb, 0, none⟩))).setCell ⟨w.heap.size, 3, none⟩ (.func (.func 77) #[] #[])) (w.heap.size + 1) (.slice (some ⟨g2, 0, none⟩) 30 30) (.slice a6 nD c6) (.pointer (some ⟨gc, 0, none⟩)) (.func (.func 78) #[] #[])
  have chf : Ch wy (((((((((wy.setCell ⟨w.heap.size, 0, none⟩ (.slice (some ⟨g1, 0, none⟩) 286 286)).setCell ⟨w.heap.size, 1, none⟩ (.slice a5 nL c5)).setCell ⟨w.heap.size, 2, none⟩ (.pointer (some ⟨gb, 0, none⟩))).setCell ⟨w.heap.size, 3, none⟩ (.func (.func 77) #[] #[])).setCell ⟨w.heap.size + 1, 0, none⟩ (.slice (some ⟨g2, 0, none⟩) 30 30)).setCell ⟨w.heap.size + 1, 1, none⟩ (.slice a6 nD c6)).setCell ⟨w.heap.size + 1, 2, none⟩ (.pointer (some ⟨gc, 0, none⟩))).setCell ⟨w.heap.size + 1, 3, none⟩ (.func (.func 78) #[] #[]))).drew (fun k => k = w.heap.size ∨ k = w.heap.size + 1) := Ch.drew ((ch1.wide (U := fun k => k = w.heap.size ∨ k = w.heap.size + 1) (fun k hk => .inl (.inl hk))).trans ch2 (fun k hk => .inl (.inr hk)))
  have rq0 := set4_row HRB.out (.slice (some ⟨g1, 0, none⟩) 286 286) (.slice a5 nL c5) (.pointer (some ⟨gb, 0, none⟩)) (.func (.func 77) #[] #[])
  have rq1 := (ch1.block (w.heap.size + 1) (Array.getElem?_eq_some_iff.1 HRA.out).1 (by omega)).trans HRA.out
  have HF1 : Hid ((((((((((wy.setCell ⟨w.heap.size, 0, none⟩ (.slice (some ⟨g1, 0, none⟩) 286 286)).setCell ⟨w.heap.size, 1, none⟩ (.slice a5 nL c5)).setCell ⟨w.heap.size, 2, none⟩ (.pointer (some ⟨gb, 0, none⟩))).setCell ⟨w.heap.size, 3, none⟩ (.func (.func 77) #[] #[])).setCell ⟨w.heap.size + 1, 0, none⟩ (.slice (some ⟨g2, 0, none⟩) 30 30)).setCell ⟨w.heap.size + 1, 1, none⟩ (.slice a6 nD c6)).setCell ⟨w.heap.size + 1, 2, none⟩ (.pointer (some ⟨gc, 0, none⟩))).setCell ⟨w.heap.size + 1, 3, none⟩ (.func (.func 78) #[] #[]))).drew.heap[w.heap.size + 1]? = some (.cells #[.slice (some ⟨g2, 0, none⟩) 30 30, .slice a6 nD c6, .pointer (some ⟨gc, 0, none⟩), .func (.func 78) #[] #[]] 84 (0, 0))) := Lib.hid ((drew_row _ _).trans <| set4_row rq1 (.slice (some ⟨g2, 0, none⟩) 30 30) (.slice a6 nD c6) (.pointer (some ⟨gc, 0, none⟩)) (.func (.func 78) #[] #[]))
  have HF0 : Hid ((((((((((wy.setCell ⟨w.heap.size, 0, none⟩ (.slice (some ⟨g1, 0, none⟩) 286 286)).setCell ⟨w.heap.size, 1, none⟩ (.slice a5 nL c5)).setCell ⟨w.heap.size, 2, none⟩ (.pointer (some ⟨gb, 0, none⟩))).setCell ⟨w.heap.size, 3, none⟩ (.func (.func 77) #[] #[])).setCell ⟨w.heap.size + 1, 0, none⟩ (.slice (some ⟨g2, 0, none⟩) 30 30)).setCell ⟨w.heap.size + 1, 1, none⟩ (.slice a6 nD c6)).setCell ⟨w.heap.size + 1, 2, none⟩ (.pointer (some ⟨gc, 0, none⟩))).setCell ⟨w.heap.size + 1, 3, none⟩ (.func (.func 78) #[] #[]))).drew.heap[w.heap.size]? = some (.cells #[.slice (some ⟨g1, 0, none⟩) 286 286, .slice a5 nL c5, .pointer (some ⟨gb, 0, none⟩), .func (.func 77) #[] #[]] 84 (0, 0))) := Lib.hid ((drew_row _ _).trans <| (ch2.block w.heap.size (Array.getElem?_eq_some_iff.1 rq0).1 (by omega)).trans rq0)
  have HK : Hid (∀ (x : Option Addr) (p q : Nat) (l : List Int), Is .i64 wy x p q l → 0 < p → Is .i64 (((((((((wy.setCell ⟨w.heap.size, 0, none⟩ (.slice (some ⟨g1, 0, none⟩) 286 286)).setCell ⟨w.heap.size, 1, none⟩ (.slice a5 nL c5)).setCell ⟨w.heap.size, 2, none⟩ (.pointer (some ⟨gb, 0, none⟩))).setCell ⟨w.heap.size, 3, none⟩ (.func (.func 77) #[] #[])).setCell ⟨w.heap.size + 1, 0, none⟩ (.slice (some ⟨g2, 0, none⟩) 30 30)).setCell ⟨w.heap.size + 1, 1, none⟩ (.slice a6 nD c6)).setCell ⟨w.heap.size + 1, 2, none⟩ (.pointer (some ⟨gc, 0, none⟩))).setCell ⟨w.heap.size + 1, 3, none⟩ (.func (.func 78) #[] #[]))).drew x p q l) := Lib.hid (fun x p q l hx hp => hx.kept chf (fun ad e he => he.elim (is_ne hx hp HRB.out n1 ad e) (is_ne hx hp HRA.out n2 ad e)))
  have HP : Hid (TablesPost w 1 ts (.returned (.tuple #[.agg #[.slice (some ⟨g1, 0, none⟩) 286 286, .slice a5 nL c5, .pointer (some ⟨gb, 0, none⟩), .func (.func 77) #[] #[]], .agg #[.slice (some ⟨g2, 0, none⟩) 30 30, .slice a6 nD c6, .pointer (some ⟨gc, 0, none⟩), .func (.func 78) #[] #[]], .nilIface])) (((((((((wy.setCell ⟨w.heap.size, 0, none⟩ (.slice (some ⟨g1, 0, none⟩) 286 286)).setCell ⟨w.heap.size, 1, none⟩ (.slice a5 nL c5)).setCell ⟨w.heap.size, 2, none⟩ (.pointer (some ⟨gb, 0, none⟩))).setCell ⟨w.heap.size, 3, none⟩ (.func (.func 77) #[] #[])).setCell ⟨w.heap.size + 1, 0, none⟩ (.slice (some ⟨g2, 0, none⟩) 30 30)).setCell ⟨w.heap.size + 1, 1, none⟩ (.slice a6 nD c6)).setCell ⟨w.heap.size + 1, 2, none⟩ (.pointer (some ⟨gc, 0, none⟩))).setCell ⟨w.heap.size + 1, 3, none⟩ (.func (.func 78) #[] #[]))).drew) := Lib.hid (by
    refine ⟨_, _, rfl, ⟨_, _, _, _, _, _, rfl, HK.out _ _ _ _ HK1.out (by omega), HK.out _ _ _ _ HK3.out hp1, (HKB.out.kept chf (fun j hj e => by omega)).wide (fun j hj => by omega)⟩, ⟨_, _, _, _, _, _, rfl, HK.out _ _ _ _ HK2.out (by omega), HK.out _ _ _ _ HK4.out hp2, (HKC.out.kept chf (fun j hj e => by omega)).wide (fun j hj => by omega)⟩, ?_⟩
    exact HBX.out.trans (chf.below HBX.out.size (fun j e => by omega)))
  clear HK chf ch1 ch2 rq0 rq1 n1 n2 c0 c1 c2 c3 e0 e1 e2 e3 f0 f1 f2 f3 h0 h1 h2 h3 HK1 HK2 HK3 HK4 HKB HKC HBX HRA HRB
  revert HF0 HF1 HP
  generalize (((((((((wy.setCell ⟨w.heap.size, 0, none⟩ (.slice (some ⟨g1, 0, none⟩) 286 286)).setCell ⟨w.heap.size, 1, none⟩ (.slice a5 nL c5)).setCell ⟨w.heap.size, 2, none⟩ (.pointer (some ⟨gb, 0, none⟩))).setCell ⟨w.heap.size, 3, none⟩ (.func (.func 77) #[] #[])).setCell ⟨w.heap.size + 1, 0, none⟩ (.slice (some ⟨g2, 0, none⟩) 30 30)).setCell ⟨w.heap.size + 1, 1, none⟩ (.slice a6 nD c6)).setCell ⟨w.heap.size + 1, 2, none⟩ (.pointer (some ⟨gc, 0, none⟩))).setCell ⟨w.heap.size + 1, 3, none⟩ (.func (.func 78) #[] #[]))).drew = wf
  intro HF1 HF0 HP
  go_wp2
  exact bodyPost_ret (tables_results _ _ _ _ _ _ .nilIface rfl rfl rfl HF0.out HF1.out rfl rfl) rfl HP.out
set_option maxRecDepth 100000 in
set_option maxHeartbeats 1500000 in
theorem tables_2 (a : Option Addr) (len cap : Nat) (ts : List Tok) (w : World) (h : Ts2 w a len cap ts) (hlen : len ≤ 1000000) :
    Calls Tryz.prog 52 #[.int .i64 2, .slice a len cap] w (TablesPost w 2 ts) := by
  have hl := h.hlen
  subst hl
  have HCO := Lib.hid (co_cts ts hlen)
  have HCT := Lib.hid (fun w' (hb : Below w.heap.size w w') => count_any a ts.length cap ts w' (h.mono hb) hlen)
  have HFL := Lib.hid (And.intro (free_LL 2 ts hlen) (free_DL 2 ts hlen))
  have HLN := Lib.hid (And.intro (LL_length 2 ts) (DL_length 2 ts))
  have HIN := Lib.hid (Pa.in_cts ts ts.length (Nat.le_refl _))
  have hb0 := (below_alloc w (.cells #[.slice none 0 0, .slice none 0 0, .pointer none, .nilFunc] 84))
  have hb1 := below_then hb0 (below_alloc (w.alloc (.cells #[.slice none 0 0, .slice none 0 0, .pointer none, .nilFunc] 84)) (.cells #[.slice none 0 0, .slice none 0 0, .pointer none, .nilFunc] 84))
  have hr0 := heap_alloc_last w (.cells #[.slice none 0 0, .slice none 0 0, .pointer none, .nilFunc] 84)
  have hsz : (w.alloc (.cells #[.slice none 0 0, .slice none 0 0, .pointer none, .nilFunc] 84)).heap.size = w.heap.size + 1 := by simp
  have hr1 := heap_alloc_last (w.alloc (.cells #[.slice none 0 0, .slice none 0 0, .pointer none, .nilFunc] 84)) (.cells #[.slice none 0 0, .slice none 0 0, .pointer none, .nilFunc] 84)
  have hr2 := ((below_alloc (w.alloc (.cells #[.slice none 0 0, .slice none 0 0, .pointer none, .nilFunc] 84)) (.cells #[.slice none 0 0, .slice none 0 0, .pointer none, .nilFunc] 84)).block w.heap.size (by rw [hsz]; omega)).trans hr0
  have hs2 : ((w.alloc (.cells #[.slice none 0 0, .slice none 0 0, .pointer none, .nilFunc] 84)).alloc (.cells #[.slice none 0 0, .slice none 0 0, .pointer none, .nilFunc] 84)).heap.size = w.heap.size + 2 := by simp
  rw [hsz] at hr1
  have HB := Lib.hid hb1
  have HR0 := Lib.hid hr2
  have HR1 := Lib.hid hr1
  have HS2 := Lib.hid hs2
  clear h hb0 hb1 hr0 hr1 hr2 hsz hs2
  go_enter Tryz.func52, Tryz.ntmps52
  go_wp2_with fail
  refine (HCT.out _ HB.out).mono ?_
  rintro e w1 ⟨g1, g2, rfl, hcn⟩
  revert HB HR0 HR1 HS2 hcn
  generalize ((w.alloc (.cells #[.slice none 0 0, .slice none 0 0, .pointer none, .nilFunc] 84)).alloc (.cells #[.slice none 0 0, .slice none 0 0, .pointer none, .nilFunc] 84)) = w0
  intro HB HR0 HR1 HS2 hcn
  have hq1 : w.heap.size + 1 < w0.heap.size := by rw [HS2.out]; omega
  have hI1 := is_of_own hcn.own1 (HIN.out.1.wf (by omega)) 0 286 286 (by omega) (by omega)
  rw [List.drop_zero, List.take_of_length_le (by rw [HIN.out.1.1]; omega)] at hI1
  have hI2 := is_of_own hcn.own2 (HIN.out.2.wf (by omega)) 0 30 30 (by omega) (by omega)
  rw [List.drop_zero, List.take_of_length_le (by rw [HIN.out.2.1]; omega)] at hI2
  have HI1 := Lib.hid hI1
  have HI2 := Lib.hid hI2
  have HR0' := Lib.hid ((hcn.bel.block w.heap.size (by omega)).trans HR0.out)
  have HR1' := Lib.hid ((hcn.bel.block (w.heap.size + 1) (by omega)).trans HR1.out)
  have HB1 := Lib.hid (below_then HB.out hcn.bel)
  have HS1 : Hid (w.heap.size + 2 ≤ w1.heap.size) := Lib.hid (by have := hcn.bel.size; rw [HS2.out] at this; exact this)
  clear hcn hI1 hI2 HB HR0 HR1 HS2 HCT hq1 HIN
  go_wp2_with fail
  refine (fixed_any w1).mono ?_
  rintro e w2 ⟨a5, c5, a6, c6, rfl, i5, i6, hb2⟩
  have HBL := Lib.hid (best_any HCO.out.1 HCO.out.2 _ _ 286 286 30 30 w2 (HI1.out.mono hb2) (HI2.out.mono hb2))
  have HR2' := Lib.hid ((hb2.block w.heap.size (by have := HS1.out; omega)).trans HR0'.out)
  have HR3' := Lib.hid ((hb2.block (w.heap.size + 1) (by have := HS1.out; omega)).trans HR1'.out)
  have HJ1' := Lib.hid (HI1.out.mono hb2)
  have HJ2' := Lib.hid (HI2.out.mono hb2)
  have HB2' := Lib.hid (below_then HB1.out hb2)
  have HS3' : Hid (w.heap.size + 2 ≤ w2.heap.size) := Lib.hid (by have := HS1.out; have := hb2.size; omega)
  clear hb2 i5 i6 HI1 HI2 HR0' HR1' HB1 HS1
  go_wp2_with fail
  refine HBL.out.mono ?_
  rintro e w3 ⟨a7, c7, a8, c8, rfl, i5, i6, hb2⟩
  have HL5 : Hid (Is .i64 w3 a7 286 c7 (LL 2 ts)) := Lib.hid i5
  have HL6 : Hid (Is .i64 w3 a8 30 c8 (DL 2 ts)) := Lib.hid i6
  have HR2 := Lib.hid ((hb2.block w.heap.size (by have := HS3'.out; omega)).trans HR2'.out)
  have HR3 := Lib.hid ((hb2.block (w.heap.size + 1) (by have := HS3'.out; omega)).trans HR3'.out)
  have HJ1 := Lib.hid (HJ1'.out.mono hb2)
  have HJ2 := Lib.hid (HJ2'.out.mono hb2)
  have HB2 := Lib.hid (below_then HB2'.out hb2)
  have HS3 : Hid (w.heap.size + 2 ≤ w3.heap.size) := Lib.hid (by have := HS3'.out; have := hb2.size; omega)
  clear hb2 i5 i6 HJ1' HJ2' HR2' HR3' HB2' HS3' HBL
  have HN1 := Lib.hid (newTable_any .lit (some ⟨g1, 0, none⟩) 286 286 a7 286 c7 (LL 2 ts) w3 HL5.out HFL.out.1 (by omega))
  unfold TabPost fvK at HN1
  go_wp2_with fail
  refine HN1.out.mono ?_
  rintro e w4 ⟨gb, rfl, hbw, hb4⟩
  unfold tbV fvK
  have HR4 := Lib.hid ((hb4.block w.heap.size (by have := HS3.out; omega)).trans HR2.out)
  have HR5 := Lib.hid ((hb4.block (w.heap.size + 1) (by have := HS3.out; omega)).trans HR3.out)
  have HJ3 := Lib.hid (HJ1.out.mono hb4)
  have HJ4 := Lib.hid (HJ2.out.mono hb4)
  have HL7 := Lib.hid (HL5.out.mono hb4)
  have HL8 := Lib.hid (HL6.out.mono hb4)
  have HB4 := Lib.hid (below_then HB2.out hb4)
  have HS4 : Hid (w.heap.size + 2 ≤ w4.heap.size) := Lib.hid (by have := HS3.out; have := hb4.size; omega)
  have HBW4 : Hid (Bw w4 (fun j => w.heap.size + 2 ≤ j) gb (LL 2 ts)) := Lib.hid (hbw.wide (fun j hj => by have := HS3.out; omega))
  clear hbw hb4 HJ1 HJ2 HR2 HR3 HL5 HL6 HB2 HS3 HN1
  have c0 := cell_of_row w4 w.heap.size 0 _ _ (0, 0) HR4.out
  have c1 := cell_of_row w4 w.heap.size 1 _ _ (0, 0) HR4.out
  have c2 := cell_of_row w4 w.heap.size 2 _ _ (0, 0) HR4.out
  have c3 := cell_of_row w4 w.heap.size 3 _ _ (0, 0) HR4.out
  have f0 := frozen_of_row w4 w.heap.size 0 _ _ HR4.out
  have f1 := frozen_of_row w4 w.heap.size 1 _ _ HR4.out
  have f2 := frozen_of_row w4 w.heap.size 2 _ _ HR4.out
  have f3 := frozen_of_row w4 w.heap.size 3 _ _ HR4.out
  simp only [List.getElem?_toArray, List.getElem?_cons_zero, List.getElem?_cons_succ] at c0 c1 c2 c3
  go_wp2_with fail
  have HNZ : Hid (NoInt #[.slice none 0 0, .slice none 0 0, .pointer none, .nilFunc]) := Lib.hid (noInt4 (fun z h => by cases h) (fun z h => by cases h) (fun z h => by cases h) (fun z h => by cases h))
  have hch := set4_ch w4 w.heap.size (.slice (some ⟨g1, 0, none⟩) 286 286) (.slice a7 286 c7) (.pointer (some ⟨gb, 0, none⟩)) (.func (.func 77) #[] #[])
  have HRA := Lib.hid (set4_row HR4.out (.slice (some ⟨g1, 0, none⟩) 286 286) (.slice a7 286 c7) (.pointer (some ⟨gb, 0, none⟩)) (.func (.func 77) #[] #[]))
  have HSA := Lib.hid (set4_size w4 w.heap.size (.slice (some ⟨g1, 0, none⟩) 286 286) (.slice a7 286 c7) (.pointer (some ⟨gb, 0, none⟩)) (.func (.func 77) #[] #[]))
  have HRB := Lib.hid ((hch.block (w.heap.size + 1) (by have := HS4.out; omega) (by omega)).trans HR5.out)
  have hp1 : 0 < 286 := by have := HL7.out.hlen; have := HLN.out.1.1; omega
  have hp2 : 0 < 30 := by have := HL8.out.hlen; have := HLN.out.2.1; omega
  have HK1 := Lib.hid (HJ3.out.kept hch (is_ne HJ3.out (by omega) HR4.out HNZ.out))
  have HK2 := Lib.hid (HJ4.out.kept hch (is_ne HJ4.out (by omega) HR4.out HNZ.out))
  have HK3 := Lib.hid (HL7.out.kept hch (is_ne HL7.out hp1 HR4.out HNZ.out))
  have HK4 := Lib.hid (HL8.out.kept hch (is_ne HL8.out hp2 HR4.out HNZ.out))
  have HKB := Lib.hid (HBW4.out.kept hch (fun j hj e => by omega))
  have HBX := Lib.hid (HB4.out.trans (hch.below (by have := HS4.out; omega) (fun j e => by omega) : Below w.heap.size w4 _))
  clear hch c0 c1 c2 c3 f0 f1 f2 f3 HJ3 HJ4 HL7 HL8 HBW4 HB4 HR4 HR5
  revert HRA HSA HRB HK1 HK2 HK3 HK4 HKB HBX
  generalize ((((w4.setCell ⟨w.heap.size, 0, none⟩ (.slice (some ⟨g1, 0, none⟩) 286 286)).setCell ⟨w.heap.size, 1, none⟩ (.slice a7 286 c7)).setCell ⟨w.heap.size, 2, none⟩ (.pointer (some ⟨gb, 0, none⟩))).setCell ⟨w.heap.size, 3, none⟩ (.func (.func 77) #[] #[])) = wx
  intro HRA HSA HRB HK1 HK2 HK3 HK4 HKB HBX
  have HSX : Hid (w.heap.size + 2 ≤ wx.heap.size) := Lib.hid (by rw [HSA.out]; exact HS4.out)
  have HN2 := Lib.hid (newTable_any .dst (some ⟨g2, 0, none⟩) 30 30 a8 30 c8 (DL 2 ts) wx HK4.out HFL.out.2 (by omega))
  clear HSA HS4
  unfold TabPost fvK at HN2
  refine HN2.out.mono ?_
  rintro e w5 ⟨gc, rfl, hbw, hb5⟩
  unfold tbV fvK
  have HR4 := Lib.hid ((hb5.block w.heap.size (by have := HSX.out; omega)).trans HRA.out)
  have HR5 := Lib.hid ((hb5.block (w.heap.size + 1) (by have := HSX.out; omega)).trans HRB.out)
  have HJ3 := Lib.hid (HK1.out.mono hb5)
  have HJ4 := Lib.hid (HK2.out.mono hb5)
  have HL7 := Lib.hid (HK3.out.mono hb5)
  have HL8 := Lib.hid (HK4.out.mono hb5)
  have HB5 := Lib.hid (below_then HBX.out hb5)
  have HS5 : Hid (w.heap.size + 2 ≤ w5.heap.size) := Lib.hid (by have := HSX.out; have := hb5.size; omega)
  have HBW4 := Lib.hid (HKB.out.mono hb5)
  have HBW5 : Hid (Bw w5 (fun j => w.heap.size + 2 ≤ j) gc (DL 2 ts)) := Lib.hid (hbw.wide (fun j hj => by have := HSX.out; omega))
  clear hbw hb5 HRA HRB HK1 HK2 HK3 HK4 HKB HBX HSX HN2
  have c0 := cell_of_row w5 (w.heap.size + 1) 0 _ _ (0, 0) HR5.out
  have c1 := cell_of_row w5 (w.heap.size + 1) 1 _ _ (0, 0) HR5.out
  have c2 := cell_of_row w5 (w.heap.size + 1) 2 _ _ (0, 0) HR5.out
  have c3 := cell_of_row w5 (w.heap.size + 1) 3 _ _ (0, 0) HR5.out
  have f0 := frozen_of_row w5 (w.heap.size + 1) 0 _ _ HR5.out
  have f1 := frozen_of_row w5 (w.heap.size + 1) 1 _ _ HR5.out
  have f2 := frozen_of_row w5 (w.heap.size + 1) 2 _ _ HR5.out
  have f3 := frozen_of_row w5 (w.heap.size + 1) 3 _ _ HR5.out
  simp only [List.getElem?_toArray, List.getElem?_cons_zero, List.getElem?_cons_succ] at c0 c1 c2 c3
  go_wp2_with fail
  have hch := set4_ch w5 (w.heap.size + 1) (.slice (some ⟨g2, 0, none⟩) 30 30) (.slice a8 30 c8) (.pointer (some ⟨gc, 0, none⟩)) (.func (.func 78) #[] #[])
  have HRA := Lib.hid (set4_row HR5.out (.slice (some ⟨g2, 0, none⟩) 30 30) (.slice a8 30 c8) (.pointer (some ⟨gc, 0, none⟩)) (.func (.func 78) #[] #[]))
  have HRB := Lib.hid ((hch.block w.heap.size (by have := HS5.out; omega) (by omega)).trans HR4.out)
  have HK1 := Lib.hid (HJ3.out.kept hch (is_ne HJ3.out (by omega) HR5.out HNZ.out))
  have HK2 := Lib.hid (HJ4.out.kept hch (is_ne HJ4.out (by omega) HR5.out HNZ.out))
  have HK3 := Lib.hid (HL7.out.kept hch (is_ne HL7.out hp1 HR5.out HNZ.out))
  have HK4 := Lib.hid (HL8.out.kept hch (is_ne HL8.out hp2 HR5.out HNZ.out))
  have HKB := Lib.hid (HBW4.out.kept hch (fun j hj e => by omega))
  have HKC := Lib.hid (HBW5.out.kept hch (fun j hj e => by omega))
  have HBX := Lib.hid (HB5.out.trans (hch.below (by have := HS5.out; omega) (fun j e => by omega) : Below w.heap.size w5 _))
  clear hch c0 c1 c2 c3 f0 f1 f2 f3 HJ3 HJ4 HL7 HL8 HBW4 HB5 HR4 HR5 HNZ HBW5
  revert HRA HRB HK1 HK2 HK3 HK4 HKB HKC HBX
  generalize ((((w5.setCell ⟨w.heap.size + 1, 0, none⟩ (.slice (some ⟨g2, 0, none⟩) 30 30)).setCell ⟨w.heap.size + 1, 1, none⟩ (.slice a8 30 c8)).setCell ⟨w.heap.size + 1, 2, none⟩ (.pointer (some ⟨gc, 0, none⟩))).setCell ⟨w.heap.size + 1, 3, none⟩ (.func (.func 78) #[] #[])) = wy
  intro HRA HRB HK1 HK2 HK3 HK4 HKB HKC HBX
  have c0 := cell_of_row wy w.heap.size 0 _ _ (0, 0) HRB.out
  have c1 := cell_of_row wy w.heap.size 1 _ _ (0, 0) HRB.out
  have c2 := cell_of_row wy w.heap.size 2 _ _ (0, 0) HRB.out
  have c3 := cell_of_row wy w.heap.size 3 _ _ (0, 0) HRB.out
  have f0 := frozen_of_row wy w.heap.size 0 _ _ HRB.out
  have f1 := frozen_of_row wy w.heap.size 1 _ _ HRB.out
  have f2 := frozen_of_row wy w.heap.size 2 _ _ HRB.out
  have f3 := frozen_of_row wy w.heap.size 3 _ _ HRB.out
  have e0 := cell_of_row wy (w.heap.size + 1) 0 _ _ (0, 0) HRA.out
  have e1 := cell_of_row wy (w.heap.size + 1) 1 _ _ (0, 0) HRA.out
  have e2 := cell_of_row wy (w.heap.size + 1) 2 _ _ (0, 0) HRA.out
  have e3 := cell_of_row wy (w.heap.size + 1) 3 _ _ (0, 0) HRA.out
  have h0 := frozen_of_row wy (w.heap.size + 1) 0 _ _ HRA.out
  have h1 := frozen_of_row wy (w.heap.size + 1) 1 _ _ HRA.out
  have h2 := frozen_of_row wy (w.heap.size + 1) 2 _ _ HRA.out
  have h3 := frozen_of_row wy (w.heap.size + 1) 3 _ _ HRA.out
  simp only [List.getElem?_toArray, List.getElem?_cons_zero, List.getElem?_cons_succ] at c0 c1 c2 c3 e0 e1 e2 e3
  go_region
  have n1 : NoInt #[.slice (some ⟨g1, 0, none⟩) 286 286, .slice a7 286 c7, .pointer (some ⟨gb, 0, none⟩), .func (.func 77) #[] #[]] := noInt4 (fun z h => by cases h) (fun z h => by cases h) (fun z h => by cases h) (fun z h => by cases h)
  have n2 : NoInt #[.slice (some ⟨g2, 0, none⟩) 30 30, .slice a8 30 c8, .pointer (some ⟨gc, 0, none⟩), .func (.func 78) #[] #[]] := noInt4 (fun z h => by cases h) (fun z h => by cases h) (fun z h => by cases h) (fun z h => by cases h)
  have ch1 := set4_ch wy w.heap.size (.slice (some ⟨g1, 0, none⟩) 286 286) (.slice a7 286 c7) (.pointer (some ⟨gb, 0, none⟩)) (.func (.func 77) #[] #[])
  have ch2 := set4_ch ((((wy.setCell ⟨w.heap.size, 0, none⟩ (.slice (some ⟨g1, 0, none⟩) 286 286)).setCell ⟨w.heap.size, 1, none⟩ (.slice a7 286 c7)).setCell ⟨w.heap.size, 2, none⟩ (.pointer (some ⟨gb, 0, none⟩))).setCell ⟨w.heap.size, 3, none⟩ (.func (.func 77) #[] #[])) (w.heap.size + 1) (.slice (some ⟨g2, 0, none⟩) 30 30) (.slice a8 30 c8) (.pointer (some ⟨gc, 0, none⟩)) (.func (.func 78) #[] #[])
  have chf : Ch wy (((((((((wy.setCell ⟨w.heap.size, 0, none⟩ (.slice (some ⟨g1, 0, none⟩) 286 286)).setCell ⟨w.heap.size, 1, none⟩ (.slice a7 286 c7)).setCell ⟨w.heap.size, 2, none⟩ (.pointer (some ⟨gb, 0, none⟩))).setCell ⟨w.heap.size, 3, none⟩ (.func (.func 77) #[] #[])).setCell ⟨w.heap.size + 1, 0, none⟩ (.slice (some ⟨g2, 0, none⟩) 30 30)).setCell ⟨w.heap.size + 1, 1, none⟩ (.slice a8 30 c8)).setCell ⟨w.heap.size + 1, 2, none⟩ (.pointer (some ⟨gc, 0, none⟩))).setCell ⟨w.heap.size + 1, 3, none⟩ (.func (.func 78) #[] #[]))).drew (fun k => k = w.heap.size ∨ k = w.heap.size + 1) := Ch.drew ((ch1.wide (U := fun k => k = w.heap.size ∨ k = w.heap.size + 1) (fun k hk => .inl (.inl hk))).trans ch2 (fun k hk => .inl (.inr hk)))
  have rq0 := set4_row HRB.out (.slice (some ⟨g1, 0, none⟩) 286 286) (.slice a7 286 c7) (.pointer (some ⟨gb, 0, none⟩)) (.func (.func 77) #[] #[])
  have rq1 := (ch1.block (w.heap.size + 1) (Array.getElem?_eq_some_iff.1 HRA.out).1 (by omega)).trans HRA.out
  have HF1 : Hid ((((((((((wy.setCell ⟨w.heap.size, 0, none⟩ (.slice (some ⟨g1, 0, none⟩) 286 286)).setCell ⟨w.heap.size, 1, none⟩ (.slice a7 286 c7)).setCell ⟨w.heap.size, 2, none⟩ (.pointer (some ⟨gb, 0, none⟩))).setCell ⟨w.heap.size, 3, none⟩ (.func (.func 77) #[] #[])).setCell ⟨w.heap.size + 1, 0, none⟩ (.slice (some ⟨g2, 0, none⟩) 30 30)).setCell ⟨w.heap.size + 1, 1, none⟩ (.slice a8 30 c8)).setCell ⟨w.heap.size + 1, 2, none⟩ (.pointer (some ⟨gc, 0, none⟩))).setCell ⟨w.heap.size + 1, 3, none⟩ (.func (.func 78) #[] #[]))).drew.heap[w.heap.size + 1]? = some (.cells #[.slice (some ⟨g2, 0, none⟩) 30 30, .slice a8 30 c8, .pointer (some ⟨gc, 0, none⟩), .func (.func 78) #[] #[]] 84 (0, 0))) := Lib.hid ((drew_row _ _).trans <| set4_row rq1 (.slice (some ⟨g2, 0, none⟩) 30 30) (.slice a8 30 c8) (.pointer (some ⟨gc, 0, none⟩)) (.func (.func 78) #[] #[]))
  have HF0 : Hid ((((((((((wy.setCell ⟨w.heap.size, 0, none⟩ (.slice (some ⟨g1, 0, none⟩) 286 286)).setCell ⟨w.heap.size, 1, none⟩ (.slice a7 286 c7)).setCell ⟨w.heap.size, 2, none⟩ (.pointer (some ⟨gb, 0, none⟩))).setCell ⟨w.heap.size, 3, none⟩ (.func (.func 77) #[] #[])).setCell ⟨w.heap.size + 1, 0, none⟩ (.slice (some ⟨g2, 0, none⟩) 30 30)).setCell ⟨w.heap.size + 1, 1, none⟩ (.slice a8 30 c8)).setCell ⟨w.heap.size + 1, 2, none⟩ (.pointer (some ⟨gc, 0, none⟩))).setCell ⟨w.heap.size + 1, 3, none⟩ (.func (.func 78) #[] #[]))).drew.heap[w.heap.size]? = some (.cells #[.slice (some ⟨g1, 0, none⟩) 286 286, .slice a7 286 c7, .pointer (some ⟨gb, 0, none⟩), .func (.func 77) #[] #[]] 84 (0, 0))) := Lib.hid ((drew_row _ _).trans <| (ch2.block w.heap.size (Array.getElem?_eq_some_iff.1 rq0).1 (by omega)).trans rq0)
  have HK : Hid (∀ (x : Option Addr) (p q : Nat) (l : List Int), Is .i64 wy x p q l → 0 < p → Is .i64 (((((((((wy.setCell ⟨w.heap.size, 0, none⟩ (.slice (some ⟨g1, 0, none⟩) 286 286)).setCell ⟨w.heap.size, 1, none⟩ (.slice a7 286 c7)).setCell ⟨w.heap.size, 2, none⟩ (.pointer (some ⟨gb, 0, none⟩))).setCell ⟨w.heap.size, 3, none⟩ (.func (.func 77) #[] #[])).setCell ⟨w.heap.size + 1, 0, none⟩ (.slice (some ⟨g2, 0, none⟩) 30 30)).setCell ⟨w.heap.size + 1, 1, none⟩ (.slice a8 30 c8)).setCell ⟨w.heap.size + 1, 2, none⟩ (.pointer (some ⟨gc, 0, none⟩))).setCell ⟨w.heap.size + 1, 3, none⟩ (.func (.func 78) #[] #[]))).drew x p q l) := Lib.hid (fun x p q l hx hp => hx.kept chf (fun ad e he => he.elim (is_ne hx hp HRB.out n1 ad e) (is_ne hx hp HRA.out n2 ad e)))
  have HP : Hid (TablesPost w 2 ts (.returned (.tuple #[.agg #[.slice (some ⟨g1, 0, none⟩) 286 286, .slice a7 286 c7, .pointer (some ⟨gb, 0, none⟩), .func (.func 77) #[] #[]], .agg #[.slice (some ⟨g2, 0, none⟩) 30 30, .slice a8 30 c8, .pointer (some ⟨gc, 0, none⟩), .func (.func 78) #[] #[]], .nilIface])) (((((((((wy.setCell ⟨w.heap.size, 0, none⟩ (.slice (some ⟨g1, 0, none⟩) 286 286)).setCell ⟨w.heap.size, 1, none⟩ (.slice a7 286 c7)).setCell ⟨w.heap.size, 2, none⟩ (.pointer (some ⟨gb, 0, none⟩))).setCell ⟨w.heap.size, 3, none⟩ (.func (.func 77) #[] #[])).setCell ⟨w.heap.size + 1, 0, none⟩ (.slice (some ⟨g2, 0, none⟩) 30 30)).setCell ⟨w.heap.size + 1, 1, none⟩ (.slice a8 30 c8)).setCell ⟨w.heap.size + 1, 2, none⟩ (.pointer (some ⟨gc, 0, none⟩))).setCell ⟨w.heap.size + 1, 3, none⟩ (.func (.func 78) #[] #[]))).drew) := Lib.hid (by
    refine ⟨_, _, rfl, ⟨_, _, _, _, _, _, rfl, HK.out _ _ _ _ HK1.out (by omega), HK.out _ _ _ _ HK3.out hp1, (HKB.out.kept chf (fun j hj e => by omega)).wide (fun j hj => by omega)⟩, ⟨_, _, _, _, _, _, rfl, HK.out _ _ _ _ HK2.out (by omega), HK.out _ _ _ _ HK4.out hp2, (HKC.out.kept chf (fun j hj e => by omega)).wide (fun j hj => by omega)⟩, ?_⟩
    exact HBX.out.trans (chf.below HBX.out.size (fun j e => by omega)))
  clear HK chf ch1 ch2 rq0 rq1 n1 n2 c0 c1 c2 c3 e0 e1 e2 e3 f0 f1 f2 f3 h0 h1 h2 h3 HK1 HK2 HK3 HK4 HKB HKC HBX HRA HRB
  revert HF0 HF1 HP
  generalize (((((((((wy.setCell ⟨w.heap.size, 0, none⟩ (.slice (some ⟨g1, 0, none⟩) 286 286)).setCell ⟨w.heap.size, 1, none⟩ (.slice a7 286 c7)).setCell ⟨w.heap.size, 2, none⟩ (.pointer (some ⟨gb, 0, none⟩))).setCell ⟨w.heap.size, 3, none⟩ (.func (.func 77) #[] #[])).setCell ⟨w.heap.size + 1, 0, none⟩ (.slice (some ⟨g2, 0, none⟩) 30 30)).setCell ⟨w.heap.size + 1, 1, none⟩ (.slice a8 30 c8)).setCell ⟨w.heap.size + 1, 2, none⟩ (.pointer (some ⟨gc, 0, none⟩))).setCell ⟨w.heap.size + 1, 3, none⟩ (.func (.func 78) #[] #[]))).drew = wf
  intro HF1 HF0 HP
  go_wp2
  exact bodyPost_ret (tables_results _ _ _ _ _ _ .nilIface rfl rfl rfl HF0.out HF1.out rfl rfl) rfl HP.out
end Bc
end Go.Proofs.YtjjbgdmalefdlaaGreatDoor
end
