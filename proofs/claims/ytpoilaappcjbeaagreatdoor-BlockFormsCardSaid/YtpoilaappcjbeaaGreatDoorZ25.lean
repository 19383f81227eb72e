/- block.newBody: its contract (made by tools/gen_bcbody.py). -/
import Derived.Test.YtpoilaappcjbeaaGreatDoorZ24
import Derived.Deep.Cut
set_option linter.unusedSimpArgs false
set_option linter.unusedVariables false
section
namespace Go.Proofs.YtpoilaappcjbeaaGreatDoor
open Go.RowKit

namespace Bc
theorem set10_row {w : World} {q : Nat} {y0 y1 y2 y3 y4 y5 y6 y7 y8 y9 : Value} {t : TypeId} (h : w.heap[q]? = some (.cells #[y0, y1, y2, y3, y4, y5, y6, y7, y8, y9] t (0, 0))) (x0 x1 x2 x3 x4 x5 x6 x7 x8 x9 : Value) : (((((((((((w.setCell ⟨q, 0, none⟩ (x0)).setCell ⟨q, 1, none⟩ (x1)).setCell ⟨q, 2, none⟩ (x2)).setCell ⟨q, 3, none⟩ (x3)).setCell ⟨q, 4, none⟩ (x4)).setCell ⟨q, 5, none⟩ (x5)).setCell ⟨q, 6, none⟩ (x6)).setCell ⟨q, 7, none⟩ (x7)).setCell ⟨q, 8, none⟩ (x8)).setCell ⟨q, 9, none⟩ (x9))).heap[q]? = some (.cells #[x0, x1, x2, x3, x4, x5, x6, x7, x8, x9] t (0, 0)) := by
  have r0 := heap_setCell_same w q 0 _ _ x0 h
  have r1 := heap_setCell_same _ q 1 _ _ x1 r0
  have r2 := heap_setCell_same _ q 2 _ _ x2 r1
  have r3 := heap_setCell_same _ q 3 _ _ x3 r2
  have r4 := heap_setCell_same _ q 4 _ _ x4 r3
  have r5 := heap_setCell_same _ q 5 _ _ x5 r4
  have r6 := heap_setCell_same _ q 6 _ _ x6 r5
  have r7 := heap_setCell_same _ q 7 _ _ x7 r6
  have r8 := heap_setCell_same _ q 8 _ _ x8 r7
  have r9 := heap_setCell_same _ q 9 _ _ x9 r8
  simpa using r9
theorem set10_ch (w : World) (q : Nat) (x0 x1 x2 x3 x4 x5 x6 x7 x8 x9 : Value) : Ch w (((((((((((w.setCell ⟨q, 0, none⟩ (x0)).setCell ⟨q, 1, none⟩ (x1)).setCell ⟨q, 2, none⟩ (x2)).setCell ⟨q, 3, none⟩ (x3)).setCell ⟨q, 4, none⟩ (x4)).setCell ⟨q, 5, none⟩ (x5)).setCell ⟨q, 6, none⟩ (x6)).setCell ⟨q, 7, none⟩ (x7)).setCell ⟨q, 8, none⟩ (x8)).setCell ⟨q, 9, none⟩ (x9))) (fun k => k = q) := (((((((((((Ch.refl w (fun k => k = q)).set (p := ⟨q, 0, none⟩) (.inl rfl) x0).set (p := ⟨q, 1, none⟩) (.inl rfl) x1).set (p := ⟨q, 2, none⟩) (.inl rfl) x2).set (p := ⟨q, 3, none⟩) (.inl rfl) x3).set (p := ⟨q, 4, none⟩) (.inl rfl) x4).set (p := ⟨q, 5, none⟩) (.inl rfl) x5).set (p := ⟨q, 6, none⟩) (.inl rfl) x6).set (p := ⟨q, 7, none⟩) (.inl rfl) x7).set (p := ⟨q, 8, none⟩) (.inl rfl) x8).set (p := ⟨q, 9, none⟩) (.inl rfl) x9)
theorem load_body (W : World) (cb : Nat) (cs : Array Value) (hs : cs.size = 10) (hrow : W.heap[cb]? = some (.cells cs 86 (0, 0))) : (loadVar 86 ⟨cb, 0, none⟩).run Tryz.prog W = .ok (.agg cs) W :=
  run_loadVar_row W cb 86 86 cs (0, 0) _ hrow Tryz.underlying86 rfl (by rw [hs]; kernel_rfl)
theorem body_results (tmps : Array Value) (W : World) (cb : Nat) (cs : Array Value) (u : Value) (h2 : tmps.getD 2 undef = .pointer (some ⟨cb, 0, none⟩)) (h3 : tmps.getD 3 undef = u) (hrow : W.heap[cb]? = some (.cells cs 86 (0, 0))) (hs : cs.size = 10) :
    (results Tryz.f36 tmps).run Tryz.prog W = .ok (.tuple #[.agg cs, u]) W := by
  refine (results_cell_tmp (p := 2) (u := 3) (ty := 86) (by kernel_rfl) tmps Tryz.prog W).trans ?_
  rw [h2, h3]
  simp [asAddr, load_body W cb cs hs hrow, Result.andThen]
/-- A body's row has no number. -/
theorem noInt10 {x0 x1 x2 x3 x4 x5 x6 x7 x8 x9 : Value} (h0 : ∀ z, x0 ≠ .int .i64 z) (h1 : ∀ z, x1 ≠ .int .i64 z) (h2 : ∀ z, x2 ≠ .int .i64 z) (h3 : ∀ z, x3 ≠ .int .i64 z) (h4 : ∀ z, x4 ≠ .int .i64 z) (h5 : ∀ z, x5 ≠ .int .i64 z) (h6 : ∀ z, x6 ≠ .int .i64 z) (h7 : ∀ z, x7 ≠ .int .i64 z) (h8 : ∀ z, x8 ≠ .int .i64 z) (h9 : ∀ z, x9 ≠ .int .i64 z) : NoInt #[x0, x1, x2, x3, x4, x5, x6, x7, x8, x9] := fun i z e => by
  match i with
  | 0 => exact h0 z (by simpa using e)
  | 1 => exact h1 z (by simpa using e)
  | 2 => exact h2 z (by simpa using e)
  | 3 => exact h3 z (by simpa using e)
  | 4 => exact h4 z (by simpa using e)
  | 5 => exact h5 z (by simpa using e)
  | 6 => exact h6 z (by simpa using e)
  | 7 => exact h7 z (by simpa using e)
  | 8 => exact h8 z (by simpa using e)
  | 9 => exact h9 z (by simpa using e)
  | i + 10 => simp at e
theorem HdIs.kept1 {w w' : World} {B hb q : Nat} {h : Hd} {cs : Array Value} {t : TypeId} (H : HdIs w B hb h) (c : Ch w w' (fun k => k = q)) (hq : q < B) (hr : w.heap[q]? = some (.cells cs t (0, 0))) (hn : NoInt cs) (hR : h.R.length = 19) : HdIs w' B hb h := by
  obtain ⟨ra, rcap, oa, oc, ca, cc, la, m, d, g, hrow, h1, h2, h3, h4, h5, h6, h7, h8⟩ := H
  have hm : 0 < m := by have := h6.hlen; omega
  exact ⟨ra, rcap, oa, oc, ca, cc, la, m, d, g, (c.block hb (Array.getElem?_eq_some_iff.1 hrow).1 (by omega)).trans hrow, h1.kept c (fun ad e he => by have := h2 ad e; omega), h2, h3.kept c (fun ad e he => by have := h4 ad e; omega), h4, h5.kept c (is_ne h5 (by omega) hr hn), h6.kept c (is_ne h6 hm hr hn), h7.kept c (fun k hk e => by omega), h8⟩
theorem Bw.here {w : World} {D : Nat → Prop} {g : Nat} {L : List Int} (h : Bw w D g L) : Bw w (fun j => D j ∧ j < w.heap.size) g L := by
  obtain ⟨B, fs, vs, wv, h1, h2, h3, h4, h5⟩ := h
  exact ⟨B, fs, vs, wv, h1, h2, ⟨h3, h2.lt⟩, fun k hk => ⟨h4 k hk, (h2.words.lt k hk).2⟩, fun k hk => ⟨h5 k hk, by obtain ⟨n, hn, hk⟩ := hk; exact ((h2.rows n hn).lt k hk).2⟩⟩
def BodyPost (w : World) (kind : Nat) (ts : List Tok) (tv : Value) (e : Ending) (w' : World) : Prop := ∃ v, e = .returned (.tuple #[v, .nilIface]) ∧ BdIs w' w.heap.size kind ts v ∧ Below w.heap.size w w' ∧ ∃ cs : Array Value, v = .agg cs ∧ cs[9]? = some tv
set_option maxRecDepth 100000 in
set_option maxHeartbeats 2000000 in
theorem newBody_1 (a : Option Addr) (len cap : Nat) (ts : List Tok) (xa : Option Addr) (xn xc : Nat) (w : World) (h : Ts2 w a len cap ts) (hlen : len ≤ 1000000) (hoo : Oo w) (hz : 0 < w.heap.size) :
    Calls Tryz.prog 36 #[.agg #[.int .i64 1, .slice a len cap, .slice xa xn xc]] w (BodyPost w 1 ts (.slice a len cap)) := by
  have hl := h.hlen
  subst hl
  have hb1 := below_alloc w (.cells #[.int .i64 1, .slice a ts.length cap, .slice xa xn xc] 36)
  have hr1 := heap_alloc_last w (.cells #[.int .i64 1, .slice a ts.length cap, .slice xa xn xc] 36)
  have hb2 := below_alloc (w.alloc (.cells #[.int .i64 1, .slice a ts.length cap, .slice xa xn xc] 36)) (.cells #[.pointer none, .slice none 0 0, .slice none 0 0, .pointer none, .nilFunc, .slice none 0 0, .slice none 0 0, .pointer none, .nilFunc, .slice none 0 0] 86)
  have hr2 := heap_alloc_last (w.alloc (.cells #[.int .i64 1, .slice a ts.length cap, .slice xa xn xc] 36)) (.cells #[.pointer none, .slice none 0 0, .slice none 0 0, .pointer none, .nilFunc, .slice none 0 0, .slice none 0 0, .pointer none, .nilFunc, .slice none 0 0] 86)
  have hz1 : (w.alloc (.cells #[.int .i64 1, .slice a ts.length cap, .slice xa xn xc] 36)).heap.size = w.heap.size + 1 := by simp
  have hr3 := (hb2.block w.heap.size (by rw [hz1]; omega)).trans hr1
  have hz2 : ((w.alloc (.cells #[.int .i64 1, .slice a ts.length cap, .slice xa xn xc] 36)).alloc (.cells #[.pointer none, .slice none 0 0, .slice none 0 0, .pointer none, .nilFunc, .slice none 0 0, .slice none 0 0, .pointer none, .nilFunc, .slice none 0 0] 86)).heap.size = w.heap.size + 2 := by simp
  rw [hz1] at hr2
  have HB := Lib.hid (below_then hb1 hb2)
  have HR := Lib.hid (And.intro hr3 hr2)
  have HZ := Lib.hid hz2
  have c0 := cell_of_row _ _ 0 _ _ (0, 0) hr3
  have c1 := cell_of_row _ _ 1 _ _ (0, 0) hr3
  simp only [List.getElem?_toArray, List.getElem?_cons_zero, List.getElem?_cons_succ] at c0 c1
  have HT := Lib.hid h
  have HOO := Lib.hid (And.intro hoo hz)
  have HTB := Lib.hid (tables_1 a ts.length cap ts ((w.alloc (.cells #[.int .i64 1, .slice a ts.length cap, .slice xa xn xc] 36)).alloc (.cells #[.pointer none, .slice none 0 0, .slice none 0 0, .pointer none, .nilFunc, .slice none 0 0, .slice none 0 0, .pointer none, .nilFunc, .slice none 0 0] 86)) (h.mono (below_then hb1 hb2)) hlen)
  have HLN := Lib.hid hlen
  clear h hoo hz hb1 hr1 hb2 hr2 hr3 hz1 hz2 hlen
  go_enter Tryz.func36, Tryz.ntmps36
  go_wp2_with fail
  refine HTB.out.mono ?_
  rintro e w3 ⟨v1, v2, rfl, ⟨a1, n1c, b1, m1, d1, g1, rfl, i1, j1, k1⟩, ⟨a2, n2c, b2, m2, d2, g2, rfl, i2, j2, k2⟩, hb3⟩
  unfold tbV fvK
  clear c0 c1
  have HR3 := Lib.hid (And.intro ((hb3.block w.heap.size (by rw [HZ.out]; omega)).trans HR.out.1) ((hb3.block (w.heap.size + 1) (by rw [HZ.out]; omega)).trans HR.out.2))
  have HI := Lib.hid (And.intro i1 (And.intro j1 (And.intro k1 (And.intro i2 (And.intro j2 k2)))))
  have HB3 := Lib.hid (below_then HB.out hb3)
  have HZ3 : Hid (w.heap.size + 2 ≤ w3.heap.size) := Lib.hid (by have := hb3.size; rw [HZ.out] at this; exact this)
  have HLT := Lib.hid HZ.out
  clear i1 j1 k1 i2 j2 k2 hb3 HTB HR HB
  rw [HLT.out] at HI
  have HI := Lib.hid (And.intro HI.out.1 (And.intro HI.out.2.1 (And.intro HI.out.2.2.1.here (And.intro HI.out.2.2.2.1 (And.intro HI.out.2.2.2.2.1 HI.out.2.2.2.2.2.here)))))
  clear HLT HZ
  have r0 := cell_of_row _ _ 0 _ _ (0, 0) HR3.out.1
  have r1 := cell_of_row _ _ 1 _ _ (0, 0) HR3.out.1
  simp only [List.getElem?_toArray, List.getElem?_cons_zero, List.getElem?_cons_succ] at r0 r1
  have l0 : w.heap.size < w3.heap.size := by have := HZ3.out; omega
  have b6a := below_alloc w3 (.cells #[.slice a1 286 n1c, .slice b1 m1 d1, .pointer (some ⟨g1, 0, none⟩), .func (.func 77) #[] #[]] 84)
  have b6b := below_then b6a (below_alloc (w3.alloc (.cells #[.slice a1 286 n1c, .slice b1 m1 d1, .pointer (some ⟨g1, 0, none⟩), .func (.func 77) #[] #[]] 84)) (.cells #[.slice a2 30 n2c, .slice b2 m2 d2, .pointer (some ⟨g2, 0, none⟩), .func (.func 78) #[] #[]] 84))
  have b6 := below_then b6b (below_alloc ((w3.alloc (.cells #[.slice a1 286 n1c, .slice b1 m1 d1, .pointer (some ⟨g1, 0, none⟩), .func (.func 77) #[] #[]] 84)).alloc (.cells #[.slice a2 30 n2c, .slice b2 m2 d2, .pointer (some ⟨g2, 0, none⟩), .func (.func 78) #[] #[]] 84)) (.cells #[.pointer none, .slice a1 286 n1c, .slice b1 m1 d1, .pointer (some ⟨g1, 0, none⟩), .func (.func 77) #[] #[], .slice a2 30 n2c, .slice b2 m2 d2, .pointer (some ⟨g2, 0, none⟩), .func (.func 78) #[] #[], .slice a ts.length cap] 86))
  have z6 : (((w3.alloc (.cells #[.slice a1 286 n1c, .slice b1 m1 d1, .pointer (some ⟨g1, 0, none⟩), .func (.func 77) #[] #[]] 84)).alloc (.cells #[.slice a2 30 n2c, .slice b2 m2 d2, .pointer (some ⟨g2, 0, none⟩), .func (.func 78) #[] #[]] 84)).alloc (.cells #[.pointer none, .slice a1 286 n1c, .slice b1 m1 d1, .pointer (some ⟨g1, 0, none⟩), .func (.func 77) #[] #[], .slice a2 30 n2c, .slice b2 m2 d2, .pointer (some ⟨g2, 0, none⟩), .func (.func 78) #[] #[], .slice a ts.length cap] 86)).heap.size = w3.heap.size + 3 := by simp
  have q0 := (b6.cell (p := ⟨w.heap.size, 0, none⟩) l0).trans r0
  have t0 := heap_alloc_last w3 (.cells #[.slice a1 286 n1c, .slice b1 m1 d1, .pointer (some ⟨g1, 0, none⟩), .func (.func 77) #[] #[]] 84)
  have t1' := ((below_then (below_alloc (w3.alloc (.cells #[.slice a1 286 n1c, .slice b1 m1 d1, .pointer (some ⟨g1, 0, none⟩), .func (.func 77) #[] #[]] 84)) (.cells #[.slice a2 30 n2c, .slice b2 m2 d2, .pointer (some ⟨g2, 0, none⟩), .func (.func 78) #[] #[]] 84)) (below_alloc ((w3.alloc (.cells #[.slice a1 286 n1c, .slice b1 m1 d1, .pointer (some ⟨g1, 0, none⟩), .func (.func 77) #[] #[]] 84)).alloc (.cells #[.slice a2 30 n2c, .slice b2 m2 d2, .pointer (some ⟨g2, 0, none⟩), .func (.func 78) #[] #[]] 84)) (.cells #[.pointer none, .slice a1 286 n1c, .slice b1 m1 d1, .pointer (some ⟨g1, 0, none⟩), .func (.func 77) #[] #[], .slice a2 30 n2c, .slice b2 m2 d2, .pointer (some ⟨g2, 0, none⟩), .func (.func 78) #[] #[], .slice a ts.length cap] 86))).block w3.heap.size (by simp)).trans t0
  have t2 := heap_alloc_last (w3.alloc (.cells #[.slice a1 286 n1c, .slice b1 m1 d1, .pointer (some ⟨g1, 0, none⟩), .func (.func 77) #[] #[]] 84)) (.cells #[.slice a2 30 n2c, .slice b2 m2 d2, .pointer (some ⟨g2, 0, none⟩), .func (.func 78) #[] #[]] 84)
  have y1 : (w3.alloc (.cells #[.slice a1 286 n1c, .slice b1 m1 d1, .pointer (some ⟨g1, 0, none⟩), .func (.func 77) #[] #[]] 84)).heap.size = w3.heap.size + 1 := by simp
  have t2' := ((below_alloc ((w3.alloc (.cells #[.slice a1 286 n1c, .slice b1 m1 d1, .pointer (some ⟨g1, 0, none⟩), .func (.func 77) #[] #[]] 84)).alloc (.cells #[.slice a2 30 n2c, .slice b2 m2 d2, .pointer (some ⟨g2, 0, none⟩), .func (.func 78) #[] #[]] 84)) (.cells #[.pointer none, .slice a1 286 n1c, .slice b1 m1 d1, .pointer (some ⟨g1, 0, none⟩), .func (.func 77) #[] #[], .slice a2 30 n2c, .slice b2 m2 d2, .pointer (some ⟨g2, 0, none⟩), .func (.func 78) #[] #[], .slice a ts.length cap] 86)).block (w3.alloc (.cells #[.slice a1 286 n1c, .slice b1 m1 d1, .pointer (some ⟨g1, 0, none⟩), .func (.func 77) #[] #[]] 84)).heap.size (by simp)).trans t2
  rw [y1] at t2'
  have t3 := heap_alloc_last ((w3.alloc (.cells #[.slice a1 286 n1c, .slice b1 m1 d1, .pointer (some ⟨g1, 0, none⟩), .func (.func 77) #[] #[]] 84)).alloc (.cells #[.slice a2 30 n2c, .slice b2 m2 d2, .pointer (some ⟨g2, 0, none⟩), .func (.func 78) #[] #[]] 84)) (.cells #[.pointer none, .slice a1 286 n1c, .slice b1 m1 d1, .pointer (some ⟨g1, 0, none⟩), .func (.func 77) #[] #[], .slice a2 30 n2c, .slice b2 m2 d2, .pointer (some ⟨g2, 0, none⟩), .func (.func 78) #[] #[], .slice a ts.length cap] 86)
  have y2 : ((w3.alloc (.cells #[.slice a1 286 n1c, .slice b1 m1 d1, .pointer (some ⟨g1, 0, none⟩), .func (.func 77) #[] #[]] 84)).alloc (.cells #[.slice a2 30 n2c, .slice b2 m2 d2, .pointer (some ⟨g2, 0, none⟩), .func (.func 78) #[] #[]] 84)).heap.size = w3.heap.size + 1 + 1 := by simp
  rw [y2] at t3
  have HR6 := Lib.hid (And.intro t1' (And.intro t2' t3))
  have HB6 := Lib.hid b6
  have HZ6 := Lib.hid z6
  have m1' := cell_of_row _ _ 1 _ _ (0, 0) t1'
  have m2' := cell_of_row _ _ 1 _ _ (0, 0) t2'
  have m3' := cell_of_row _ _ 0 _ _ (0, 0) t3
  have fz3 := frozen_of_row _ _ 0 _ _ t3
  simp only [List.getElem?_toArray, List.getElem?_cons_zero, List.getElem?_cons_succ] at m1' m2' m3'
  clear b6a b6b b6 z6 t0 t1' t2 y1 t2' t3 y2
  have HB8 := Lib.hid (below_then HB3.out HB6.out)
  have HRZ := Lib.hid ((HB6.out.block (w.heap.size + 1) (by have := HZ3.out; omega)).trans HR3.out.2)
  have HRX := Lib.hid HR6.out.2.2
  have HI8 := Lib.hid (And.intro (HI.out.1.mono HB6.out) (And.intro (HI.out.2.1.mono HB6.out) (And.intro (HI.out.2.2.1.mono HB6.out) (And.intro (HI.out.2.2.2.1.mono HB6.out) (And.intro (HI.out.2.2.2.2.1.mono HB6.out) (HI.out.2.2.2.2.2.mono HB6.out))))))
  have HLN2 := Lib.hid (And.intro (LL_length 1 ts).1 (DL_length 1 ts).1)
  have HSZ := Lib.hid HZ3.out
  go_upto_region 7 with (fail)
  clear HR6 HB6 HI HOO HR3 q0 m1' m2' m3' fz3 r0 r1 HZ6
  revert HB8 HRZ HRX HI8
  generalize (((w3.alloc (.cells #[.slice a1 286 n1c, .slice b1 m1 d1, .pointer (some ⟨g1, 0, none⟩), .func (.func 77) #[] #[]] 84)).alloc (.cells #[.slice a2 30 n2c, .slice b2 m2 d2, .pointer (some ⟨g2, 0, none⟩), .func (.func 78) #[] #[]] 84)).alloc (.cells #[.pointer none, .slice a1 286 n1c, .slice b1 m1 d1, .pointer (some ⟨g1, 0, none⟩), .func (.func 77) #[] #[], .slice a2 30 n2c, .slice b2 m2 d2, .pointer (some ⟨g2, 0, none⟩), .func (.func 78) #[] #[], .slice a ts.length cap] 86)) = w8
  intro HB8 HRZ HRX HI8
  have z0 := cell_of_row _ _ 0 _ _ (0, 0) HRZ.out
  have z1 := cell_of_row _ _ 1 _ _ (0, 0) HRZ.out
  have z2 := cell_of_row _ _ 2 _ _ (0, 0) HRZ.out
  have z3 := cell_of_row _ _ 3 _ _ (0, 0) HRZ.out
  have z4 := cell_of_row _ _ 4 _ _ (0, 0) HRZ.out
  have z5 := cell_of_row _ _ 5 _ _ (0, 0) HRZ.out
  have z6 := cell_of_row _ _ 6 _ _ (0, 0) HRZ.out
  have z7 := cell_of_row _ _ 7 _ _ (0, 0) HRZ.out
  have z8 := cell_of_row _ _ 8 _ _ (0, 0) HRZ.out
  have z9 := cell_of_row _ _ 9 _ _ (0, 0) HRZ.out
  have zf0 := frozen_of_row _ _ 0 _ _ HRZ.out
  have zf1 := frozen_of_row _ _ 1 _ _ HRZ.out
  have zf2 := frozen_of_row _ _ 2 _ _ HRZ.out
  have zf3 := frozen_of_row _ _ 3 _ _ HRZ.out
  have zf4 := frozen_of_row _ _ 4 _ _ HRZ.out
  have zf5 := frozen_of_row _ _ 5 _ _ HRZ.out
  have zf6 := frozen_of_row _ _ 6 _ _ HRZ.out
  have zf7 := frozen_of_row _ _ 7 _ _ HRZ.out
  have zf8 := frozen_of_row _ _ 8 _ _ HRZ.out
  have zf9 := frozen_of_row _ _ 9 _ _ HRZ.out
  have x0 := cell_of_row _ _ 0 _ _ (0, 0) HRX.out
  have x1 := cell_of_row _ _ 1 _ _ (0, 0) HRX.out
  have x2 := cell_of_row _ _ 2 _ _ (0, 0) HRX.out
  have x3 := cell_of_row _ _ 3 _ _ (0, 0) HRX.out
  have x4 := cell_of_row _ _ 4 _ _ (0, 0) HRX.out
  have x5 := cell_of_row _ _ 5 _ _ (0, 0) HRX.out
  have x6 := cell_of_row _ _ 6 _ _ (0, 0) HRX.out
  have x7 := cell_of_row _ _ 7 _ _ (0, 0) HRX.out
  have x8 := cell_of_row _ _ 8 _ _ (0, 0) HRX.out
  have x9 := cell_of_row _ _ 9 _ _ (0, 0) HRX.out
  simp only [List.getElem?_toArray, List.getElem?_cons_zero, List.getElem?_cons_succ] at z0 z1 z2 z3 z4 z5 z6 z7 z8 z9 x0 x1 x2 x3 x4 x5 x6 x7 x8 x9
  go_wp2_with fail
  have chf := set10_ch w8 (w.heap.size + 1) (.pointer none) (.slice a1 286 n1c) (.slice b1 m1 d1) (.pointer (some ⟨g1, 0, none⟩)) (.func (.func 77) #[] #[]) (.slice a2 30 n2c) (.slice b2 m2 d2) (.pointer (some ⟨g2, 0, none⟩)) (.func (.func 78) #[] #[]) (.slice a ts.length cap)
  have HRF := Lib.hid (set10_row HRZ.out (.pointer none) (.slice a1 286 n1c) (.slice b1 m1 d1) (.pointer (some ⟨g1, 0, none⟩)) (.func (.func 77) #[] #[]) (.slice a2 30 n2c) (.slice b2 m2 d2) (.pointer (some ⟨g2, 0, none⟩)) (.func (.func 78) #[] #[]) (.slice a ts.length cap))
  have hnz : NoInt #[.pointer none, .slice none 0 0, .slice none 0 0, .pointer none, .nilFunc, .slice none 0 0, .slice none 0 0, .pointer none, .nilFunc, .slice none 0 0] := noInt10 (fun z h => by cases h) (fun z h => by cases h) (fun z h => by cases h) (fun z h => by cases h) (fun z h => by cases h) (fun z h => by cases h) (fun z h => by cases h) (fun z h => by cases h) (fun z h => by cases h) (fun z h => by cases h)
  have HP : Hid (BodyPost w 1 ts (.slice a ts.length cap) (.returned (.tuple #[.agg #[.pointer none, .slice a1 286 n1c, .slice b1 m1 d1, .pointer (some ⟨g1, 0, none⟩), .func (.func 77) #[] #[], .slice a2 30 n2c, .slice b2 m2 d2, .pointer (some ⟨g2, 0, none⟩), .func (.func 78) #[] #[], .slice a ts.length cap], .nilIface])) ((((((((((w8.setCell ⟨w.heap.size + 1, 0, none⟩ (.pointer none)).setCell ⟨w.heap.size + 1, 1, none⟩ (.slice a1 286 n1c)).setCell ⟨w.heap.size + 1, 2, none⟩ (.slice b1 m1 d1)).setCell ⟨w.heap.size + 1, 3, none⟩ (.pointer (some ⟨g1, 0, none⟩))).setCell ⟨w.heap.size + 1, 4, none⟩ (.func (.func 77) #[] #[])).setCell ⟨w.heap.size + 1, 5, none⟩ (.slice a2 30 n2c)).setCell ⟨w.heap.size + 1, 6, none⟩ (.slice b2 m2 d2)).setCell ⟨w.heap.size + 1, 7, none⟩ (.pointer (some ⟨g2, 0, none⟩))).setCell ⟨w.heap.size + 1, 8, none⟩ (.func (.func 78) #[] #[])).setCell ⟨w.heap.size + 1, 9, none⟩ (.slice a ts.length cap))) := Lib.hid (by
    have hbf : Below w.heap.size w ((((((((((w8.setCell ⟨w.heap.size + 1, 0, none⟩ (.pointer none)).setCell ⟨w.heap.size + 1, 1, none⟩ (.slice a1 286 n1c)).setCell ⟨w.heap.size + 1, 2, none⟩ (.slice b1 m1 d1)).setCell ⟨w.heap.size + 1, 3, none⟩ (.pointer (some ⟨g1, 0, none⟩))).setCell ⟨w.heap.size + 1, 4, none⟩ (.func (.func 77) #[] #[])).setCell ⟨w.heap.size + 1, 5, none⟩ (.slice a2 30 n2c)).setCell ⟨w.heap.size + 1, 6, none⟩ (.slice b2 m2 d2)).setCell ⟨w.heap.size + 1, 7, none⟩ (.pointer (some ⟨g2, 0, none⟩))).setCell ⟨w.heap.size + 1, 8, none⟩ (.func (.func 78) #[] #[])).setCell ⟨w.heap.size + 1, 9, none⟩ (.slice a ts.length cap)) := HB8.out.trans (chf.below HB8.out.size (fun j e => by omega))
    have h1 := HLN2.out
    have h2 := HSZ.out
    exact ⟨_, rfl, ⟨_, a1, n1c, b1, m1, d1, g1, a2, n2c, b2, m2, d2, g2, a, cap, rfl, (fun h => by cases h), (fun _ => rfl), HI8.out.1.kept chf (is_ne HI8.out.1 (by omega) HRZ.out hnz), HI8.out.2.1.kept chf (is_ne HI8.out.2.1 (by have := HI8.out.2.1.hlen; omega) HRZ.out hnz), (HI8.out.2.2.1.kept chf (fun j hj e => by omega)).wide (fun j hj => by omega), HI8.out.2.2.2.1.kept chf (is_ne HI8.out.2.2.2.1 (by omega) HRZ.out hnz), HI8.out.2.2.2.2.1.kept chf (is_ne HI8.out.2.2.2.2.1 (by have := HI8.out.2.2.2.2.1.hlen; omega) HRZ.out hnz), (HI8.out.2.2.2.2.2.kept chf (fun j hj e => by omega)).wide (fun j hj => by omega), HT.out.mono hbf⟩, hbf, _, rfl, rfl⟩)
  clear chf hnz z0 z1 z2 z3 z4 z5 z6 z7 z8 z9 x0 x1 x2 x3 x4 x5 x6 x7 x8 x9 zf0 zf1 zf2 zf3 zf4 zf5 zf6 zf7 zf8 zf9 HRZ HRX HI8 HB8 HT
  revert HRF HP
  generalize ((((((((((w8.setCell ⟨w.heap.size + 1, 0, none⟩ (.pointer none)).setCell ⟨w.heap.size + 1, 1, none⟩ (.slice a1 286 n1c)).setCell ⟨w.heap.size + 1, 2, none⟩ (.slice b1 m1 d1)).setCell ⟨w.heap.size + 1, 3, none⟩ (.pointer (some ⟨g1, 0, none⟩))).setCell ⟨w.heap.size + 1, 4, none⟩ (.func (.func 77) #[] #[])).setCell ⟨w.heap.size + 1, 5, none⟩ (.slice a2 30 n2c)).setCell ⟨w.heap.size + 1, 6, none⟩ (.slice b2 m2 d2)).setCell ⟨w.heap.size + 1, 7, none⟩ (.pointer (some ⟨g2, 0, none⟩))).setCell ⟨w.heap.size + 1, 8, none⟩ (.func (.func 78) #[] #[])).setCell ⟨w.heap.size + 1, 9, none⟩ (.slice a ts.length cap)) = wf
  intro HRF HP
  go_wp2
  exact bodyPost_ret (body_results _ _ _ _ .nilIface rfl rfl HRF.out rfl) rfl HP.out
set_option maxRecDepth 100000 in
set_option maxHeartbeats 2000000 in
theorem newBody_2 (a : Option Addr) (len cap : Nat) (ts : List Tok) (xa : Option Addr) (xn xc : Nat) (w : World) (h : Ts2 w a len cap ts) (hlen : len ≤ 1000000) (hoo : Oo w) (hz : 0 < w.heap.size) :
    Calls Tryz.prog 36 #[.agg #[.int .i64 2, .slice a len cap, .slice xa xn xc]] w (BodyPost w 2 ts (.slice a len cap)) := by
  have hl := h.hlen
  subst hl
  have hb1 := below_alloc w (.cells #[.int .i64 2, .slice a ts.length cap, .slice xa xn xc] 36)
  have hr1 := heap_alloc_last w (.cells #[.int .i64 2, .slice a ts.length cap, .slice xa xn xc] 36)
  have hb2 := below_alloc (w.alloc (.cells #[.int .i64 2, .slice a ts.length cap, .slice xa xn xc] 36)) (.cells #[.pointer none, .slice none 0 0, .slice none 0 0, .pointer none, .nilFunc, .slice none 0 0, .slice none 0 0, .pointer none, .nilFunc, .slice none 0 0] 86)
  have hr2 := heap_alloc_last (w.alloc (.cells #[.int .i64 2, .slice a ts.length cap, .slice xa xn xc] 36)) (.cells #[.pointer none, .slice none 0 0, .slice none 0 0, .pointer none, .nilFunc, .slice none 0 0, .slice none 0 0, .pointer none, .nilFunc, .slice none 0 0] 86)
  have hz1 : (w.alloc (.cells #[.int .i64 2, .slice a ts.length cap, .slice xa xn xc] 36)).heap.size = w.heap.size + 1 := by simp
  have hr3 := (hb2.block w.heap.size (by rw [hz1]; omega)).trans hr1
  have hz2 : ((w.alloc (.cells #[.int .i64 2, .slice a ts.length cap, .slice xa xn xc] 36)).alloc (.cells #[.pointer none, .slice none 0 0, .slice none 0 0, .pointer none, .nilFunc, .slice none 0 0, .slice none 0 0, .pointer none, .nilFunc, .slice none 0 0] 86)).heap.size = w.heap.size + 2 := by simp
  rw [hz1] at hr2
  have HB := Lib.hid (below_then hb1 hb2)
  have HR := Lib.hid (And.intro hr3 hr2)
  have HZ := Lib.hid hz2
  have c0 := cell_of_row _ _ 0 _ _ (0, 0) hr3
  have c1 := cell_of_row _ _ 1 _ _ (0, 0) hr3
  simp only [List.getElem?_toArray, List.getElem?_cons_zero, List.getElem?_cons_succ] at c0 c1
  have HT := Lib.hid h
  have HOO := Lib.hid (And.intro hoo hz)
  have HTB := Lib.hid (tables_2 a ts.length cap ts ((w.alloc (.cells #[.int .i64 2, .slice a ts.length cap, .slice xa xn xc] 36)).alloc (.cells #[.pointer none, .slice none 0 0, .slice none 0 0, .pointer none, .nilFunc, .slice none 0 0, .slice none 0 0, .pointer none, .nilFunc, .slice none 0 0] 86)) (h.mono (below_then hb1 hb2)) hlen)
  have HLN := Lib.hid hlen
  clear h hoo hz hb1 hr1 hb2 hr2 hr3 hz1 hz2 hlen
  go_enter Tryz.func36, Tryz.ntmps36
  go_wp2_with fail
  refine HTB.out.mono ?_
  rintro e w3 ⟨v1, v2, rfl, ⟨a1, n1c, b1, m1, d1, g1, rfl, i1, j1, k1⟩, ⟨a2, n2c, b2, m2, d2, g2, rfl, i2, j2, k2⟩, hb3⟩
  unfold tbV fvK
  clear c0 c1
  have HR3 := Lib.hid (And.intro ((hb3.block w.heap.size (by rw [HZ.out]; omega)).trans HR.out.1) ((hb3.block (w.heap.size + 1) (by rw [HZ.out]; omega)).trans HR.out.2))
  have HI := Lib.hid (And.intro i1 (And.intro j1 (And.intro k1 (And.intro i2 (And.intro j2 k2)))))
  have HB3 := Lib.hid (below_then HB.out hb3)
  have HZ3 : Hid (w.heap.size + 2 ≤ w3.heap.size) := Lib.hid (by have := hb3.size; rw [HZ.out] at this; exact this)
  have HLT := Lib.hid HZ.out
  clear i1 j1 k1 i2 j2 k2 hb3 HTB HR HB
  rw [HLT.out] at HI
  have HI := Lib.hid (And.intro HI.out.1 (And.intro HI.out.2.1 (And.intro HI.out.2.2.1.here (And.intro HI.out.2.2.2.1 (And.intro HI.out.2.2.2.2.1 HI.out.2.2.2.2.2.here)))))
  clear HLT HZ
  have r0 := cell_of_row _ _ 0 _ _ (0, 0) HR3.out.1
  have r1 := cell_of_row _ _ 1 _ _ (0, 0) HR3.out.1
  simp only [List.getElem?_toArray, List.getElem?_cons_zero, List.getElem?_cons_succ] at r0 r1
  have l0 : w.heap.size < w3.heap.size := by have := HZ3.out; omega
  have b6a := below_alloc w3 (.cells #[.slice a1 286 n1c, .slice b1 m1 d1, .pointer (some ⟨g1, 0, none⟩), .func (.func 77) #[] #[]] 84)
  have b6b := below_then b6a (below_alloc (w3.alloc (.cells #[.slice a1 286 n1c, .slice b1 m1 d1, .pointer (some ⟨g1, 0, none⟩), .func (.func 77) #[] #[]] 84)) (.cells #[.slice a2 30 n2c, .slice b2 m2 d2, .pointer (some ⟨g2, 0, none⟩), .func (.func 78) #[] #[]] 84))
  have b6 := below_then b6b (below_alloc ((w3.alloc (.cells #[.slice a1 286 n1c, .slice b1 m1 d1, .pointer (some ⟨g1, 0, none⟩), .func (.func 77) #[] #[]] 84)).alloc (.cells #[.slice a2 30 n2c, .slice b2 m2 d2, .pointer (some ⟨g2, 0, none⟩), .func (.func 78) #[] #[]] 84)) (.cells #[.pointer none, .slice a1 286 n1c, .slice b1 m1 d1, .pointer (some ⟨g1, 0, none⟩), .func (.func 77) #[] #[], .slice a2 30 n2c, .slice b2 m2 d2, .pointer (some ⟨g2, 0, none⟩), .func (.func 78) #[] #[], .slice a ts.length cap] 86))
  have z6 : (((w3.alloc (.cells #[.slice a1 286 n1c, .slice b1 m1 d1, .pointer (some ⟨g1, 0, none⟩), .func (.func 77) #[] #[]] 84)).alloc (.cells #[.slice a2 30 n2c, .slice b2 m2 d2, .pointer (some ⟨g2, 0, none⟩), .func (.func 78) #[] #[]] 84)).alloc (.cells #[.pointer none, .slice a1 286 n1c, .slice b1 m1 d1, .pointer (some ⟨g1, 0, none⟩), .func (.func 77) #[] #[], .slice a2 30 n2c, .slice b2 m2 d2, .pointer (some ⟨g2, 0, none⟩), .func (.func 78) #[] #[], .slice a ts.length cap] 86)).heap.size = w3.heap.size + 3 := by simp
  have q0 := (b6.cell (p := ⟨w.heap.size, 0, none⟩) l0).trans r0
  have t0 := heap_alloc_last w3 (.cells #[.slice a1 286 n1c, .slice b1 m1 d1, .pointer (some ⟨g1, 0, none⟩), .func (.func 77) #[] #[]] 84)
  have t1' := ((below_then (below_alloc (w3.alloc (.cells #[.slice a1 286 n1c, .slice b1 m1 d1, .pointer (some ⟨g1, 0, none⟩), .func (.func 77) #[] #[]] 84)) (.cells #[.slice a2 30 n2c, .slice b2 m2 d2, .pointer (some ⟨g2, 0, none⟩), .func (.func 78) #[] #[]] 84)) (below_alloc ((w3.alloc (.cells #[.slice a1 286 n1c, .slice b1 m1 d1, .pointer (some ⟨g1, 0, none⟩), .func (.func 77) #[] #[]] 84)).alloc (.cells #[.slice a2 30 n2c, .slice b2 m2 d2, .pointer (some ⟨g2, 0, none⟩), .func (.func 78) #[] #[]] 84)) (.cells #[.pointer none, .slice a1 286 n1c, .slice b1 m1 d1, .pointer (some ⟨g1, 0, none⟩), .func (.func 77) #[] #[], .slice a2 30 n2c, .slice b2 m2 d2, .pointer (some ⟨g2, 0, none⟩), .func (.func 78) #[] #[], .slice a ts.length cap] 86))).block w3.heap.size (by simp)).trans t0
  have t2 := heap_alloc_last (w3.alloc (.cells #[.slice a1 286 n1c, .slice b1 m1 d1, .pointer (some ⟨g1, 0, none⟩), .func (.func 77) #[] #[]] 84)) (.cells #[.slice a2 30 n2c, .slice b2 m2 d2, .pointer (some ⟨g2, 0, none⟩), .func (.func 78) #[] #[]] 84)
  have y1 : (w3.alloc (.cells #[.slice a1 286 n1c, .slice b1 m1 d1, .pointer (some ⟨g1, 0, none⟩), .func (.func 77) #[] #[]] 84)).heap.size = w3.heap.size + 1 := by simp
  have t2' := ((below_alloc ((w3.alloc (.cells #[.slice a1 286 n1c, .slice b1 m1 d1, .pointer (some ⟨g1, 0, none⟩), .func (.func 77) #[] #[]] 84)).alloc (.cells #[.slice a2 30 n2c, .slice b2 m2 d2, .pointer (some ⟨g2, 0, none⟩), .func (.func 78) #[] #[]] 84)) (.cells #[.pointer none, .slice a1 286 n1c, .slice b1 m1 d1, .pointer (some ⟨g1, 0, none⟩), .func (.func 77) #[] #[], .slice a2 30 n2c, .slice b2 m2 d2, .pointer (some ⟨g2, 0, none⟩), .func (.func 78) #[] #[], .slice a ts.length cap] 86)).block (w3.alloc (.cells #[.slice a1 286 n1c, .slice b1 m1 d1, .pointer (some ⟨g1, 0, none⟩), .func (.func 77) #[] #[]] 84)).heap.size (by simp)).trans t2
  rw [y1] at t2'
  have t3 := heap_alloc_last ((w3.alloc (.cells #[.slice a1 286 n1c, .slice b1 m1 d1, .pointer (some ⟨g1, 0, none⟩), .func (.func 77) #[] #[]] 84)).alloc (.cells #[.slice a2 30 n2c, .slice b2 m2 d2, .pointer (some ⟨g2, 0, none⟩), .func (.func 78) #[] #[]] 84)) (.cells #[.pointer none, .slice a1 286 n1c, .slice b1 m1 d1, .pointer (some ⟨g1, 0, none⟩), .func (.func 77) #[] #[], .slice a2 30 n2c, .slice b2 m2 d2, .pointer (some ⟨g2, 0, none⟩), .func (.func 78) #[] #[], .slice a ts.length cap] 86)
  have y2 : ((w3.alloc (.cells #[.slice a1 286 n1c, .slice b1 m1 d1, .pointer (some ⟨g1, 0, none⟩), .func (.func 77) #[] #[]] 84)).alloc (.cells #[.slice a2 30 n2c, .slice b2 m2 d2, .pointer (some ⟨g2, 0, none⟩), .func (.func 78) #[] #[]] 84)).heap.size = w3.heap.size + 1 + 1 := by simp
  rw [y2] at t3
  have HR6 := Lib.hid (And.intro t1' (And.intro t2' t3))
  have HB6 := Lib.hid b6
  have HZ6 := Lib.hid z6
  have m1' := cell_of_row _ _ 1 _ _ (0, 0) t1'
  have m2' := cell_of_row _ _ 1 _ _ (0, 0) t2'
  have m3' := cell_of_row _ _ 0 _ _ (0, 0) t3
  have fz3 := frozen_of_row _ _ 0 _ _ t3
  simp only [List.getElem?_toArray, List.getElem?_cons_zero, List.getElem?_cons_succ] at m1' m2' m3'
  clear b6a b6b b6 z6 t0 t1' t2 y1 t2' t3 y2
  go_wp2_with fail
  have HHD := header_any (LL 2 ts) (DL 2 ts) (hdR ts) (LL_in ts HLN.out) (DL_in ts HLN.out) (by have := (LL_length 2 ts).1; omega) (by have := (LL_length 2 ts).2; omega) (by have := (DL_length 2 ts).1; omega) (by have := (DL_length 2 ts).2; omega) (hdT_runs ts HLN.out) b1 b2 m1 d1 m2 d2 (((w3.alloc (.cells #[.slice a1 286 n1c, .slice b1 m1 d1, .pointer (some ⟨g1, 0, none⟩), .func (.func 77) #[] #[]] 84)).alloc (.cells #[.slice a2 30 n2c, .slice b2 m2 d2, .pointer (some ⟨g2, 0, none⟩), .func (.func 78) #[] #[]] 84)).alloc (.cells #[.pointer none, .slice a1 286 n1c, .slice b1 m1 d1, .pointer (some ⟨g1, 0, none⟩), .func (.func 77) #[] #[], .slice a2 30 n2c, .slice b2 m2 d2, .pointer (some ⟨g2, 0, none⟩), .func (.func 78) #[] #[], .slice a ts.length cap] 86)) (HI.out.2.1.mono HB6.out) (HI.out.2.2.2.2.1.mono HB6.out) (HOO.out.1.mono HOO.out.2 (below_then HB3.out HB6.out)) (by have := HB6.out.size; have := HZ3.out; have := HOO.out.2; omega)
  rw [← hdT_eq] at HHD
  have HH := Lib.hid HHD
  have HB7 := Lib.hid (below_then HB3.out HB6.out)
  have HRZ0 := Lib.hid ((HB6.out.block (w.heap.size + 1) (by have := HZ3.out; omega)).trans HR3.out.2)
  have HRX0 := Lib.hid HR6.out.2.2
  have HI6 := Lib.hid (And.intro (HI.out.1.mono HB6.out) (And.intro (HI.out.2.1.mono HB6.out) (And.intro (HI.out.2.2.1.mono HB6.out) (And.intro (HI.out.2.2.2.1.mono HB6.out) (And.intro (HI.out.2.2.2.2.1.mono HB6.out) (HI.out.2.2.2.2.2.mono HB6.out))))))
  clear HHD q0 m1' m2' m3' fz3 r0 r1 HR6 HB6 HI HOO HR3
  revert HZ6 HH HB7 HRZ0 HRX0 HI6
  generalize (((w3.alloc (.cells #[.slice a1 286 n1c, .slice b1 m1 d1, .pointer (some ⟨g1, 0, none⟩), .func (.func 77) #[] #[]] 84)).alloc (.cells #[.slice a2 30 n2c, .slice b2 m2 d2, .pointer (some ⟨g2, 0, none⟩), .func (.func 78) #[] #[]] 84)).alloc (.cells #[.pointer none, .slice a1 286 n1c, .slice b1 m1 d1, .pointer (some ⟨g1, 0, none⟩), .func (.func 77) #[] #[], .slice a2 30 n2c, .slice b2 m2 d2, .pointer (some ⟨g2, 0, none⟩), .func (.func 78) #[] #[], .slice a ts.length cap] 86)) = w6
  intro HZ6 HH HB7 HRZ0 HRX0 HI6
  refine HH.out.mono ?_
  rintro e w7 ⟨hb, rfl, hhd, hb7⟩
  have hq6 : w3.heap.size + 1 + 1 < w6.heap.size := by rw [HZ6.out]; omega
  have hrx := (hb7.block (w3.heap.size + 1 + 1) hq6).trans HRX0.out
  have m0 := cell_of_row _ _ 0 _ _ (0, 0) hrx
  have fz0 := frozen_of_row _ _ 0 _ _ hrx
  simp only [List.getElem?_toArray, List.getElem?_cons_zero, List.getElem?_cons_succ] at m0
  have hc8 : Ch w7 (w7.setCell ⟨w3.heap.size + 1 + 1, 0, none⟩ (.pointer (some ⟨hb, 0, none⟩))) (fun k => k = w3.heap.size + 1 + 1) := Bk.ch_set w7 _ 0 _
  have HRX : Hid ((w7.setCell ⟨w3.heap.size + 1 + 1, 0, none⟩ (.pointer (some ⟨hb, 0, none⟩))).heap[w3.heap.size + 1 + 1]? = some (.cells #[.pointer (some ⟨hb, 0, none⟩), .slice a1 286 n1c, .slice b1 m1 d1, .pointer (some ⟨g1, 0, none⟩), .func (.func 77) #[] #[], .slice a2 30 n2c, .slice b2 m2 d2, .pointer (some ⟨g2, 0, none⟩), .func (.func 78) #[] #[], .slice a ts.length cap] 86 (0, 0))) := Lib.hid (heap_setCell_same w7 (w3.heap.size + 1 + 1) 0 _ _ (.pointer (some ⟨hb, 0, none⟩)) hrx)
  have hz6 := HZ6.out
  have hz3 := HZ3.out
  have hz7 := hb7.size
  have hnx : NoInt #[.pointer none, .slice a1 286 n1c, .slice b1 m1 d1, .pointer (some ⟨g1, 0, none⟩), .func (.func 77) #[] #[], .slice a2 30 n2c, .slice b2 m2 d2, .pointer (some ⟨g2, 0, none⟩), .func (.func 78) #[] #[], .slice a ts.length cap] := noInt10 (fun z h => by cases h) (fun z h => by cases h) (fun z h => by cases h) (fun z h => by cases h) (fun z h => by cases h) (fun z h => by cases h) (fun z h => by cases h) (fun z h => by cases h) (fun z h => by cases h) (fun z h => by cases h)
  have hl1 := (LL_length 2 ts).1
  have hl2 := (DL_length 2 ts).1
  have HRZ := Lib.hid ((hc8.block (w.heap.size + 1) (by omega) (by omega)).trans ((hb7.block (w.heap.size + 1) (by omega)).trans HRZ0.out))
  have hj := HI6.out
  have HI8 := Lib.hid (And.intro ((hj.1.mono hb7).kept hc8 (is_ne (hj.1.mono hb7) (by omega) hrx hnx)) (And.intro ((hj.2.1.mono hb7).kept hc8 (is_ne (hj.2.1.mono hb7) (by have := hj.2.1.hlen; omega) hrx hnx)) (And.intro ((hj.2.2.1.mono hb7).kept hc8 (fun j hj e => by omega)) (And.intro ((hj.2.2.2.1.mono hb7).kept hc8 (is_ne (hj.2.2.2.1.mono hb7) (by omega) hrx hnx)) (And.intro ((hj.2.2.2.2.1.mono hb7).kept hc8 (is_ne (hj.2.2.2.2.1.mono hb7) (by have := hj.2.2.2.2.1.hlen; omega) hrx hnx)) ((hj.2.2.2.2.2.mono hb7).kept hc8 (fun j hj e => by omega)))))))
  have HHD8 := Lib.hid (hhd.kept1 hc8 (by omega) hrx hnx (hdT_ok ts HLN.out).hl)
  have HB8 := Lib.hid ((below_then HB7.out hb7).trans (hc8.below (by have := HB7.out.size; omega) (fun j e => by omega) : Below w.heap.size w7 _))
  have HLN2 := Lib.hid (And.intro hl1 hl2)
  have HSZ : Hid (w.heap.size + 2 ≤ w3.heap.size ∧ w3.heap.size + 3 ≤ w6.heap.size) := Lib.hid ⟨hz3, by omega⟩
  clear hhd hb7 hrx hc8 hnx hj HI6 HH HB7 HRZ0 HRX0 hq6 hl1 hl2 hz6 hz3 HZ6 hz7
  have z0 := cell_of_row _ _ 0 _ _ (0, 0) HRZ.out
  have z1 := cell_of_row _ _ 1 _ _ (0, 0) HRZ.out
  have z2 := cell_of_row _ _ 2 _ _ (0, 0) HRZ.out
  have z3 := cell_of_row _ _ 3 _ _ (0, 0) HRZ.out
  have z4 := cell_of_row _ _ 4 _ _ (0, 0) HRZ.out
  have z5 := cell_of_row _ _ 5 _ _ (0, 0) HRZ.out
  have z6 := cell_of_row _ _ 6 _ _ (0, 0) HRZ.out
  have z7 := cell_of_row _ _ 7 _ _ (0, 0) HRZ.out
  have z8 := cell_of_row _ _ 8 _ _ (0, 0) HRZ.out
  have z9 := cell_of_row _ _ 9 _ _ (0, 0) HRZ.out
  have zf0 := frozen_of_row _ _ 0 _ _ HRZ.out
  have zf1 := frozen_of_row _ _ 1 _ _ HRZ.out
  have zf2 := frozen_of_row _ _ 2 _ _ HRZ.out
  have zf3 := frozen_of_row _ _ 3 _ _ HRZ.out
  have zf4 := frozen_of_row _ _ 4 _ _ HRZ.out
  have zf5 := frozen_of_row _ _ 5 _ _ HRZ.out
  have zf6 := frozen_of_row _ _ 6 _ _ HRZ.out
  have zf7 := frozen_of_row _ _ 7 _ _ HRZ.out
  have zf8 := frozen_of_row _ _ 8 _ _ HRZ.out
  have zf9 := frozen_of_row _ _ 9 _ _ HRZ.out
  have x0 := cell_of_row _ _ 0 _ _ (0, 0) HRX.out
  have x1 := cell_of_row _ _ 1 _ _ (0, 0) HRX.out
  have x2 := cell_of_row _ _ 2 _ _ (0, 0) HRX.out
  have x3 := cell_of_row _ _ 3 _ _ (0, 0) HRX.out
  have x4 := cell_of_row _ _ 4 _ _ (0, 0) HRX.out
  have x5 := cell_of_row _ _ 5 _ _ (0, 0) HRX.out
  have x6 := cell_of_row _ _ 6 _ _ (0, 0) HRX.out
  have x7 := cell_of_row _ _ 7 _ _ (0, 0) HRX.out
  have x8 := cell_of_row _ _ 8 _ _ (0, 0) HRX.out
  have x9 := cell_of_row _ _ 9 _ _ (0, 0) HRX.out
  simp only [List.getElem?_toArray, List.getElem?_cons_zero, List.getElem?_cons_succ] at z0 z1 z2 z3 z4 z5 z6 z7 z8 z9 x0 x1 x2 x3 x4 x5 x6 x7 x8 x9
  go_wp2_with fail
  have chf := set10_ch (w7.setCell ⟨w3.heap.size + 1 + 1, 0, none⟩ (.pointer (some ⟨hb, 0, none⟩))) (w.heap.size + 1) (.pointer (some ⟨hb, 0, none⟩)) (.slice a1 286 n1c) (.slice b1 m1 d1) (.pointer (some ⟨g1, 0, none⟩)) (.func (.func 77) #[] #[]) (.slice a2 30 n2c) (.slice b2 m2 d2) (.pointer (some ⟨g2, 0, none⟩)) (.func (.func 78) #[] #[]) (.slice a ts.length cap)
  have HRF := Lib.hid (set10_row HRZ.out (.pointer (some ⟨hb, 0, none⟩)) (.slice a1 286 n1c) (.slice b1 m1 d1) (.pointer (some ⟨g1, 0, none⟩)) (.func (.func 77) #[] #[]) (.slice a2 30 n2c) (.slice b2 m2 d2) (.pointer (some ⟨g2, 0, none⟩)) (.func (.func 78) #[] #[]) (.slice a ts.length cap))
  have hnz : NoInt #[.pointer none, .slice none 0 0, .slice none 0 0, .pointer none, .nilFunc, .slice none 0 0, .slice none 0 0, .pointer none, .nilFunc, .slice none 0 0] := noInt10 (fun z h => by cases h) (fun z h => by cases h) (fun z h => by cases h) (fun z h => by cases h) (fun z h => by cases h) (fun z h => by cases h) (fun z h => by cases h) (fun z h => by cases h) (fun z h => by cases h) (fun z h => by cases h)
  have HP : Hid (BodyPost w 2 ts (.slice a ts.length cap) (.returned (.tuple #[.agg #[.pointer (some ⟨hb, 0, none⟩), .slice a1 286 n1c, .slice b1 m1 d1, .pointer (some ⟨g1, 0, none⟩), .func (.func 77) #[] #[], .slice a2 30 n2c, .slice b2 m2 d2, .pointer (some ⟨g2, 0, none⟩), .func (.func 78) #[] #[], .slice a ts.length cap], .nilIface])) (((((((((((w7.setCell ⟨w3.heap.size + 1 + 1, 0, none⟩ (.pointer (some ⟨hb, 0, none⟩))).setCell ⟨w.heap.size + 1, 0, none⟩ (.pointer (some ⟨hb, 0, none⟩))).setCell ⟨w.heap.size + 1, 1, none⟩ (.slice a1 286 n1c)).setCell ⟨w.heap.size + 1, 2, none⟩ (.slice b1 m1 d1)).setCell ⟨w.heap.size + 1, 3, none⟩ (.pointer (some ⟨g1, 0, none⟩))).setCell ⟨w.heap.size + 1, 4, none⟩ (.func (.func 77) #[] #[])).setCell ⟨w.heap.size + 1, 5, none⟩ (.slice a2 30 n2c)).setCell ⟨w.heap.size + 1, 6, none⟩ (.slice b2 m2 d2)).setCell ⟨w.heap.size + 1, 7, none⟩ (.pointer (some ⟨g2, 0, none⟩))).setCell ⟨w.heap.size + 1, 8, none⟩ (.func (.func 78) #[] #[])).setCell ⟨w.heap.size + 1, 9, none⟩ (.slice a ts.length cap))) := Lib.hid (by
    have hbf : Below w.heap.size w (((((((((((w7.setCell ⟨w3.heap.size + 1 + 1, 0, none⟩ (.pointer (some ⟨hb, 0, none⟩))).setCell ⟨w.heap.size + 1, 0, none⟩ (.pointer (some ⟨hb, 0, none⟩))).setCell ⟨w.heap.size + 1, 1, none⟩ (.slice a1 286 n1c)).setCell ⟨w.heap.size + 1, 2, none⟩ (.slice b1 m1 d1)).setCell ⟨w.heap.size + 1, 3, none⟩ (.pointer (some ⟨g1, 0, none⟩))).setCell ⟨w.heap.size + 1, 4, none⟩ (.func (.func 77) #[] #[])).setCell ⟨w.heap.size + 1, 5, none⟩ (.slice a2 30 n2c)).setCell ⟨w.heap.size + 1, 6, none⟩ (.slice b2 m2 d2)).setCell ⟨w.heap.size + 1, 7, none⟩ (.pointer (some ⟨g2, 0, none⟩))).setCell ⟨w.heap.size + 1, 8, none⟩ (.func (.func 78) #[] #[])).setCell ⟨w.heap.size + 1, 9, none⟩ (.slice a ts.length cap)) := HB8.out.trans (chf.below HB8.out.size (fun j e => by omega))
    have h1 := HLN2.out
    have h2 := HSZ.out
    exact ⟨_, rfl, ⟨_, a1, n1c, b1, m1, d1, g1, a2, n2c, b2, m2, d2, g2, a, cap, rfl, (fun _ => ⟨hb, rfl, (HHD8.out.kept1 chf (by have := HSZ.out; omega) HRZ.out hnz (hdT_ok ts HLN.out).hl).wide (by have := HSZ.out; omega)⟩), (fun h => by cases h), HI8.out.1.kept chf (is_ne HI8.out.1 (by omega) HRZ.out hnz), HI8.out.2.1.kept chf (is_ne HI8.out.2.1 (by have := HI8.out.2.1.hlen; omega) HRZ.out hnz), (HI8.out.2.2.1.kept chf (fun j hj e => by omega)).wide (fun j hj => by omega), HI8.out.2.2.2.1.kept chf (is_ne HI8.out.2.2.2.1 (by omega) HRZ.out hnz), HI8.out.2.2.2.2.1.kept chf (is_ne HI8.out.2.2.2.2.1 (by have := HI8.out.2.2.2.2.1.hlen; omega) HRZ.out hnz), (HI8.out.2.2.2.2.2.kept chf (fun j hj e => by omega)).wide (fun j hj => by omega), HT.out.mono hbf⟩, hbf, _, rfl, rfl⟩)
  clear chf hnz z0 z1 z2 z3 z4 z5 z6 z7 z8 z9 x0 x1 x2 x3 x4 x5 x6 x7 x8 x9 zf0 zf1 zf2 zf3 zf4 zf5 zf6 zf7 zf8 zf9 HRZ HRX HI8 HB8 HT
  revert HRF HP
  generalize (((((((((((w7.setCell ⟨w3.heap.size + 1 + 1, 0, none⟩ (.pointer (some ⟨hb, 0, none⟩))).setCell ⟨w.heap.size + 1, 0, none⟩ (.pointer (some ⟨hb, 0, none⟩))).setCell ⟨w.heap.size + 1, 1, none⟩ (.slice a1 286 n1c)).setCell ⟨w.heap.size + 1, 2, none⟩ (.slice b1 m1 d1)).setCell ⟨w.heap.size + 1, 3, none⟩ (.pointer (some ⟨g1, 0, none⟩))).setCell ⟨w.heap.size + 1, 4, none⟩ (.func (.func 77) #[] #[])).setCell ⟨w.heap.size + 1, 5, none⟩ (.slice a2 30 n2c)).setCell ⟨w.heap.size + 1, 6, none⟩ (.slice b2 m2 d2)).setCell ⟨w.heap.size + 1, 7, none⟩ (.pointer (some ⟨g2, 0, none⟩))).setCell ⟨w.heap.size + 1, 8, none⟩ (.func (.func 78) #[] #[])).setCell ⟨w.heap.size + 1, 9, none⟩ (.slice a ts.length cap)) = wf
  intro HRF HP
  go_wp2
  exact bodyPost_ret (body_results _ _ _ _ .nilIface rfl rfl HRF.out rfl) rfl HP.out
end Bc
end Go.Proofs.YtpoilaappcjbeaaGreatDoor
end
