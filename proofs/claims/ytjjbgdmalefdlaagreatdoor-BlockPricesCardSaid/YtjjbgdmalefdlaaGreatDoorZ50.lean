/- block's headers: how many bits; bodies in memory. block.newBody: its contract (made by tools/gen_bcbody.py). -/
import Derived.Test.YtjjbgdmalefdlaaGreatDoorZ49
import Derived.Deep.Cut
set_option linter.unusedSimpArgs false
set_option linter.unusedVariables false
section
namespace Go.Proofs.YtjjbgdmalefdlaaGreatDoor
open Go.RowKit

namespace Bc
/-- A header that can be counted. -/
structure HdOk (h : Hd) : Prop where
  hC : ∀ i, 0 ≤ h.C.getD i 0 ∧ h.C.getD i 0 ≤ 1000000000
  hR : ∀ i, 0 ≤ h.R.getD i 0 ∧ h.R.getD i 0 ≤ 16
  hl : h.R.length = 19
  ho : h.own.length ≤ 19
set_option maxRecDepth 100000 in
set_option maxHeartbeats 2000000 in
theorem hbits_any (w : World) (B hb : Nat) (h : Hd) (H : HdIs w B hb h) (hk : HdOk h) :
    Calls Tryz.prog 90 #[.pointer (some ⟨hb, 0, none⟩)] w fun e w' => e = .returned (.int .i64 (hdLen h)) ∧ Below w.heap.size w w' := by
  obtain ⟨ra, rcap, oa, oc, ca, cc, la, m, d, g, hrow, _, _, _, _, hic, hil, _, _⟩ := H
  have hm : 19 ≤ m := by have := hil.hlen; have := hk.hl; omega
  have HBT := Lib.hid (fun w' (hb : Below w.heap.size w w') => bits_any .run ca 19 cc h.C la m d h.R g w' (hic.mono hb) (hil.mono hb) hm (by omega) hk.hC hk.hR)
  unfold tbV fvK at HBT
  have ht := tot_le .run hk.hC hk.hR 19
  have ho := hk.ho
  have HE : Hid (hdLen h = 14 + 3 * (h.own.length : Int) + tot .run h.C h.R 19) := Lib.hid (by unfold hdLen; omega)
  have c3 := cell_of_row _ _ 3 _ _ (0, 0) hrow
  have c4 := cell_of_row _ _ 4 _ _ (0, 0) hrow
  have c5 := cell_of_row _ _ 5 _ _ (0, 0) hrow
  have c6 := cell_of_row _ _ 6 _ _ (0, 0) hrow
  have c7 := cell_of_row _ _ 7 _ _ (0, 0) hrow
  simp only [List.getElem?_toArray, List.getElem?_cons_zero, List.getElem?_cons_succ] at c3 c4 c5 c6 c7
  have HQ : Hid (hb < w.heap.size) := Lib.hid (Array.getElem?_eq_some_iff.1 hrow).1
  generalize tot .run h.C h.R 19 = T at *
  generalize h.own.length = N at *
  have v1 : IntKind.i64.wrap (3 * (N : Int)) = 3 * (N : Int) := IntWalk.i64_in _ ⟨by omega, by omega⟩
  have v2 : IntKind.i64.wrap (14 + 3 * (N : Int)) = 14 + 3 * (N : Int) := IntWalk.i64_in _ ⟨by omega, by omega⟩
  have v3 : IntKind.i64.wrap (14 + 3 * (N : Int) + T) = 14 + 3 * (N : Int) + T := IntWalk.i64_in _ ⟨by omega, by omega⟩
  clear hrow hic hil hk ht ho hm
  go_enter Tryz.func90, Tryz.ntmps90
  go_wp2_with fail
  go_region_held3 (fun w' => w'.cell? ⟨hb, 3, none⟩ = some (.slice ca 19 cc) ∧ w'.cell? ⟨hb, 4, none⟩ = some (.slice la m d) ∧ w'.cell? ⟨hb, 5, none⟩ = some (.pointer (some ⟨g, 0, none⟩)) ∧ w'.cell? ⟨hb, 6, none⟩ = some (.func (.func 88) #[] #[]) ∧ w'.cell? ⟨hb, 7, none⟩ = some (.slice oa N oc)) (go_keep)
    (first | (go_at_call 91; refine (HBT.out _ (Below.drew (Below.refl _ _))).mono ?_; rintro e w3 ⟨rfl, hb3⟩; have HB3 := Lib.hid hb3; have s3 := (hb3.cell (p := ⟨hb, 3, none⟩) HQ.out).trans c3; have s4 := (hb3.cell (p := ⟨hb, 4, none⟩) HQ.out).trans c4; have s5 := (hb3.cell (p := ⟨hb, 5, none⟩) HQ.out).trans c5; have s6 := (hb3.cell (p := ⟨hb, 6, none⟩) HQ.out).trans c6; have s7 := (hb3.cell (p := ⟨hb, 7, none⟩) HQ.out).trans c7; clear hb3))
  have HBE := Lib.hid (below_then (Below.drew (Below.refl w.heap.size w)) HB3.out)
  clear v1 v2 c3 c4 c5 c6 c7 s3 s4 s5 s6 s7 HB3
  go_wp2
  go_ret
  exact ⟨by rw [HE.out]; rfl, HBE.out⟩
theorem hbits_nil (w : World) : Calls Tryz.prog 90 #[.pointer none] w fun e w' => e = .returned (.int .i64 0) ∧ Below w.heap.size w w' := by
  go_enter Tryz.func90, Tryz.ntmps90
  go_wp2
  go_ret
  exact ⟨rfl, Below.refl _ _⟩
/-- The ten cells of a body. -/
def bdC (hp : Value) (a1 : Option Addr) (c1 : Nat) (b1 : Option Addr) (m1 d1 g1 : Nat) (a2 : Option Addr) (c2 : Nat) (b2 : Option Addr) (m2 d2 g2 : Nat) (ta : Option Addr) (tn tc : Nat) : Array Value :=
  #[hp, .slice a1 286 c1, .slice b1 m1 d1, .pointer (some ⟨g1, 0, none⟩), .func (.func 77) #[] #[], .slice a2 30 c2, .slice b2 m2 d2, .pointer (some ⟨g2, 0, none⟩), .func (.func 78) #[] #[], .slice ta tn tc]
/-- A body in memory. -/
def BdIs (w : World) (B : Nat) (kind : Nat) (ts : List Tok) (v : Value) : Prop :=
  ∃ hp a1 c1 b1 m1 d1 g1 a2 c2 b2 m2 d2 g2 ta tc, v = .agg (bdC hp a1 c1 b1 m1 d1 g1 a2 c2 b2 m2 d2 g2 ta ts.length tc) ∧
    (kind = 2 → ∃ hb, hp = .pointer (some ⟨hb, 0, none⟩) ∧ HdIs w B hb (hdT ts)) ∧ (kind = 1 → hp = .pointer none) ∧
    Is .i64 w a1 286 c1 (Pa.cts ts ts.length).1 ∧ Is .i64 w b1 m1 d1 (LL kind ts) ∧ Bw w (fun j => B ≤ j) g1 (LL kind ts) ∧
    Is .i64 w a2 30 c2 (Pa.cts ts ts.length).2 ∧ Is .i64 w b2 m2 d2 (DL kind ts) ∧ Bw w (fun j => B ≤ j) g2 (DL kind ts) ∧ Ts2 w ta ts.length tc ts
theorem HdIs.mono {w w' : World} {B hb : Nat} {h : Hd} (H : HdIs w B hb h) (b : Below w.heap.size w w') : HdIs w' B hb h := by
  obtain ⟨ra, rcap, oa, oc, ca, cc, la, m, d, g, hrow, h1, h2, h3, h4, h5, h6, h7, h8⟩ := H
  exact ⟨ra, rcap, oa, oc, ca, cc, la, m, d, g, (b.block hb (Array.getElem?_eq_some_iff.1 hrow).1).trans hrow, h1.mono b, h2, h3.mono b, h4, h5.mono b, h6.mono b, h7.mono b, h8⟩
theorem HdIs.wide {w : World} {B B' hb : Nat} {h : Hd} (H : HdIs w B hb h) (hB : B' ≤ B) : HdIs w B' hb h := by
  obtain ⟨ra, rcap, oa, oc, ca, cc, la, m, d, g, hrow, h1, h2, h3, h4, h5, h6, h7, h8⟩ := H
  exact ⟨ra, rcap, oa, oc, ca, cc, la, m, d, g, hrow, h1, fun ad e => Nat.le_trans hB (h2 ad e), h3, fun ad e => Nat.le_trans hB (h4 ad e), h5, h6, h7.wide (fun k hk => Nat.le_trans hB hk), Nat.le_trans hB h8⟩
theorem in_lens {C : List Int} {L : Nat} {l : List Int} (hl : l.length = C.length) (h : ∀ j, j < C.length → 0 ≤ l.getD j 0 ∧ l.getD j 0 ≤ L) (h15 : L ≤ 15) : Bl.In l := fun x hx => by
  obtain ⟨i, hi, rfl⟩ := List.getElem_of_mem hx
  have h1 := h i (by rw [← hl]; exact hi)
  have e : l.getD i 0 = l[i] := by simp [List.getD, List.getElem?_eq_getElem hi]
  rw [e] at h1
  omega
theorem LL_in (ts : List Tok) (h : ts.length ≤ 1000000) : Bl.In (LL 2 ts) := by
  have hc := (co_cts ts h).1
  have e : LL 2 ts = cmpl (Pa.cts ts ts.length).1 15 := by unfold LL; rw [if_pos rfl]
  rw [e]
  exact in_lens (cmpl_length _ _) (fun j hj => ⟨(hc.range j hj).1, (hc.range j hj).2.1⟩) (by omega)
theorem DL_in (ts : List Tok) (h : ts.length ≤ 1000000) : Bl.In (DL 2 ts) := by
  have hc := (co_cts ts h).2
  have e : DL 2 ts = Mg.lensOf (Pa.cts ts ts.length).2 15 := by unfold DL; rw [if_pos rfl]
  rw [e]
  exact in_lens (Mg.lensOf_length _ _) (fun j hj => ⟨(hc.lens j hj).1, (hc.lens j hj).2.1⟩) (by omega)
theorem ru_some (l : List Int) (h : Bl.In l) : Bl.ru [] l = some ((Bl.ru [] l).getD []) := by
  have hb := Bl.ru_back l
  generalize Bl.ru [] l = r at *
  cases r with
  | some rs => rfl
  | none =>
    obtain ⟨x, hx, hn⟩ := hb
    exact absurd (h x hx) hn
theorem in_shorts (ts : List Tok) (h : ts.length ≤ 1000000) : Bl.In (short (LL 2 ts) 257 ++ short (DL 2 ts) 1) := fun x hx => by
  rcases List.mem_append.1 hx with h1 | h1
  · exact LL_in ts h x (List.mem_of_mem_take h1)
  · exact DL_in ts h x (List.mem_of_mem_take h1)
theorem hdT_runs (ts : List Tok) (h : ts.length ≤ 1000000) : Bl.ru [] (short (LL 2 ts) 257 ++ short (DL 2 ts) 1) = some (hdR ts) :=
  (ru_some _ (in_shorts ts h)).trans (congrArg some (hdR_eq ts).symm)
theorem ru_le {l : List Int} {rs : List Tok} (h : Bl.ru [] l = some rs) : rs.length ≤ l.length ∧ Bl.Rg rs ∧ Bl.unrL [] rs = some l := by
  have hb := Bl.ru_back l
  rw [h] at hb
  exact ⟨hb.2.2.1, hb.2.2.2, hb.2.1⟩
theorem short_le (l : List Int) (k : Nat) : (short l k).length ≤ l.length := by unfold short; rw [List.length_take]; omega
theorem hdT_rl (ts : List Tok) (h : ts.length ≤ 1000000) : (hdR ts).length ≤ 600 := by
  have h1 := (ru_le (hdT_runs ts h)).1
  have h2 := (LL_length 2 ts).2
  have h3 := (DL_length 2 ts).2
  have h4 := short_le (LL 2 ts) 257
  have h5 := short_le (DL 2 ts) 1
  rw [List.length_append] at h1
  generalize (hdR ts).length = x at *
  generalize (short (LL 2 ts) 257).length = y at *
  generalize (short (DL 2 ts) 1).length = z at *
  omega
theorem getD_bd {l : List Int} {m : Int} (hm : 0 ≤ m) (h : ∀ i, i < l.length → 0 ≤ l.getD i 0 ∧ l.getD i 0 ≤ m) (i : Nat) : 0 ≤ l.getD i 0 ∧ l.getD i 0 ≤ m := by
  by_cases hi : i < l.length
  · exact h i hi
  · rw [List.getD, List.getElem?_eq_none (by omega)]; exact ⟨Int.le_refl _, hm⟩
theorem hdOf_C (L D : List Int) (rs : List Tok) : (hdOf L D rs).C = rc rs rs.length := rfl
theorem hdOf_R (L D : List Int) (rs : List Tok) : (hdOf L D rs).R = cmpl (rc rs rs.length) 7 := rfl
theorem hdOf_ok (L D : List Int) (rs : List Tok) (hrl : rs.length ≤ 600) : HdOk (hdOf L D rs) := by
  have hc := co_rc rs (by omega)
  have hin := rc_in rs rs.length (Nat.le_refl _)
  refine ⟨fun i => ?_, fun i => ?_, by rw [hdOf_R, cmpl_length]; exact hin.1, ?_⟩
  · rw [hdOf_C]; have := hin.2 i; omega
  · rw [hdOf_R]
    exact getD_bd (by omega) (fun i hi => by
      rw [cmpl_length] at hi
      have := hc.range i hi
      omega) i
  · rw [own_len]
    exact shn_le _ _ _
theorem hdT_ok (ts : List Tok) (h : ts.length ≤ 1000000) : HdOk (hdT ts) := hdOf_ok _ _ _ (hdT_rl ts h)
end Bc
end Go.Proofs.YtjjbgdmalefdlaaGreatDoor
end

section
namespace Go.Proofs.YtjjbgdmalefdlaaGreatDoor
open Go.RowKit

namespace Bc
theorem set10_row {w : World} {q : Nat} {y0 y1 y2 y3 y4 y5 y6 y7 y8 y9 : Value} {t : TypeId} (h : w.heap[q]? = some (.cells #[y0, y1, y2, y3, y4, y5, y6, y7, y8, y9] t (0, 0))) (x0 x1 x2 x3 x4 x5 x6 x7 x8 x9 : Value) : (((((((((((w.setCell ⟨q, 0, none⟩ (x0)).setCell ⟨q, 1, none⟩ (x1)).setCell ⟨q, 2, none⟩ (x2)).setCell ⟨q, 3, none⟩ (x3)).setCell ⟨q, 4, none⟩ (x4)).setCell ⟨q, 5, none⟩ (x5)).setCell ⟨q, 6, none⟩ (x6)).setCell ⟨q, 7, none⟩ (x7)).setCell ⟨q, 8, none⟩ (x8)).setCell ⟨q, 9, none⟩ (x9))).heap[q]? = some (.cells #[x0, x1, x2, x3, x4, x5, x6, x7, x8, x9] t (0, 0)) := by
  have r0 := heap_setCell_same w q 0 _ _ x0 h
  have r1 := heap_setCell_same _ q 1 _ _ x1 r0
  have r2 := heap_setCell_same _ q 2 _ _ x2 r1
  have r3 := heap_setCell_same _ q 3 _ _ x3 r2
  have r4 := heap_setCell_same _ q 4 _ _ x4 r3
  have r5 := heap_setCell_same _ q 5 _ _ x5 r4
  have r6 := heap_setCell_same _ q 6 _ _ x6 r5
  have r7 := heap_setCell_same _ q 7 _ _ x7 r6
  have r8 := heap_setCell_same _ q 8 _ _ x8 r7
  have r9 := heap_setCell_same _ q 9 _ _ x9 r8
  simpa using r9
theorem set10_ch (w : World) (q : Nat) (x0 x1 x2 x3 x4 x5 x6 x7 x8 x9 : Value) : Ch w (((((((((((w.setCell ⟨q, 0, none⟩ (x0)).setCell ⟨q, 1, none⟩ (x1)).setCell ⟨q, 2, none⟩ (x2)).setCell ⟨q, 3, none⟩ (x3)).setCell ⟨q, 4, none⟩ (x4)).setCell ⟨q, 5, none⟩ (x5)).setCell ⟨q, 6, none⟩ (x6)).setCell ⟨q, 7, none⟩ (x7)).setCell ⟨q, 8, none⟩ (x8)).setCell ⟨q, 9, none⟩ (x9))) (fun k => k = q) := (((((((((((Ch.refl w (fun k => k = q)).set (p := ⟨q, 0, none⟩) (.inl rfl) x0).set (p := ⟨q, 1, none⟩) (.inl rfl) x1).set (p := ⟨q, 2, none⟩) (.inl rfl) x2).set (p := ⟨q, 3, none⟩) (.inl rfl) x3).set (p := ⟨q, 4, none⟩) (.inl rfl) x4).set (p := ⟨q, 5, none⟩) (.inl rfl) x5).set (p := ⟨q, 6, none⟩) (.inl rfl) x6).set (p := ⟨q, 7, none⟩) (.inl rfl) x7).set (p := ⟨q, 8, none⟩) (.inl rfl) x8).set (p := ⟨q, 9, none⟩) (.inl rfl) x9)
theorem load_body (W : World) (cb : Nat) (cs : Array Value) (hs : cs.size = 10) (hrow : W.heap[cb]? = some (.cells cs 86 (0, 0))) : (loadVar 86 ⟨cb, 0, none⟩).run Tryz.prog W = .ok (.agg cs) W :=
  run_loadVar_row W cb 86 86 cs (0, 0) _ hrow Tryz.underlying86 rfl (by rw [hs]; kernel_rfl)
theorem body_results (tmps : Array Value) (W : World) (cb : Nat) (cs : Array Value) (u : Value) (h2 : tmps.getD 2 undef = .pointer (some ⟨cb, 0, none⟩)) (h3 : tmps.getD 3 undef = u) (hrow : W.heap[cb]? = some (.cells cs 86 (0, 0))) (hs : cs.size = 10) :
    (results Tryz.f36 tmps).run Tryz.prog W = .ok (.tuple #[.agg cs, u]) W := by
  refine (results_cell_tmp (p := 2) (u := 3) (ty := 86) (by kernel_rfl) tmps Tryz.prog W).trans ?_
  rw [h2, h3]
  simp [asAddr, load_body W cb cs hs hrow, Result.andThen]
/-- A body's row has no number. -/
theorem noInt10 {x0 x1 x2 x3 x4 x5 x6 x7 x8 x9 : Value} (h0 : ∀ z, x0 ≠ .int .i64 z) (h1 : ∀ z, x1 ≠ .int .i64 z) (h2 : ∀ z, x2 ≠ .int .i64 z) (h3 : ∀ z, x3 ≠ .int .i64 z) (h4 : ∀ z, x4 ≠ .int .i64 z) (h5 : ∀ z, x5 ≠ .int .i64 z) (h6 : ∀ z, x6 ≠ .int .i64 z) (h7 : ∀ z, x7 ≠ .int .i64 z) (h8 : ∀ z, x8 ≠ .int .i64 z) (h9 : ∀ z, x9 ≠ .int .i64 z) : NoInt #[x0, x1, x2, x3, x4, x5, x6, x7, x8, x9] := fun i z e => by
  match i with
  | 0 => exact h0 z (by simpa using e)
  | 1 => exact h1 z (by simpa using e)
  | 2 => exact h2 z (by simpa using e)
  | 3 => exact h3 z (by simpa using e)
  | 4 => exact h4 z (by simpa using e)
  | 5 => exact h5 z (by simpa using e)
  | 6 => exact h6 z (by simpa using e)
  | 7 => exact h7 z (by simpa using e)
  | 8 => exact h8 z (by simpa using e)
  | 9 => exact h9 z (by simpa using e)
  | i + 10 => simp at e
theorem HdIs.kept1 {w w' : World} {B hb q : Nat} {h : Hd} {cs : Array Value} {t : TypeId} (H : HdIs w B hb h) (c : Ch w w' (fun k => k = q)) (hq : q < B) (hr : w.heap[q]? = some (.cells cs t (0, 0))) (hn : NoInt cs) (hR : h.R.length = 19) : HdIs w' B hb h := by
  obtain ⟨ra, rcap, oa, oc, ca, cc, la, m, d, g, hrow, h1, h2, h3, h4, h5, h6, h7, h8⟩ := H
  have hm : 0 < m := by have := h6.hlen; omega
  exact ⟨ra, rcap, oa, oc, ca, cc, la, m, d, g, (c.block hb (Array.getElem?_eq_some_iff.1 hrow).1 (by omega)).trans hrow, h1.kept c (fun ad e he => by have := h2 ad e; omega), h2, h3.kept c (fun ad e he => by have := h4 ad e; omega), h4, h5.kept c (is_ne h5 (by omega) hr hn), h6.kept c (is_ne h6 hm hr hn), h7.kept c (fun k hk e => by omega), h8⟩
theorem Bw.here {w : World} {D : Nat → Prop} {g : Nat} {L : List Int} (h : Bw w D g L) : Bw w (fun j => D j ∧ j < w.heap.size) g L := by
  obtain ⟨B, fs, vs, wv, h1, h2, h3, h4, h5⟩ := h
  exact ⟨B, fs, vs, wv, h1, h2, ⟨h3, h2.lt⟩, fun k hk => ⟨h4 k hk, (h2.words.lt k hk).2⟩, fun k hk => ⟨h5 k hk, by obtain ⟨n, hn, hk⟩ := hk; exact ((h2.rows n hn).lt k hk).2⟩⟩
def BodyPost (w : World) (kind : Nat) (ts : List Tok) (tv : Value) (e : Ending) (w' : World) : Prop := ∃ v, e = .returned (.tuple #[v, .nilIface]) ∧ BdIs w' w.heap.size kind ts v ∧ Below w.heap.size w w' ∧ ∃ cs : Array Value, v = .agg cs ∧ cs[9]? = some tv
set_option maxRecDepth 100000 in
set_option maxHeartbeats 2000000 in
theorem newBody_1 (a : Option Addr) (len cap : Nat) (ts : List Tok) (xa : Option Addr) (xn xc : Nat) (w : World) (h : Ts2 w a len cap ts) (hlen : len ≤ 1000000) (hoo : Oo w) (hz : 0 < w.heap.size) :
    Calls Tryz.prog 36 #[.agg #[.int .i64 1, .slice a len cap, .slice xa xn xc]] w (BodyPost w 1 ts (.slice a len cap)) := by
  have hl := h.hlen
  subst hl
  have hb1 := below_alloc w (.cells #[.int .i64 1, .slice a ts.length cap, .slice xa xn xc] 36)
  have hr1 := heap_alloc_last w (.cells #[.int .i64 1, .slice a ts.length cap, .slice xa xn xc] 36)
  have hb2 := below_alloc (w.alloc (.cells #[.int .i64 1, .slice a ts.length cap, .slice xa xn xc] 36)) (.cells #[.pointer none, .slice none 0 0, .slice none 0 0, .pointer none, .nilFunc, .slice none 0 0, .slice none 0 0, .pointer none, .nilFunc, .slice none 0 0] 86)
  have hr2 := heap_alloc_last (w.alloc (.cells #[.int .i64 1, .slice a ts.length cap, .slice xa xn xc] 36)) (.cells #[.pointer none, .slice none 0 0, .slice none 0 0, .pointer none, .nilFunc, .slice none 0 0, .slice none 0 0, .pointer none, .nilFunc, .slice none 0 0] 86)
  have hz1 : (w.alloc (.cells #[.int .i64 1, .slice a ts.length cap, .slice xa xn xc] 36)).heap.size = w.heap.size + 1 := by simp
  have hr3 := (hb2.block w.heap.size (by rw [hz1]; omega)).trans hr1
  have hz2 : ((w.alloc (.cells #[.int .i64 1, .slice a ts.length cap, .slice xa xn xc] 36)).alloc (.cells #[.pointer none, .slice none 0 0, .slice none 0 0, .pointer none, .nilFunc, .slice none 0 0, .slice none 0 0, .pointer none, .nilFunc, .slice none 0 0] 86)).heap.size = w.heap.size + 2 := by simp
  rw [hz1] at hr2
  have HB := Lib.hid (below_then hb1 hb2)
  have HR := Lib.hid (And.intro hr3 hr2)
  have HZ := Lib.hid hz2
  have c0 := cell_of_row _ _ 0 _ _ (0, 0) hr3
  have c1 := cell_of_row _ _ 1 _ _ (0, 0) hr3
  simp only [List.getElem?_toArray, List.getElem?_cons_zero, List.getElem?_cons_succ] at c0 c1
  have HT := Lib.hid h
  have HOO := Lib.hid (And.intro hoo hz)
  have HTB := Lib.hid (tables_1 a ts.length cap ts ((w.alloc (.cells #[.int .i64 1, .slice a ts.length cap, .slice xa xn xc] 36)).alloc (.cells #[.pointer none, .slice none 0 0, .slice none 0 0, .pointer none, .nilFunc, .slice none 0 0, .slice none 0 0, .pointer none, .nilFunc, .slice none 0 0] 86)) (h.mono (below_then hb1 hb2)) hlen)
  have HLN := Lib.hid hlen
  clear h hoo hz hb1 hr1 hb2 hr2 hr3 hz1 hz2 hlen
  go_enter Tryz.func36, Tryz.ntmps36
  go_wp2_with fail
  refine HTB.out.mono ?_
  rintro e w3 ⟨v1, v2, rfl, ⟨a1, n1c, b1, m1, d1, g1, rfl, i1, j1, k1⟩, ⟨a2, n2c, b2, m2, d2, g2, rfl, i2, j2, k2⟩, hb3⟩
  unfold tbV fvK
  clear c0 c1
  have HR3 := Lib.hid (And.intro ((hb3.block w.heap.size (by rw [HZ.out]; omega)).trans HR.out.1) ((hb3.block (w.heap.size + 1) (by rw [HZ.out]; omega)).trans HR.out.2))
  have HI := Lib.hid (And.intro i1 (And.intro j1 (And.intro k1 (And.intro i2 (And.intro j2 k2)))))
  have HB3 := Lib.hid (below_then HB.out hb3)
  have HZ3 : Hid (w.heap.size + 2 ≤ w3.heap.size) := Lib.hid (by have := hb3.size; rw [HZ.out] at this; exact this)
  have HLT := Lib.hid HZ.out
  clear i1 j1 k1 i2 j2 k2 hb3 HTB HR HB
  rw [HLT.out] at HI
  have HI := Lib.hid (And.intro HI.out.1 (And.intro HI.out.2.1 (And.intro HI.out.2.2.1.here (And.intro HI.out.2.2.2.1 (And.intro HI.out.2.2.2.2.1 HI.out.2.2.2.2.2.here)))))
  clear HLT HZ
  have r0 := cell_of_row _ _ 0 _ _ (0, 0) HR3.out.1
  have r1 := cell_of_row _ _ 1 _ _ (0, 0) HR3.out.1
  simp only [List.getElem?_toArray, List.getElem?_cons_zero, List.getElem?_cons_succ] at r0 r1
  have l0 : w.heap.size < w3.heap.size := by have := HZ3.out; omega
  have b6a := below_alloc w3 (.cells #[.slice a1 286 n1c, .slice b1 m1 d1, .pointer (some ⟨g1, 0, none⟩), .func (.func 77) #[] #[]] 84)
  have b6b := below_then b6a (below_alloc (w3.alloc (.cells #[.slice a1 286 n1c, .slice b1 m1 d1, .pointer (some ⟨g1, 0, none⟩), .func (.func 77) #[] #[]] 84)) (.cells #[.slice a2 30 n2c, .slice b2 m2 d2, .pointer (some ⟨g2, 0, none⟩), .func (.func 78) #[] #[]] 84))
  have b6 := below_then b6b (below_alloc ((w3.alloc (.cells #[.slice a1 286 n1c, .slice b1 m1 d1, .pointer (some ⟨g1, 0, none⟩), .func (.func 77) #[] #[]] 84)).alloc (.cells #[.slice a2 30 n2c, .slice b2 m2 d2, .pointer (some ⟨g2, 0, none⟩), .func (.func 78) #[] #[]] 84)) (.cells #[.pointer none, .slice a1 286 n1c, .slice b1 m1 d1, .pointer (some ⟨g1, 0, none⟩), .func (.func 77) #[] #[], .slice a2 30 n2c, .slice b2 m2 d2, .pointer (some ⟨g2, 0, none⟩), .func (.func 78) #[] #[], .slice a ts.length cap] 86))
  have z6 : (((w3.alloc (.cells #[.slice a1 286 n1c, .slice b1 m1 d1, .pointer (some ⟨g1, 0, none⟩), .func (.func 77) #[] #[]] 84)).alloc (.cells #[.slice a2 30 n2c, .slice b2 m2 d2, .pointer (some ⟨g2, 0, none⟩), .func (.func 78) #[] #[]] 84)).alloc (.cells #[.pointer none, .slice a1 286 n1c, .slice b1 m1 d1, .pointer (some ⟨g1, 0, none⟩), .func (.func 77) #[] #[], .slice a2 30 n2c, .slice b2 m2 d2, .pointer (some ⟨g2, 0, none⟩), .func (.func 78) #[] #[], .slice a ts.length cap] 86)).heap.size = w3.heap.size + 3 := by simp
  have q0 := (b6.cell (p := ⟨w.heap.size, 0, none⟩) l0).trans r0
  have t0 := heap_alloc_last w3 (.cells #[.slice a1 286 n1c, .slice b1 m1 d1, .pointer (some ⟨g1, 0, none⟩), .func (.func 77) #[] #[]] 84)
  have t1' := ((below_then (below_alloc (w3.alloc (.cells #[.slice a1 286 n1c, .slice b1 m1 d1, .pointer (some ⟨g1, 0, none⟩), .func (.func 77) #[] #[]] 84)) (.cells #[.slice a2 30 n2c, .slice b2 m2 d2, .pointer (some ⟨g2, 0, none⟩), .func (.func 78) #[] #[]] 84)) (below_alloc ((w3.alloc (.cells #[.slice a1 286 n1c, .slice b1 m1 d1, .pointer (some ⟨g1, 0, none⟩), .func (.func 77) #[] #[]] 84)).alloc (.cells #[.slice a2 30 n2c, .slice b2 m2 d2, .pointer (some ⟨g2, 0, none⟩), .func (.func 78) #[] #[]] 84)) (.cells #[.pointer none, .slice a1 286 n1c, .slice b1 m1 d1, .pointer (some ⟨g1, 0, none⟩), .func (.func 77) #[] #[], .slice a2 30 n2c, .slice b2 m2 d2, .pointer (some ⟨g2, 0, none⟩), .func (.func 78) #[] #[], .slice a ts.length cap] 86))).block w3.heap.size (by simp)).trans t0
  have t2 := heap_alloc_last (w3.alloc (.cells #[.slice a1 286 n1c, .slice b1 m1 d1, .pointer (some ⟨g1, 0, none⟩), .func (.func 77) #[] #[]] 84)) (.cells #[.slice a2 30 n2c, .slice b2 m2 d2, .pointer (some ⟨g2, 0, none⟩), .func (.func 78) #[] #[]] 84)
  have y1 : (w3.alloc (.cells #[.slice a1 286 n1c, .slice b1 m1 d1, .pointer (some ⟨g1, 0, none⟩), .func (.func 77) #[] #[]] 84)).heap.size = w3.heap.size + 1 := by simp
  have t2' := ((below_alloc ((w3.alloc (.cells #[.slice a1 286 n1c, .slice b1 m1 d1, .pointer (some ⟨g1, 0, none⟩), .func (.func 77) #[] #[]] 84)).alloc (.cells #[.slice a2 30 n2c, .slice b2 m2 d2, .pointer (some ⟨g2, 0, none⟩), .func (.func 78) #[] #[]] 84)) (.cells #[.pointer none, .slice a1 286 n1c, .slice b1 m1 d1, .pointer (some ⟨g1, 0, none⟩), .func (.func 77) #[] #[], .slice a2 30 n2c, .slice b2 m2 d2, .pointer (some ⟨g2, 0, none⟩), .func (.func 78) #[] #[], .slice a ts.length cap] 86)).block (w3.alloc (.cells #[.slice a1 286 n1c, .slice b1 m1 d1, .pointer (some ⟨g1, 0, none⟩), .func (.func 77) #[] #[]] 84)).heap.size (by simp)).trans t2
  rw [y1] at t2'
  have t3 := heap_alloc_last ((w3.alloc (.cells #[.slice a1 286 n1c, .slice b1 m1 d1, .pointer (some ⟨g1, 0, none⟩), .func (.func 77) #[] #[]] 84)).alloc (.cells #[.slice a2 30 n2c, .slice b2 m2 d2, .pointer (some ⟨g2, 0, none⟩), .func (.func 78) #[] #[]] 84)) (.cells #[.pointer none, .slice a1 286 n1c, .slice b1 m1 d1, .pointer (some ⟨g1, 0, none⟩), .func (.func 77) #[] #[], .slice a2 30 n2c, .slice b2 m2 d2, .pointer (some ⟨g2, 0, none⟩), .func (.func 78) #[] #[], .slice a ts.length cap] 86)
  have y2 : ((w3.alloc (.cells #[.slice a1 286 n1c, .slice b1 m1 d1, .pointer (some ⟨g1, 0, none⟩), .func (.func 77) #[] #[]] 84)).alloc (.cells #[.slice a2 30 n2c, .slice b2 m2 d2, .pointer (some ⟨g2, 0, none⟩), .func (.func 78) #[] #[]] 84)).heap.size = w3.heap.size + 1 + 1 := by simp
  rw [y2] at t3
  have HR6 := Lib.hid (And.intro t1' (And.intro t2' t3))
  have HB6 := Lib.hid b6
  have HZ6 := Lib.hid z6
  have m1' := cell_of_row _ _ 1 _ _ (0, 0) t1'
  have m2' := cell_of_row _ _ 1 _ _ (0, 0) t2'
  have m3' := cell_of_row _ _ 0 _ _ (0, 0) t3
  have fz3 := frozen_of_row _ _ 0 _ _ t3
  simp only [List.getElem?_toArray, List.getElem?_cons_zero, List.getElem?_cons_succ] at m1' m2' m3'
  clear b6a b6b b6 z6 t0 t1' t2 y1 t2' t3 y2
  have HB8 := Lib.hid (below_then HB3.out HB6.out)
  have HRZ := Lib.hid ((HB6.out.block (w.heap.size + 1) (by have := HZ3.out; omega)).trans HR3.out.2)
  have HRX := Lib.hid HR6.out.2.2
  have HI8 := Lib.hid (And.intro (HI.out.1.mono HB6.out) (And.intro (HI.out.2.1.mono HB6.out) (And.intro (HI.out.2.2.1.mono HB6.out) (And.intro (HI.out.2.2.2.1.mono HB6.out) (And.intro (HI.out.2.2.2.2.1.mono HB6.out) (HI.out.2.2.2.2.2.mono HB6.out))))))
  have HLN2 := Lib.hid (And.intro (LL_length 1 ts).1 (DL_length 1 ts).1)
  have HSZ := Lib.hid HZ3.out
  go_upto_region 7 with (fail)
  clear HR6 HB6 HI HOO HR3 q0 m1' m2' m3' fz3 r0 r1 HZ6
  revert HB8 HRZ HRX HI8
  generalize (((w3.alloc (.cells #[.slice a1 286 n1c, .slice b1 m1 d1, .pointer (some ⟨g1, 0, none⟩), .func (.func 77) #[] #[]] 84)).alloc (.cells #[.slice a2 30 n2c, .slice b2 m2 d2, .pointer (some ⟨g2, 0, none⟩), .func (.func 78) #[] #[]] 84)).alloc (.cells #[.pointer none, .slice a1 286 n1c, .slice b1 m1 d1, .pointer (some ⟨g1, 0, none⟩), .func (.func 77) #[] #[], .slice a2 30 n2c, .slice b2 m2 d2, .pointer (some ⟨g2, 0, none⟩), .func (.func 78) #[] #[], .slice a ts.length cap] 86)) = w8
  intro HB8 HRZ HRX HI8
  have z0 := cell_of_row _ _ 0 _ _ (0, 0) HRZ.out
  have z1 := cell_of_row _ _ 1 _ _ (0, 0) HRZ.out
  have z2 := cell_of_row _ _ 2 _ _ (0, 0) HRZ.out
  have z3 := cell_of_row _ _ 3 _ _ (0, 0) HRZ.out
  have z4 := cell_of_row _ _ 4 _ _ (0, 0) HRZ.out
  have z5 := cell_of_row _ _ 5 _ _ (0, 0) HRZ.out
  have z6 := cell_of_row _ _ 6 _ _ (0, 0) HRZ.out
  have z7 := cell_of_row _ _ 7 _ _ (0, 0) HRZ.out
  have z8 := cell_of_row _ _ 8 _ _ (0, 0) HRZ.out
  have z9 := cell_of_row _ _ 9 _ _ (0, 0) HRZ.out
  have zf0 := frozen_of_row _ _ 0 _ _ HRZ.out
  have zf1 := frozen_of_row _ _ 1 _ _ HRZ.out
  have zf2 := frozen_of_row _ _ 2 _ _ HRZ.out
  have zf3 := frozen_of_row _ _ 3 _ _ HRZ.out
  have zf4 := frozen_of_row _ _ 4 _ _ HRZ.out
  have zf5 := frozen_of_row _ _ 5 _ _ HRZ.out
  have zf6 := frozen_of_row _ _ 6 _ _ HRZ.out
  have zf7 := frozen_of_row _ _ 7 _ _ HRZ.out
  have zf8 := frozen_of_row _ _ 8 _ _ HRZ.out
  have zf9 := frozen_of_row _ _ 9 _ _ HRZ.out
  have x0 := cell_of_row _ _ 0 _ _ (0, 0) HRX.out
  have x1 := cell_of_row _ _ 1 _ _ (0, 0) HRX.out
  have x2 := cell_of_row _ _ 2 _ _ (0, 0) HRX.out
  have x3 := cell_of_row _ _ 3 _ _ (0, 0) HRX.out
  have x4 := cell_of_row _ _ 4 _ _ (0, 0) HRX.out
  have x5 := cell_of_row _ _ 5 _ _ (0, 0) HRX.out
  have x6 := cell_of_row _ _ 6 _ _ (0, 0) HRX.out
  have x7 := cell_of_row _ _ 7 _ _ (0, 0) HRX.out
  have x8 := cell_of_row _ _ 8 _ _ (0, 0) HRX.out
  have x9 := cell_of_row _ _ 9 _ _ (0, 0) HRX.out
  simp only [List.getElem?_toArray, List.getElem?_cons_zero, List.getElem?_cons_succ] at z0 z1 z2 z3 z4 z5 z6 z7 z8 z9 x0 x1 x2 x3 x4 x5 x6 x7 x8 x9
  go_wp2_with fail
  have chf := set10_ch w8 (w.heap.size + 1) (.pointer none) (.slice a1 286 n1c) (.slice b1 m1 d1) (.pointer (some ⟨g1, 0, none⟩)) (.func (.func 77) #[] #[]) (.slice a2 30 n2c) (.slice b2 m2 d2) (.pointer (some ⟨g2, 0, none⟩)) (.func (.func 78) #[] #[]) (.slice a ts.length cap)
  have HRF := Lib.hid (set10_row HRZ.out (.pointer none) (.slice a1 286 n1c) (.slice b1 m1 d1) (.pointer (some ⟨g1, 0, none⟩)) (.func (.func 77) #[] #[]) (.slice a2 30 n2c) (.slice b2 m2 d2) (.pointer (some ⟨g2, 0, none⟩)) (.func (.func 78) #[] #[]) (.slice a ts.length cap))
  have hnz : NoInt #[.pointer none, .slice none 0 0, .slice none 0 0, .pointer none, .nilFunc, .slice none 0 0, .slice none 0 0, .pointer none, .nilFunc, .slice none 0 0] := noInt10 (fun z h => by cases h) (fun z h => by cases h) (fun z h => by cases h) (fun z h => by cases h) (fun z h => by cases h) (fun z h => by cases h) (fun z h => by cases h) (fun z h => by cases h) (fun z h => by cases h) (fun z h => by cases h)
  have HP : Hid (BodyPost w 1 ts (.slice a ts.length cap) (.returned (.tuple #[.agg #[.pointer none, .slice a1 286 n1c, .slice b1 m1 d1, .pointer (some ⟨g1, 0, none⟩), .func (.func 77) #[] #[], .slice a2 30 n2c, .slice b2 m2 d2, .pointer (some ⟨g2, 0, none⟩), .func (.func 78) #[] #[], .slice a ts.length cap], .nilIface])) ((((((((((w8.setCell ⟨w.heap.size + 1, 0, none⟩ (.pointer none)).setCell ⟨w.heap.size + 1, 1, none⟩ (.slice a1 286 n1c)).setCell ⟨w.heap.size + 1, 2, none⟩ (.slice b1 m1 d1)).setCell ⟨w.heap.size + 1, 3, none⟩ (.pointer (some ⟨g1, 0, none⟩))).setCell ⟨w.heap.size + 1, 4, none⟩ (.func (.func 77) #[] #[])).setCell ⟨w.heap.size + 1, 5, none⟩ (.slice a2 30 n2c)).setCell ⟨w.heap.size + 1, 6, none⟩ (.slice b2 m2 d2)).setCell ⟨w.heap.size + 1, 7, none⟩ (.pointer (some ⟨g2, 0, none⟩))).setCell ⟨w.heap.size + 1, 8, none⟩ (.func (.func 78) #[] #[])).setCell ⟨w.heap.size + 1, 9, none⟩ (.slice a ts.length cap))) := Lib.hid (by
    have hbf : Below w.heap.size w ((((((((((w8.setCell ⟨w.heap.size + 1, 0, none⟩ (.pointer none)).setCell ⟨w.heap.size + 1, 1, none⟩ (.slice a1 286 n1c)).setCell ⟨w.heap.size + 1, 2, none⟩ (.slice b1 m1 d1)).setCell ⟨w.heap.size + 1, 3, none⟩ (.pointer (some ⟨g1, 0, none⟩))).setCell ⟨w.heap.size + 1, 4, none⟩ (.func (.func 77) #[] #[])).setCell ⟨w.heap.size + 1, 5, none⟩ (.slice a2 30 n2c)).setCell ⟨w.heap.size + 1, 6, none⟩ (.slice b2 m2 d2)).setCell ⟨w.heap.size + 1, 7, none⟩ (.pointer (some ⟨g2, 0, none⟩))).setCell ⟨w.heap.size + 1, 8, none⟩ (.func (.func 78) #[] #[])).setCell ⟨w.heap.size + 1, 9, none⟩ (.slice a ts.length cap)) := HB8.out.trans (chf.below HB8.out.size (fun j e => by omega))
    have h1 := HLN2.out
    have h2 := HSZ.out
    exact ⟨_, rfl, ⟨_, a1, n1c, b1, m1, d1, g1, a2, n2c, b2, m2, d2, g2, a, cap, rfl, (fun h => by cases h), (fun _ => rfl), HI8.out.1.kept chf (is_ne HI8.out.1 (by omega) HRZ.out hnz), HI8.out.2.1.kept chf (is_ne HI8.out.2.1 (by have := HI8.out.2.1.hlen; omega) HRZ.out hnz), (HI8.out.2.2.1.kept chf (fun j hj e => by omega)).wide (fun j hj => by omega), HI8.out.2.2.2.1.kept chf (is_ne HI8.out.2.2.2.1 (by omega) HRZ.out hnz), HI8.out.2.2.2.2.1.kept chf (is_ne HI8.out.2.2.2.2.1 (by have := HI8.out.2.2.2.2.1.hlen; omega) HRZ.out hnz), (HI8.out.2.2.2.2.2.kept chf (fun j hj e => by omega)).wide (fun j hj => by omega), HT.out.mono hbf⟩, hbf, _, rfl, rfl⟩)
  clear chf hnz z0 z1 z2 z3 z4 z5 z6 z7 z8 z9 x0 x1 x2 x3 x4 x5 x6 x7 x8 x9 zf0 zf1 zf2 zf3 zf4 zf5 zf6 zf7 zf8 zf9 HRZ HRX HI8 HB8 HT
  revert HRF HP
  generalize ((((((((((w8.setCell ⟨w.heap.size + 1, 0, none⟩ (.pointer none)).setCell ⟨w.heap.size + 1, 1, none⟩ (.slice a1 286 n1c)).setCell ⟨w.heap.size + 1, 2, none⟩ (.slice b1 m1 d1)).setCell ⟨w.heap.size + 1, 3, none⟩ (.pointer (some ⟨g1, 0, none⟩))).setCell ⟨w.heap.size + 1, 4, none⟩ (.func (.func 77) #[] #[])).setCell ⟨w.heap.size + 1, 5, none⟩ (.slice a2 30 n2c)).setCell ⟨w.heap.size + 1, 6, none⟩ (.slice b2 m2 d2)).setCell ⟨w.heap.size + 1, 7, none⟩ (.pointer (some ⟨g2, 0, none⟩))).setCell ⟨w.heap.size + 1, 8, none⟩ (.func (.func 78) #[] #[])).setCell ⟨w.heap.size + 1, 9, none⟩ (.slice a ts.length cap)) = wf
  intro HRF HP
  go_wp2
  exact bodyPost_ret (body_results _ _ _ _ .nilIface rfl rfl HRF.out rfl) rfl HP.out
set_option maxRecDepth 100000 in
set_option maxHeartbeats 2000000 in
theorem newBody_2 (a : Option Addr) (len cap : Nat) (ts : List Tok) (xa : Option Addr) (xn xc : Nat) (w : World) (h : Ts2 w a len cap ts) (hlen : len ≤ 1000000) (hoo : Oo w) (hz : 0 < w.heap.size) :
    Calls Tryz.prog 36 #[.agg #[.int .i64 2, .slice a len cap, .slice xa xn xc]] w (BodyPost w 2 ts (.slice a len cap)) := by
  have hl := h.hlen
  subst hl
  have hb1 := below_alloc w (.cells #[.int .i64 2, .slice a ts.length cap, .slice xa xn xc] 36)
  have hr1 := heap_alloc_last w (.cells #[.int .i64 2, .slice a ts.length cap, .slice xa xn xc] 36)
  have hb2 := below_alloc (w.alloc (.cells #[.int .i64 2, .slice a ts.length cap, .slice xa xn xc] 36)) (.cells #[.pointer none, .slice none 0 0, .slice none 0 0, .pointer none, .nilFunc, .slice none 0 0, .slice none 0 0, .pointer none, .nilFunc, .slice none 0 0] 86)
  have hr2 := heap_alloc_last (w.alloc (.cells #[.int .i64 2, .slice a ts.length cap, .slice xa xn xc] 36)) (.cells #[.pointer none, .slice none 0 0, .slice none 0 0, .pointer none, .nilFunc, .slice none 0 0, .slice none 0 0, .pointer none, .nilFunc, .slice none 0 0] 86)
  have hz1 : (w.alloc (.cells #[.int .i64 2, .slice a ts.length cap, .slice xa xn xc] 36)).heap.size = w.heap.size + 1 := by simp
  have hr3 := (hb2.block w.heap.size (by rw [hz1]; omega)).trans hr1
  have hz2 : ((w.alloc (.cells #[.int .i64 2, .slice a ts.length cap, .slice xa xn xc] 36)).alloc (.cells #[.pointer none, .slice none 0 0, .slice none 0 0, .pointer none, .nilFunc, .slice none 0 0, .slice none 0 0, .pointer none, .nilFunc, .slice none 0 0] 86)).heap.size = w.heap.size + 2 := by simp
  rw [hz1] at hr2
  have HB := Lib.hid (below_then hb1 hb2)
  have HR := Lib.hid (And.intro hr3 hr2)
  have HZ := Lib.hid hz2
  have c0 := cell_of_row _ _ 0 _ _ (0, 0) hr3
  have c1 := cell_of_row _ _ 1 _ _ (0, 0) hr3
  simp only [List.getElem?_toArray, List.getElem?_cons_zero, List.getElem?_cons_succ] at c0 c1
  have HT := Lib.hid h
  have HOO := Lib.hid (And.intro hoo hz)
  have HTB := Lib.hid (tables_2 a ts.length cap ts ((w.alloc (.cells #[.int .i64 2, .slice a ts.length cap, .slice xa xn xc] 36)).alloc (.cells #[.pointer none, .slice none 0 0, .slice none 0 0, .pointer none, .nilFunc, .slice none 0 0, .slice none 0 0, .pointer none, .nilFunc, .slice none 0 0] 86)) (h.mono (below_then hb1 hb2)) hlen)
  have HLN := Lib.hid hlen
  clear h hoo hz hb1 hr1 hb2 hr2 hr3 hz1 hz2 hlen
  go_enter Tryz.func36, Tryz.ntmps36
  go_wp2_with fail
  refine HTB.out.mono ?_
  rintro e w3 ⟨v1, v2, rfl, ⟨a1, n1c, b1, m1, d1, g1, rfl, i1, j1, k1⟩, ⟨a2, n2c, b2, m2, d2, g2, rfl, i2, j2, k2⟩, hb3⟩
  unfold tbV fvK
  clear c0 c1
  have HR3 := Lib.hid (And.intro ((hb3.block w.heap.size (by rw [HZ.out]; omega)).trans HR.out.1) ((hb3.block (w.heap.size + 1) (by rw [HZ.out]; omega)).trans HR.out.2))
  have HI := Lib.hid (And.intro i1 (And.intro j1 (And.intro k1 (And.intro i2 (And.intro j2 k2)))))
  have HB3 := Lib.hid (below_then HB.out hb3)
  have HZ3 : Hid (w.heap.size + 2 ≤ w3.heap.size) := Lib.hid (by have := hb3.size; rw [HZ.out] at this; exact this)
  have HLT := Lib.hid HZ.out
  clear i1 j1 k1 i2 j2 k2 hb3 HTB HR HB
  rw [HLT.out] at HI
  have HI := Lib.hid (And.intro HI.out.1 (And.intro HI.out.2.1 (And.intro HI.out.2.2.1.here (And.intro HI.out.2.2.2.1 (And.intro HI.out.2.2.2.2.1 HI.out.2.2.2.2.2.here)))))
  clear HLT HZ
  have r0 := cell_of_row _ _ 0 _ _ (0, 0) HR3.out.1
  have r1 := cell_of_row _ _ 1 _ _ (0, 0) HR3.out.1
  simp only [List.getElem?_toArray, List.getElem?_cons_zero, List.getElem?_cons_succ] at r0 r1
  have l0 : w.heap.size < w3.heap.size := by have := HZ3.out; omega
  have b6a := below_alloc w3 (.cells #[.slice a1 286 n1c, .slice b1 m1 d1, .pointer (some ⟨g1, 0, none⟩), .func (.func 77) #[] #[]] 84)
  have b6b := below_then b6a (below_alloc (w3.alloc (.cells #[.slice a1 286 n1c, .slice b1 m1 d1, .pointer (some ⟨g1, 0, none⟩), .func (.func 77) #[] #[]] 84)) (.cells #[.slice a2 30 n2c, .slice b2 m2 d2, .pointer (some ⟨g2, 0, none⟩), .func (.func 78) #[] #[]] 84))
  have b6 := below_then b6b (below_alloc ((w3.alloc (.cells #[.slice a1 286 n1c, .slice b1 m1 d1, .pointer (some ⟨g1, 0, none⟩), .func (.func 77) #[] #[]] 84)).alloc (.cells #[.slice a2 30 n2c, .slice b2 m2 d2, .pointer (some ⟨g2, 0, none⟩), .func (.func 78) #[] #[]] 84)) (.cells #[.pointer none, .slice a1 286 n1c, .slice b1 m1 d1, .pointer (some ⟨g1, 0, none⟩), .func (.func 77) #[] #[], .slice a2 30 n2c, .slice b2 m2 d2, .pointer (some ⟨g2, 0, none⟩), .func (.func 78) #[] #[], .slice a ts.length cap] 86))
  have z6 : (((w3.alloc (.cells #[.slice a1 286 n1c, .slice b1 m1 d1, .pointer (some ⟨g1, 0, none⟩), .func (.func 77) #[] #[]] 84)).alloc (.cells #[.slice a2 30 n2c, .slice b2 m2 d2, .pointer (some ⟨g2, 0, none⟩), .func (.func 78) #[] #[]] 84)).alloc (.cells #[.pointer none, .slice a1 286 n1c, .slice b1 m1 d1, .pointer (some ⟨g1, 0, none⟩), .func (.func 77) #[] #[], .slice a2 30 n2c, .slice b2 m2 d2, .pointer (some ⟨g2, 0, none⟩), .func (.func 78) #[] #[], .slice a ts.length cap] 86)).heap.size = w3.heap.size + 3 := by simp
  have q0 := (b6.cell (p := ⟨w.heap.size, 0, none⟩) l0).trans r0
  have t0 := heap_alloc_last w3 (.cells #[.slice a1 286 n1c, .slice b1 m1 d1, .pointer (some ⟨g1, 0, none⟩), .func (.func 77) #[] #[]] 84)
  have t1' := ((below_then (below_alloc (w3.alloc (.cells #[.slice a1 286 n1c, .slice b1 m1 d1, .pointer (some ⟨g1, 0, none⟩), .func (.func 77) #[] #[]] 84)) (.cells #[.slice a2 30 n2c, .slice b2 m2 d2, .pointer (some ⟨g2, 0, none⟩), .func (.func 78) #[] #[]] 84)) (below_alloc ((w3.alloc (.cells #[.slice a1 286 n1c, .slice b1 m1 d1, .pointer (some ⟨g1, 0, none⟩), .func (.func 77) #[] #[]] 84)).alloc (.cells #[.slice a2 30 n2c, .slice b2 m2 d2, .pointer (some ⟨g2, 0, none⟩), .func (.func 78) #[] #[]] 84)) (.cells #[.pointer none, .slice a1 286 n1c, .slice b1 m1 d1, .pointer (some ⟨g1, 0, none⟩), .func (.func 77) #[] #[], .slice a2 30 n2c, .slice b2 m2 d2, .pointer (some ⟨g2, 0, none⟩), .func (.func 78) #[] #[], .slice a ts.length cap] 86))).block w3.heap.size (by simp)).trans t0
  have t2 := heap_alloc_last (w3.alloc (.cells #[.slice a1 286 n1c, .slice b1 m1 d1, .pointer (some ⟨g1, 0, none⟩), .func (.func 77) #[] #[]] 84)) (.cells #[.slice a2 30 n2c, .slice b2 m2 d2, .pointer (some ⟨g2, 0, none⟩), .func (.func 78) #[] #[]] 84)
  have y1 : (w3.alloc (.cells #[.slice a1 286 n1c, .slice b1 m1 d1, .pointer (some ⟨g1, 0, none⟩), .func (.func 77) #[] #[]] 84)).heap.size = w3.heap.size + 1 := by simp
  have t2' := ((below_alloc ((w3.alloc (.cells #[.slice a1 286 n1c, .slice b1 m1 d1, .pointer (some ⟨g1, 0, none⟩), .func (.func 77) #[] #[]] 84)).alloc (.cells #[.slice a2 30 n2c, .slice b2 m2 d2, .pointer (some ⟨g2, 0, none⟩), .func (.func 78) #[] #[]] 84)) (.cells #[.pointer none, .slice a1 286 n1c, .slice b1 m1 d1, .pointer (some ⟨g1, 0, none⟩), .func (.func 77) #[] #[], .slice a2 30 n2c, .slice b2 m2 d2, .pointer (some ⟨g2, 0, none⟩), .func (.func 78) #[] #[], .slice a ts.length cap] 86)).block (w3.alloc (.cells #[.slice a1 286 n1c, .slice b1 m1 d1, .pointer (some ⟨g1, 0, none⟩), .func (.func 77) #[] #[]] 84)).heap.size (by simp)).trans t2
  rw [y1] at t2'
  have t3 := heap_alloc_last ((w3.alloc (.cells #[.slice a1 286 n1c, .slice b1 m1 d1, .pointer (some ⟨g1, 0, none⟩), .func (.func 77) #[] #[]] 84)).alloc (.cells #[.slice a2 30 n2c, .slice b2 m2 d2, .pointer (some ⟨g2, 0, none⟩), .func (.func 78) #[] #[]] 84)) (.cells #[.pointer none, .slice a1 286 n1c, .slice b1 m1 d1, .pointer (some ⟨g1, 0, none⟩), .func (.func 77) #[] #[], .slice a2 30 n2c, .slice b2 m2 d2, .pointer (some ⟨g2, 0, none⟩), .func (.func 78) #[] #[], .slice a ts.length cap] 86)
  have y2 : ((w3.alloc (.cells #[.slice a1 286 n1c, .slice b1 m1 d1, .pointer (some ⟨g1, 0, none⟩), .func (.func 77) #[] #[]] 84)).alloc (.cells #[.slice a2 30 n2c, .slice b2 m2 d2, .pointer (some ⟨g2, 0, none⟩), .func (.func 78) #[] #[]] 84)).heap.size = w3.heap.size + 1 + 1 := by simp
  rw [y2] at t3
  have HR6 := Lib.hid (And.intro t1' (And.intro t2' t3))
  have HB6 := Lib.hid b6
  have HZ6 := Lib.hid z6
  have m1' := cell_of_row _ _ 1 _ _ (0, 0) t1'
  have m2' := cell_of_row _ _ 1 _ _ (0, 0) t2'
  have m3' := cell_of_row _ _ 0 _ _ (0, 0) t3
  have fz3 := frozen_of_row _ _ 0 _ _ t3
  simp only [List.getElem?_toArray, List.getElem?_cons_zero, List.getElem?_cons_succ] at m1' m2' m3'
  clear b6a b6b b6 z6 t0 t1' t2 y1 t2' t3 y2
  go_wp2_with fail
  have HHD := header_any (LL 2 ts) (DL 2 ts) (hdR ts) (LL_in ts HLN.out) (DL_in ts HLN.out) (by have := (LL_length 2 ts).1; omega) (by have := (LL_length 2 ts).2; omega) (by have := (DL_length 2 ts).1; omega) (by have := (DL_length 2 ts).2; omega) (hdT_runs ts HLN.out) b1 b2 m1 d1 m2 d2 (((w3.alloc (.cells #[.slice a1 286 n1c, .slice b1 m1 d1, .pointer (some ⟨g1, 0, none⟩), .func (.func 77) #[] #[]] 84)).alloc (.cells #[.slice a2 30 n2c, .slice b2 m2 d2, .pointer (some ⟨g2, 0, none⟩), .func (.func 78) #[] #[]] 84)).alloc (.cells #[.pointer none, .slice a1 286 n1c, .slice b1 m1 d1, .pointer (some ⟨g1, 0, none⟩), .func (.func 77) #[] #[], .slice a2 30 n2c, .slice b2 m2 d2, .pointer (some ⟨g2, 0, none⟩), .func (.func 78) #[] #[], .slice a ts.length cap] 86)) (HI.out.2.1.mono HB6.out) (HI.out.2.2.2.2.1.mono HB6.out) (HOO.out.1.mono HOO.out.2 (below_then HB3.out HB6.out)) (by have := HB6.out.size; have := HZ3.out; have := HOO.out.2; omega)
  rw [← hdT_eq] at HHD
  have HH := Lib.hid HHD
  have HB7 := Lib.hid (below_then HB3.out HB6.out)
  have HRZ0 := Lib.hid ((HB6.out.block (w.heap.size + 1) (by have := HZ3.out; omega)).trans HR3.out.2)
  have HRX0 := Lib.hid HR6.out.2.2
  have HI6 := Lib.hid (And.intro (HI.out.1.mono HB6.out) (And.intro (HI.out.2.1.mono HB6.out) (And.intro (HI.out.2.2.1.mono HB6.out) (And.intro (HI.out.2.2.2.1.mono HB6.out) (And.intro (HI.out.2.2.2.2.1.mono HB6.out) (HI.out.2.2.2.2.2.mono HB6.out))))))
  clear HHD q0 m1' m2' m3' fz3 r0 r1 HR6 HB6 HI HOO HR3
  revert HZ6 HH HB7 HRZ0 HRX0 HI6
  generalize (((w3.alloc (.cells #[.slice a1 286 n1c, .slice b1 m1 d1, .pointer (some ⟨g1, 0, none⟩), .func (.func 77) #[] #[]] 84)).alloc (.cells #[.slice a2 30 n2c, .slice b2 m2 d2, .pointer (some ⟨g2, 0, none⟩), .func (.func 78) #[] #[]] 84)).alloc (.cells #[.pointer none, .slice a1 286 n1c, .slice b1 m1 d1, .pointer (some ⟨g1, 0, none⟩), .func (.func 77) #[] #[], .slice a2 30 n2c, .slice b2 m2 d2, .pointer (some ⟨g2, 0, none⟩), .func (.func 78) #[] #[], .slice a ts.length cap] 86)) = w6
  intro HZ6 HH HB7 HRZ0 HRX0 HI6
  refine HH.out.mono ?_
  rintro e w7 ⟨hb, rfl, hhd, hb7⟩
  have hq6 : w3.heap.size + 1 + 1 < w6.heap.size := by rw [HZ6.out]; omega
  have hrx := (hb7.block (w3.heap.size + 1 + 1) hq6).trans HRX0.out
  have m0 := cell_of_row _ _ 0 _ _ (0, 0) hrx
  have fz0 := frozen_of_row _ _ 0 _ _ hrx
  simp only [List.getElem?_toArray, List.getElem?_cons_zero, List.getElem?_cons_succ] at m0
  have hc8 : Ch w7 (w7.setCell ⟨w3.heap.size + 1 + 1, 0, none⟩ (.pointer (some ⟨hb, 0, none⟩))) (fun k => k = w3.heap.size + 1 + 1) := Bk.ch_set w7 _ 0 _
  have HRX : Hid ((w7.setCell ⟨w3.heap.size + 1 + 1, 0, none⟩ (.pointer (some ⟨hb, 0, none⟩))).heap[w3.heap.size + 1 + 1]? = some (.cells #[.pointer (some ⟨hb, 0, none⟩), .slice a1 286 n1c, .slice b1 m1 d1, .pointer (some ⟨g1, 0, none⟩), .func (.func 77) #[] #[], .slice a2 30 n2c, .slice b2 m2 d2, .pointer (some ⟨g2, 0, none⟩), .func (.func 78) #[] #[], .slice a ts.length cap] 86 (0, 0))) := Lib.hid (heap_setCell_same w7 (w3.heap.size + 1 + 1) 0 _ _ (.pointer (some ⟨hb, 0, none⟩)) hrx)
  have hz6 := HZ6.out
  have hz3 := HZ3.out
  have hz7 := hb7.size
  have hnx : NoInt #[.pointer none, .slice a1 286 n1c, .slice b1 m1 d1, .pointer (some ⟨g1, 0, none⟩), .func (.func 77) #[] #[], .slice a2 30 n2c, .slice b2 m2 d2, .pointer (some ⟨g2, 0, none⟩), .func (.func 78) #[] #[], .slice a ts.length cap] := noInt10 (fun z h => by cases h) (fun z h => by cases h) (fun z h => by cases h) (fun z h => by cases h) (fun z h => by cases h) (fun z h => by cases h) (fun z h => by cases h) (fun z h => by cases h) (fun z h => by cases h) (fun z h => by cases h)
  have hl1 := (LL_length 2 ts).1
  have hl2 := (DL_length 2 ts).1
  have HRZ := Lib.hid ((hc8.block (w.heap.size + 1) (by omega) (by omega)).trans ((hb7.block (w.heap.size + 1) (by omega)).trans HRZ0.out))
  have hj := HI6.out
  have HI8 := Lib.hid (And.intro ((hj.1.mono hb7).kept hc8 (is_ne (hj.1.mono hb7) (by omega) hrx hnx)) (And.intro ((hj.2.1.mono hb7).kept hc8 (is_ne (hj.2.1.mono hb7) (by have := hj.2.1.hlen; omega) hrx hnx)) (And.intro ((hj.2.2.1.mono hb7).kept hc8 (fun j hj e => by omega)) (And.intro ((hj.2.2.2.1.mono hb7).kept hc8 (is_ne (hj.2.2.2.1.mono hb7) (by omega) hrx hnx)) (And.intro ((hj.2.2.2.2.1.mono hb7).kept hc8 (is_ne (hj.2.2.2.2.1.mono hb7) (by have := hj.2.2.2.2.1.hlen; omega) hrx hnx)) ((hj.2.2.2.2.2.mono hb7).kept hc8 (fun j hj e => by omega)))))))
  have HHD8 := Lib.hid (hhd.kept1 hc8 (by omega) hrx hnx (hdT_ok ts HLN.out).hl)
  have HB8 := Lib.hid ((below_then HB7.out hb7).trans (hc8.below (by have := HB7.out.size; omega) (fun j e => by omega) : Below w.heap.size w7 _))
  have HLN2 := Lib.hid (And.intro hl1 hl2)
  have HSZ : Hid (w.heap.size + 2 ≤ w3.heap.size ∧ w3.heap.size + 3 ≤ w6.heap.size) := Lib.hid ⟨hz3, by omega⟩
  clear hhd hb7 hrx hc8 hnx hj HI6 HH HB7 HRZ0 HRX0 hq6 hl1 hl2 hz6 hz3 HZ6 hz7
  have z0 := cell_of_row _ _ 0 _ _ (0, 0) HRZ.out
  have z1 := cell_of_row _ _ 1 _ _ (0, 0) HRZ.out
  have z2 := cell_of_row _ _ 2 _ _ (0, 0) HRZ.out
  have z3 := cell_of_row _ _ 3 _ _ (0, 0) HRZ.out
  have z4 := cell_of_row _ _ 4 _ _ (0, 0) HRZ.out
  have z5 := cell_of_row _ _ 5 _ _ (0, 0) HRZ.out
  have z6 := cell_of_row _ _ 6 _ _ (0, 0) HRZ.out
  have z7 := cell_of_row _ _ 7 _ _ (0, 0) HRZ.out
  have z8 := cell_of_row _ _ 8 _ _ (0, 0) HRZ.out
  have z9 := cell_of_row _ _ 9 _ _ (0, 0) HRZ.out
  have zf0 := frozen_of_row _ _ 0 _ _ HRZ.out
  have zf1 := frozen_of_row _ _ 1 _ _ HRZ.out
  have zf2 := frozen_of_row _ _ 2 _ _ HRZ.out
  have zf3 := frozen_of_row _ _ 3 _ _ HRZ.out
  have zf4 := frozen_of_row _ _ 4 _ _ HRZ.out
  have zf5 := frozen_of_row _ _ 5 _ _ HRZ.out
  have zf6 := frozen_of_row _ _ 6 _ _ HRZ.out
  have zf7 := frozen_of_row _ _ 7 _ _ HRZ.out
  have zf8 := frozen_of_row _ _ 8 _ _ HRZ.out
  have zf9 := frozen_of_row _ _ 9 _ _ HRZ.out
  have x0 := cell_of_row _ _ 0 _ _ (0, 0) HRX.out
  have x1 := cell_of_row _ _ 1 _ _ (0, 0) HRX.out
  have x2 := cell_of_row _ _ 2 _ _ (0, 0) HRX.out
  have x3 := cell_of_row _ _ 3 _ _ (0, 0) HRX.out
  have x4 := cell_of_row _ _ 4 _ _ (0, 0) HRX.out
  have x5 := cell_of_row _ _ 5 _ _ (0, 0) HRX.out
  have x6 := cell_of_row _ _ 6 _ _ (0, 0) HRX.out
  have x7 := cell_of_row _ _ 7 _ _ (0, 0) HRX.out
  have x8 := cell_of_row _ _ 8 _ _ (0, 0) HRX.out
  have x9 := cell_of_row _ _ 9 _ _ (0, 0) HRX.out
  simp only [List.getElem?_toArray, List.getElem?_cons_zero, List.getElem?_cons_succ] at z0 z1 z2 z3 z4 z5 z6 z7 z8 z9 x0 x1 x2 x3 x4 x5 x6 x7 x8 x9
  go_wp2_with fail
  have chf := set10_ch (w7.setCell ⟨w3.heap.size + 1 + 1, 0, none⟩ (.pointer (some ⟨hb, 0, none⟩))) (w.heap.size + 1) (.pointer (some ⟨hb, 0, none⟩)) (.slice a1 286 n1c) (.slice b1 m1 d1) (.pointer (some ⟨g1, 0, none⟩)) (.func (.func 77) #[] #[]) (.slice a2 30 n2c) (.slice b2 m2 d2) (.pointer (some ⟨g2, 0, none⟩)) (.func (.func 78) #[] #[]) (.slice a ts.length cap)
  have HRF := Lib.hid (set10_row HRZ.out (.pointer (some ⟨hb, 0, none⟩)) (.slice a1 286 n1c) (.slice b1 m1 d1) (.pointer (some ⟨g1, 0, none⟩)) (.func (.func 77) #[] #[]) (.slice a2 30 n2c) (.slice b2 m2 d2) (.pointer (some ⟨g2, 0, none⟩)) (.func (.func 78) #[] #[]) (.slice a ts.length cap))
  have hnz : NoInt #[.pointer none, .slice none 0 0, .slice none 0 0, .pointer none, .nilFunc, .slice none 0 0, .slice none 0 0, .pointer none, .nilFunc, .slice none 0 0] := noInt10 (fun z h => by cases h) (fun z h => by cases h) (fun z h => by cases h) (fun z h => by cases h) (fun z h => by cases h) (fun z h => by cases h) (fun z h => by cases h) (fun z h => by cases h) (fun z h => by cases h) (fun z h => by cases h)
  have HP : Hid (BodyPost w 2 ts (.slice a ts.length cap) (.returned (.tuple #[.agg #[.pointer (some ⟨hb, 0, none⟩), .slice a1 286 n1c, .slice b1 m1 d1, .pointer (some ⟨g1, 0, none⟩), .func (.func 77) #[] #[], .slice a2 30 n2c, .slice b2 m2 d2, .pointer (some ⟨g2, 0, none⟩), .func (.func 78) #[] #[], .slice a ts.length cap], .nilIface])) (((((((((((w7.setCell ⟨w3.heap.size + 1 + 1, 0, none⟩ (.pointer (some ⟨hb, 0, none⟩))).setCell ⟨w.heap.size + 1, 0, none⟩ (.pointer (some ⟨hb, 0, none⟩))).setCell ⟨w.heap.size + 1, 1, none⟩ (.slice a1 286 n1c)).setCell ⟨w.heap.size + 1, 2, none⟩ (.slice b1 m1 d1)).setCell ⟨w.heap.size + 1, 3, none⟩ (.pointer (some ⟨g1, 0, none⟩))).setCell ⟨w.heap.size + 1, 4, none⟩ (.func (.func 77) #[] #[])).setCell ⟨w.heap.size + 1, 5, none⟩ (.slice a2 30 n2c)).setCell ⟨w.heap.size + 1, 6, none⟩ (.slice b2 m2 d2)).setCell ⟨w.heap.size + 1, 7, none⟩ (.pointer (some ⟨g2, 0, none⟩))).setCell ⟨w.heap.size + 1, 8, none⟩ (.func (.func 78) #[] #[])).setCell ⟨w.heap.size + 1, 9, none⟩ (.slice a ts.length cap))) := Lib.hid (by
    have hbf : Below w.heap.size w (((((((((((w7.setCell ⟨w3.heap.size + 1 + 1, 0, none⟩ (.pointer (some ⟨hb, 0, none⟩))).setCell ⟨w.heap.size + 1, 0, none⟩ (.pointer (some ⟨hb, 0, none⟩))).setCell ⟨w.heap.size + 1, 1, none⟩ (.slice a1 286 n1c)).setCell ⟨w.heap.size + 1, 2, none⟩ (.slice b1 m1 d1)).setCell ⟨w.heap.size + 1, 3, none⟩ (.pointer (some ⟨g1, 0, none⟩))).setCell ⟨w.heap.size + 1, 4, none⟩ (.func (.func 77) #[] #[])).setCell ⟨w.heap.size + 1, 5, none⟩ (.slice a2 30 n2c)).setCell ⟨w.heap.size + 1, 6, none⟩ (.slice b2 m2 d2)).setCell ⟨w.heap.size + 1, 7, none⟩ (.pointer (some ⟨g2, 0, none⟩))).setCell ⟨w.heap.size + 1, 8, none⟩ (.func (.func 78) #[] #[])).setCell ⟨w.heap.size + 1, 9, none⟩ (.slice a ts.length cap)) := HB8.out.trans (chf.below HB8.out.size (fun j e => by omega))
    have h1 := HLN2.out
    have h2 := HSZ.out
    exact ⟨_, rfl, ⟨_, a1, n1c, b1, m1, d1, g1, a2, n2c, b2, m2, d2, g2, a, cap, rfl, (fun _ => ⟨hb, rfl, (HHD8.out.kept1 chf (by have := HSZ.out; omega) HRZ.out hnz (hdT_ok ts HLN.out).hl).wide (by have := HSZ.out; omega)⟩), (fun h => by cases h), HI8.out.1.kept chf (is_ne HI8.out.1 (by omega) HRZ.out hnz), HI8.out.2.1.kept chf (is_ne HI8.out.2.1 (by have := HI8.out.2.1.hlen; omega) HRZ.out hnz), (HI8.out.2.2.1.kept chf (fun j hj e => by omega)).wide (fun j hj => by omega), HI8.out.2.2.2.1.kept chf (is_ne HI8.out.2.2.2.1 (by omega) HRZ.out hnz), HI8.out.2.2.2.2.1.kept chf (is_ne HI8.out.2.2.2.2.1 (by have := HI8.out.2.2.2.2.1.hlen; omega) HRZ.out hnz), (HI8.out.2.2.2.2.2.kept chf (fun j hj e => by omega)).wide (fun j hj => by omega), HT.out.mono hbf⟩, hbf, _, rfl, rfl⟩)
  clear chf hnz z0 z1 z2 z3 z4 z5 z6 z7 z8 z9 x0 x1 x2 x3 x4 x5 x6 x7 x8 x9 zf0 zf1 zf2 zf3 zf4 zf5 zf6 zf7 zf8 zf9 HRZ HRX HI8 HB8 HT
  revert HRF HP
  generalize (((((((((((w7.setCell ⟨w3.heap.size + 1 + 1, 0, none⟩ (.pointer (some ⟨hb, 0, none⟩))).setCell ⟨w.heap.size + 1, 0, none⟩ (.pointer (some ⟨hb, 0, none⟩))).setCell ⟨w.heap.size + 1, 1, none⟩ (.slice a1 286 n1c)).setCell ⟨w.heap.size + 1, 2, none⟩ (.slice b1 m1 d1)).setCell ⟨w.heap.size + 1, 3, none⟩ (.pointer (some ⟨g1, 0, none⟩))).setCell ⟨w.heap.size + 1, 4, none⟩ (.func (.func 77) #[] #[])).setCell ⟨w.heap.size + 1, 5, none⟩ (.slice a2 30 n2c)).setCell ⟨w.heap.size + 1, 6, none⟩ (.slice b2 m2 d2)).setCell ⟨w.heap.size + 1, 7, none⟩ (.pointer (some ⟨g2, 0, none⟩))).setCell ⟨w.heap.size + 1, 8, none⟩ (.func (.func 78) #[] #[])).setCell ⟨w.heap.size + 1, 9, none⟩ (.slice a ts.length cap)) = wf
  intro HRF HP
  go_wp2
  exact bodyPost_ret (body_results _ _ _ _ .nilIface rfl rfl HRF.out rfl) rfl HP.out
end Bc
end Go.Proofs.YtjjbgdmalefdlaaGreatDoor
end
