/- block's tables in memory; newTable, extra: their contracts. block's pen in memory; number, symbol, match, head: their contracts. -/
import Derived.Test.YtjjbgdmalefdlaaGreatDoorZ7
import Derived.Test.YtjjbgdmalefdlaaGreatDoorZ17
import Derived.Test.YtjjbgdmalefdlaaGreatDoorZ20
import Derived.Test.YtjjbgdmalefdlaaGreatDoorZ33
import Derived.Test.YtjjbgdmalefdlaaGreatDoorZ34
import Derived.Test.YtjjbgdmalefdlaaGreatDoorZ35
import Derived.Laws.ResultCell
import Derived.Laws.EntriesVeiled
import Derived.Deep.RegionHeld3
set_option linter.unusedSimpArgs false
set_option linter.unusedVariables false
section
namespace Go.Proofs.YtjjbgdmalefdlaaGreatDoor
open Go.RowKit

namespace Bc
/-- The base function as a value. -/
def fvK : Kd → Value
  | .lit => .func (.func 77) #[] #[]
  | .dst => .func (.func 78) #[] #[]
  | .run => .func (.func 88) #[] #[]
/-- A book of lengths, whose blocks lie in a zone. -/
def Bw (w : World) (D : Nat → Prop) (g : Nat) (L : List Int) : Prop :=
  ∃ (B : Nat) (fs : Nat → Int) (vs : Nat → Value) (wv : Value), (∀ n, n < 17 → fs n = (Bk.fst (Bk.rowsL L) n : Nat)) ∧ Bk.NB w B g fs vs wv (Bk.nx (Bk.rowsL L) 17 : Nat) (Bk.rowsL L) (wsL L) ∧ D g ∧ (∀ k, wv.ownBlock = some k → D k) ∧ (∀ k, Bk.Tr vs k → D k)
theorem Bw.kept {w w' : World} {D T : Nat → Prop} {g : Nat} {L : List Int} (h : Bw w D g L) (c : Ch w w' T) (hT : ∀ k, D k → ¬ T k) : Bw w' D g L := by
  obtain ⟨B, fs, vs, wv, h1, h2, h3, h4, h5⟩ := h
  exact ⟨B, fs, vs, wv, h1, h2.kept c (hT _ h3) (fun k hk => hT _ (h4 k hk)) (fun k hk => hT _ (h5 k hk)), h3, h4, h5⟩
theorem Bw.wide {w : World} {D E : Nat → Prop} {g : Nat} {L : List Int} (h : Bw w D g L) (hG : ∀ k, D k → E k) : Bw w E g L := by
  obtain ⟨B, fs, vs, wv, h1, h2, h3, h4, h5⟩ := h
  exact ⟨B, fs, vs, wv, h1, h2, hG _ h3, fun k hk => hG _ (h4 k hk), fun k hk => hG _ (h5 k hk)⟩
theorem Bw.mono {w w' : World} {D : Nat → Prop} {g : Nat} {L : List Int} (h : Bw w D g L) (hb : Below w.heap.size w w') : Bw w' D g L :=
  h.kept (Ch.of_below (T := fun _ => False) hb) (fun _ _ h => h)
theorem Bw.book {w : World} {D : Nat → Prop} {g : Nat} {L : List Int} (h : Bw w D g L) : Bk.Book w w.heap.size g (Bk.rowsL L) (wsL L) := by
  obtain ⟨B, fs, vs, wv, h1, h2, _⟩ := h
  exact Bk.Book.of h2 h1
theorem bw_low {w1 : World} {B q g : Nat} {L : List Int} {fs : Nat → Int} {vs : Nat → Value} {wv : Value} (h1 : ∀ n, n < 17 → fs n = (Bk.fst (Bk.rowsL L) n : Nat)) (h2 : Bk.NB w1 B g fs vs wv (Bk.nx (Bk.rowsL L) 17 : Nat) (Bk.rowsL L) (Bk.wsOf (Bk.seq (Bk.rowsL L) 17) L.length)) (hq : q ≤ B) : Bw w1 (fun j => q ≤ j) g L :=
  ⟨B, fs, vs, wv, h1, h2, Nat.le_trans hq h2.hg, fun k hk => Nat.le_trans hq (h2.words.lt k hk).1, fun k ⟨n, hn, hk⟩ => Nat.le_trans hq ((h2.rows n hn).lt k hk).1⟩
/-- A table in memory: its counts, its lengths, its book. -/
structure Tb (w : World) (D : Nat → Prop) (a : Option Addr) (n c : Nat) (C : List Int) (b : Option Addr) (m d : Nat) (L : List Int) (g : Nat) : Prop where
  hc : Is .i64 w a n c C
  hl : Is .i64 w b m d L
  bw : Bw w D g L
def tbV (a : Option Addr) (n c : Nat) (b : Option Addr) (m d g : Nat) (k : Kd) : Value := .agg #[.slice a n c, .slice b m d, .pointer (some ⟨g, 0, none⟩), fvK k]
theorem Tb.mono {w w' : World} {D : Nat → Prop} {a : Option Addr} {n c : Nat} {C : List Int} {b : Option Addr} {m d : Nat} {L : List Int} {g : Nat} (h : Tb w D a n c C b m d L g) (hb : Below w.heap.size w w') : Tb w' D a n c C b m d L g :=
  ⟨h.hc.mono hb, h.hl.mono hb, h.bw.mono hb⟩
theorem load_tab (W : World) (cb : Nat) (cs : Array Value) (hs : cs.size = 4) (hrow : W.heap[cb]? = some (.cells cs 84 (0, 0))) : (loadVar 84 ⟨cb, 0, none⟩).run Tryz.prog W = .ok (.agg cs) W :=
  run_loadVar_row W cb 84 84 cs (0, 0) _ hrow Tryz.underlying84 rfl (by rw [hs]; kernel_rfl)
theorem tab_results (tmps : Array Value) (W : World) (cb : Nat) (cs : Array Value) (u : Value) (h2 : tmps.getD 6 undef = .pointer (some ⟨cb, 0, none⟩)) (h3 : tmps.getD 7 undef = u) (hrow : W.heap[cb]? = some (.cells cs 84 (0, 0))) (hs : cs.size = 4 := by rfl) :
    (results Tryz.f76 tmps).run Tryz.prog W = .ok (.tuple #[.agg cs, u]) W := by
  refine (results_cell_tmp (p := 6) (u := 7) (ty := 84) (by kernel_rfl) tmps Tryz.prog W).trans ?_
  rw [h2, h3]
  simp [asAddr, load_tab W cb cs hs hrow, Result.andThen]
def TabPost (w : World) (a : Option Addr) (n c : Nat) (b : Option Addr) (m d : Nat) (L : List Int) (k : Kd) (e : Ending) (w' : World) : Prop :=
  ∃ g, e = .returned (.tuple #[tbV a n c b m d g k, .nilIface]) ∧ Bw w' (fun j => w.heap.size ≤ j) g L ∧ Below w.heap.size w w'
set_option maxRecDepth 100000 in
set_option maxHeartbeats 2000000 in
theorem newTable_any (k : Kd) (a : Option Addr) (n c : Nat) (b : Option Addr) (m d : Nat) (L : List Int) (w : World) (hi : Is .i64 w b m d L) (hf : Cn.freeB L = true) (hm : m ≤ 600) :
    Calls Tryz.prog 76 #[.slice a n c, .slice b m d, fvK k] w (TabPost w a n c b m d L k) := by
  have HB0 := Lib.hid (below_alloc w (.cells #[.slice none 0 0, .slice none 0 0, .pointer none, .nilFunc] 84))
  have HC := Lib.hid (fun w' (hb : Below w.heap.size w w') => Bk.book_low b m d L w' (hi.mono hb) (by omega))
  have HF := Lib.hid hf
  clear hi hf
  cases k <;> simp only [fvK]
  · go_enter Tryz.func76, Tryz.ntmps76
    go_wp2_with fail
    have hrow := heap_alloc_last w (.cells #[.slice none 0 0, .slice none 0 0, .pointer none, .nilFunc] 84)
    have hsz : (w.alloc (.cells #[.slice none 0 0, .slice none 0 0, .pointer none, .nilFunc] 84)).heap.size = w.heap.size + 1 := by simp
    refine (HC.out _ HB0.out).mono ?_
    rintro e w1 (⟨_, g, fs, vs, wv, rfl, h1, h2, hb⟩ | ⟨h1, _⟩)
    rotate_left
    · rw [HF.out] at h1; cases h1
    have hr1 := (hb.block w.heap.size (by rw [hsz]; omega)).trans hrow
    have HBZ : Hid (Bw w1 (fun j => w.heap.size + 1 ≤ j) g L) := Lib.hid (bw_low h1 h2 (by rw [hsz]; omega))
    have HB1 := Lib.hid (below_then HB0.out hb)
    have HQ : Hid (w.heap.size < w1.heap.size) := Lib.hid (by have := hb.size; omega)
    have HR := Lib.hid hr1
    clear h1 h2 hb hrow hsz HC HB0
    generalize hqe : w.heap.size = q at *
    have HQE := Lib.hid hqe
    clear hqe
    have c0 := cell_of_row w1 q 0 _ _ (0, 0) HR.out
    have c1 := cell_of_row w1 q 1 _ _ (0, 0) HR.out
    have c2 := cell_of_row w1 q 2 _ _ (0, 0) HR.out
    have c3 := cell_of_row w1 q 3 _ _ (0, 0) HR.out
    have f0 := frozen_of_row w1 q 0 _ _ HR.out
    have f1 := frozen_of_row w1 q 1 _ _ HR.out
    have f2 := frozen_of_row w1 q 2 _ _ HR.out
    have f3 := frozen_of_row w1 q 3 _ _ HR.out
    simp only [List.getElem?_toArray, List.getElem?_cons_zero, List.getElem?_cons_succ] at c0 c1 c2 c3
    have hw4 : ∀ fv : Value, ((((w1.setCell ⟨q, 0, none⟩ (.slice a n c)).setCell ⟨q, 1, none⟩ (.slice b m d)).setCell ⟨q, 2, none⟩ (.pointer (some ⟨g, 0, none⟩))).setCell ⟨q, 3, none⟩ fv).heap[q]? = some (.cells #[.slice a n c, .slice b m d, .pointer (some ⟨g, 0, none⟩), fv] 84 (0, 0)) := fun fv => by
      have r1 := heap_setCell_same w1 q 0 _ _ (.slice a n c) HR.out
      have r2 := heap_setCell_same _ q 1 _ _ (.slice b m d) r1
      have r3 := heap_setCell_same _ q 2 _ _ (.pointer (some ⟨g, 0, none⟩)) r2
      have r4 := heap_setCell_same _ q 3 _ _ fv r3
      exact r4
    have HW4 := Lib.hid hw4
    have HBL : Hid (∀ x0 x1 x2 x3 : Value, Below q w ((((w1.setCell ⟨q, 0, none⟩ x0).setCell ⟨q, 1, none⟩ x1).setCell ⟨q, 2, none⟩ x2).setCell ⟨q, 3, none⟩ x3)) := Lib.hid (fun x0 x1 x2 x3 => (((HB1.out.setCell (p := ⟨q, 0, none⟩) (Nat.le_refl _) _).setCell (p := ⟨q, 1, none⟩) (Nat.le_refl _) _).setCell (p := ⟨q, 2, none⟩) (Nat.le_refl _) _).setCell (p := ⟨q, 3, none⟩) (Nat.le_refl _) _)
    have HBK : Hid (∀ x0 x1 x2 x3 : Value, Bw ((((w1.setCell ⟨q, 0, none⟩ x0).setCell ⟨q, 1, none⟩ x1).setCell ⟨q, 2, none⟩ x2).setCell ⟨q, 3, none⟩ x3) (fun j => q ≤ j) g L) := Lib.hid (fun x0 x1 x2 x3 => (HBZ.out.kept (((((Ch.refl w1 (fun k => k = q)).set (p := ⟨q, 0, none⟩) (.inl rfl) x0).set (p := ⟨q, 1, none⟩) (.inl rfl) x1).set (p := ⟨q, 2, none⟩) (.inl rfl) x2).set (p := ⟨q, 3, none⟩) (.inl rfl) x3) (fun k hk e => by omega)).wide (fun k hk => by omega))
    clear hw4 HBZ HB1 HR hr1
    go_wp2
    refine bodyPost_ret (tab_results _ _ q _ .nilIface rfl rfl (HW4.out _)) rfl ⟨g, rfl, by rw [HQE.out]; exact HBK.out _ _ _ _, by rw [HQE.out]; exact HBL.out _ _ _ _⟩
  · go_enter Tryz.func76, Tryz.ntmps76
    go_wp2_with fail
    have hrow := heap_alloc_last w (.cells #[.slice none 0 0, .slice none 0 0, .pointer none, .nilFunc] 84)
    have hsz : (w.alloc (.cells #[.slice none 0 0, .slice none 0 0, .pointer none, .nilFunc] 84)).heap.size = w.heap.size + 1 := by simp
    refine (HC.out _ HB0.out).mono ?_
    rintro e w1 (⟨_, g, fs, vs, wv, rfl, h1, h2, hb⟩ | ⟨h1, _⟩)
    rotate_left
    · rw [HF.out] at h1; cases h1
    have hr1 := (hb.block w.heap.size (by rw [hsz]; omega)).trans hrow
    have HBZ : Hid (Bw w1 (fun j => w.heap.size + 1 ≤ j) g L) := Lib.hid (bw_low h1 h2 (by rw [hsz]; omega))
    have HB1 := Lib.hid (below_then HB0.out hb)
    have HQ : Hid (w.heap.size < w1.heap.size) := Lib.hid (by have := hb.size; omega)
    have HR := Lib.hid hr1
    clear h1 h2 hb hrow hsz HC HB0
    generalize hqe : w.heap.size = q at *
    have HQE := Lib.hid hqe
    clear hqe
    have c0 := cell_of_row w1 q 0 _ _ (0, 0) HR.out
    have c1 := cell_of_row w1 q 1 _ _ (0, 0) HR.out
    have c2 := cell_of_row w1 q 2 _ _ (0, 0) HR.out
    have c3 := cell_of_row w1 q 3 _ _ (0, 0) HR.out
    have f0 := frozen_of_row w1 q 0 _ _ HR.out
    have f1 := frozen_of_row w1 q 1 _ _ HR.out
    have f2 := frozen_of_row w1 q 2 _ _ HR.out
    have f3 := frozen_of_row w1 q 3 _ _ HR.out
    simp only [List.getElem?_toArray, List.getElem?_cons_zero, List.getElem?_cons_succ] at c0 c1 c2 c3
    have hw4 : ∀ fv : Value, ((((w1.setCell ⟨q, 0, none⟩ (.slice a n c)).setCell ⟨q, 1, none⟩ (.slice b m d)).setCell ⟨q, 2, none⟩ (.pointer (some ⟨g, 0, none⟩))).setCell ⟨q, 3, none⟩ fv).heap[q]? = some (.cells #[.slice a n c, .slice b m d, .pointer (some ⟨g, 0, none⟩), fv] 84 (0, 0)) := fun fv => by
      have r1 := heap_setCell_same w1 q 0 _ _ (.slice a n c) HR.out
      have r2 := heap_setCell_same _ q 1 _ _ (.slice b m d) r1
      have r3 := heap_setCell_same _ q 2 _ _ (.pointer (some ⟨g, 0, none⟩)) r2
      have r4 := heap_setCell_same _ q 3 _ _ fv r3
      exact r4
    have HW4 := Lib.hid hw4
    have HBL : Hid (∀ x0 x1 x2 x3 : Value, Below q w ((((w1.setCell ⟨q, 0, none⟩ x0).setCell ⟨q, 1, none⟩ x1).setCell ⟨q, 2, none⟩ x2).setCell ⟨q, 3, none⟩ x3)) := Lib.hid (fun x0 x1 x2 x3 => (((HB1.out.setCell (p := ⟨q, 0, none⟩) (Nat.le_refl _) _).setCell (p := ⟨q, 1, none⟩) (Nat.le_refl _) _).setCell (p := ⟨q, 2, none⟩) (Nat.le_refl _) _).setCell (p := ⟨q, 3, none⟩) (Nat.le_refl _) _)
    have HBK : Hid (∀ x0 x1 x2 x3 : Value, Bw ((((w1.setCell ⟨q, 0, none⟩ x0).setCell ⟨q, 1, none⟩ x1).setCell ⟨q, 2, none⟩ x2).setCell ⟨q, 3, none⟩ x3) (fun j => q ≤ j) g L) := Lib.hid (fun x0 x1 x2 x3 => (HBZ.out.kept (((((Ch.refl w1 (fun k => k = q)).set (p := ⟨q, 0, none⟩) (.inl rfl) x0).set (p := ⟨q, 1, none⟩) (.inl rfl) x1).set (p := ⟨q, 2, none⟩) (.inl rfl) x2).set (p := ⟨q, 3, none⟩) (.inl rfl) x3) (fun k hk e => by omega)).wide (fun k hk => by omega))
    clear hw4 HBZ HB1 HR hr1
    go_wp2
    refine bodyPost_ret (tab_results _ _ q _ .nilIface rfl rfl (HW4.out _)) rfl ⟨g, rfl, by rw [HQE.out]; exact HBK.out _ _ _ _, by rw [HQE.out]; exact HBL.out _ _ _ _⟩
  · go_enter Tryz.func76, Tryz.ntmps76
    go_wp2_with fail
    have hrow := heap_alloc_last w (.cells #[.slice none 0 0, .slice none 0 0, .pointer none, .nilFunc] 84)
    have hsz : (w.alloc (.cells #[.slice none 0 0, .slice none 0 0, .pointer none, .nilFunc] 84)).heap.size = w.heap.size + 1 := by simp
    refine (HC.out _ HB0.out).mono ?_
    rintro e w1 (⟨_, g, fs, vs, wv, rfl, h1, h2, hb⟩ | ⟨h1, _⟩)
    rotate_left
    · rw [HF.out] at h1; cases h1
    have hr1 := (hb.block w.heap.size (by rw [hsz]; omega)).trans hrow
    have HBZ : Hid (Bw w1 (fun j => w.heap.size + 1 ≤ j) g L) := Lib.hid (bw_low h1 h2 (by rw [hsz]; omega))
    have HB1 := Lib.hid (below_then HB0.out hb)
    have HQ : Hid (w.heap.size < w1.heap.size) := Lib.hid (by have := hb.size; omega)
    have HR := Lib.hid hr1
    clear h1 h2 hb hrow hsz HC HB0
    generalize hqe : w.heap.size = q at *
    have HQE := Lib.hid hqe
    clear hqe
    have c0 := cell_of_row w1 q 0 _ _ (0, 0) HR.out
    have c1 := cell_of_row w1 q 1 _ _ (0, 0) HR.out
    have c2 := cell_of_row w1 q 2 _ _ (0, 0) HR.out
    have c3 := cell_of_row w1 q 3 _ _ (0, 0) HR.out
    have f0 := frozen_of_row w1 q 0 _ _ HR.out
    have f1 := frozen_of_row w1 q 1 _ _ HR.out
    have f2 := frozen_of_row w1 q 2 _ _ HR.out
    have f3 := frozen_of_row w1 q 3 _ _ HR.out
    simp only [List.getElem?_toArray, List.getElem?_cons_zero, List.getElem?_cons_succ] at c0 c1 c2 c3
    have hw4 : ∀ fv : Value, ((((w1.setCell ⟨q, 0, none⟩ (.slice a n c)).setCell ⟨q, 1, none⟩ (.slice b m d)).setCell ⟨q, 2, none⟩ (.pointer (some ⟨g, 0, none⟩))).setCell ⟨q, 3, none⟩ fv).heap[q]? = some (.cells #[.slice a n c, .slice b m d, .pointer (some ⟨g, 0, none⟩), fv] 84 (0, 0)) := fun fv => by
      have r1 := heap_setCell_same w1 q 0 _ _ (.slice a n c) HR.out
      have r2 := heap_setCell_same _ q 1 _ _ (.slice b m d) r1
      have r3 := heap_setCell_same _ q 2 _ _ (.pointer (some ⟨g, 0, none⟩)) r2
      have r4 := heap_setCell_same _ q 3 _ _ fv r3
      exact r4
    have HW4 := Lib.hid hw4
    have HBL : Hid (∀ x0 x1 x2 x3 : Value, Below q w ((((w1.setCell ⟨q, 0, none⟩ x0).setCell ⟨q, 1, none⟩ x1).setCell ⟨q, 2, none⟩ x2).setCell ⟨q, 3, none⟩ x3)) := Lib.hid (fun x0 x1 x2 x3 => (((HB1.out.setCell (p := ⟨q, 0, none⟩) (Nat.le_refl _) _).setCell (p := ⟨q, 1, none⟩) (Nat.le_refl _) _).setCell (p := ⟨q, 2, none⟩) (Nat.le_refl _) _).setCell (p := ⟨q, 3, none⟩) (Nat.le_refl _) _)
    have HBK : Hid (∀ x0 x1 x2 x3 : Value, Bw ((((w1.setCell ⟨q, 0, none⟩ x0).setCell ⟨q, 1, none⟩ x1).setCell ⟨q, 2, none⟩ x2).setCell ⟨q, 3, none⟩ x3) (fun j => q ≤ j) g L) := Lib.hid (fun x0 x1 x2 x3 => (HBZ.out.kept (((((Ch.refl w1 (fun k => k = q)).set (p := ⟨q, 0, none⟩) (.inl rfl) x0).set (p := ⟨q, 1, none⟩) (.inl rfl) x1).set (p := ⟨q, 2, none⟩) (.inl rfl) x2).set (p := ⟨q, 3, none⟩) (.inl rfl) x3) (fun k hk e => by omega)).wide (fun k hk => by omega))
    clear hw4 HBZ HB1 HR hr1
    go_wp2
    refine bodyPost_ret (tab_results _ _ q _ .nilIface rfl rfl (HW4.out _)) rfl ⟨g, rfl, by rw [HQE.out]; exact HBK.out _ _ _ _, by rw [HQE.out]; exact HBL.out _ _ _ _⟩
theorem lbV_eq (s : Int) : Sy.lbV s = bval .lit s := by
  unfold Sy.lbV bval bok
  simp only [bse]
  by_cases h : 257 ≤ s ∧ s ≤ 285
  · rw [if_pos h, if_pos h, decide_eq_true h]
  · rw [if_neg h, if_neg h, decide_eq_false h]; rfl
theorem dbV_eq (s : Int) : Sy.dbV s = bval .dst s := by
  unfold Sy.dbV bval bok
  simp only [bse]
  by_cases h : 0 ≤ s ∧ s ≤ 29
  · rw [if_pos h, if_pos h, decide_eq_true h]
  · rw [if_neg h, if_neg h, decide_eq_false h]; rfl
theorem rb_eq (s : Int) : Bl.rb s = bval .run s := by
  unfold Bl.rb bval bok
  simp only [bse]
  by_cases h : 0 ≤ s ∧ s ≤ 18
  · rw [if_pos h, if_pos h, decide_eq_true h]
  · rw [if_neg h, if_neg h, decide_eq_false h]; rfl
theorem lbase_any (s : Int) (w : World) (hw : (Lit.int .i64 s).wf = true) : Calls Tryz.prog 77 #[.int .i64 s] w fun e w' => e = .returned (bval .lit s) ∧ w = w' := by rw [← lbV_eq]; exact lengthBase_any s w hw
theorem dbase_any (s : Int) (w : World) (hw : (Lit.int .i64 s).wf = true) : Calls Tryz.prog 78 #[.int .i64 s] w fun e w' => e = .returned (bval .dst s) ∧ w = w' := by rw [← dbV_eq]; exact distBase_any s w hw
theorem rbase_any (s : Int) (w : World) : Calls Tryz.prog 88 #[.int .i64 s] w fun e w' => e = .returned (bval .run s) ∧ w = w' := by rw [← rb_eq]; exact runBase_any s w
set_option maxHeartbeats 1000000 in
theorem extra_any (k : Kd) (a : Option Addr) (n c : Nat) (b : Option Addr) (m d g : Nat) (s : Int) (w : World) (hw : (Lit.int .i64 s).wf = true) :
    Calls Tryz.prog 79 #[tbV a n c b m d g k, .int .i64 s] w fun e w' => e = .returned (.int .i64 (xt k s : Nat)) ∧ Below w.heap.size w w' := by
  have HX : Hid ((bse k s).2 = xt k s) := Lib.hid rfl
  have HW := Lib.hid hw
  clear hw
  unfold tbV
  cases k <;> simp only [fvK]
  · have HB := Lib.hid (below_alloc w (.cells #[.slice a n c, .slice b m d, .pointer (some ⟨g, 0, none⟩), .func (.func 77) #[] #[]] 84))
    have hrow := heap_alloc_last w (.cells #[.slice a n c, .slice b m d, .pointer (some ⟨g, 0, none⟩), .func (.func 77) #[] #[]] 84)
    have c3 : (w.alloc (.cells #[.slice a n c, .slice b m d, .pointer (some ⟨g, 0, none⟩), .func (.func 77) #[] #[]] 84)).cell? ⟨w.heap.size, 3, none⟩ = some (.func (.func 77) #[] #[]) := by rw [cell_of_row _ _ _ _ _ (0, 0) hrow]; rfl
    clear hrow
    go_enter Tryz.func79, Tryz.ntmps79
    go_wp2_with fail
    refine (lbase_any s _ HW.out).mono ?_
    rintro e w1 ⟨rfl, rfl⟩
    unfold bval
    rw [HX.out]
    go_wp2
    go_ret
    exact ⟨rfl, HB.out⟩
  · have HB := Lib.hid (below_alloc w (.cells #[.slice a n c, .slice b m d, .pointer (some ⟨g, 0, none⟩), .func (.func 78) #[] #[]] 84))
    have hrow := heap_alloc_last w (.cells #[.slice a n c, .slice b m d, .pointer (some ⟨g, 0, none⟩), .func (.func 78) #[] #[]] 84)
    have c3 : (w.alloc (.cells #[.slice a n c, .slice b m d, .pointer (some ⟨g, 0, none⟩), .func (.func 78) #[] #[]] 84)).cell? ⟨w.heap.size, 3, none⟩ = some (.func (.func 78) #[] #[]) := by rw [cell_of_row _ _ _ _ _ (0, 0) hrow]; rfl
    clear hrow
    go_enter Tryz.func79, Tryz.ntmps79
    go_wp2_with fail
    refine (dbase_any s _ HW.out).mono ?_
    rintro e w1 ⟨rfl, rfl⟩
    unfold bval
    rw [HX.out]
    go_wp2
    go_ret
    exact ⟨rfl, HB.out⟩
  · have HB := Lib.hid (below_alloc w (.cells #[.slice a n c, .slice b m d, .pointer (some ⟨g, 0, none⟩), .func (.func 88) #[] #[]] 84))
    have hrow := heap_alloc_last w (.cells #[.slice a n c, .slice b m d, .pointer (some ⟨g, 0, none⟩), .func (.func 88) #[] #[]] 84)
    have c3 : (w.alloc (.cells #[.slice a n c, .slice b m d, .pointer (some ⟨g, 0, none⟩), .func (.func 88) #[] #[]] 84)).cell? ⟨w.heap.size, 3, none⟩ = some (.func (.func 88) #[] #[]) := by rw [cell_of_row _ _ _ _ _ (0, 0) hrow]; rfl
    clear hrow
    go_enter Tryz.func79, Tryz.ntmps79
    go_wp2_with fail
    refine (rbase_any s _).mono ?_
    rintro e w1 ⟨rfl, rfl⟩
    unfold bval
    rw [HX.out]
    go_wp2
    go_ret
    exact ⟨rfl, HB.out⟩
end Bc
end Go.Proofs.YtjjbgdmalefdlaaGreatDoor
end

section
namespace Go.Proofs.YtjjbgdmalefdlaaGreatDoor
open Go.RowKit

namespace Bc
/-- A pen: its block, its writer. -/
structure Pn (w : World) (B gp g : Nat) (v : Value) (l : List Bool) : Prop where
  row : w.heap[gp]? = some (.cells #[.pointer (some ⟨g, 0, none⟩), .nilIface] 77 (0, 0))
  wr : Wr w B g false v l
  np : gp ≠ g
  nv : v.ownBlock ≠ some gp
/-- What a pen's call may change. -/
def Pt (gp g : Nat) (v : Value) (k : Nat) : Prop := k = gp ∨ Wt g v k
theorem Pn.lt {w : World} {B gp g : Nat} {v : Value} {l : List Bool} (h : Pn w B gp g v l) : gp < w.heap.size := (Array.getElem?_eq_some_iff.1 h.row).1
theorem Pn.mono {w w' : World} {B gp g : Nat} {v : Value} {l : List Bool} (h : Pn w B gp g v l) (hb : Below w.heap.size w w') : Pn w' B gp g v l :=
  ⟨(hb.block gp h.lt).trans h.row, h.wr.mono hb, h.np, h.nv⟩
theorem Pn.own_lt {w : World} {B gp g : Nat} {v : Value} {l : List Bool} (h : Pn w B gp g v l) {k : Nat} (hk : Pt gp g v k) : k < w.heap.size := by
  rcases hk with rfl | rfl | hk
  · exact h.lt
  · exact h.wr.lt
  · exact (h.wr.own.lt k hk).2
def PPost (w : World) (B gp g : Nat) (v : Value) (l : List Bool) (e : Ending) (w' : World) : Prop :=
  e = .returned (.tuple #[]) ∧ ∃ v', Pn w' B gp g v' l ∧ Ch w w' (Pt gp g v) ∧ ∀ k, v'.ownBlock = some k → v.ownBlock = some k ∨ w.heap.size ≤ k
/-- What was written, and the mark laid behind it. -/
theorem put_pen {w w1 : World} {B gp g : Nat} {v v' : Value} {l l' : List Bool} (h : Pn w B gp g v l) (hw : Wr w1 B g false v' l') (hc : Ch w w1 (Wt g v)) (hf : ∀ k, v'.ownBlock = some k → v.ownBlock = some k ∨ w.heap.size ≤ k) :
    w1.heap[gp]? = some (.cells #[.pointer (some ⟨g, 0, none⟩), .nilIface] 77 (0, 0)) ∧ PPost w B gp g v l' (.returned (.tuple #[])) (w1.setCell ⟨gp, 1, none⟩ .nilIface) := by
  have hr : w1.heap[gp]? = some (.cells #[.pointer (some ⟨g, 0, none⟩), .nilIface] 77 (0, 0)) := (hc.block gp h.lt (fun e => e.elim h.np h.nv)).trans h.row
  have hv : v'.ownBlock ≠ some gp := fun e => (hf gp e).elim h.nv (fun h1 => by have := h.lt; omega)
  have c2 : Ch w1 (w1.setCell ⟨gp, 1, none⟩ .nilIface) (fun k => k = gp) := Bk.ch_set w1 gp 1 _
  refine ⟨hr, rfl, v', ⟨?_, hw.kept c2 (fun e => h.np e.symm) (fun k hk e => hv (e ▸ hk)), h.np, hv⟩, ?_, hf⟩
  · rw [heap_setCell_same w1 gp 1 _ _ _ hr]; rfl
  · exact (hc.wide (U := Pt gp g v) (fun k hk => .inl (.inr hk))).trans c2 (fun k hk => .inl (.inl hk))
set_option maxHeartbeats 1000000 in
theorem number_any (w : World) (B gp g : Nat) (v : Value) (l : List Bool) (n c : Nat) (h : Pn w B gp g v l) (hB : B ≤ w.heap.size) (hc : c ≤ 32) (hn : n < 2 ^ c) (hl : l.length ≤ 1000000000000) :
    Calls Tryz.prog 57 #[.pointer (some ⟨gp, 0, none⟩), .int .i64 (n : Nat), .int .i64 (c : Nat)] w (PPost w B gp g v (l ++ Bt.dg false n c)) := by
  have HPW := Lib.hid (putw_ok w B g false v l n c h.wr hB hc hn hl)
  have c0 := cell_of_row _ _ 0 _ _ (0, 0) h.row
  have c1 := cell_of_row _ _ 1 _ _ (0, 0) h.row
  simp only [List.getElem?_toArray, List.getElem?_cons_zero, List.getElem?_cons_succ] at c0 c1
  have H := Lib.hid h
  clear h hl hn hc
  go_enter Tryz.func57, Tryz.ntmps57
  go_wp2_with fail
  refine HPW.out.mono ?_
  rintro e w1 ⟨rfl, v', hw, hc, hf⟩
  obtain ⟨hr, hp⟩ := put_pen H.out hw hc hf
  have HP := Lib.hid hp
  have k1 := cell_of_row _ _ 1 _ _ (0, 0) hr
  have f1 := frozen_of_row _ _ 1 _ _ hr
  simp only [List.getElem?_toArray, List.getElem?_cons_zero, List.getElem?_cons_succ] at k1
  clear hw hc hf hr hp c0 c1 HPW
  go_wp2
  go_end0
  exact HP.out
theorem PPost.trans {w w1 w2 : World} {B gp g : Nat} {v v1 : Value} {l1 l2 : List Bool} (h1 : Pn w1 B gp g v1 l1) (c1 : Ch w w1 (Pt gp g v)) (f1 : ∀ k, v1.ownBlock = some k → v.ownBlock = some k ∨ w.heap.size ≤ k) {e : Ending} (h : PPost w1 B gp g v1 l2 e w2) : PPost w B gp g v l2 e w2 := by
  obtain ⟨he, v2, h2, c2, f2⟩ := h
  refine ⟨he, v2, h2, c1.trans c2 (fun k hk => ?_), fun k hk => ?_⟩
  · rcases hk with h | h | h
    · exact .inl (.inl h)
    · exact .inl (.inr (.inl h))
    · exact (f1 k h).elim (fun h => .inl (.inr (.inr h))) .inr
  · rcases f2 k hk with h | h
    · exact f1 k h
    · exact .inr (Nat.le_trans c1.size h)
/-- Behind whatever lies below. -/
theorem PPost.below {w w1 : World} {B gp g : Nat} {v : Value} {l2 : List Bool} (hb : Below w.heap.size w w1) {e : Ending} {w2 : World} (h : PPost w1 B gp g v l2 e w2) : PPost w B gp g v l2 e w2 := by
  obtain ⟨he, v2, h2, c2, f2⟩ := h
  exact ⟨he, v2, h2, (Ch.of_below (T := Pt gp g v) hb).trans c2 (fun k hk => .inl hk), fun k hk => (f2 k hk).imp id (fun h => Nat.le_trans hb.size h)⟩
/-- A symbol that has a code. -/
def Sd (L : List Int) (s : Int) : Prop := 0 < (Bk.wAt (wsL L) s).2 ∧ (Bk.wAt (wsL L) s).2 ≤ 16 ∧ (Bk.wAt (wsL L) s).1 < 2 ^ (Bk.wAt (wsL L) s).2
theorem sd_of {L : List Int} (h : Cn.freeB L = true) (s : Nat) (hs : s < L.length) (hp : 0 < L.getD s 0) : Sd L (s : Int) := by
  obtain ⟨m, i, hm, _, _, _, h0, e, hc⟩ := w_good L h s hs hp
  unfold Sd
  rw [e]
  exact ⟨h0, by simp only; omega, hc⟩
set_option maxRecDepth 100000 in
set_option maxHeartbeats 2000000 in
theorem symbol_any (k : Kd) (w : World) (B gp g : Nat) (v : Value) (l : List Bool) (a : Option Addr) (n c : Nat) (b : Option Addr) (m d gb : Nat) (L : List Int) (D : Nat → Prop) (s : Int) (z : Nat) (h : Pn w B gp g v l) (hB : B ≤ w.heap.size) (hbw : Bw w D gb L) (hL : L.length ≤ 600)
    (hsd : Sd L s) (hz : z < 2 ^ xt k s) (hws : (Lit.int .i64 s).wf = true) (hl : l.length ≤ 900000000000) :
    Calls Tryz.prog 61 #[.pointer (some ⟨gp, 0, none⟩), tbV a n c b m d gb k, .int .i64 s, .int .i64 (z : Nat)] w (PPost w B gp g v (l ++ syB k L s z)) := by
  unfold tbV
  have HEX : Hid (∀ (w : World), Calls Tryz.prog 79 #[.agg #[.slice a n c, .slice b m d, .pointer (some ⟨gb, 0, none⟩), fvK k], .int .i64 s] w fun e w' => e = .returned (.int .i64 (xt k s : Nat)) ∧ Below w.heap.size w w') := Lib.hid (fun w => extra_any k a n c b m d gb s w hws)
  have hone : (fvK k).oneCell' = true := by cases k <;> rfl
  have HXL := Lib.hid (xt_le k s)
  have HSY : Hid (syB k L s z = Bt.dg true (Bk.wAt (wsL L) s).1 (Bk.wAt (wsL L) s).2 ++ Bt.dg false z (xt k s)) := Lib.hid rfl
  generalize fvK k = fv at *
  have hal := below_alloc w (.cells #[.slice a n c, .slice b m d, .pointer (some ⟨gb, 0, none⟩), fv] 84)
  have hrow := heap_alloc_last w (.cells #[.slice a n c, .slice b m d, .pointer (some ⟨gb, 0, none⟩), fv] 84)
  have hP1 := h.mono hal
  have HWR := Lib.hid (fun w' (hb : Below (w.alloc (.cells #[.slice a n c, .slice b m d, .pointer (some ⟨gb, 0, none⟩), fv] 84)).heap.size (w.alloc (.cells #[.slice a n c, .slice b m d, .pointer (some ⟨gb, 0, none⟩), fv] 84)) w') =>
    Bk.write_ok w' w'.heap.size gb _ _ ((hbw.mono hal).mono hb).book (by rw [wsL_length]; omega) s (Bk.wAt (wsL L) s).1 (Bk.wAt (wsL L) s).2 rfl hsd.1 hsd.2.1 hsd.2.2 B g false v l (hP1.mono hb).wr (by have := hal.size; have := hb.size; omega) (by omega))
  have HNW : Hid (¬ Wt g v w.heap.size) := Lib.hid (fun e => by have := h.own_lt (.inr e); omega)
  have HW16 := Lib.hid hsd.2.1
  have HH := Lib.hid hP1
  have HAL := Lib.hid hal
  have HRW := Lib.hid hrow
  have HQ : Hid (w.heap.size < (w.alloc (.cells #[.slice a n c, .slice b m d, .pointer (some ⟨gb, 0, none⟩), fv] 84)).heap.size) := Lib.hid (by simp)
  have HGQ : Hid (gp ≠ w.heap.size) := Lib.hid (by have := h.lt; omega)
  have HZ := Lib.hid hz
  clear h hbw hsd hal hrow hP1 hz
  go_enter Tryz.func61, Tryz.ntmps61
  have c1 := cell_of_row _ _ 1 _ _ (0, 0) HH.out.row
  simp only [List.getElem?_toArray, List.getElem?_cons_zero, List.getElem?_cons_succ] at c1
  go_wp2_with fail
  clear c1
  revert HWR HH HAL HRW HQ
  generalize (w.alloc (.cells #[.slice a n c, .slice b m d, .pointer (some ⟨gb, 0, none⟩), fv] 84)) = w1
  intro HWR HH HAL HRW HQ
  have c0 := cell_of_row _ _ 0 _ _ (0, 0) HH.out.row
  have t2 := cell_of_row _ _ 2 _ _ (0, 0) HRW.out
  simp only [List.getElem?_toArray, List.getElem?_cons_zero, List.getElem?_cons_succ] at c0 t2
  have HDR : Hid (Below w1.heap.size w1 w1.drew) := Lib.hid (Below.drew (Below.refl _ _))
  have HPD := Lib.hid (HH.out.mono HDR.out)
  have HWD := Lib.hid (HWR.out _ HDR.out)
  have HQD : Hid (w.heap.size < w1.drew.heap.size) := Lib.hid HQ.out
  go_region_held3 (fun w' => w'.cell? ⟨gp, 0, none⟩ = some (.pointer (some ⟨g, 0, none⟩)) ∧ w'.cell? ⟨w.heap.size, 2, none⟩ = some (.pointer (some ⟨gb, 0, none⟩))) (first | (with_reducible exact ⟨y0', y2'⟩) | go_keep)
    (first | (go_at_call 89; (with_reducible refine HWD.out.mono ?_); rintro e w2 ⟨rfl, v', hw, hc, hf⟩; have hpp := put_pen HPD.out hw hc hf; have s0 := (cell_of_row _ _ 0 _ _ (0, 0) hpp.1); have k1 := (cell_of_row _ _ 1 _ _ (0, 0) hpp.1); have f1 := (frozen_of_row _ _ 1 _ _ hpp.1); have hq2 := (hc.block w.heap.size HQD.out HNW.out).trans HRW.out; have s2 := (cell_of_row _ _ 2 _ _ (0, 0) hq2); have HPP := Lib.hid hpp.2; have HQ2 := Lib.hid hq2; have y0 := (cell_of_row _ _ 0 _ _ (0, 0) (heap_setCell_same w2 gp 1 _ _ .nilIface hpp.1)); have hq3 := ((Bk.ch_set w2 gp 1 .nilIface).block w.heap.size (Array.getElem?_eq_some_iff.1 hq2).1 (fun e => HGQ.out e.symm)).trans hq2; have HQ3 := Lib.hid hq3; have y2 := (cell_of_row _ _ 2 _ _ (0, 0) hq3); have y0' : (w2.setCell ⟨gp, 1, none⟩ .nilIface).cell? ⟨gp, 0, none⟩ = some (.pointer (some ⟨g, 0, none⟩)) := y0; have y2' : (w2.setCell ⟨gp, 1, none⟩ .nilIface).cell? ⟨w.heap.size, 2, none⟩ = some (.pointer (some ⟨gb, 0, none⟩)) := y2; simp only [List.getElem?_toArray, List.getElem?_cons_zero, List.getElem?_cons_succ] at s0 k1 s2; clear hpp hw hc hf hq2 hq3 y0 y2))
  clear y0' y2' s0 s2 k1 f1 HQ2 c0 t2
  rename_i hheld
  clear hheld
  revert HPP HQ3
  generalize w2.setCell ⟨gp, 1, none⟩ .nilIface = w3
  intro HPP HQ3
  have z0 := cell_of_row _ _ 0 _ _ (0, 0) HQ3.out
  have z1 := cell_of_row _ _ 1 _ _ (0, 0) HQ3.out
  have z2 := cell_of_row _ _ 2 _ _ (0, 0) HQ3.out
  have z3 := cell_of_row _ _ 3 _ _ (0, 0) HQ3.out
  simp only [List.getElem?_toArray, List.getElem?_cons_zero, List.getElem?_cons_succ] at z0 z1 z2 z3
  obtain ⟨_, v3, hp3, hc3, hf3⟩ := HPP.out
  have HP3 := Lib.hid (And.intro hp3 (And.intro hc3 hf3))
  clear hp3 hc3 hf3 HPP HQ3 HWD HWR HPD
  go_wp2_with fail
  refine (HEX.out w3).mono ?_
  rintro e w4 ⟨rfl, hb4⟩
  have HNU := Lib.hid (number_any w4 B gp g v3 _ z (xt k s) (HP3.out.1.mono hb4) (by have := HAL.out.size; have := HP3.out.2.1.size; have h2 : w1.drew.heap.size = w1.heap.size := rfl; have := hb4.size; omega) (by have := HXL.out; omega) HZ.out (by rw [List.length_append, Bt.dg_length]; have := HW16.out; omega))
  have HB4 := Lib.hid hb4
  clear hb4 z0 z1 z2 z3
  go_wp2_with fail
  refine HNU.out.mono ?_
  rintro e w5 hpp
  have HF : Hid (PPost w B gp g v (l ++ syB k L s z) e w5) := Lib.hid (by
    rw [HSY.out, ← List.append_assoc]
    exact (PPost.trans HP3.out.1 HP3.out.2.1 HP3.out.2.2 (PPost.below HB4.out hpp)).below (below_then HAL.out HDR.out))
  obtain ⟨he, _⟩ := hpp
  subst he
  clear HNU HB4 HP3
  go_wp2
  go_end0
  exact HF.out
end Bc
end Go.Proofs.YtjjbgdmalefdlaaGreatDoor
end
