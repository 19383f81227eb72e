/- (*reader).match: its contract. -/
import Derived.Test.YtfgpmccmalddjaaDoorZ13
import Derived.Laws.ResultCell
set_option linter.unusedSimpArgs false
set_option linter.unusedVariables false
section
namespace Go.Proofs.YtfgpmccmalddjaaDoor
open Go.RowKit
attribute [local go_sem] Oper.semAt_some

namespace Ip
def lenP (y : Int) : Pr Nat := if 257 ≤ y ∧ y ≤ 285 then aboveP (Sy.lb (y - 257).toNat).1 (Sy.lb (y - 257).toNat).2 true else aboveP 0 0 false
def distP (y : Int) : Pr Nat := if 0 ≤ y ∧ y ≤ 29 then aboveP (Sy.db y.toNat).1 (Sy.db y.toNat).2 true else aboveP 0 0 false
/-- A match, behind the symbol of its length. -/
def matchP (R : Nat → List Nat) (y : Int) : Pr Tok := bind (lenP y) fun n => bind (rdP R) fun z => bind (distP z) fun d => pure (((n : Nat) : Int), ((d : Nat) : Int))
end Ip
theorem lb_bound : ∀ p, p < 29 → (Sy.lb p).1 ≤ 1000000 ∧ (Sy.lb p).2 ≤ 32 := by decide +kernel
theorem db_bound : ∀ p, p < 30 → (Sy.db p).1 ≤ 1000000 ∧ (Sy.db p).2 ≤ 32 := by decide +kernel
section
variable {w : World} {D : Nat → Prop} {B gr gb p most : Nat} {p5 p6 : Value} {bs : List UInt8} {ls : Bool} {s : Unp}
/-- What LengthBase says goes into above. -/
theorem lenAbove (h : Ir w D B gr gb p5 p6 bs p most ls s) (y : Int) : ∃ b x : Nat, ∃ ok : Bool, Sy.lbV y = .tuple #[.int .i64 (b : Nat), .int .i64 (x : Nat), .bool ok] ∧
    Calls Tryd.prog 107 #[.pointer (some ⟨gr, 0, none⟩), .int .i64 (b : Nat), .int .i64 (x : Nat), .bool ok] w (VPost w D B gr gb p5 p6 bs most ls s (fun n : Nat => .int .i64 (n : Nat)) (Ip.lenP y (lob bs) p)) := by
  by_cases hy : 257 ≤ y ∧ y ≤ 285
  · have hb := lb_bound (y - 257).toNat (by omega)
    refine ⟨_, _, true, by unfold Sy.lbV; rw [if_pos hy], ?_⟩
    unfold Ip.lenP
    rw [if_pos hy]
    exact above_any h _ _ true hb.1 hb.2
  · refine ⟨0, 0, false, by unfold Sy.lbV; rw [if_neg hy]; rfl, ?_⟩
    unfold Ip.lenP
    rw [if_neg hy]
    exact above_any h 0 0 false (by omega) (by omega)
theorem distAbove (h : Ir w D B gr gb p5 p6 bs p most ls s) (y : Int) : ∃ b x : Nat, ∃ ok : Bool, Sy.dbV y = .tuple #[.int .i64 (b : Nat), .int .i64 (x : Nat), .bool ok] ∧
    Calls Tryd.prog 107 #[.pointer (some ⟨gr, 0, none⟩), .int .i64 (b : Nat), .int .i64 (x : Nat), .bool ok] w (VPost w D B gr gb p5 p6 bs most ls s (fun n : Nat => .int .i64 (n : Nat)) (Ip.distP y (lob bs) p)) := by
  by_cases hy : 0 ≤ y ∧ y ≤ 29
  · have hb := db_bound y.toNat (by omega)
    refine ⟨_, _, true, by unfold Sy.dbV; rw [if_pos hy], ?_⟩
    unfold Ip.distP
    rw [if_pos hy]
    exact above_any h _ _ true hb.1 hb.2
  · refine ⟨0, 0, false, by unfold Sy.dbV; rw [if_neg hy]; rfl, ?_⟩
    unfold Ip.distP
    rw [if_neg hy]
    exact above_any h 0 0 false (by omega) (by omega)
end
theorem ch_two1 (w : World) (g : Nat) (x y : Value) : Ch w ((w.setCell ⟨g, 0, none⟩ x).setCell ⟨g, 1, none⟩ y) (fun k => k = g) :=
  ((Ch.refl w (fun k => k = g)).set (p := ⟨g, 0, none⟩) (.inl rfl) x).set (p := ⟨g, 1, none⟩) (.inl rfl) y
theorem ch_two {a w : World} {T : Nat → Prop} {g : Nat} (h : Ch a w T) (hg : a.heap.size ≤ g) (x y : Value) : Ch a ((w.setCell ⟨g, 0, none⟩ x).setCell ⟨g, 1, none⟩ y) T :=
  h.trans (ch_two1 w g x y) (fun n hn => .inr (hn ▸ hg))
theorem row_two {w : World} {g : Nat} {a b : Value} {t : TypeId} (h : w.heap[g]? = some (.cells #[a, b] t (0, 0))) (x y : Value) : ((w.setCell ⟨g, 0, none⟩ x).setCell ⟨g, 1, none⟩ y).heap[g]? = some (.cells #[x, y] t (0, 0)) :=
  heap_setCell_same (w.setCell ⟨g, 0, none⟩ x) g 1 _ _ _ (heap_setCell_same w g 0 _ _ _ h)
theorem ch_row1 (w : World) (g : Nat) (xs : Array Value) : Ch w (w.setRow g xs) (fun k => k = g) :=
  ⟨rfl, rfl, rfl, by simp, fun k _ hk => setRow_other w g k xs hk⟩
theorem ch_row {a w : World} {T : Nat → Prop} {g : Nat} (h : Ch a w T) (hg : a.heap.size ≤ g) (xs : Array Value) : Ch a (w.setRow g xs) T :=
  h.trans (ch_row1 w g xs) (fun n hn => .inr (hn ▸ hg))
namespace Ip
/-- A symbol is a number of 64 bits. -/
theorem rdAt_sym (ks : List (Int × List Bool)) (u : List Bool) (P : Int → Prop) (h0 : P 0) (h : ∀ c ∈ ks, P c.1) : ∀ f n, P (Cn.rdAt ks u f n).1
  | 0, n => h0
  | f + 1, n => by
    rw [Cn.rdAt]
    split
    · exact h0
    · split
      · rename_i c hc; exact h c (List.mem_of_find?_eq_some hc)
      · split
        · exact rdAt_sym ks u P h0 h f (n + 1)
        · exact h0
theorem rdP_sym {R : Nat → List Nat} {u : List Bool} {q r : Nat} {z : Int} (hS : ∀ c ∈ Bk.ks R, 0 ≤ c.1 ∧ c.1 ≤ 1000000) (h : rdP R u q = .ok z r) : 0 ≤ z ∧ z ≤ 1000000 := by
  unfold rdP at h
  split at h
  · cases h
    unfold Cn.rd
    split
    · exact ⟨by decide, by decide⟩
    · exact rdAt_sym (Bk.ks R) (u.drop q) (fun z => 0 ≤ z ∧ z ≤ 1000000) ⟨by decide, by decide⟩ hS 16 1
  · cases h
end Ip
theorem wf_int {z : Int} (h : 0 ≤ z ∧ z ≤ 1000000) : (Lit.int .i64 z).wf = true := by
  simp only [Lit.wf, IntKind.min, IntKind.max, IntKind.signed, IntKind.bits, Bool.and_eq_true, decide_eq_true_eq, if_true]
  simp; omega
theorem match_results (tmps : Array Value) (W : World) (cb : Nat) (x y : Value) (u : Value) (h2 : tmps.getD 6 undef = .pointer (some ⟨cb, 0, none⟩)) (h3 : tmps.getD 7 undef = u) (hrow : W.heap[cb]? = some (.cells #[x, y] 47 (0, 0))) :
    (results Tryd.f96 tmps).run Tryd.prog W = .ok (.tuple #[.agg #[x, y], u]) W := by
  refine (results_cell_tmp (p := 6) (u := 7) (ty := 47) (by kernel_rfl) tmps Tryd.prog W).trans ?_
  have hl : (loadVar 47 ⟨cb, 0, none⟩).run Tryd.prog W = .ok (.agg #[x, y]) W :=
    Bk.run_load_front W cb _ 47 _ (0, 0) [x, y] _ hrow (fun j v hj => by rw [← List.getElem?_toArray] at hj; exact hj) Tryd.underlying47 rfl (by kernel_rfl)
  rw [h2, h3]
  simp [asAddr, hl, Result.andThen]
/-- What match answers. -/
def MPost (w : World) (D : Nat → Prop) (B gr gb : Nat) (p5 p6 : Value) (bs : List UInt8) (p most : Nat) (ls : Bool) (s : Unp) (R : Nat → List Nat) (y : Int) (e : Ending) (w' : World) : Prop :=
  VPost w D B gr gb p5 p6 bs most ls s (fun t : Tok => .agg #[.int .i64 t.1, .int .i64 t.2]) (Ip.matchP R y (lob bs) p) e w' ∧
  ∀ n, Ip.matchP R y (lob bs) p = .err n → e = .returned (.tuple #[.agg #[.int .i64 0, .int .i64 0], .iface 39 (.int .i64 n)])
section
variable {w : World} {D : Nat → Prop} {B gr gb p most : Nat} {p5 p6 : Value} {bs : List UInt8} {ls : Bool} {s : Unp}
set_option maxRecDepth 100000 in
set_option maxHeartbeats 4000000 in
theorem match_any (h : Ir w D B gr gb p5 p6 bs p most ls s) {g : Nat} {R : Nat → List Nat} (hb : Bz w D g R) (hG : Bk.Good R) (hS : ∀ c ∈ Bk.ks R, 0 ≤ c.1 ∧ c.1 ≤ 1000000) (y : Int) (hy : (Lit.int .i64 y).wf = true) :
    Calls Tryd.prog 96 #[.pointer (some ⟨gr, 0, none⟩), .int .i64 y, .pointer (some ⟨g, 0, none⟩)] w (MPost w D B gr gb p5 p6 bs p most ls s R y) := by
  have hb1 := below_alloc w (.cells #[.int .i64 0, .int .i64 0] 47)
  have hz1 : (w.alloc (.cells #[.int .i64 0, .int .i64 0] 47)).heap.size = w.heap.size + 1 := by simp
  have hrow1 : (w.alloc (.cells #[.int .i64 0, .int .i64 0] 47)).heap[w.heap.size]? = some (.cells #[.int .i64 0, .int .i64 0] 47 (0, 0)) := heap_alloc_last w _
  have hir1 := h.new hb1
  obtain ⟨b, x, ok, e1, hab⟩ := lenAbove hir1 y
  have hbz1 : Bz (w.alloc (.cells #[.int .i64 0, .int .i64 0] 47)) (fun k => D k ∨ (w.heap.size ≤ k ∧ k < (w.alloc (.cells #[.int .i64 0, .int .i64 0] 47)).heap.size)) g R := (hb.kept (Ch.of_below (T := fun _ => False) hb1) (fun _ _ h => h)).wide (fun k hk => .inl hk)
  have HAB := Lib.hid hab
  have HLB := Lib.hid (lengthBase_any y (w.alloc (.cells #[.int .i64 0, .int .i64 0] 47)) hy)
  have HB1 := Lib.hid hb1
  have HR1 := Lib.hid hrow1
  have HBZ1 := Lib.hid hbz1
  have HG := Lib.hid hG
  have HS := Lib.hid hS
  rw [e1] at HLB
  have HSP : Hid (Ip.matchP R y (lob bs) p = Ip.bind (Ip.lenP y) (fun n => Ip.bind (Ip.rdP R) fun z => Ip.bind (Ip.distP z) fun d => Ip.pure (((n : Nat) : Int), ((d : Nat) : Int))) (lob bs) p) := Lib.hid rfl
  clear h hb hb1 hrow1 hir1 hab hbz1 e1 hG hS
  go_enter Tryd.func96, Tryd.ntmps96
  go_wp2_with fail
  revert HAB HLB HB1 HR1 HBZ1 hz1
  generalize World.alloc _ _ = w1
  intro hz1 HAB HLB HB1 HR1 HBZ1
  refine HLB.out.mono ?_
  rintro e w' ⟨rfl, rfl⟩
  go_wp2_with fail
  refine HAB.out.mono ?_
  cases h1 : Ip.lenP y (lob bs) p with
  | err n =>
    rintro e w2 ⟨hn, ⟨xx, rfl⟩, hch⟩
    have HX : Hid (Ip.matchP R y (lob bs) p = .err n) := Lib.hid (by rw [HSP.out]; unfold Ip.bind; rw [h1])
    have hrow2 := (hch.block w.heap.size (by omega) (fun hk => hk (.inr ⟨Nat.le_refl _, by omega⟩))).trans HR1.out
    clear h1
    have HR2 := Lib.hid hrow2
    have HP : Hid (MPost w D B gr gb p5 p6 bs p most ls s R y (.returned (.tuple #[.agg #[.int .i64 0, .int .i64 0], .iface 39 (.int .i64 n)])) ((w2.setCell ⟨w.heap.size, 0, none⟩ (.int .i64 0)).setCell ⟨w.heap.size, 1, none⟩ (.int .i64 0))) := Lib.hid (by
      refine ⟨?_, fun m hm => ?_⟩
      · rw [HX.out]; exact ⟨hn, ⟨_, rfl⟩, ch_two (ch_out HB1.out hch) (Nat.le_refl _) _ _⟩
      · rw [HX.out] at hm; cases hm; rfl)
    have HRES := Lib.hid (fun tmps h6 h7 => match_results tmps ((w2.setCell ⟨w.heap.size, 0, none⟩ (.int .i64 0)).setCell ⟨w.heap.size, 1, none⟩ (.int .i64 0)) w.heap.size (.int .i64 0) (.int .i64 0) (.iface 39 (.int .i64 n)) h6 h7 (row_two HR2.out _ _))
    have k0 : w2.cell? ⟨w.heap.size, 0, none⟩ = some (.int .i64 0) := by rw [cell_of_row _ _ _ _ _ (0, 0) HR2.out]; rfl
    have k1 : w2.cell? ⟨w.heap.size, 1, none⟩ = some (.int .i64 0) := by rw [cell_of_row _ _ _ _ _ (0, 0) HR2.out]; rfl
    have kf0 : w2.frozen? ⟨w.heap.size, 0, none⟩ = false := frozen_of_row _ _ _ _ _ HR2.out
    have kf1 : w2.frozen? ⟨w.heap.size, 1, none⟩ = false := frozen_of_row _ _ _ _ _ HR2.out
    clear hrow2 hch
    go_wp2
    (try simp only [Exit.inBlock, Exit.then]); exact bodyPost_ret (HRES.out _ rfl rfl) rfl HP.out
  | ok n q =>
    rintro e w2 ⟨rfl, hir2, hch⟩
    have H1 := Lib.hid h1
    have hrow2 := (hch.block w.heap.size (by omega) (fun hk => hk (.inr ⟨Nat.le_refl _, by omega⟩))).trans HR1.out
    have hbz2 := HBZ1.out.kept hch (fun k hk hn => hn hk)
    have HRD := Lib.hid (irRead hir2 hbz2 HG.out)
    have g0 := hir2.cell
    have HR2 := Lib.hid hrow2
    have HCH := Lib.hid hch
    clear h1 hrow2 hbz2 hir2 hch
    go_wp2_with fail
    refine HRD.out.mono ?_
    cases h2 : Ip.rdP R (lob bs) q with
    | err n =>
      rintro e w3 ⟨hn, ⟨xx, rfl⟩, hch3⟩
      have HX : Hid (Ip.matchP R y (lob bs) p = .err n) := Lib.hid (by rw [HSP.out]; unfold Ip.bind; rw [H1.out]; dsimp only; rw [h2])
      have hrow2 := (hch3.block w.heap.size (by have := HCH.out.size; omega) (fun hk => hk (.inr ⟨Nat.le_refl _, by omega⟩))).trans HR2.out
      clear h2 HR2 g0
      have HR2 := Lib.hid hrow2
      have HP : Hid (MPost w D B gr gb p5 p6 bs p most ls s R y (.returned (.tuple #[.agg #[.int .i64 0, .int .i64 0], .iface 39 (.int .i64 n)])) ((w3.setCell ⟨w.heap.size, 0, none⟩ (.int .i64 0)).setCell ⟨w.heap.size, 1, none⟩ (.int .i64 0))) := Lib.hid (by
        refine ⟨?_, fun m hm => ?_⟩
        · rw [HX.out]; exact ⟨hn, ⟨_, rfl⟩, ch_two (ch_out HB1.out (HCH.out.trans hch3 (fun n hn => .inl hn))) (Nat.le_refl _) _ _⟩
        · rw [HX.out] at hm; cases hm; rfl)
      have HRES := Lib.hid (fun tmps h6 h7 => match_results tmps ((w3.setCell ⟨w.heap.size, 0, none⟩ (.int .i64 0)).setCell ⟨w.heap.size, 1, none⟩ (.int .i64 0)) w.heap.size (.int .i64 0) (.int .i64 0) (.iface 39 (.int .i64 n)) h6 h7 (row_two HR2.out _ _))
      have k0 : w3.cell? ⟨w.heap.size, 0, none⟩ = some (.int .i64 0) := by rw [cell_of_row _ _ _ _ _ (0, 0) HR2.out]; rfl
      have k1 : w3.cell? ⟨w.heap.size, 1, none⟩ = some (.int .i64 0) := by rw [cell_of_row _ _ _ _ _ (0, 0) HR2.out]; rfl
      have kf0 : w3.frozen? ⟨w.heap.size, 0, none⟩ = false := frozen_of_row _ _ _ _ _ HR2.out
      have kf1 : w3.frozen? ⟨w.heap.size, 1, none⟩ = false := frozen_of_row _ _ _ _ _ HR2.out
      clear hrow2 hch3
      go_wp2
      (try simp only [Exit.inBlock, Exit.then]); exact bodyPost_ret (HRES.out _ rfl rfl) rfl HP.out
    | ok z r =>
      rintro e w3 ⟨rfl, hir3, hch3⟩
      have H2 := Lib.hid h2
      have hrow3 := (hch3.block w.heap.size (by have := HCH.out.size; omega) (fun hk => hk (.inr ⟨Nat.le_refl _, by omega⟩))).trans HR2.out
      have hzw := wf_int (Ip.rdP_sym HS.out h2)
      obtain ⟨b3, x3, ok3, e3, hab3⟩ := distAbove hir3 z
      have HDB := Lib.hid (distBase_any z w3 hzw)
      rw [e3] at HDB
      have HAB3 := Lib.hid hab3
      have HR3 := Lib.hid hrow3
      have HCH3 : Hid (Ch w1 w3 (fun k => ¬ (D k ∨ (w.heap.size ≤ k ∧ k < w1.heap.size)))) := Lib.hid (HCH.out.trans hch3 (fun n hn => .inl hn))
      clear h2 hrow3 hir3 hch3 e3 hab3 HCH HR2 g0 hzw
      go_wp2_with fail
      refine HDB.out.mono ?_
      rintro e w' ⟨rfl, rfl⟩
      go_wp2_with fail
      refine HAB3.out.mono ?_
      cases h3 : Ip.distP z (lob bs) r with
      | err n =>
        rintro e w4 ⟨hn, ⟨xx, rfl⟩, hch4⟩
        have HX : Hid (Ip.matchP R y (lob bs) p = .err n) := Lib.hid (by rw [HSP.out]; unfold Ip.bind; rw [H1.out]; dsimp only; rw [H2.out]; dsimp only; rw [h3])
        have hrow2 := (hch4.block w.heap.size (by have := HCH3.out.size; omega) (fun hk => hk (.inr ⟨Nat.le_refl _, by omega⟩))).trans HR3.out
        clear h3 HR3
        have HR2 := Lib.hid hrow2
        have HP : Hid (MPost w D B gr gb p5 p6 bs p most ls s R y (.returned (.tuple #[.agg #[.int .i64 0, .int .i64 0], .iface 39 (.int .i64 n)])) ((w4.setCell ⟨w.heap.size, 0, none⟩ (.int .i64 0)).setCell ⟨w.heap.size, 1, none⟩ (.int .i64 0))) := Lib.hid (by
          refine ⟨?_, fun m hm => ?_⟩
          · rw [HX.out]; exact ⟨hn, ⟨_, rfl⟩, ch_two (ch_out HB1.out (HCH3.out.trans hch4 (fun n hn => .inl hn))) (Nat.le_refl _) _ _⟩
          · rw [HX.out] at hm; cases hm; rfl)
        have HRES := Lib.hid (fun tmps h6 h7 => match_results tmps ((w4.setCell ⟨w.heap.size, 0, none⟩ (.int .i64 0)).setCell ⟨w.heap.size, 1, none⟩ (.int .i64 0)) w.heap.size (.int .i64 0) (.int .i64 0) (.iface 39 (.int .i64 n)) h6 h7 (row_two HR2.out _ _))
        have k0 : w4.cell? ⟨w.heap.size, 0, none⟩ = some (.int .i64 0) := by rw [cell_of_row _ _ _ _ _ (0, 0) HR2.out]; rfl
        have k1 : w4.cell? ⟨w.heap.size, 1, none⟩ = some (.int .i64 0) := by rw [cell_of_row _ _ _ _ _ (0, 0) HR2.out]; rfl
        have kf0 : w4.frozen? ⟨w.heap.size, 0, none⟩ = false := frozen_of_row _ _ _ _ _ HR2.out
        have kf1 : w4.frozen? ⟨w.heap.size, 1, none⟩ = false := frozen_of_row _ _ _ _ _ HR2.out
        clear hrow2 hch4
        go_wp2
        (try simp only [Exit.inBlock, Exit.then]); exact bodyPost_ret (HRES.out _ rfl rfl) rfl HP.out
      | ok d r4 =>
        rintro e w4 ⟨rfl, hir4, hch4⟩
        have HX : Hid (Ip.matchP R y (lob bs) p = .ok (((n : Nat) : Int), ((d : Nat) : Int)) r4) := Lib.hid (by rw [HSP.out]; unfold Ip.bind; rw [H1.out]; dsimp only; rw [H2.out]; dsimp only; rw [h3]; rfl)
        have hrow2 := (hch4.block w.heap.size (by have := HCH3.out.size; omega) (fun hk => hk (.inr ⟨Nat.le_refl _, by omega⟩))).trans HR3.out
        have HR2 := Lib.hid hrow2
        have HP : Hid (MPost w D B gr gb p5 p6 bs p most ls s R y (.returned (.tuple #[.agg #[.int .i64 (n : Nat), .int .i64 (d : Nat)], .nilIface])) ((w4.setCell ⟨w.heap.size, 0, none⟩ (.int .i64 (n : Nat))).setCell ⟨w.heap.size, 1, none⟩ (.int .i64 (d : Nat)))) := Lib.hid (by
          refine ⟨?_, fun m hm => by rw [HX.out] at hm; cases hm⟩
          rw [HX.out]
          exact ⟨rfl, (hir4.touch (ch_two1 w4 w.heap.size _ _) (.inr ⟨Nat.le_refl _, by omega⟩)).less (fun k hk => .inl hk), ch_two (ch_out HB1.out (HCH3.out.trans hch4 (fun n hn => .inl hn))) (Nat.le_refl _) _ _⟩)
        have HRES := Lib.hid (fun tmps h6 h7 => match_results tmps ((w4.setCell ⟨w.heap.size, 0, none⟩ (.int .i64 (n : Nat))).setCell ⟨w.heap.size, 1, none⟩ (.int .i64 (d : Nat))) w.heap.size (.int .i64 (n : Nat)) (.int .i64 (d : Nat)) .nilIface h6 h7 (row_two HR2.out _ _))
        have k0 : w4.cell? ⟨w.heap.size, 0, none⟩ = some (.int .i64 0) := by rw [cell_of_row _ _ _ _ _ (0, 0) HR2.out]; rfl
        have k1 : w4.cell? ⟨w.heap.size, 1, none⟩ = some (.int .i64 0) := by rw [cell_of_row _ _ _ _ _ (0, 0) HR2.out]; rfl
        have kf0 : w4.frozen? ⟨w.heap.size, 0, none⟩ = false := frozen_of_row _ _ _ _ _ HR2.out
        have kf1 : w4.frozen? ⟨w.heap.size, 1, none⟩ = false := frozen_of_row _ _ _ _ _ HR2.out
        clear h3 HR3 hrow2 hir4 hch4
        go_wp2
        (try simp only [Exit.inBlock, Exit.then]); exact bodyPost_ret (HRES.out _ rfl rfl) rfl HP.out
end
end Go.Proofs.YtfgpmccmalddjaaDoor
end
