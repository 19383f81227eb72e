/- (*reader).books, and block at kind 2: their contracts. slices.Clone over bytes: its contract. NewReader: its contract. -/
import Derived.Test.YtfgpmccmalddjaaDoorZ19
import Derived.WalkSpells
import Derived.Lib.SliceRun
set_option linter.unusedSimpArgs false
set_option linter.unusedVariables false
section
namespace Go.Proofs.YtfgpmccmalddjaaDoor
open Go.RowKit
attribute [local go_sem] Oper.semAt_some

section
variable {w : World} {F D : Nat → Prop} {B gr gb gs gk p most : Nat} {p5 p6 : Value} {bs : List UInt8} {ls : Bool} {s : Unp} {R : Nat → List Nat} {v : Value} {l : List Int} {size : Nat}
theorem Ir.old (h : Ir w D B gr gb p5 p6 bs p most ls s) : ∀ k, D k → k < w.heap.size := fun k hk => by
  obtain ⟨vb, cs, v0, vl, kk⟩ := h
  exact (kk.nd k hk).1
theorem Ir.baseLe (h : Ir w D B gr gb p5 p6 bs p most ls s) : B ≤ w.heap.size := by
  obtain ⟨vb, cs, v0, vl, kk⟩ := h
  exact kk.hB
/-- New blocks are kept, too. -/
theorem Sq.new {w' : World} (h : Sq w F D B gr gb gs gk p5 p6 bs p most ls s R v l size) (hb : Below w.heap.size w w') : Sq w' F (fun k => D k ∨ (w.heap.size ≤ k ∧ k < w'.heap.size)) B gr gb gs gk p5 p6 bs p most ls s R v l size :=
  ⟨h.ir.new hb, (hb.block gs (Array.getElem?_eq_some_iff.1 h.row).1).trans h.row, .inl h.dg, fun k hk => ⟨.inl (h.fd k hk).1, (h.fd k hk).2⟩, h.bz.kept (Ch.of_below (T := fun _ => False) hb) (fun _ _ h => h), own_below h.own hb, fun k hk => ⟨.inl (h.vd k hk).1, (h.vd k hk).2⟩, h.wf⟩
/-- A kept block that isn't the sequence's own has changed. -/
theorem Sq.poke {w' : World} {x : Nat} (h : Sq w F D B gr gb gs gk p5 p6 bs p most ls s R v l size) (c : Ch w w' (fun k => k = x)) (hx : D x) (hf : ¬ F x) (hg : x ≠ gs) (hv : v.ownBlock ≠ some x) : Sq w' F D B gr gb gs gk p5 p6 bs p most ls s R v l size :=
  ⟨h.ir.touch c hx, (c.block gs (Array.getElem?_eq_some_iff.1 h.row).1 (fun e => hg e.symm)).trans h.row, h.dg, h.fd, h.bz.kept c (fun k hk e => hf (e ▸ hk)), c.own h.own (fun k hk e => hv (e ▸ hk)), h.vd, h.wf⟩
/-- More is left alone. -/
theorem Sq.more {F' : Nat → Prop} (h : Sq w F D B gr gb gs gk p5 p6 bs p most ls s R v l size) (h1 : ∀ k, F k → F' k) (h2 : ∀ k, F' k → D k ∧ k ≠ gs ∧ v.ownBlock ≠ some k) : Sq w F' D B gr gb gs gk p5 p6 bs p most ls s R v l size :=
  ⟨h.ir, h.row, h.dg, h2, h.bz.wide h1, h.own, h.vd, h.wf⟩
end
theorem sizesP_bound {u : List Bool} {p q : Nat} {x : Nat × Nat} (h : Ip.sizesP u p = .ok x q) : 257 ≤ x.1 ∧ x.1 ≤ 286 ∧ 1 ≤ x.2 ∧ x.2 ≤ 30 := by
  unfold Ip.sizesP at h
  cases h1 : Ip.take 5 u p with
  | err n => rw [Ip.bind_err h1] at h; cases h
  | ok n r =>
    rw [Ip.bind_ok h1] at h
    split at h
    · cases h
    · cases h2 : Ip.take 5 u r with
      | err m => rw [Ip.bind_err h2] at h; cases h
      | ok m t =>
        rw [Ip.bind_ok h2] at h
        split at h
        · cases h
        · cases h
          dsimp only
          omega
theorem books_results (tmps : Array Value) (W : World) (cb : Nat) (x y : Value) (u : Value) (h2 : tmps.getD 2 undef = .pointer (some ⟨cb, 0, none⟩)) (h3 : tmps.getD 3 undef = u) (hrow : W.heap[cb]? = some (.cells #[x, y] 118 (0, 0))) :
    (results Tryd.f86 tmps).run Tryd.prog W = .ok (.tuple #[.agg #[x, y], u]) W := by
  refine (results_cell_tmp (p := 2) (u := 3) (ty := 118) (by kernel_rfl) tmps Tryd.prog W).trans ?_
  have hl : (loadVar 118 ⟨cb, 0, none⟩).run Tryd.prog W = .ok (.agg #[x, y]) W :=
    Bk.run_load_front W cb _ 118 _ (0, 0) [x, y] _ hrow (fun j v hj => by rw [← List.getElem?_toArray] at hj; exact hj) Tryd.underlying118 rfl (by kernel_rfl)
  rw [h2, h3]
  simp [asAddr, hl, Result.andThen]
/-- What books answers. -/
def BsPost (w : World) (D : Nat → Prop) (B gr gb : Nat) (p5 p6 : Value) (bs : List UInt8) (most : Nat) (ls : Bool) (s : Unp) (r : Ip.Rs (List Int × List Int)) (e : Ending) (w' : World) : Prop :=
  match r with
  | .ok x q => ∃ gL gD D', e = .returned (.tuple #[.agg #[.pointer (some ⟨gL, 0, none⟩), .pointer (some ⟨gD, 0, none⟩)], .nilIface]) ∧ (∀ k, D k → D' k) ∧ (∀ k, D' k → D k ∨ w.heap.size ≤ k) ∧ Ir w' D' B gr gb p5 p6 bs q most ls s ∧ Bz w' D' gL (Bk.rowsL x.1) ∧ Bz w' D' gD (Bk.rowsL x.2) ∧ Cn.freeB x.1 = true ∧ Cn.freeB x.2 = true ∧ x.1.length ≤ 1000 ∧ x.2.length ≤ 1000 ∧ Ch w w' (fun k => ¬ D k)
  | .err n => (n == 0) = false ∧ e = .returned (.tuple #[.agg #[.pointer none, .pointer none], .iface 39 (.int .i64 n)]) ∧ Ch w w' (fun k => ¬ D k)
section
variable {w : World} {D : Nat → Prop} {B gr gb p most : Nat} {p5 p6 : Value} {bs : List UInt8} {ls : Bool} {s : Unp}
/-- The way with an error: nothing is left in the result's box. -/
theorem books_fail {w' : World} {rb : Nat} {x y : Value} (hrow : w'.heap[rb]? = some (.cells #[x, y] 118 (0, 0))) (hrb : w.heap.size ≤ rb) (c : Ch w w' (fun k => ¬ D k)) (n : Int) (hn : (n == 0) = false) {r : Ip.Rs (List Int × List Int)} (hr : r = .err n) :
    BsPost w D B gr gb p5 p6 bs most ls s r (.returned (.tuple #[.agg #[.pointer none, .pointer none], .iface 39 (.int .i64 n)])) ((w'.setCell ⟨rb, 0, none⟩ (.pointer none)).setCell ⟨rb, 1, none⟩ (.pointer none)) := by
  subst hr
  exact ⟨hn, rfl, c.trans (ch_two1 w' rb _ _) (fun k hk => .inr (by omega))⟩
set_option maxRecDepth 100000 in
set_option maxHeartbeats 8000000 in
theorem books_any (h : Ir w D B gr gb p5 p6 bs p most ls s) (hlo : Lo w) (h0 : D 1) :
    Calls Tryd.prog 86 #[.pointer (some ⟨gr, 0, none⟩)] w (BsPost w D B gr gb p5 p6 bs most ls s (Ip.booksP (lob bs) p)) := by
  have hb1 := below_alloc w (.cells #[.pointer none, .pointer none] 118)
  have hz1 : (w.alloc (.cells #[.pointer none, .pointer none] 118)).heap.size = w.heap.size + 1 := by simp
  have HROW := Lib.hid (heap_alloc_last w (.cells #[.pointer none, .pointer none] 118))
  have hw0 : 1 < w.heap.size := h.old 1 h0
  obtain ⟨D1, hD1⟩ : ∃ D1 : Nat → Prop, D1 = fun k => D k ∨ (w.heap.size ≤ k ∧ k < (w.alloc (.cells #[.pointer none, .pointer none] 118)).heap.size) := ⟨_, rfl⟩
  have hir1 := h.new hb1
  rw [← hD1] at hir1
  have HD1 : Hid ((∀ k, D k → D1 k) ∧ (∀ k, D1 k → D k ∨ w.heap.size ≤ k) ∧ D1 w.heap.size ∧ D1 1) := Lib.hid (by
    rw [hD1]
    exact ⟨fun k hk => .inl hk, fun k hk => hk.imp id And.left, .inr ⟨Nat.le_refl _, by omega⟩, .inl h0⟩)
  have HLO1 := Lib.hid (hlo.kept (Ch.of_below (T := fun _ => False) hb1) (fun h => h) hw0)
  have HI1 := Lib.hid hir1
  have HB1 := Lib.hid hb1
  have HSP : Hid (Ip.booksP (lob bs) p = Ip.bind Ip.sizesP (fun ad => Ip.bind Ip.seqP fun cl => Ip.bind (Ip.growP (Bk.rowsL cl) (ad.1 + ad.2) ad.1 []) fun ls =>
    if Ip.litOk (ls.take ad.1) = true then Ip.bind (Ip.growP (Bk.rowsL cl) (ad.1 + ad.2) (ad.1 + ad.2) ls) fun ls2 => if Ip.distOk (ls2.drop ad.1) = true then Ip.pure (ls.take ad.1, ls2.drop ad.1) else Ip.fail 2
    else Ip.fail 2) (lob bs) p) := Lib.hid rfl
  clear h hlo h0 hb1 hir1 hD1
  go_enter Tryd.func86, Tryd.ntmps86
  go_wp2_with fail
  revert hz1 HROW HLO1 HI1 HB1
  generalize World.alloc _ _ = w1
  intro hz1 HROW HLO1 HI1 HB1
  have HSZ := Lib.hid (sizes_any HI1.out)
  refine HSZ.out.mono ?_
  cases h1 : Ip.sizesP (lob bs) p with
  | err n =>
    rintro e w2 ⟨hn, rfl, hch2⟩
    have hrow2 := (hch2.block w.heap.size (by omega) (fun hk => hk HD1.out.2.2.1)).trans HROW.out
    have HC2 : Hid (Ch w w2 (fun k => ¬ D k)) := Lib.hid ((Ch.of_below HB1.out).trans hch2 (fun n hn => .inl (fun hd => hn (HD1.out.1 n hd))))
    have HP := Lib.hid (books_fail (B := B) (gr := gr) (gb := gb) (p5 := p5) (p6 := p6) (bs := bs) (most := most) (ls := ls) (s := s) hrow2 (Nat.le_refl _) HC2.out n hn (r := Ip.booksP (lob bs) p) (by rw [HSP.out, Ip.bind_err h1]))
    have HRES := Lib.hid (fun tmps h6 h7 => books_results tmps ((w2.setCell ⟨w.heap.size, 0, none⟩ (.pointer none)).setCell ⟨w.heap.size, 1, none⟩ (.pointer none)) w.heap.size (.pointer none) (.pointer none) (.iface 39 (.int .i64 n)) h6 h7 (row_two hrow2 _ _))
    have k0 : w2.cell? ⟨w.heap.size, 0, none⟩ = some (.pointer none) := by rw [cell_of_row _ _ _ _ _ (0, 0) hrow2]; rfl
    have k1 : w2.cell? ⟨w.heap.size, 1, none⟩ = some (.pointer none) := by rw [cell_of_row _ _ _ _ _ (0, 0) hrow2]; rfl
    have kf0 : w2.frozen? ⟨w.heap.size, 0, none⟩ = false := frozen_of_row _ _ _ _ _ hrow2
    have kf1 : w2.frozen? ⟨w.heap.size, 1, none⟩ = false := frozen_of_row _ _ _ _ _ hrow2
    clear hrow2 hch2 HC2 h1 hn
    go_wp2
    (try simp only [Exit.inBlock, Exit.then]); exact bodyPost_ret (HRES.out _ rfl rfl) rfl HP.out
  | ok ad q =>
    obtain ⟨a, d⟩ := ad
    rintro e w2 ⟨rfl, hir2, hch2⟩
    obtain ⟨ha1, ha2, hd1, hd2⟩ := sizesP_bound h1
    dsimp only at ha1 ha2 hd1 hd2
    obtain ⟨sz, hsz⟩ : ∃ sz : Nat, sz = a + d := ⟨_, rfl⟩
    have HSE := Lib.hid hsz
    have hsz1 : sz ≤ 500 := by omega
    have hsz2 : a < sz := by omega
    have HS1 : Hid (Ip.booksP (lob bs) p = Ip.bind Ip.seqP (fun cl => Ip.bind (Ip.growP (Bk.rowsL cl) sz a []) fun ls =>
      if Ip.litOk (ls.take a) = true then Ip.bind (Ip.growP (Bk.rowsL cl) sz sz ls) fun ls2 => if Ip.distOk (ls2.drop a) = true then Ip.pure (ls.take a, ls2.drop a) else Ip.fail 2
      else Ip.fail 2) (lob bs) q) := Lib.hid (by rw [HSP.out, Ip.bind_ok h1, hsz])
    have HROW2 : Hid (w2.heap[w.heap.size]? = some (.cells #[.pointer none, .pointer none] 118 (0, 0))) := Lib.hid ((hch2.block w.heap.size (by omega) (fun hk => hk HD1.out.2.2.1)).trans HROW.out)
    have HC2 : Hid (Ch w w2 (fun k => ¬ D k)) := Lib.hid ((Ch.of_below HB1.out).trans hch2 (fun n hn => .inl (fun hd => hn (HD1.out.1 n hd))))
    have hw10 : 1 < w1.heap.size := by omega
    have HLO2 := Lib.hid (HLO1.out.kept hch2 (fun hk => hk HD1.out.2.2.2) hw10)
    have HSQ := Lib.hid (sequence_any hir2 HLO2.out HD1.out.2.2.2 sz (by omega))
    rw [show ((sz : Nat) : Int) = (a : Int) + (d : Int) by omega] at HSQ
    have hz2 : w.heap.size < w2.heap.size := (Array.getElem?_eq_some_iff.1 HROW2.out).1
    clear hir2 hch2 h1 hsz HSP HROW HLO1 HI1 HB1 HSZ HLO2 hz1 hw10
    dsimp only
    go_wp2_with fail
    refine HSQ.out.mono ?_
    cases h2 : Ip.seqP (lob bs) q with
    | err n =>
      rintro e w3 ⟨hn, rfl, hch3⟩
      have hrow3 := (hch3.block w.heap.size hz2 (fun hk => hk HD1.out.2.2.1)).trans HROW2.out
      have HC3 : Hid (Ch w w3 (fun k => ¬ D k)) := Lib.hid (HC2.out.trans hch3 (fun n hn => .inl (fun hd => hn (HD1.out.1 n hd))))
      have HP := Lib.hid (books_fail (B := B) (gr := gr) (gb := gb) (p5 := p5) (p6 := p6) (bs := bs) (most := most) (ls := ls) (s := s) hrow3 (Nat.le_refl _) HC3.out n hn (r := Ip.booksP (lob bs) p) (by rw [HS1.out, Ip.bind_err h2]))
      have HRES := Lib.hid (fun tmps h6 h7 => books_results tmps ((w3.setCell ⟨w.heap.size, 0, none⟩ (.pointer none)).setCell ⟨w.heap.size, 1, none⟩ (.pointer none)) w.heap.size (.pointer none) (.pointer none) (.iface 39 (.int .i64 n)) h6 h7 (row_two hrow3 _ _))
      have k0 : w3.cell? ⟨w.heap.size, 0, none⟩ = some (.pointer none) := by rw [cell_of_row _ _ _ _ _ (0, 0) hrow3]; rfl
      have k1 : w3.cell? ⟨w.heap.size, 1, none⟩ = some (.pointer none) := by rw [cell_of_row _ _ _ _ _ (0, 0) hrow3]; rfl
      have kf0 : w3.frozen? ⟨w.heap.size, 0, none⟩ = false := frozen_of_row _ _ _ _ _ hrow3
      have kf1 : w3.frozen? ⟨w.heap.size, 1, none⟩ = false := frozen_of_row _ _ _ _ _ hrow3
      clear hrow3 hch3 h2 hn HC3 HROW2 HSQ HS1
      go_wp2
      (try simp only [Exit.inBlock, Exit.then]); exact bodyPost_ret (HRES.out _ rfl rfl) rfl HP.out
    | ok cl r =>
      rintro e w3 ⟨gs, gk, F, D3, rfl, hF, hD3, hgs, hsq3, hG, hks, hch3⟩
      have HROW3 : Hid (w3.heap[w.heap.size]? = some (.cells #[.pointer none, .pointer none] 118 (0, 0))) := Lib.hid ((hch3.block w.heap.size hz2 (fun hk => hk HD1.out.2.2.1)).trans HROW2.out)
      have HC3 : Hid (Ch w w3 (fun k => ¬ D k)) := Lib.hid (HC2.out.trans hch3 (fun n hn => .inl (fun hd => hn (HD1.out.1 n hd))))
      have HS2 : Hid (Ip.booksP (lob bs) p = Ip.bind (Ip.growP (Bk.rowsL cl) sz a []) (fun ls =>
        if Ip.litOk (ls.take a) = true then Ip.bind (Ip.growP (Bk.rowsL cl) sz sz ls) fun ls2 => if Ip.distOk (ls2.drop a) = true then Ip.pure (ls.take a, ls2.drop a) else Ip.fail 2
        else Ip.fail 2) (lob bs) r) := Lib.hid (by rw [HS1.out, Ip.bind_ok h2])
      have HGK := Lib.hid (And.intro hG hks)
      have HF3 : Hid ((∀ k, D k → F k) ∧ F w.heap.size ∧ (∀ k, D3 k → D k ∨ w.heap.size ≤ k) ∧ w.heap.size < gs) := Lib.hid
        ⟨fun k hk => hF k (HD1.out.1 k hk), hF _ HD1.out.2.2.1, fun k hk => (hD3 k hk).elim (fun h => HD1.out.2.1 k h) (fun h => .inr (by omega)), by omega⟩
      have HGW := Lib.hid (seqGrow_any hsq3 hG hks a (by omega) hsz1 (by simp))
      have hz3 : w.heap.size < w3.heap.size := (Array.getElem?_eq_some_iff.1 HROW3.out).1
      clear hF hD3 hgs hsq3 hG hks hch3 h2 HROW2 HC2 HSQ HS1 HD1 hz2
      go_wp2_with fail
      refine HGW.out.mono ?_
      cases h3 : Ip.growP (Bk.rowsL cl) sz a [] (lob bs) r with
      | err n =>
        rintro e w4 ⟨hn, rfl, hch4⟩
        have hrow4 := (hch4.block w.heap.size hz3 (fun hk => hk HF3.out.2.1)).trans HROW3.out
        have HC4 : Hid (Ch w w4 (fun k => ¬ D k)) := Lib.hid (HC3.out.trans hch4 (fun n hn => .inl (fun hd => hn (HF3.out.1 n hd))))
        have HP := Lib.hid (books_fail (B := B) (gr := gr) (gb := gb) (p5 := p5) (p6 := p6) (bs := bs) (most := most) (ls := ls) (s := s) hrow4 (Nat.le_refl _) HC4.out n hn (r := Ip.booksP (lob bs) p) (by rw [HS2.out, Ip.bind_err h3]))
        have HRES := Lib.hid (fun tmps h6 h7 => books_results tmps ((w4.setCell ⟨w.heap.size, 0, none⟩ (.pointer none)).setCell ⟨w.heap.size, 1, none⟩ (.pointer none)) w.heap.size (.pointer none) (.pointer none) (.iface 39 (.int .i64 n)) h6 h7 (row_two hrow4 _ _))
        have k0 : w4.cell? ⟨w.heap.size, 0, none⟩ = some (.pointer none) := by rw [cell_of_row _ _ _ _ _ (0, 0) hrow4]; rfl
        have k1 : w4.cell? ⟨w.heap.size, 1, none⟩ = some (.pointer none) := by rw [cell_of_row _ _ _ _ _ (0, 0) hrow4]; rfl
        have kf0 : w4.frozen? ⟨w.heap.size, 0, none⟩ = false := frozen_of_row _ _ _ _ _ hrow4
        have kf1 : w4.frozen? ⟨w.heap.size, 1, none⟩ = false := frozen_of_row _ _ _ _ _ hrow4
        clear hrow4 hch4 h3 hn HC4 HROW3 HC3 HGW HS2
        go_wp2
        (try simp only [Exit.inBlock, Exit.then]); exact bodyPost_ret (HRES.out _ rfl rfl) rfl HP.out
      | ok l4 q4 =>
        rintro e w4 ⟨rfl, ⟨D4, v4, hD34, hD43, hsq4⟩, hl4, hn4, hch4⟩
        have hrow4 := (hch4.block w.heap.size hz3 (fun hk => hk HF3.out.2.1)).trans HROW3.out
        have HC4 : Hid (Ch w w4 (fun k => ¬ D k)) := Lib.hid (HC3.out.trans hch4 (fun n hn => .inl (fun hd => hn (HF3.out.1 n hd))))
        have HS3 : Hid (Ip.booksP (lob bs) p = (if Ip.litOk (l4.take a) = true then Ip.bind (Ip.growP (Bk.rowsL cl) sz sz l4) fun ls2 => if Ip.distOk (ls2.drop a) = true then Ip.pure (l4.take a, ls2.drop a) else Ip.fail 2
          else Ip.fail 2 : Ip.Pr (List Int × List Int)) (lob bs) q4) := Lib.hid (by rw [HS2.out, Ip.bind_ok h3])
        have HD4 : Hid (∀ k, D4 k → D k ∨ w.heap.size ≤ k) := Lib.hid (fun k hk => (hD43 k hk).elim (fun h => HF3.out.2.2.1 k h) (fun h => .inr (by omega)))
        obtain ⟨g4, c4, hv4, hc4⟩ : ∃ g cap, v4 = .slice (some ⟨g, 0, none⟩) l4.length cap ∧ l4.length ≤ cap := by
          rcases own_nil_or hsq4.own with ⟨_, h0⟩ | ⟨g, cap, h0, h1, _⟩
          · omega
          · exact ⟨g, cap, h0, h1⟩
        subst hv4
        have hb5 := below_alloc w4 (.cells #[.pointer none, .pointer none] 118)
        have hz5 : (w4.alloc (.cells #[.pointer none, .pointer none] 118)).heap.size = w4.heap.size + 1 := by simp
        have hz4 : w.heap.size < w4.heap.size := (Array.getElem?_eq_some_iff.1 hrow4).1
        have HOB := Lib.hid (heap_alloc_last w4 (.cells #[.pointer none, .pointer none] 118))
        have HR5 : Hid ((w4.alloc (.cells #[.pointer none, .pointer none] 118)).heap[w.heap.size]? = some (.cells #[.pointer none, .pointer none] 118 (0, 0))) := Lib.hid ((hb5.block _ hz4).trans hrow4)
        have HC5 : Hid (Ch w (w4.alloc (.cells #[.pointer none, .pointer none] 118)) (fun k => ¬ D k)) := Lib.hid (HC4.out.trans (Ch.of_below (T := fun _ => False) hb5) (fun n hn => hn.elim))
        have HS5 := Lib.hid (hsq4.new hb5)
        have k2 := HS5.out.cells.2.2.1
        have hi5 : Is .i64 (w4.alloc (.cells #[.pointer none, .pointer none] 118)) (some ⟨g4, 0, none⟩) l4.length c4 l4 := by
          obtain ⟨a', c', e1, hI⟩ := own_is HS5.out.own (fun m hm => wf_int (HS5.out.wf m hm))
          simp only [Value.slice.injEq, true_and] at e1
          obtain ⟨rfl, rfl⟩ := e1
          exact hI
        have HLB := Lib.hid (literalBook_any _ a c4 (l4.take a) _ (hi5.pre a hn4) ha1 (by omega))
        have HW4 : Hid (∀ k, F k → k < w4.heap.size) := Lib.hid (fun k hk => hsq4.ir.old k (hsq4.fd k hk).1)
        have HGS : Hid (gs < w4.heap.size ∧ g4 < w4.heap.size ∧ ∀ x ∈ l4, 0 ≤ x ∧ x ≤ 1000000) := Lib.hid ⟨(Array.getElem?_eq_some_iff.1 hsq4.row).1, (hsq4.own.lt g4 rfl).2, hsq4.wf⟩
        clear hD34 hD43 hsq4 hch4 h3 hrow4 HROW3 HC3 HGW HS2 HC4 hb5 hi5 hz3
        go_wp2_with fail
        revert HOB HR5 HC5 HS5 HLB hz5 k2
        generalize World.alloc _ _ = w5
        intro hz5 HOB HR5 HC5 HS5 k2 HLB
        cases hlit : Ip.litOk (l4.take a) with
        | false =>
          rw [hlit] at HLB
          refine HLB.out.mono ?_
          rintro e w6 ⟨rfl, hb6⟩
          have ob6 := (hb6.block w4.heap.size (by omega)).trans HOB.out
          have rb6 := (hb6.block w.heap.size (by omega)).trans HR5.out
          have o0 : w6.cell? ⟨w4.heap.size, 0, none⟩ = some (.pointer none) := by rw [cell_of_row _ _ _ _ _ (0, 0) ob6]; rfl
          have of0 : w6.frozen? ⟨w4.heap.size, 0, none⟩ = false := frozen_of_row _ _ _ _ _ ob6
          have hrow7 : (w6.setCell ⟨w4.heap.size, 0, none⟩ (.pointer none)).heap[w.heap.size]? = some (.cells #[.pointer none, .pointer none] 118 (0, 0)) := (heap_setCell_other w6 ⟨w4.heap.size, 0, none⟩ w.heap.size _ (by show w.heap.size ≠ w4.heap.size; omega)).trans rb6
          have HC7 : Hid (Ch w (w6.setCell ⟨w4.heap.size, 0, none⟩ (.pointer none)) (fun k => ¬ D k)) := Lib.hid ((HC5.out.trans (Ch.of_below (T := fun _ => False) hb6) (fun n hn => hn.elim)).set (p := ⟨w4.heap.size, 0, none⟩) (.inr (by show w.heap.size ≤ w4.heap.size; omega)) _)
          have HP := Lib.hid (books_fail (B := B) (gr := gr) (gb := gb) (p5 := p5) (p6 := p6) (bs := bs) (most := most) (ls := ls) (s := s) hrow7 (Nat.le_refl _) HC7.out 2 rfl (r := Ip.booksP (lob bs) p) (by rw [HS3.out, if_neg (by rw [hlit]; decide)]; rfl))
          have HRES := Lib.hid (fun tmps h6 h7 => books_results tmps (((w6.setCell ⟨w4.heap.size, 0, none⟩ (.pointer none)).setCell ⟨w.heap.size, 0, none⟩ (.pointer none)).setCell ⟨w.heap.size, 1, none⟩ (.pointer none)) w.heap.size (.pointer none) (.pointer none) (.iface 39 (.int .i64 2)) h6 h7 (row_two hrow7 _ _))
          have k0 : (w6.setCell ⟨w4.heap.size, 0, none⟩ (.pointer none)).cell? ⟨w.heap.size, 0, none⟩ = some (.pointer none) := by rw [cell_of_row _ _ _ _ _ (0, 0) hrow7]; rfl
          have k1 : (w6.setCell ⟨w4.heap.size, 0, none⟩ (.pointer none)).cell? ⟨w.heap.size, 1, none⟩ = some (.pointer none) := by rw [cell_of_row _ _ _ _ _ (0, 0) hrow7]; rfl
          have kf0 : (w6.setCell ⟨w4.heap.size, 0, none⟩ (.pointer none)).frozen? ⟨w.heap.size, 0, none⟩ = false := frozen_of_row _ _ _ _ _ hrow7
          have kf1 : (w6.setCell ⟨w4.heap.size, 0, none⟩ (.pointer none)).frozen? ⟨w.heap.size, 1, none⟩ = false := frozen_of_row _ _ _ _ _ hrow7
          clear hrow7 hb6 ob6 rb6 HC7 HOB HR5 HC5 HS5 HLB HS3 k2 hlit
          go_wp2
          (try simp only [Exit.inBlock, Exit.then]); exact bodyPost_ret (HRES.out _ rfl rfl) rfl HP.out
        | true =>
          rw [hlit] at HLB
          refine HLB.out.mono ?_
          rintro e w6 ⟨gL, rfl, hbz6, hb6⟩
          have hz6 := hb6.size
          have ob6 := (hb6.block w4.heap.size (by omega)).trans HOB.out
          have rb6 := (hb6.block w.heap.size (by omega)).trans HR5.out
          have o0 : w6.cell? ⟨w4.heap.size, 0, none⟩ = some (.pointer none) := by rw [cell_of_row _ _ _ _ _ (0, 0) ob6]; rfl
          have of0 : w6.frozen? ⟨w4.heap.size, 0, none⟩ = false := frozen_of_row _ _ _ _ _ ob6
          have c7 : Ch w6 (w6.setCell ⟨w4.heap.size, 0, none⟩ (.pointer (some ⟨gL, 0, none⟩))) (fun k => k = w4.heap.size) := (Ch.refl w6 (fun k => k = w4.heap.size)).set (p := ⟨w4.heap.size, 0, none⟩) (.inl rfl) _
          have sq6 := (HS5.out.new hb6).poke c7 (.inl (.inr ⟨Nat.le_refl _, by omega⟩)) (fun hf => Nat.lt_irrefl _ (HW4.out _ hf)) (by have := HGS.out.1; omega) (by simp only [Value.ownBlock, ne_eq, Option.some.injEq]; have := HGS.out.2.1; omega)
          have sq7 := sq6.more (F' := fun k => F k ∨ k = w4.heap.size ∨ (w5.heap.size ≤ k ∧ k < w6.heap.size)) (fun k hk => .inl hk) (fun k hk => by
            have x1 := HGS.out.1
            have x2 := HGS.out.2.1
            rcases hk with hk | rfl | ⟨h1, h2⟩
            · exact sq6.fd k hk
            · exact ⟨.inl (.inr ⟨Nat.le_refl _, by omega⟩), by omega, by simp only [Value.ownBlock, ne_eq, Option.some.injEq]; omega⟩
            · exact ⟨.inr ⟨h1, h2⟩, by omega, by simp only [Value.ownBlock, ne_eq, Option.some.injEq]; omega⟩)
          have HOB7 : Hid ((w6.setCell ⟨w4.heap.size, 0, none⟩ (.pointer (some ⟨gL, 0, none⟩))).heap[w4.heap.size]? = some (.cells #[.pointer (some ⟨gL, 0, none⟩), .pointer none] 118 (0, 0))) := Lib.hid (heap_setCell_same w6 w4.heap.size 0 _ _ _ ob6)
          have HR7 : Hid ((w6.setCell ⟨w4.heap.size, 0, none⟩ (.pointer (some ⟨gL, 0, none⟩))).heap[w.heap.size]? = some (.cells #[.pointer none, .pointer none] 118 (0, 0))) := Lib.hid ((c7.block w.heap.size (by omega) (by omega)).trans rb6)
          have HC7 : Hid (Ch w (w6.setCell ⟨w4.heap.size, 0, none⟩ (.pointer (some ⟨gL, 0, none⟩))) (fun k => ¬ D k)) := Lib.hid ((HC5.out.trans (Ch.of_below (T := fun _ => False) hb6) (fun n hn => hn.elim)).set (p := ⟨w4.heap.size, 0, none⟩) (.inr (by show w.heap.size ≤ w4.heap.size; omega)) _)
          have HZL : Hid (Bz (w6.setCell ⟨w4.heap.size, 0, none⟩ (.pointer (some ⟨gL, 0, none⟩))) (fun k => w5.heap.size ≤ k ∧ k < w6.heap.size) gL (Bk.rowsL (l4.take a))) := Lib.hid (hbz6.kept c7 (fun k hk e => by omega))
          have k3 := sq7.cells.2.2.2
          have HS7 := Lib.hid sq7
          have HGW := Lib.hid (seqGrow_any sq7 HGK.out.1 HGK.out.2 sz (Nat.le_refl _) hsz1 hl4)
          have HS4 : Hid (Ip.booksP (lob bs) p = Ip.bind (Ip.growP (Bk.rowsL cl) sz sz l4) (fun ls2 => if Ip.distOk (ls2.drop a) = true then Ip.pure (l4.take a, ls2.drop a) else Ip.fail 2) (lob bs) q4) := Lib.hid (by rw [HS3.out, if_pos hlit])
          have HLIT : Hid (Cn.freeB (l4.take a) = true ∧ (l4.take a).length ≤ 1000) := Lib.hid (by
            refine ⟨?_, by rw [List.length_take]; omega⟩
            unfold Ip.litOk Ip.whole at hlit
            simp only [Bool.and_eq_true] at hlit
            exact hlit.1.1)
          have hz7 : (w6.setCell ⟨w4.heap.size, 0, none⟩ (.pointer (some ⟨gL, 0, none⟩))).heap.size = w6.heap.size := by simp
          clear hlit hbz6 hb6 ob6 rb6 c7 sq6 sq7 HOB HR5 HC5 HS5 HLB HS3 k2
          go_wp2_with fail
          revert HOB7 HR7 HC7 HZL k3 HS7 HGW hz7
          generalize World.setCell _ _ _ = w7
          intro HOB7 HR7 HC7 HZL k3 HS7 HGW hz7
          refine HGW.out.mono ?_
          cases h5 : Ip.growP (Bk.rowsL cl) sz sz l4 (lob bs) q4 with
          | err n =>
            rintro e w8 ⟨hn, rfl, hch8⟩
            have hrow8 := (hch8.block w.heap.size (by omega) (fun hk => hk (.inl HF3.out.2.1))).trans HR7.out
            have HC8 : Hid (Ch w w8 (fun k => ¬ D k)) := Lib.hid (HC7.out.trans hch8 (fun n hn => .inl (fun hd => hn (.inl (HF3.out.1 n hd)))))
            have HP := Lib.hid (books_fail (B := B) (gr := gr) (gb := gb) (p5 := p5) (p6 := p6) (bs := bs) (most := most) (ls := ls) (s := s) hrow8 (Nat.le_refl _) HC8.out n hn (r := Ip.booksP (lob bs) p) (by rw [HS4.out, Ip.bind_err h5]))
            have HRES := Lib.hid (fun tmps h6 h7 => books_results tmps ((w8.setCell ⟨w.heap.size, 0, none⟩ (.pointer none)).setCell ⟨w.heap.size, 1, none⟩ (.pointer none)) w.heap.size (.pointer none) (.pointer none) (.iface 39 (.int .i64 n)) h6 h7 (row_two hrow8 _ _))
            have k0 : w8.cell? ⟨w.heap.size, 0, none⟩ = some (.pointer none) := by rw [cell_of_row _ _ _ _ _ (0, 0) hrow8]; rfl
            have k1 : w8.cell? ⟨w.heap.size, 1, none⟩ = some (.pointer none) := by rw [cell_of_row _ _ _ _ _ (0, 0) hrow8]; rfl
            have kf0 : w8.frozen? ⟨w.heap.size, 0, none⟩ = false := frozen_of_row _ _ _ _ _ hrow8
            have kf1 : w8.frozen? ⟨w.heap.size, 1, none⟩ = false := frozen_of_row _ _ _ _ _ hrow8
            clear hrow8 hch8 h5 hn HC8 HOB7 HR7 HC7 HZL k3 HS7 HGW HS4
            go_wp2
            (try simp only [Exit.inBlock, Exit.then]); exact bodyPost_ret (HRES.out _ rfl rfl) rfl HP.out
          | ok l8 q8 =>
            rintro e w8 ⟨rfl, ⟨D8, v8, hD68, hD86, sq8⟩, hl8, hn8, hch8⟩
            have hle8 : l8.length = sz := by omega
            have hz8 := hch8.size
            have hob8 := (hch8.block w4.heap.size (by omega) (fun hk => hk (.inr (.inl rfl)))).trans HOB7.out
            have hrow8 := (hch8.block w.heap.size (by omega) (fun hk => hk (.inl HF3.out.2.1))).trans HR7.out
            have HC8 : Hid (Ch w w8 (fun k => ¬ D k)) := Lib.hid (HC7.out.trans hch8 (fun n hn => .inl (fun hd => hn (.inl (HF3.out.1 n hd)))))
            have HZL8 := Lib.hid (HZL.out.kept hch8 (fun k hk hn => hn (.inr (.inr hk))))
            have HS5 : Hid (Ip.booksP (lob bs) p = (if Ip.distOk (l8.drop a) = true then Ip.pure (l4.take a, l8.drop a) else Ip.fail 2 : Ip.Pr (List Int × List Int)) (lob bs) q8) := Lib.hid (by rw [HS4.out, Ip.bind_ok h5])
            have HD8 : Hid ((∀ k, D8 k → D k ∨ w.heap.size ≤ k) ∧ (∀ k, D k → D8 k) ∧ D8 w4.heap.size ∧ D8 w.heap.size ∧ (∀ k, w5.heap.size ≤ k ∧ k < w6.heap.size → D8 k)) := Lib.hid
              ⟨fun k hk => by
                rcases hD86 k hk with ((h | h) | h) | h
                · exact HD4.out k h
                · exact .inr (by omega)
                · exact .inr (by omega)
                · exact .inr (by omega), fun k hk => (sq8.fd k (.inl (HF3.out.1 k hk))).1, (sq8.fd _ (.inr (.inl rfl))).1, (sq8.fd _ (.inl HF3.out.2.1)).1, fun k hk => (sq8.fd k (.inr (.inr hk))).1⟩
            obtain ⟨g8, c8, hv8, hc8⟩ : ∃ g cap, v8 = .slice (some ⟨g, 0, none⟩) l8.length cap ∧ l8.length ≤ cap := by
              rcases own_nil_or sq8.own with ⟨_, h0⟩ | ⟨g, cap, h0, h1, _⟩
              · omega
              · exact ⟨g, cap, h0, h1⟩
            subst hv8
            have hi8 : Is .i64 w8 (some ⟨g8, 0, none⟩) l8.length c8 l8 := by
              obtain ⟨a', c', e1, hI⟩ := own_is sq8.own (fun m hm => wf_int (sq8.wf m hm))
              simp only [Value.slice.injEq, true_and] at e1
              obtain ⟨rfl, rfl⟩ := e1
              exact hI
            have k2 := sq8.cells.2.2.1
            have his := hi8.suf a (by omega)
            have hwd : ∀ x ∈ l8.drop a, 0 ≤ x ∧ x ≤ 1000000 := fun x hx => sq8.wf x (List.mem_of_mem_drop hx)
            rw [hle8] at k2 hc8 his
            rw [Nat.zero_add] at his
            have HDB := Lib.hid (distBook_any _ (sz - a) (c8 - a) (l8.drop a) w8 his (by omega) hwd)
            have HI8 := Lib.hid sq8.ir
            have HLD : Hid ((l8.drop a).length ≤ 1000) := Lib.hid (by rw [List.length_drop]; omega)
            have HR8 := Lib.hid hrow8
            have HOB8 := Lib.hid hob8
            clear hD68 hD86 sq8 hl8 hn8 hch8 h5 hle8 hob8 hrow8 HOB7 HR7 HC7 HZL k3 HS7 HGW HS4 hi8 his hwd
            go_wp2_with fail
            cases hds : Ip.distOk (l8.drop a) with
            | false =>
              rw [hds] at HDB
              refine HDB.out.mono ?_
              rintro e w9 ⟨rfl, hb9⟩
              have ob9 := (hb9.block w4.heap.size (by omega)).trans HOB8.out
              have rb9 := (hb9.block w.heap.size (by omega)).trans HR8.out
              have o1 : w9.cell? ⟨w4.heap.size, 1, none⟩ = some (.pointer none) := by rw [cell_of_row _ _ _ _ _ (0, 0) ob9]; rfl
              have of1 : w9.frozen? ⟨w4.heap.size, 1, none⟩ = false := frozen_of_row _ _ _ _ _ ob9
              have hrow10 : (w9.setCell ⟨w4.heap.size, 1, none⟩ (.pointer none)).heap[w.heap.size]? = some (.cells #[.pointer none, .pointer none] 118 (0, 0)) := (heap_setCell_other w9 ⟨w4.heap.size, 1, none⟩ w.heap.size _ (by show w.heap.size ≠ w4.heap.size; omega)).trans rb9
              have HC10 : Hid (Ch w (w9.setCell ⟨w4.heap.size, 1, none⟩ (.pointer none)) (fun k => ¬ D k)) := Lib.hid ((HC8.out.trans (Ch.of_below (T := fun _ => False) hb9) (fun n hn => hn.elim)).set (p := ⟨w4.heap.size, 1, none⟩) (.inr (by show w.heap.size ≤ w4.heap.size; omega)) _)
              have HP := Lib.hid (books_fail (B := B) (gr := gr) (gb := gb) (p5 := p5) (p6 := p6) (bs := bs) (most := most) (ls := ls) (s := s) hrow10 (Nat.le_refl _) HC10.out 2 rfl (r := Ip.booksP (lob bs) p) (by rw [HS5.out, if_neg (by rw [hds]; decide)]; rfl))
              have HRES := Lib.hid (fun tmps h6 h7 => books_results tmps (((w9.setCell ⟨w4.heap.size, 1, none⟩ (.pointer none)).setCell ⟨w.heap.size, 0, none⟩ (.pointer none)).setCell ⟨w.heap.size, 1, none⟩ (.pointer none)) w.heap.size (.pointer none) (.pointer none) (.iface 39 (.int .i64 2)) h6 h7 (row_two hrow10 _ _))
              have k0 : (w9.setCell ⟨w4.heap.size, 1, none⟩ (.pointer none)).cell? ⟨w.heap.size, 0, none⟩ = some (.pointer none) := by rw [cell_of_row _ _ _ _ _ (0, 0) hrow10]; rfl
              have k1 : (w9.setCell ⟨w4.heap.size, 1, none⟩ (.pointer none)).cell? ⟨w.heap.size, 1, none⟩ = some (.pointer none) := by rw [cell_of_row _ _ _ _ _ (0, 0) hrow10]; rfl
              have kf0 : (w9.setCell ⟨w4.heap.size, 1, none⟩ (.pointer none)).frozen? ⟨w.heap.size, 0, none⟩ = false := frozen_of_row _ _ _ _ _ hrow10
              have kf1 : (w9.setCell ⟨w4.heap.size, 1, none⟩ (.pointer none)).frozen? ⟨w.heap.size, 1, none⟩ = false := frozen_of_row _ _ _ _ _ hrow10
              clear hrow10 hb9 ob9 rb9 HC10 HOB8 HR8 HC8 HZL8 HDB HS5 hds HI8
              go_wp2
              (try simp only [Exit.inBlock, Exit.then]); exact bodyPost_ret (HRES.out _ rfl rfl) rfl HP.out
            | true =>
              rw [hds] at HDB
              refine HDB.out.mono ?_
              rintro e w9 ⟨gD, rfl, hbz9, hb9⟩
              have hz9 := hb9.size
              have ob9 := (hb9.block w4.heap.size (by omega)).trans HOB8.out
              have rb9 := (hb9.block w.heap.size (by omega)).trans HR8.out
              have o1 : w9.cell? ⟨w4.heap.size, 1, none⟩ = some (.pointer none) := by rw [cell_of_row _ _ _ _ _ (0, 0) ob9]; rfl
              have of1 : w9.frozen? ⟨w4.heap.size, 1, none⟩ = false := frozen_of_row _ _ _ _ _ ob9
              have c10 : Ch w9 (w9.setCell ⟨w4.heap.size, 1, none⟩ (.pointer (some ⟨gD, 0, none⟩))) (fun k => k = w4.heap.size) := (Ch.refl w9 (fun k => k = w4.heap.size)).set (p := ⟨w4.heap.size, 1, none⟩) (.inl rfl) _
              have ob10 : (w9.setCell ⟨w4.heap.size, 1, none⟩ (.pointer (some ⟨gD, 0, none⟩))).heap[w4.heap.size]? = some (.cells #[.pointer (some ⟨gL, 0, none⟩), .pointer (some ⟨gD, 0, none⟩)] 118 (0, 0)) := heap_setCell_same w9 w4.heap.size 1 _ _ _ ob9
              have rb10 := (c10.block w.heap.size (by omega) (by omega)).trans rb9
              have p0 : (w9.setCell ⟨w4.heap.size, 1, none⟩ (.pointer (some ⟨gD, 0, none⟩))).cell? ⟨w4.heap.size, 0, none⟩ = some (.pointer (some ⟨gL, 0, none⟩)) := by rw [cell_of_row _ _ _ _ _ (0, 0) ob10]; rfl
              have p1 : (w9.setCell ⟨w4.heap.size, 1, none⟩ (.pointer (some ⟨gD, 0, none⟩))).cell? ⟨w4.heap.size, 1, none⟩ = some (.pointer (some ⟨gD, 0, none⟩)) := by rw [cell_of_row _ _ _ _ _ (0, 0) ob10]; rfl
              have k0 : (w9.setCell ⟨w4.heap.size, 1, none⟩ (.pointer (some ⟨gD, 0, none⟩))).cell? ⟨w.heap.size, 0, none⟩ = some (.pointer none) := by rw [cell_of_row _ _ _ _ _ (0, 0) rb10]; rfl
              have k1 : (w9.setCell ⟨w4.heap.size, 1, none⟩ (.pointer (some ⟨gD, 0, none⟩))).cell? ⟨w.heap.size, 1, none⟩ = some (.pointer none) := by rw [cell_of_row _ _ _ _ _ (0, 0) rb10]; rfl
              have kf0 : (w9.setCell ⟨w4.heap.size, 1, none⟩ (.pointer (some ⟨gD, 0, none⟩))).frozen? ⟨w.heap.size, 0, none⟩ = false := frozen_of_row _ _ _ _ _ rb10
              have kf1 : (w9.setCell ⟨w4.heap.size, 1, none⟩ (.pointer (some ⟨gD, 0, none⟩))).frozen? ⟨w.heap.size, 1, none⟩ = false := frozen_of_row _ _ _ _ _ rb10
              have c11 := ch_two1 (w9.setCell ⟨w4.heap.size, 1, none⟩ (.pointer (some ⟨gD, 0, none⟩))) w.heap.size (.pointer (some ⟨gL, 0, none⟩)) (.pointer (some ⟨gD, 0, none⟩))
              have HP : Hid (BsPost w D B gr gb p5 p6 bs most ls s (Ip.booksP (lob bs) p) (.returned (.tuple #[.agg #[.pointer (some ⟨gL, 0, none⟩), .pointer (some ⟨gD, 0, none⟩)], .nilIface])) (((w9.setCell ⟨w4.heap.size, 1, none⟩ (.pointer (some ⟨gD, 0, none⟩))).setCell ⟨w.heap.size, 0, none⟩ (.pointer (some ⟨gL, 0, none⟩))).setCell ⟨w.heap.size, 1, none⟩ (.pointer (some ⟨gD, 0, none⟩)))) := Lib.hid (by
                rw [HS5.out, if_pos hds]
                refine ⟨gL, gD, fun k => D8 k ∨ (w8.heap.size ≤ k ∧ k < w9.heap.size), rfl, fun k hk => .inl (HD8.out.2.1 k hk), fun k hk => ?_, ?_, ?_, ?_, HLIT.out.1, ?_, HLIT.out.2, HLD.out, ?_⟩
                · rcases hk with hk | hk
                  · exact HD8.out.1 k hk
                  · exact .inr (by omega)
                · exact ((HI8.out.new hb9).touch c10 (.inl HD8.out.2.2.1)).touch c11 (.inl HD8.out.2.2.2.1)
                · exact (((HZL8.out.kept (Ch.of_below (T := fun _ => False) hb9) (fun _ _ h => h)).kept c10 (fun k hk e => by omega)).kept c11 (fun k hk e => by omega)).wide (fun k hk => .inl (HD8.out.2.2.2.2 k hk))
                · exact ((hbz9.kept c10 (fun k hk e => by omega)).kept c11 (fun k hk e => by omega)).wide (fun k hk => .inr hk)
                · unfold Ip.distOk at hds
                  simp only [Bool.and_eq_true] at hds
                  exact hds.1
                · exact ((HC8.out.trans (Ch.of_below (T := fun _ => False) hb9) (fun n hn => hn.elim)).trans c10 (fun n hn => .inr (by omega))).trans c11 (fun n hn => .inr (by omega)))
              have HRES := Lib.hid (fun tmps h6 h7 => books_results tmps (((w9.setCell ⟨w4.heap.size, 1, none⟩ (.pointer (some ⟨gD, 0, none⟩))).setCell ⟨w.heap.size, 0, none⟩ (.pointer (some ⟨gL, 0, none⟩))).setCell ⟨w.heap.size, 1, none⟩ (.pointer (some ⟨gD, 0, none⟩))) w.heap.size (.pointer (some ⟨gL, 0, none⟩)) (.pointer (some ⟨gD, 0, none⟩)) .nilIface h6 h7 (row_two rb10 _ _))
              clear hds hbz9 hb9 ob9 rb9 c10 ob10 rb10 c11 HR8 HOB8 HI8 HDB HS5 HZL8 HC8
              go_wp2
              (try simp only [Exit.inBlock, Exit.then]); exact bodyPost_ret (HRES.out _ rfl rfl) rfl HP.out
set_option maxRecDepth 100000 in
theorem block_2 (h : Ir w D B gr gb p5 p6 bs p most ls s) (hF : Fx w D p5 p6) (hlo : Lo w) (h0 : D 1) :
    Calls Tryd.prog 77 #[.pointer (some ⟨gr, 0, none⟩), .int .i64 2] w (BlPost w D B gr gb bs most ls (Ip.blockP (Ip.dynP most) most s 2 (lob bs) p)) := by
  have HE : Hid (Ip.blockP (Ip.dynP most) most s 2 (lob bs) p = Ip.bind Ip.booksP (fun b => Ip.symsP most (Bk.rowsL b.1) (Bk.rowsL b.2) s) (lob bs) p) := Lib.hid rfl
  have HBK := Lib.hid (books_any h hlo h0)
  have HFX := Lib.hid hF
  clear h hF hlo h0
  go_enter Tryd.func77, Tryd.ntmps77
  go_wp2_with fail
  refine HBK.out.mono ?_
  cases h1 : Ip.booksP (lob bs) p with
  | err n =>
    rintro e w1 ⟨hn, rfl, hch⟩
    have HP : Hid (BlPost w D B gr gb bs most ls (Ip.blockP (Ip.dynP most) most s 2 (lob bs) p) (.returned (.iface 39 (.int .i64 n))) (w1.alloc (.cells #[.pointer none, .pointer none] 118))) := Lib.hid (by
      rw [HE.out, Ip.bind_err h1]; exact ⟨hn, rfl, hch.trans (Ch.of_below (T := fun _ => False) (below_alloc w1 _)) (fun n hn => hn.elim)⟩)
    clear hn hch h1 HBK HE
    go_wp2
    go_ret
    exact HP.out
  | ok x q =>
    obtain ⟨lL, lD⟩ := x
    rintro e w1 ⟨gL, gD, D', rfl, hD1, hD2, hir, zL, zD, fL, fD, nL, nD, hch⟩
    have HE1 : Hid (Ip.blockP (Ip.dynP most) most s 2 (lob bs) p = Ip.symsP most (Bk.rowsL lL) (Bk.rowsL lD) s (lob bs) q) := Lib.hid (by rw [HE.out, Ip.bind_ok h1])
    have hb1 := below_alloc w1 (.cells #[.pointer (some ⟨gL, 0, none⟩), .pointer (some ⟨gD, 0, none⟩)] 118)
    have cb1 := Ch.of_below (T := fun _ => False) hb1
    have hFx : Fx (w1.alloc (.cells #[.pointer (some ⟨gL, 0, none⟩), .pointer (some ⟨gD, 0, none⟩)] 118)) D' p5 p6 := by
      rcases (HFX.out.kept hch).kept (cb1.wide (fun _ h => h.elim)) with h | ⟨g5, g6, e5, e6, z5, z6⟩
      · exact .inl h
      · exact .inr ⟨g5, g6, e5, e6, z5.wide hD1, z6.wide hD1⟩
    have HS := Lib.hid ((symbols_any (hir.mono hb1) (zL.kept cb1 (fun _ _ h => h)) (zD.kept cb1 (fun _ _ h => h)) (Bk.good_of _ fL) (Bk.good_of _ fD) (ks_small _ nL) (ks_small _ nD)).mono (fun e w' k => bl_of_ir hD1 hD2 (hch.trans cb1 (fun n hn => hn.elim)) hFx k))
    clear hir zL zD fL fD nL nD hch hFx hD1 hD2 h1 HBK HE HFX hb1 cb1
    dsimp only at HS
    obtain ⟨r, hr⟩ : ∃ r, Ip.symsP most (Bk.rowsL lL) (Bk.rowsL lD) s (lob bs) q = r := ⟨_, rfl⟩
    rw [hr] at HS HE1
    clear hr
    go_wp2_with fail
    refine HS.out.mono ?_
    intro e w' hp
    obtain ⟨x, rfl⟩ : ∃ x, e = .returned x := by
      unfold BlPost at hp
      cases r with
      | ok s q => exact ⟨_, hp.1⟩
      | err n => exact ⟨_, hp.2.1⟩
    have HP : Hid (BlPost w D B gr gb bs most ls (Ip.blockP (Ip.dynP most) most s 2 (lob bs) p) (.returned x) w') := Lib.hid (by rw [HE1.out]; exact hp)
    clear hp HS
    go_wp2
    go_ret
    exact HP.out
end
end Go.Proofs.YtfgpmccmalddjaaDoor
end

section
namespace Go.Proofs.YtfgpmccmalddjaaDoor
open Go.RowKit

def ClonePost (w : World) (len : Nat) (l : List UInt8) (e : Ending) (w' : World) : Prop :=
  ∃ v, e = .returned v ∧ w'.ownsRow w.heap.size 5 1 v len (bvs l) ∧ Below w.heap.size w w'
theorem clone_any (a : Option Addr) (len cap : Nat) (l : List UInt8) (w : World) (H : Bs w a len cap l) (hr : len ≤ 140737488355328) :
    Calls Tryd.prog 81 #[.slice a len cap] w (ClonePost w len l) := by
  cases a with
  | none =>
    obtain ⟨rfl, rfl⟩ := H.nil0 rfl
    have hl : l = [] := List.eq_nil_of_length_eq_zero H.hlen
    subst hl
    clear H
    have hnil : ∀ w, (binOp .eql 22 (.slice none 0 0) (.slice none 0 0)).run Tryd.prog w = .ok (.bool true) w := fun w => Lib.run_eql_slice_nil w _ 5 none 0 0 0 0 Tryd.underlying22
    go_enter Tryd.func81, Tryd.ntmps81
    go_wp2
    go_ret
    exact ⟨_, rfl, World.ownsRow_nil _ _ _ _, Below.refl _ _⟩
  | some ad =>
    have own0 := Lib.hid (own_new w w.heap.size 5 #[] [] (Nat.le_refl _) (by simp) 0 rfl rfl)
    have hsrc := (H.mono (below_alloc w (.cells #[] 5))).src
    have hle := H.hcap
    clear H
    have hnil : ∀ w, (binOp .eql 22 (.slice (some ad) len cap) (.slice none 0 0)).run Tryd.prog w = .ok (.bool false) w := fun w => Lib.run_eql_slice_nil w _ 5 (some ad) len cap 0 0 Tryd.underlying22
    go_enter Tryd.func81, Tryd.ntmps81
    go_wp2_with (at_builtin; refine wpl_append tyB rfl _ _ rfl own0.out hsrc rfl rfl (by omega) (by omega) (by simp) ?_)
    intro v1 w1 own1 hg1 _
    have hb1 : Below w.heap.size w w1 := (below_alloc w _).grown hg1 (by simp) (fun k hk => (own0.out.lt k hk).1)
    have H1 := Lib.hid own1
    clear own1 hg1 hsrc own0
    go_wp2
    go_ret
    exact ⟨_, rfl, by simpa [bvs] using H1.out, hb1⟩

end Go.Proofs.YtfgpmccmalddjaaDoor
end

section
namespace Go.Proofs.YtfgpmccmalddjaaDoor
open Go.RowKit

def NewReaderPost (w : World) (h : Bool) (l : List UInt8) (e : Ending) (w' : World) : Prop :=
  ∃ g v, e = .returned (.pointer (some ⟨g, 0, none⟩)) ∧ Rd w' w.heap.size g h v l 0 ∧ Below w.heap.size w w'
theorem newReader_any (h : Bool) (a : Option Addr) (len cap : Nat) (l : List UInt8) (w : World) (H : Bs w a len cap l) (hr : len ≤ 140737488355328) :
    Calls Tryd.prog 75 #[.slice a len cap, .bool h] w (NewReaderPost w h l) := by
  have HL := Lib.hid H.hlen
  go_enter Tryd.func75, Tryd.ntmps75
  go_wp2_with fail
  refine (clone_any _ _ _ _ _ H hr).mono ?_
  rintro e w1 ⟨v1, rfl, own1, hb1⟩
  obtain ⟨va, vc, rfl, hbs⟩ := own_bs own1 (by have := H.hcap; omega)
  have hx := Lib.hid (show NewReaderPost w h l (.returned (.pointer (some ⟨w1.heap.size, 0, none⟩))) (w1.alloc (.cells #[.bool h, .slice va len vc, .int .i64 0] 147)) from
    ⟨_, .slice va len vc, rfl, ⟨heap_alloc_last w1 _, by rw [HL.out]; exact own1.alloc _, hb1.size, fun e => by have := (own1.lt _ e).2; omega⟩, hb1.alloc hb1.size _⟩)
  clear own1 hb1 hbs H
  go_wp2
  go_ret
  exact hx.out
end Go.Proofs.YtfgpmccmalddjaaDoor
end
