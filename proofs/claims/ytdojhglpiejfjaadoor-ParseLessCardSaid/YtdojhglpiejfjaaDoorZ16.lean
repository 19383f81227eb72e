/- parse.Prices.choose: its contract. -/
import Derived.Test.YtdojhglpiejfjaaDoorZ15
import Derived.Deep.RegionHeld3
set_option linter.unusedSimpArgs false
set_option linter.unusedVariables false
section
namespace Go.Proofs.YtdojhglpiejfjaaDoor
open Go.RowKit Go.Shelf
attribute [local go_sem] Oper.semAt_some

theorem run_store_func {P : Program} {w : World} {a : Addr} {m : Mode} (f : Go.Fn) (ts bs : Array Value) : (store a (.func f ts bs) m).run P w = stored P w a (.func f ts bs) m := run_store P w a _ m rfl
attribute [local go_sem] run_store_func
theorem ch_of_grown {W W' : World} {row : Option Nat} (hg : W.grownBy W' row) : Ch W W' (fun k => row = some k) := ⟨hg.os, hg.tape, hg.output, hg.size, fun k hk hn => hg.block k hk (fun e => hn e.symm)⟩
section
variable {w : World} {a1 a2 a3 : Option Addr} {n1 c1 n2 c2 n3 c3 : Nat} {l1 l2 l3 : List Int}
/-- What choose's loops need of memory. -/
structure Ck (w : World) (B7 B8 B9 dg cb fb N m : Nat) (vp : Array Value) (l3 : List Int) (C : List Int) (T : List Tok) (wr : World) : Prop where
  prow : wr.heap[w.heap.size]? = some (.cells vp 38 (0, 0))
  b7 : Boxed wr B7 34 (.slice (some ⟨dg, 0, none⟩) (m + 1) (m + 1))
  b8 : Boxed wr B8 34 (.slice (some ⟨cb, 0, none⟩) (N + 1) (N + 1))
  b9 : Boxed wr B9 25 (.slice (some ⟨fb, 0, none⟩) N N)
  dist : wr.ownsRow w.heap.size 3 1 (.slice (some ⟨dg, 0, none⟩) (m + 1) (m + 1)) (m + 1) (ivs (Pa.dl l3 (m + 1) (m + 1)))
  cz : Pz.Cz wr w.heap.size cb (N + 1) fb N N C T
  bel : Below w.heap.size w wr
structure Co (w : World) (B7 B8 B9 dg cb fb Z : Nat) : Prop where
  i1 : w.heap.size < dg
  i2 : dg < B7
  i3 : B7 < cb
  i4 : cb < B8
  i5 : B8 < fb
  i6 : fb < B9
  i7 : B9 < Z
theorem Ck.ch {wr w' : World} {B7 B8 B9 dg cb fb N m Z : Nat} {vp : Array Value} {C C' : List Int} {T T' : List Tok} (o : Co w B7 B8 B9 dg cb fb Z) (h : Ck w B7 B8 B9 dg cb fb N m vp l3 C T wr) (c : Ch wr w' (fun k => k = cb ∨ k = fb)) (cz : Pz.Cz w' w.heap.size cb (N + 1) fb N N C' T') :
    Ck w B7 B8 B9 dg cb fb N m vp l3 C' T' w' := by
  have lp := (Array.getElem?_eq_some_iff.1 h.prow).1
  obtain ⟨o1, o2, o3, o4, o5, o6, o7⟩ := o
  exact ⟨(c.block _ lp (by omega)).trans h.prow, (c.block _ h.b7.lt (by omega)).trans h.b7, (c.block _ h.b8.lt (by omega)).trans h.b8, (c.block _ h.b9.lt (by omega)).trans h.b9,
    c.own h.dist (fun g hg => by simp [Value.ownBlock] at hg; omega), cz, h.bel.trans (c.below (h.bel.size) (fun k hk => by omega))⟩
theorem Ck.up {wr w' : World} {B7 B8 B9 dg cb fb N m Z : Nat} {vp : Array Value} {C : List Int} {T : List Tok} (o : Co w B7 B8 B9 dg cb fb Z) (h : Ck w B7 B8 B9 dg cb fb N m vp l3 C T wr) (c : Ch wr w' (fun k => Z ≤ k)) :
    Ck w B7 B8 B9 dg cb fb N m vp l3 C T w' := by
  have lp := (Array.getElem?_eq_some_iff.1 h.prow).1
  obtain ⟨o1, o2, o3, o4, o5, o6, o7⟩ := o
  exact ⟨(c.block _ lp (by omega)).trans h.prow, (c.block _ h.b7.lt (by omega)).trans h.b7, (c.block _ h.b8.lt (by omega)).trans h.b8, (c.block _ h.b9.lt (by omega)).trans h.b9,
    c.own h.dist (fun g hg => by simp [Value.ownBlock] at hg; omega), h.cz.ch c (by omega) (by omega), h.bel.trans (c.below (h.bel.size) (fun k hk => by omega))⟩
/-- What the place's box holds, and one. -/
def atIn (a' : Act) (w : World) : Nat := match a'.tmps.getD 10 undef with | .pointer (some p) => (intOf ((w.cell? p).getD undef) + 1).toNat | _ => 0
def ChoosePost (w : World) (l : List UInt8) (l1 l2 l3 : List Int) (N : Nat) (R : Nat → List (Nat × Nat)) (e : Ending) (w' : World) : Prop :=
  ∃ fb C T, e = .returned (.slice (some ⟨fb, 0, none⟩) N N) ∧ w'.ownsRow w.heap.size 46 2 (.slice (some ⟨fb, 0, none⟩) N N) N (tks T) ∧ Pz.Dn (Pa.pr l1 l2 l3) (gb l) N R 0 C T ∧ Below w.heap.size w w'
set_option maxRecDepth 100000 in
set_option maxHeartbeats 4000000 in
theorem choose_any (a : Option Addr) (N cap : Nat) (l : List UInt8) (gf eb base : Nat) (v : Value) (Rs : List (List (Nat × Nat))) (ht : Bs w a N cap l) (h : Pa.Pr w a1 n1 c1 l1 a2 n2 c2 l2 a3 n3 c3 l3) (hg : Pa.good l1 l2 l3 = true)
    (hfd : Fd w gf eb base N l N v Rs) (hN : N ≤ 1048576) :
    Calls Tryd.prog 31 #[.agg #[.slice a1 n1 c1, .slice a2 n2 c2, .slice a3 n3 c3], .slice a N cap, .pointer (some ⟨gf, 0, none⟩)] w (ChoosePost w l l1 l2 l3 N (fun p => ra Rs (p : Int))) := by
  have hb0 := below_alloc w (.cells #[.slice a1 n1 c1, .slice a2 n2 c2, .slice a3 n3 c3] 38)
  have hr0 : (w.alloc (.cells #[.slice a1 n1 c1, .slice a2 n2 c2, .slice a3 n3 c3] 38)).heap[w.heap.size]? = some (.cells #[.slice a1 n1 c1, .slice a2 n2 c2, .slice a3 n3 c3] 38 (0, 0)) := heap_alloc_last w _
  obtain ⟨m, hm⟩ : ∃ m, min N 32768 = m := ⟨_, rfl⟩
  have HM : Hid (m ≤ N ∧ m ≤ 32768 ∧ (N ≤ 32768 → m = N) ∧ (32768 < N → m = 32768)) := Lib.hid (by omega)
  have HP := Lib.hid h
  have HGD := Lib.hid (Pa.good_parts hg)
  have HT := Lib.hid ht
  have HFD := Lib.hid hfd
  have HLN := Lib.hid ht.hlen
  have HR0 := Lib.hid hr0
  have HB0 := Lib.hid hb0
  have HDI := Lib.hid (distances_any N m (h.mono hb0) hg hm hN)
  have p0 : (w.alloc (.cells #[.slice a1 n1 c1, .slice a2 n2 c2, .slice a3 n3 c3] 38)).cell? ⟨w.heap.size, 0, none⟩ = some (.slice a1 n1 c1) := by rw [cell_of_row _ _ _ _ _ (0, 0) hr0]; rfl
  have p1 : (w.alloc (.cells #[.slice a1 n1 c1, .slice a2 n2 c2, .slice a3 n3 c3] 38)).cell? ⟨w.heap.size, 1, none⟩ = some (.slice a2 n2 c2) := by rw [cell_of_row _ _ _ _ _ (0, 0) hr0]; rfl
  have p2 : (w.alloc (.cells #[.slice a1 n1 c1, .slice a2 n2 c2, .slice a3 n3 c3] 38)).cell? ⟨w.heap.size, 2, none⟩ = some (.slice a3 n3 c3) := by rw [cell_of_row _ _ _ _ _ (0, 0) hr0]; rfl
  clear h hg ht hfd hm hb0 hr0
  refine (callsIn_wide (n := 4)).1 ?_
  have hro : (Fence.wide).round = none := rfl
  refine callsIn_of_wp_marks Tryd.func31 rfl trivial ?_ hro
  simp only [Tryd.ntmps31, List.size_toArray, List.length_cons, List.length_nil, Nat.reduceAdd, Nat.reduceSub, Array.replicate_succ, Array.replicate_zero, List.push_toArray, List.append_toArray, List.nil_append, List.cons_append]
  gi_wp2_with fail
  refine ⟨trivial, (callsIn_wide.2 HDI.out).mono ?_⟩
  rintro e w1 ⟨dg, rfl, hown, hb1⟩
  clear p0 p1 p2 HDI
  have HB1 := Lib.hid (below_then HB0.out hb1)
  have HR1 := Lib.hid ((hb1.block w.heap.size (by simp)).trans HR0.out)
  have HDG : Hid (w.heap.size < dg ∧ dg < w1.heap.size) := Lib.hid (by have := hown.lt dg rfl; simp at this; omega)
  have HD1 := Lib.hid (own_base (base' := w.heap.size) hown (fun g hg => by simp [Value.ownBlock] at hg; have := HDG.out; omega))
  clear hown hb1 HB0 HR0
  have hz1 : w.heap.size ≤ w1.heap.size := HB1.out.size
  have hb2 := below_alloc w1 (.cells #[.slice (some ⟨dg, 0, none⟩) (m + 1) (m + 1)] 34)
  have h72 : Boxed (w1.alloc (.cells #[.slice (some ⟨dg, 0, none⟩) (m + 1) (m + 1)] 34)) w1.heap.size 34 (.slice (some ⟨dg, 0, none⟩) (m + 1) (m + 1)) := Boxed.new w1 _ _
  gi_wp2_with (gi_at_make; refine wplIn_make_full tyI rfl _ _ rfl w.heap.size .i64 .i64 _ _ (N + 1) rfl rfl (by omega) (by omega) (by omega) (by omega) (by simp; omega) ?_)
  intro w3 hoc hg3
  have hz3 : w1.heap.size + 1 < w3.heap.size := by have := (hoc.lt (w1.heap.size + 1) (by simp [Value.ownBlock])).2; exact this
  have hmk := made_ints1 (N + 1)
  rw [Nat.mul_one] at hmk
  have HOC3 : Hid (w3.ownsRow w.heap.size 3 1 (.slice (some ⟨w1.heap.size + 1, 0, none⟩) (N + 1) (N + 1)) (N + 1) (ivs (List.replicate (N + 1) 0))) := Lib.hid (by
    have := hoc
    rwa [hmk] at this)
  have hB3 : Below w1.heap.size w1 w3 := hb2.grown hg3 (by simp) (fun r e => by cases e)
  have h73 : Boxed w3 w1.heap.size 34 (.slice (some ⟨dg, 0, none⟩) (m + 1) (m + 1)) := (hg3.block _ (by simp) (fun e => by cases e)).trans h72
  clear hb2 h72 hoc hg3 hmk
  have hb4 := below_alloc w3 (.cells #[.slice (some ⟨w1.heap.size + 1, 0, none⟩) (N + 1) (N + 1)] 34)
  have h84 : Boxed (w3.alloc (.cells #[.slice (some ⟨w1.heap.size + 1, 0, none⟩) (N + 1) (N + 1)] 34)) w3.heap.size 34 (.slice (some ⟨w1.heap.size + 1, 0, none⟩) (N + 1) (N + 1)) := Boxed.new w3 _ _
  have h74 := (hb4.block _ h73.lt).trans h73
  have hoc4 := own_below HOC3.out hb4
  gi_wp2_with (gi_at_make; refine wplIn_make_full tyT rfl _ _ rfl w.heap.size .i64 .i64 _ _ N rfl rfl rfl rfl (by omega) (by omega) (by simp; omega) ?_)
  intro w5 hof hg5
  have hz5 : w3.heap.size + 1 < w5.heap.size := by have := (hof.lt (w3.heap.size + 1) (by simp [Value.ownBlock])).2; exact this
  have hmk := tks_zero N
  have HOF5 : Hid (w5.ownsRow w.heap.size 46 2 (.slice (some ⟨w3.heap.size + 1, 0, none⟩) N N) N (tks (List.replicate N (0, 0)))) := Lib.hid (by
    have := hof
    rwa [hmk] at this)
  have hB5 : Below w1.heap.size w1 w5 := (below_then hB3 hb4).grown hg5 (by simp; omega) (fun r e => by cases e)
  have h75 : Boxed w5 w1.heap.size 34 (.slice (some ⟨dg, 0, none⟩) (m + 1) (m + 1)) := (hg5.block _ (Array.getElem?_eq_some_iff.1 h74).1 (fun e => by cases e)).trans h74
  have h85 : Boxed w5 w3.heap.size 34 (.slice (some ⟨w1.heap.size + 1, 0, none⟩) (N + 1) (N + 1)) := (hg5.block _ h84.lt (fun e => by cases e)).trans h84
  have HOC5 := Lib.hid ((ch_of_grown hg5).own hoc4 (fun g hg e => by cases e))
  clear hb4 h84 h74 hoc4 hof hg5 hmk h73 hB3 HOC3
  have hb6 := below_alloc2 w5 (.cells #[.slice (some ⟨w3.heap.size + 1, 0, none⟩) N N] 25) (.cells #[.int .i64 ((N : Int) - 1)] 3)
  have h96 : Boxed ((w5.alloc (.cells #[.slice (some ⟨w3.heap.size + 1, 0, none⟩) N N] 25)).alloc (.cells #[.int .i64 ((N : Int) - 1)] 3)) w5.heap.size 25 (.slice (some ⟨w3.heap.size + 1, 0, none⟩) N N) := heap_alloc2_old _ _ _
  have h106 : Boxed ((w5.alloc (.cells #[.slice (some ⟨w3.heap.size + 1, 0, none⟩) N N] 25)).alloc (.cells #[.int .i64 ((N : Int) - 1)] 3)) (w5.heap.size + 1) 3 (.int .i64 ((N : Int) - 1)) := heap_alloc2_new _ _ _
  have hz6 : ((w5.alloc (.cells #[.slice (some ⟨w3.heap.size + 1, 0, none⟩) N N] 25)).alloc (.cells #[.int .i64 ((N : Int) - 1)] 3)).heap.size = w5.heap.size + 2 := by simp
  gi_wp2
  have HCO : Hid (Co w w1.heap.size w3.heap.size w5.heap.size dg (w1.heap.size + 1) (w3.heap.size + 1) (w5.heap.size + 1)) := Lib.hid ⟨HDG.out.1, HDG.out.2, by omega, by omega, by omega, by omega, by omega⟩
  have HCK : Hid (Ck w w1.heap.size w3.heap.size w5.heap.size dg (w1.heap.size + 1) (w3.heap.size + 1) N m #[.slice a1 n1 c1, .slice a2 n2 c2, .slice a3 n3 c3] l3 (List.replicate (N + 1) 0) (List.replicate N (0, 0)) ((w5.alloc (.cells #[.slice (some ⟨w3.heap.size + 1, 0, none⟩) N N] 25)).alloc (.cells #[.int .i64 ((N : Int) - 1)] 3))) := Lib.hid
    ⟨((hB5.trans (hb6.mono (by omega))).block w.heap.size (by have := (Array.getElem?_eq_some_iff.1 HR1.out).1; omega)).trans HR1.out, (hb6.block _ h75.lt).trans h75, (hb6.block _ h85.lt).trans h85, h96, own_below (own_below HD1.out hB5) hb6, ⟨own_below HOC5.out hb6, own_below HOF5.out hb6, by omega⟩, below_then HB1.out (hB5.trans (hb6.mono (by omega)))⟩
  revert HCK h106 hz6
  clear hb6 h96 h75 h85 HOC5 HOF5 hB5 HD1 HR1 HB1
  generalize (w5.alloc (.cells #[.slice (some ⟨w3.heap.size + 1, 0, none⟩) N N] 25)).alloc (.cells #[.int .i64 ((N : Int) - 1)] 3) = w6
  intro h106 hz6 HCK
  generalize hZ0 : w5.heap.size + 1 = Z at *
  have HW5 : Hid (Z ≤ w6.heap.size) := Lib.hid (by omega)
  clear hz6 HDG
  generalize w1.heap.size + 1 = cb at *
  generalize w1.heap.size = B7 at *
  generalize w3.heap.size + 1 = fb at *
  generalize w3.heap.size = B8 at *
  generalize w5.heap.size = B9 at *
  clear hz1 hz3 hz5 hZ0 w1 w3 w5
  have HPR : Hid (∀ t, 0 ≤ Pa.pr l1 l2 l3 t ∧ Pa.pr l1 l2 l3 t ≤ 2097152) := Lib.hid (fun t => Pa.pr_in HGD.out.1 HGD.out.2.1 HGD.out.2.2.1 t)
  have HTX := Lib.hid (Pz.txt_of HFD.out.recs)
  have HDN : Hid (Pz.Dn (Pa.pr l1 l2 l3) (gb l) N (fun p => ra Rs (p : Int)) N (List.replicate (N + 1) 0) (List.replicate N (0, 0))) := Lib.hid (Pz.Dn.start N)
  refine wpIn_loop (fun a' wr => ∃ (i B10 : Nat) (Ds : List Nat) (u11 u28 u29 u30 u31 u32 u33 u34 u35 u36 u37 u38 u39 u40 u41 u42 u43 u44 u45 u46 u47 u48 u49 u50 u51 u52 u53 u71 : Value), i ≤ N ∧ Boxed wr B10 3 (.int .i64 ((i : Int) - 1)) ∧ Z ≤ B10 ∧ (∃ C T, Ck w B7 B8 B9 dg cb fb N m #[.slice a1 n1 c1, .slice a2 n2 c2, .slice a3 n3 c3] l3 C T wr ∧ Pz.Dn (Pa.pr l1 l2 l3) (gb l) N (fun p => ra Rs (p : Int)) i C T) ∧ Marks Z Ds wr ∧
      a' = { tmps := #[.agg #[.slice a1 n1 c1, .slice a2 n2 c2, .slice a3 n3 c3], .slice a N cap, .pointer (some ⟨gf, 0, none⟩), .pointer (some ⟨w.heap.size, 0, none⟩), undef, undef, .slice none 0 0, .pointer (some ⟨B7, 0, none⟩), .pointer (some ⟨B8, 0, none⟩), .pointer (some ⟨B9, 0, none⟩), .pointer (some ⟨B10, 0, none⟩), u11, undef, undef, .agg #[.slice a1 n1 c1, .slice a2 n2 c2, .slice a3 n3 c3], .slice a N cap, .int .i64 (N : Nat), .slice (some ⟨dg, 0, none⟩) (m + 1) (m + 1), .slice a N cap, .int .i64 (N : Nat), .int .i64 ((N : Int) + 1), .slice (some ⟨cb, 0, none⟩) (N + 1) (N + 1), .slice a N cap, .int .i64 (N : Nat), .slice (some ⟨fb, 0, none⟩) N N, .slice a N cap, .int .i64 (N : Nat), .int .i64 ((N : Int) - 1), u28, u29, u30, u31, u32, u33, u34, u35, u36, u37, u38, u39, u40, u41, u42, u43, u44, u45, u46, u47, u48, u49, u50, u51, u52, u53, undef, undef, undef, undef, undef, undef, undef, undef, undef, undef, undef, undef, undef, undef, undef, undef, undef, u71, undef], defers := Ds.map mkD })
    (fun a' wr => atIn a' wr) ?_ ?_
  · exact ⟨N, _, [], undef, undef, undef, undef, undef, undef, undef, undef, undef, undef, undef, undef, undef, undef, undef, undef, undef, undef, undef, undef, undef, undef, undef, undef, undef, undef, undef, undef, Nat.le_refl _, h106, Nat.le_refl _, ⟨_, _, HCK.out, HDN.out⟩, ⟨List.nodup_nil, fun D hD => by simp at hD⟩, rfl⟩
  · rintro a' wo ⟨i, B10, Ds, u11, u28, u29, u30, u31, u32, u33, u34, u35, u36, u37, u38, u39, u40, u41, u42, u43, u44, u45, u46, u47, u48, u49, u50, u51, u52, u53, u71, hi, hat, hzb, ⟨C, T, hck, hdn⟩, hmk, rfl⟩
    clear HCK HDN h106
    have HAT := Lib.hid hat
    have HCK := Lib.hid hck
    have HDN := Lib.hid hdn
    have HMK := Lib.hid hmk
    have c10 := hat.cell
    clear hat hck hdn hmk
    by_cases h0 : i = 0
    · subst h0
      have c9 := HCK.out.b9.cell
      have d0 : decide ((0 : Int) ≤ ((0 : Nat) : Int) - 1) = false := by decide
      clear d0
      have HRES : Hid (∀ W, Below w.heap.size w W → Hid (W.ownsRow w.heap.size 46 2 (.slice (some ⟨fb, 0, none⟩) N N) N (tks T)) → ChoosePost w l l1 l2 l3 N (fun p => ra Rs (p : Int)) (.returned (.slice (some ⟨fb, 0, none⟩) N N)) W) := Lib.hid (fun W h1 h2 => ⟨fb, C, T, rfl, h2.out, HDN.out, h1⟩)
      have hwz := HCO.out
      have hwZ : w.heap.size < Z := by have := hwz.i1; have := hwz.i2; have := hwz.i3; have := hwz.i4; have := hwz.i5; have := hwz.i6; have := hwz.i7; omega
      have hfZ : fb < Z := by have := hwz.i6; have := hwz.i7; omega
      gi_wp2
      refine leaves_marks (fun W => Below w.heap.size w W ∧ Hid (W.ownsRow w.heap.size 46 2 (.slice (some ⟨fb, 0, none⟩) N N) N (tks T))) ?_ ?_ Ds wo HMK.out ⟨HCK.out.bel, Lib.hid HCK.out.cz.o2⟩
      · rintro W D ⟨hq, hq2⟩ hD hd
        refine ⟨hq.grown (grownBy_putObj' W D (.deferred none)) hq.size (fun k e => by cases e; omega), Lib.hid ((ch_of_grown (grownBy_putObj' W D (.deferred none))).own hq2.out (fun g hg e => by simp [Value.ownBlock] at hg; cases e; omega))⟩
      · rintro W ⟨hq, hq2⟩
        refine ⟨_, results_tmp rfl _ _ _, ?_⟩
        exact HRES.out W hq hq2
    · obtain ⟨p, rfl⟩ : ∃ p, i = p + 1 := ⟨i - 1, by omega⟩
      have e1 : ((p + 1 : Nat) : Int) - 1 = (p : Int) := by omega
      rw [e1] at c10 HAT
      have hpN : p < N := by omega
      clear h0 e1
      have k8 := HCK.out.b8.cell
      have kp := og_int HCK.out.cz.o1 p (by omega)
      have kf := og_fz HCK.out.cz.o1 p
      have hpM : (p : Int) < (N : Int) + 1 := by omega
      have hp0 : (0 : Int) ≤ (p : Int) := by omega
      have hcbo : cb < wo.heap.size := (HCK.out.cz.o1.lt cb rfl).2
      have cn : ((wo.setCell ⟨cb, p, none⟩ (.int .i64 9223372036854775807)).alloc (.cells #[.nilFunc] 87)).cell? ⟨wo.heap.size, 0, none⟩ = some .nilFunc := by
        have hh := heap_alloc_last (wo.setCell ⟨cb, p, none⟩ (.int .i64 9223372036854775807)) (.cells #[.nilFunc] 87)
        rw [World.size_setCell] at hh
        rw [cell_of_row _ _ _ _ _ (0, 0) hh]; rfl
      have fn : ((wo.setCell ⟨cb, p, none⟩ (.int .i64 9223372036854775807)).alloc (.cells #[.nilFunc] 87)).frozen? ⟨wo.heap.size, 0, none⟩ = false := by
        have hh := heap_alloc_last (wo.setCell ⟨cb, p, none⟩ (.int .i64 9223372036854775807)) (.cells #[.nilFunc] 87)
        rw [World.size_setCell] at hh
        exact frozen_of_row _ _ _ _ _ hh
      gi_wp2_with fail
      have hbw : Below wo.heap.size wo wo := Below.refl _ _
      have HCA : Hid (Ck w B7 B8 B9 dg cb fb N m #[.slice a1 n1 c1, .slice a2 n2 c2, .slice a3 n3 c3] l3 (C.set p 9223372036854775807) T (wo.setCell ⟨cb, p, none⟩ (.int .i64 9223372036854775807))) := Lib.hid (HCK.out.ch HCO.out ((Ch.refl wo (fun k => k = cb ∨ k = fb)).set (p := ⟨cb, p, none⟩) (.inl (.inl rfl)) _) (HCK.out.cz.setc p _))
      have HDN2 := HDN
      have hcg : (C.set p 9223372036854775807).getD p 0 = 9223372036854775807 := Pz.getD_set_eq' (by rw [HDN.out.lc]; omega)
      have HCG := Lib.hid hcg
      have hzB : Z < wo.heap.size ∧ B10 < wo.heap.size := ⟨by have := HAT.out.lt; omega, HAT.out.lt⟩
      have hcoz := HCO.out
      have hbA : Boxed (wo.setCell ⟨cb, p, none⟩ (.int .i64 9223372036854775807)) B10 3 (.int .i64 (p : Nat)) := Bk.boxed_setO HAT.out (by have := hcoz.i4; have := hcoz.i5; have := hcoz.i6; have := hcoz.i7; omega) _ _
      have hMA : Marks Z Ds (wo.setCell ⟨cb, p, none⟩ (.int .i64 9223372036854775807)) := ⟨HMK.out.1, fun D hD => ⟨(HMK.out.2 D hD).1, (Below.heap_setCell wo ⟨cb, p, none⟩ _ D (by have := (HMK.out.2 D hD).1; have := hcoz.i4; have := hcoz.i5; have := hcoz.i6; have := hcoz.i7; show D ≠ cb; omega)).trans (HMK.out.2 D hD).2⟩⟩
      have hzA : (wo.setCell ⟨cb, p, none⟩ (.int .i64 9223372036854775807)).heap.size = wo.heap.size := World.size_setCell ..
      have HC10 := Lib.hid c10
      clear cn fn kp kf k8 c10 hcg HCK HDN HAT HMK hbw hcbo
      revert hzA HCA hbA hMA
      generalize wo.setCell ⟨cb, p, none⟩ (.int .i64 9223372036854775807) = wA
      generalize wo.heap.size = zo at hzB ⊢
      intro HCA hbA hMA hzA
      subst hzA
      have hb1 := below_alloc wA (.cells #[.func (.func 47) #[] #[.pointer (some ⟨B8, 0, none⟩), .pointer (some ⟨B10, 0, none⟩), .pointer (some ⟨B9, 0, none⟩)]] 87)
      have hX1 : Boxed (wA.alloc (.cells #[.func (.func 47) #[] #[.pointer (some ⟨B8, 0, none⟩), .pointer (some ⟨B10, 0, none⟩), .pointer (some ⟨B9, 0, none⟩)]] 87)) wA.heap.size 87 (.func (.func 47) #[] #[.pointer (some ⟨B8, 0, none⟩), .pointer (some ⟨B10, 0, none⟩), .pointer (some ⟨B9, 0, none⟩)]) := Boxed.new wA _ _
      have HC1 := Lib.hid (HCA.out.up HCO.out ((Ch.refl wA (fun k => Z ≤ k)).alloc (.cells #[.func (.func 47) #[] #[.pointer (some ⟨B8, 0, none⟩), .pointer (some ⟨B10, 0, none⟩), .pointer (some ⟨B9, 0, none⟩)]] 87)))
      have hA1 : Boxed (wA.alloc (.cells #[.func (.func 47) #[] #[.pointer (some ⟨B8, 0, none⟩), .pointer (some ⟨B10, 0, none⟩), .pointer (some ⟨B9, 0, none⟩)]] 87)) B10 3 (.int .i64 (p : Nat)) := (hb1.block _ hbA.lt).trans hbA
      have hM1 : Marks Z Ds (wA.alloc (.cells #[.func (.func 47) #[] #[.pointer (some ⟨B8, 0, none⟩), .pointer (some ⟨B10, 0, none⟩), .pointer (some ⟨B9, 0, none⟩)]] 87)) := ⟨hMA.1, fun D hD => ⟨(hMA.2 D hD).1, (hb1.block D (hMA.lt D hD)).trans (hMA.2 D hD).2⟩⟩
      have hz1 : wA.heap.size < (wA.alloc (.cells #[.func (.func 47) #[] #[.pointer (some ⟨B8, 0, none⟩), .pointer (some ⟨B10, 0, none⟩), .pointer (some ⟨B9, 0, none⟩)]] 87)).heap.size := by simp
      revert hX1 HC1 hA1 hM1 hz1
      clear hb1 HCA hbA hMA
      generalize wA.alloc (.cells #[.func (.func 47) #[] #[.pointer (some ⟨B8, 0, none⟩), .pointer (some ⟨B10, 0, none⟩), .pointer (some ⟨B9, 0, none⟩)]] 87) = w8
      generalize wA.heap.size = BX at hzB ⊢
      intro hX1 HC1 hA1 hM1 hz1
      clear wA
      have hz8 : Z < w8.heap.size ∧ B10 < w8.heap.size ∧ BX < w8.heap.size ∧ Z < BX ∧ B10 < BX := by omega
      obtain ⟨tb, toff, htb⟩ : ∃ tb toff, a = some ⟨tb, toff, none⟩ ∧ tb < w.heap.size ∧ w.cell? ⟨tb, toff + p, none⟩ = some (.int .u8 (gb l p)) := by
        obtain ⟨b, off, h1, h2, h3⟩ := HT.out.at' p hpN
        exact ⟨b, off, h1, h2, h3⟩
      obtain ⟨rfl, htw, htc⟩ := htb
      have hgl : gb l p < 256 := gb_lt l p
      have hl1 : n1 = 256 := by rw [← HP.out.h1.hlen]; exact HGD.out.2.2.2.1
      obtain ⟨qb, qo, hqe, hqw, hqc⟩ := HP.out.h1.at' (gb l p) (by omega)
      have HPL : Hid (Pa.pr l1 l2 l3 (0, ((gb l p : Nat) : Int)) = l1.getD (gb l p) 0) := Lib.hid (by unfold Pa.pr; rw [if_pos rfl, Int.toNat_natCast])
      have hzr := Pa.rng_get HGD.out.1 (gb l p)
      have HSPL : Hid (Pz.sp ((((0 : Nat) : Int)), ((gb l p : Nat) : Int)) = 1) := Lib.hid rfl
      have HTRY : Hid (∀ W, Below w8.heap.size w8 W → Calls Tryd.prog 47 #[.agg #[.int .i64 0, .int .i64 ((gb l p : Nat) : Int)], .int .i64 (l1.getD (gb l p) 0), .pointer (some ⟨B8, 0, none⟩), .pointer (some ⟨B10, 0, none⟩), .pointer (some ⟨B9, 0, none⟩)] W
          (TryPost W w.heap.size cb (N + 1) fb N N (C.set p 9223372036854775807) T p (l1.getD (gb l p) 0 + C.getD (p + 1) 0) (0, ((gb l p : Nat) : Int)))) := Lib.hid (fun W hb => by
        have hck := HC1.out.up HCO.out (Ch.of_below hb : Ch w8 W (fun k => Z ≤ k))
        have hrg := HDN2.out.rng (p + 1) (Nat.le_refl _) (by omega)
        have e1 : (C.set p 9223372036854775807).getD (p + 1) 0 = C.getD (p + 1) 0 := Pz.getD_set_ne' (by omega)
        have hco := HCO.out
        have := try_any B8 B10 B9 w.heap.size cb (N + 1) fb N N (C.set p 9223372036854775807) T p 0 ((gb l p : Nat) : Int) (l1.getD (gb l p) 0) W hck.b8 ((hb.block _ hA1.lt).trans hA1) hck.b9 hck.cz hN hpN (by omega) (by rw [HSPL.out]; omega) hzr.1 (by omega)
          (by rw [HSPL.out, e1]; have : ((N - (p + 1) : Nat) : Int) ≤ 1048576 := by omega
              omega)
          (by obtain ⟨o1, o2, o3, o4, o5, o6, o7⟩ := hco; omega)
        rw [HSPL.out, e1] at this
        exact this)
      have HLIT : Hid (∀ W, Calls Tryd.prog 27 #[.int .u8 ((gb l p : Nat) : Int)] W fun e w' => e = .returned (.agg #[.int .i64 0, .int .i64 ((gb l p : Nat) : Int)]) ∧ Below W.heap.size W w') := Lib.hid (fun W => literal_any (gb l p) W hgl)
      have HTK : Hid (∀ C' T', ((l1.getD (gb l p) 0 + C.getD (p + 1) 0 ≤ (C.set p 9223372036854775807).getD p 0 ∧ C' = (C.set p 9223372036854775807).set p (l1.getD (gb l p) 0 + C.getD (p + 1) 0) ∧ T' = T.set p (0, ((gb l p : Nat) : Int))) → Pz.Md (Pa.pr l1 l2 l3) (gb l) N (fun p => ra Rs (p : Int)) p [] C' T')) := Lib.hid (fun C' T' ⟨_, h2, h3⟩ => by
        subst h2 h3
        have e := Pz.Md.start HDN2.out hpN
        rw [HPL.out] at e
        have e2 : (C.set p 9223372036854775807).set p (l1.getD (gb l p) 0 + C.getD (p + 1) 0) = C.set p (l1.getD (gb l p) 0 + C.getD (p + 1) 0) := by simp
        rw [e2]; exact e)
      have HCB : Hid (l1.getD (gb l p) 0 + C.getD (p + 1) 0 ≤ (C.set p 9223372036854775807).getD p 0) := Lib.hid (by
        rw [HCG.out]
        have hrg := HDN2.out.rng (p + 1) (Nat.le_refl _) (by omega)
        have : ((N - (p + 1) : Nat) : Int) ≤ 1048576 := by omega
        omega)
      have HCK8 := HC1
      have q1 : w8.cell? ⟨BX, 0, none⟩ = some (.func (.func 47) #[] #[.pointer (some ⟨B8, 0, none⟩), .pointer (some ⟨B10, 0, none⟩), .pointer (some ⟨B9, 0, none⟩)]) := hX1.cell
      have q2 : w8.cell? ⟨B10, 0, none⟩ = some (.int .i64 (p : Nat)) := hA1.cell
      have q3 : w8.cell? ⟨tb, toff + p, none⟩ = some (.int .u8 (gb l p)) := (HC1.out.bel.cell (p := ⟨tb, toff + p, none⟩) htw).trans htc
      have q4 : w8.cell? ⟨w.heap.size, 0, none⟩ = some (.slice a1 n1 c1) := by rw [cell_of_row _ _ _ _ _ (0, 0) HC1.out.prow]; rfl
      have q5 : w8.cell? ⟨qb, qo + gb l p, none⟩ = some (.int .i64 (l1.getD (gb l p) 0)) := (HC1.out.bel.cell (p := ⟨qb, qo + gb l p, none⟩) hqw).trans hqc
      subst hqe
      have HLTS : Hid (BX < w8.heap.size ∧ B10 < w8.heap.size ∧ tb < w8.heap.size ∧ w.heap.size < w8.heap.size ∧ qb < w8.heap.size) := Lib.hid (by have := HC1.out.bel.size; have := (Array.getElem?_eq_some_iff.1 HC1.out.prow).1; omega)
      have HNOT : Hid ((BX ≠ cb ∧ BX ≠ fb) ∧ (B10 ≠ cb ∧ B10 ≠ fb) ∧ (tb ≠ cb ∧ tb ≠ fb) ∧ (w.heap.size ≠ cb ∧ w.heap.size ≠ fb) ∧ (qb ≠ cb ∧ qb ≠ fb)) := Lib.hid (by obtain ⟨o1, o2, o3, o4, o5, o6, o7⟩ := HCO.out; omega)
      have i1 : (p : Int) < (N : Int) := by omega
      have i2 : ((gb l p : Nat) : Int) < (n1 : Int) := by omega
      have i3 : (0 : Int) ≤ ((gb l p : Nat) : Int) := by omega
      have HX1 := Lib.hid hX1
      have HA1 := Lib.hid hA1
      have HM1 := Lib.hid hM1
      clear hX1 hA1 hM1 htc hqc hl1 htw hqw hgl
      refine wpIn_wide.2 ?_
      generalize l1.getD (gb l p) 0 = z at *
      generalize gb l p = g at *
      go_region_held3 (fun w' => w'.cell? ⟨BX, 0, none⟩ = some (.func (.func 47) #[] #[.pointer (some ⟨B8, 0, none⟩), .pointer (some ⟨B10, 0, none⟩), .pointer (some ⟨B9, 0, none⟩)]) ∧ w'.cell? ⟨B10, 0, none⟩ = some (.int .i64 (p : Nat)) ∧ w'.cell? ⟨tb, toff + p, none⟩ = some (.int .u8 (g : Nat)) ∧ w'.cell? ⟨w.heap.size, 0, none⟩ = some (.slice (some ⟨qb, qo, none⟩) n1 c1) ∧ w'.cell? ⟨qb, qo + g, none⟩ = some (.int .i64 z)) (go_keep)
        (first | (go_at_call 27; refine (HLIT.out _).mono ?_; rintro e w9 ⟨rfl, hb9⟩; have HB9 := Lib.hid hb9; have s1 := (hb9.cell (p := ⟨BX, 0, none⟩) HLTS.out.1).trans q1; have s2 := (hb9.cell (p := ⟨B10, 0, none⟩) HLTS.out.2.1).trans q2; have s3 := (hb9.cell (p := ⟨tb, toff + p, none⟩) HLTS.out.2.2.1).trans q3; have s4 := (hb9.cell (p := ⟨w.heap.size, 0, none⟩) HLTS.out.2.2.2.1).trans q4; have s5 := (hb9.cell (p := ⟨qb, qo + g, none⟩) HLTS.out.2.2.2.2).trans q5; clear hb9) | (go_at_call 47; refine (HTRY.out w9 (below_then (Below.drew (Below.refl w8.heap.size w8)) HB9.out)).mono ?_; rintro e wa ⟨rfl, hcha, hora⟩; have HCHA := Lib.hid hcha; have HORA := Lib.hid hora; have r1 := (World.cell?_of_block (a := ⟨BX, 0, none⟩) (hcha.block BX (Nat.lt_of_lt_of_le HLTS.out.1 HB9.out.size) (fun e => e.elim HNOT.out.1.1 HNOT.out.1.2))).trans s1; have r2 := (World.cell?_of_block (a := ⟨B10, 0, none⟩) (hcha.block B10 (Nat.lt_of_lt_of_le HLTS.out.2.1 HB9.out.size) (fun e => e.elim HNOT.out.2.1.1 HNOT.out.2.1.2))).trans s2; have r3 := (World.cell?_of_block (a := ⟨tb, toff + p, none⟩) (hcha.block tb (Nat.lt_of_lt_of_le HLTS.out.2.2.1 HB9.out.size) (fun e => e.elim HNOT.out.2.2.1.1 HNOT.out.2.2.1.2))).trans s3; have r4 := (World.cell?_of_block (a := ⟨w.heap.size, 0, none⟩) (hcha.block w.heap.size (Nat.lt_of_lt_of_le HLTS.out.2.2.2.1 HB9.out.size) (fun e => e.elim HNOT.out.2.2.2.1.1 HNOT.out.2.2.2.1.2))).trans s4; have r5 := (World.cell?_of_block (a := ⟨qb, qo + g, none⟩) (hcha.block qb (Nat.lt_of_lt_of_le HLTS.out.2.2.2.2 HB9.out.size) (fun e => e.elim HNOT.out.2.2.2.2.1 HNOT.out.2.2.2.2.2))).trans s5; clear hcha hora))
      have hck9 := HC1.out.up HCO.out (Ch.of_below (below_then (Below.drew (Below.refl w8.heap.size w8)) HB9.out) : Ch w8 w9 (fun k => Z ≤ k))
      obtain ⟨C1, T1, hcz1, hmd1⟩ : ∃ C1 T1, Pz.Cz wa w.heap.size cb (N + 1) fb N N C1 T1 ∧ Pz.Md (Pa.pr l1 l2 l3) (gb l) N (fun p => ra Rs (p : Int)) p [] C1 T1 := by
        rcases HORA.out with ⟨h1, h2⟩ | ⟨h1, h2⟩
        · exact ⟨_, _, h2, HTK.out _ _ ⟨h1, rfl, rfl⟩⟩
        · have := HCB.out; omega
      have hzw9 : w8.heap.size ≤ w9.heap.size := HB9.out.size
      have HKA := Lib.hid (hck9.ch HCO.out HCHA.out hcz1)
      have HMD := Lib.hid hmd1
      have hxa : Boxed wa BX 87 (.func (.func 47) #[] #[.pointer (some ⟨B8, 0, none⟩), .pointer (some ⟨B10, 0, none⟩), .pointer (some ⟨B9, 0, none⟩)]) := (HCHA.out.block BX (by omega) (fun e => e.elim HNOT.out.1.1 HNOT.out.1.2)).trans ((HB9.out.block BX (by show BX < w8.drew.heap.size; exact hz1)).trans HX1.out)
      have haa : Boxed wa B10 3 (.int .i64 (p : Nat)) := (HCHA.out.block B10 (by omega) (fun e => e.elim HNOT.out.2.1.1 HNOT.out.2.1.2)).trans ((HB9.out.block B10 (by show B10 < w8.drew.heap.size; exact hz8.2.1)).trans HA1.out)
      have HMA : Hid (Marks Z Ds wa) := Lib.hid ⟨HM1.out.1, fun D hD => ⟨(HM1.out.2 D hD).1, by
        have hDl := HM1.out.lt D hD
        have hDz := (HM1.out.2 D hD).1
        have hco := HCO.out
        rw [HCHA.out.block D (by omega) (by obtain ⟨o1, o2, o3, o4, o5, o6, o7⟩ := hco; omega), HB9.out.block D (by show D < w8.drew.heap.size; exact hDl)]
        exact (HM1.out.2 D hD).2⟩⟩
      have hza : w8.heap.size ≤ wa.heap.size := Nat.le_trans hzw9 HCHA.out.size
      have HFA := Lib.hid (HFD.out.below HKA.out.bel)
      clear q1 q2 q3 q4 q5 s1 s2 s3 s4 s5 r1 r2 r3 r4 r5 hcz1 hmd1 hck9 HCHA HORA HB9 HX1 HA1 HM1 HTRY HTK HCB HC1 HCK8 HLIT HSPL HPL HCG HDN2 hzr i2 i3 HNOT HLTS
      have ca := haa.cell
      gi_wp2_with fail
      refine ⟨trivial, (nearest_in Fence.wide 3 trivial rfl (.pointer (some ⟨gf, 0, none⟩)) (p : Int) wa (.inr ⟨gf, rfl⟩)).mono ?_⟩
      rintro e w' ⟨rfl, rfl⟩
      have hb5 := below_alloc2 wa (.cells #[.pointer (some ⟨gf, 0, none⟩)] 55) (.cells #[.int .i64 (p : Nat)] 3)
      have hA5 : Boxed ((wa.alloc (.cells #[.pointer (some ⟨gf, 0, none⟩)] 55)).alloc (.cells #[.int .i64 (p : Nat)] 3)) wa.heap.size 55 (.pointer (some ⟨gf, 0, none⟩)) := heap_alloc2_old _ _ _
      have hB5 : Boxed ((wa.alloc (.cells #[.pointer (some ⟨gf, 0, none⟩)] 55)).alloc (.cells #[.int .i64 (p : Nat)] 3)) (wa.heap.size + 1) 3 (.int .i64 (p : Nat)) := heap_alloc2_new _ _ _
      have hz5 : ((wa.alloc (.cells #[.pointer (some ⟨gf, 0, none⟩)] 55)).alloc (.cells #[.int .i64 (p : Nat)] 3)).heap.size = wa.heap.size + 2 := by simp
      gi_wp2_with fail
      revert hb5 hA5 hB5 hz5
      generalize (wa.alloc (.cells #[.pointer (some ⟨gf, 0, none⟩)] 55)).alloc (.cells #[.int .i64 (p : Nat)] 3) = W7
      intro hb5 hA5 hB5 hz5
      have hoZ : cb < Z ∧ fb < Z ∧ w.heap.size < cb ∧ w.heap.size < fb := by obtain ⟨o1, o2, o3, o4, o5, o6, o7⟩ := HCO.out; omega
      have hit := near_iter wa.heap.size (wa.heap.size + 1) gf eb base N (p : Int) l v Rs (fun k => k = cb ∨ k = fb) W7 hA5 hB5 (HFA.out.below hb5) hN
        (fun b hb => by have := (HFD.out.own.lt b hb).2; exact ⟨by omega, by omega⟩) (fun k hk => by omega)
      have HK7 := Lib.hid (HKA.out.up HCO.out (Ch.of_below hb5 : Ch wa W7 (fun k => Z ≤ k)))
      have hx7 : Boxed W7 BX 87 (.func (.func 47) #[] #[.pointer (some ⟨B8, 0, none⟩), .pointer (some ⟨B10, 0, none⟩), .pointer (some ⟨B9, 0, none⟩)]) := (hb5.block _ hxa.lt).trans hxa
      have ha7 : Boxed W7 B10 3 (.int .i64 (p : Nat)) := (hb5.block _ haa.lt).trans haa
      have HM7 : Hid (Marks Z Ds W7) := Lib.hid ⟨HMA.out.1, fun D hD => ⟨(HMA.out.2 D hD).1, (hb5.block D (HMA.out.lt D hD)).trans (HMA.out.2 D hD).2⟩⟩
      have HLD : Hid (∀ D, D ∈ Ds → D < W7.heap.size) := Lib.hid (fun D hD => HM7.out.lt D hD)
      have HZ7 : Hid (Z ≤ W7.heap.size ∧ BX < W7.heap.size ∧ B10 < W7.heap.size) := Lib.hid (by omega)
      have HX7 := Lib.hid hx7
      have HA7 := Lib.hid ha7
      clear hb5 hA5 hB5 hz5 hxa haa HKA HMA HFA ca hx7 ha7 hza hzw9
      apply range_iterF (F := Fence.wide) (n := 4) (P := Tryd.prog) (gf := 58) (lb := #[.pointer (some ⟨wa.heap.size, 0, none⟩), .pointer (some ⟨wa.heap.size + 1, 0, none⟩)]) (encs := nEnc) (hseq := hit)
        (I := fun pre W => (∃ C T, Ck w B7 B8 B9 dg cb fb N m #[.slice (some ⟨qb, qo, none⟩) n1 c1, .slice a2 n2 c2, .slice a3 n3 c3] l3 C T W ∧ Pz.Md (Pa.pr l1 l2 l3) (gb l) N (fun p => ra Rs (p : Int)) p pre C T) ∧ Boxed W B10 3 (.int .i64 (p : Nat)) ∧ Boxed W BX 87 (.func (.func 47) #[] #[.pointer (some ⟨B8, 0, none⟩), .pointer (some ⟨B10, 0, none⟩), .pointer (some ⟨B9, 0, none⟩)]) ∧ Marks Z Ds W ∧ W7.heap.size ≤ W.heap.size)
        (Ix := fun _ _ _ => False)
      case has =>
        intro k x A K hK
        simp only [nEnc]
        gi_wp2
        exact hK
      case hro => exact hro
      case h1 => omega
      case hg => rfl
      case hF => trivial
      case eg => exact enters_of Tryd.func58 (by kernel_rfl) rfl
      case hKt => exact fun h1 h2 => h1.trans h2
      case hKb => exact fun W l o o' hl hc => Bk.Kc.put W l o o' hl hc
      case hps => exact fun _ => rfl
      case hI =>
        rintro s A B row ⟨⟨C', T', h1, h2⟩, h3, h4, h5, h6⟩ hg hr
        have hz := HZ7.out
        refine ⟨⟨C', T', h1.up HCO.out ((ch_of_grown hg).wide (fun k hk => .inl (by have := hr k hk; omega))), h2⟩, (hg.block _ h3.lt (fun e => by have := hr _ e.symm; omega)).trans h3, (hg.block _ h4.lt (fun e => by have := hr _ e.symm; omega)).trans h4, ⟨h5.1, fun D hD => ⟨(h5.2 D hD).1, ?_⟩⟩, Nat.le_trans h6 hg.size⟩
        rw [hg.block D (h5.lt D hD) (fun e => by have := hr _ e.symm; have := HLD.out D hD; omega)]
        exact (h5.2 D hD).2
      case hX => exact fun _ _ _ _ _ hs _ _ => hs
      case h0 => exact ⟨⟨C1, T1, HK7.out, HMD.out⟩, HA7.out, HX7.out, HM7.out, Nat.le_refl _⟩
      case hout => exact fun _ _ _ _ h _ => h.elim
      case hend =>
        rintro ys W rfl ⟨⟨C', T', hk, hm⟩, ha, hx, hM, hz⟩ hK
        have hdn := hm.done HTX.out hpN HPR.out
        have ca := ha.cell
        have hb8 := below_alloc W (.cells #[.int .i64 ((p : Int) - 1)] 3)
        have hz7 := HZ7.out
        have HN1 : Hid (Boxed (W.alloc (.cells #[.int .i64 ((p : Int) - 1)] 3)) W.heap.size 3 (.int .i64 ((p : Int) - 1)) ∧ (∃ C T, Ck w B7 B8 B9 dg cb fb N m #[.slice (some ⟨qb, qo, none⟩) n1 c1, .slice a2 n2 c2, .slice a3 n3 c3] l3 C T (W.alloc (.cells #[.int .i64 ((p : Int) - 1)] 3)) ∧ Pz.Dn (Pa.pr l1 l2 l3) (gb l) N (fun p => ra Rs (p : Int)) p C T) ∧ Marks Z (W7.heap.size :: Ds) (W.alloc (.cells #[.int .i64 ((p : Int) - 1)] 3)) ∧ Z ≤ W.heap.size) := Lib.hid ⟨Boxed.new W _ _, ⟨C', T', hk.up HCO.out (Ch.of_below hb8 : Ch W _ (fun k => Z ≤ k)), hdn⟩, ⟨List.nodup_cons.2 ⟨fun h => by have := HLD.out _ h; omega, hM.1⟩, fun D hD => by
          rcases List.mem_cons.1 hD with rfl | hD
          · exact ⟨hz7.1, (hb8.block _ (Array.getElem?_eq_some_iff.1 hK).1).trans hK⟩
          · exact ⟨(hM.2 D hD).1, (hb8.block _ (hM.lt D hD)).trans (hM.2 D hD).2⟩⟩, by omega⟩
        clear hk hm ha hx hM hz hK hdn hb8 hit
        gi_wp2
        obtain ⟨r1, r2, r3, r4⟩ := HN1.out
        refine ⟨⟨p, W.heap.size, W7.heap.size :: Ds, _, _, _, _, _, _, _, _, _, _, _, _, _, _, _, _, _, _, _, _, _, _, _, _, _, _, _, _, by omega, r1, r4, r2, r3, rfl⟩, ?_⟩
        show (intOf ((_ : Option Value).getD undef) + 1).toNat < (intOf ((wo.cell? ⟨B10, 0, none⟩).getD undef) + 1).toNat
        rw [r1.cell, HC10.out]
        simp [intOf]
      case hbo =>
        rintro k pre x A ⟨⟨C', T', hk, hm⟩, ha, hx, hM, hz⟩ ⟨s, hs⟩
        obtain ⟨hpl, hxe⟩ := Lz.near_pre hs
        have hcho : Pz.Cho (gb l) (fun p => ra Rs (p : Int)) p ((x.1 : Int), (x.2 : Int)) := .inr ⟨x.1, by rw [hxe]; simp, by rw [hxe]; simp only; omega, by rw [hxe]⟩
        obtain ⟨hmt, hm2, hm3⟩ := Pz.Cho.mat HTX.out hpN (n := x.1) (by rw [hxe]; simp) (by rw [hxe]; simp only; omega)
        have hfar : Lz.far (ra Rs (p : Int)) x.1 = x.2 := by rw [hxe]
        rw [hfar] at hmt
        have hx3 : 3 ≤ x.1 := by rw [hxe]; simp
        obtain ⟨x1, x2⟩ := x
        simp only at hcho hmt hm2 hm3 hx3
        obtain ⟨ht1, ht2, ht3, _⟩ := hmt
        have hM4 := HM.out
        have hxm : x2 < m + 1 := by omega
        have hl2 : n2 = 259 := by rw [← HP.out.h2.hlen]; exact HGD.out.2.2.2.2.1
        obtain ⟨ub, uo, hue, huw, huc⟩ := HP.out.h2.at' x1 (by omega)
        have hud := og_int hk.dist x2 hxm
        rw [Pa.dl_getD l3 (m + 1) hxm, if_pos ⟨hxm, ht1⟩] at hud
        have HPX : Hid (Pa.pr l1 l2 l3 ((x1 : Int), (x2 : Int)) = l2.getD x1 0 + l3.getD (Sy.dsy x2) 0) := Lib.hid (by unfold Pa.pr; rw [if_neg (by simp; omega), Int.toNat_natCast, Int.toNat_natCast])
        have hz2 := Pa.rng_get HGD.out.2.1 x1
        have hz3 := Pa.rng_get HGD.out.2.2.1 (Sy.dsy x2)
        have hfit := Pz.Cho.fits HTX.out hpN hcho
        have hsx := Pz.sp_pos ((x1 : Int), (x2 : Int))
        have hrg := hm.dn.rng (p + Pz.sp ((x1 : Int), (x2 : Int))) (by omega) hfit.1
        have HTRY : Hid (Calls Tryd.prog 47 #[.agg #[.int .i64 (x1 : Nat), .int .i64 (x2 : Nat)], .int .i64 (l2.getD x1 0 + l3.getD (Sy.dsy x2) 0), .pointer (some ⟨B8, 0, none⟩), .pointer (some ⟨B10, 0, none⟩), .pointer (some ⟨B9, 0, none⟩)] A.drew
            (TryPost A.drew w.heap.size cb (N + 1) fb N N C' T' p (l2.getD x1 0 + l3.getD (Sy.dsy x2) 0 + C'.getD (p + Pz.sp ((x1 : Int), (x2 : Int))) 0) ((x1 : Int), (x2 : Int)))) := Lib.hid (by
          have hd : Ch A A.drew (fun k => Z ≤ k) := (Ch.refl A _).drew
          have hck := hk.up HCO.out hd
          have hco := HCO.out
          exact try_any B8 B10 B9 w.heap.size cb (N + 1) fb N N C' T' p x1 (x2 : Int) _ A.drew hck.b8 ha hck.b9 hck.cz hN hpN hm2 hfit.1 (by omega) (by omega)
            (by have : ((N - (p + Pz.sp ((x1 : Int), (x2 : Int))) : Nat) : Int) ≤ 1048576 := by omega
                omega)
            (by obtain ⟨o1, o2, o3, o4, o5, o6, o7⟩ := hco; omega))
        have q1 : A.cell? ⟨BX, 0, none⟩ = some (.func (.func 47) #[] #[.pointer (some ⟨B8, 0, none⟩), .pointer (some ⟨B10, 0, none⟩), .pointer (some ⟨B9, 0, none⟩)]) := hx.cell
        have q3 : A.cell? ⟨w.heap.size, 1, none⟩ = some (.slice a2 n2 c2) := by rw [cell_of_row _ _ _ _ _ (0, 0) hk.prow]; rfl
        have q4 : A.cell? ⟨B7, 0, none⟩ = some (.slice (some ⟨dg, 0, none⟩) (m + 1) (m + 1)) := hk.b7.cell
        have q5 : A.cell? ⟨ub, uo + x1, none⟩ = some (.int .i64 (l2.getD x1 0)) := (hk.bel.cell (p := ⟨ub, uo + x1, none⟩) huw).trans huc
        subst hue
        have HPOST : Hid (∀ wz, Ch A.drew wz (fun k => k = cb ∨ k = fb) → ((l2.getD x1 0 + l3.getD (Sy.dsy x2) 0 + C'.getD (p + Pz.sp ((x1 : Int), (x2 : Int))) 0 ≤ C'.getD p 0 ∧ Pz.Cz wz w.heap.size cb (N + 1) fb N N (C'.set p (l2.getD x1 0 + l3.getD (Sy.dsy x2) 0 + C'.getD (p + Pz.sp ((x1 : Int), (x2 : Int))) 0)) (T'.set p ((x1 : Int), (x2 : Int)))) ∨ (C'.getD p 0 < l2.getD x1 0 + l3.getD (Sy.dsy x2) 0 + C'.getD (p + Pz.sp ((x1 : Int), (x2 : Int))) 0 ∧ Pz.Cz wz w.heap.size cb (N + 1) fb N N C' T')) →
            KeepsFrom W7.heap.size A wz ∧ Bk.Kc (fun k => k = cb ∨ k = fb) A wz ∧ ((∃ C T, Ck w B7 B8 B9 dg cb fb N m #[.slice (some ⟨qb, qo, none⟩) n1 c1, .slice (some ⟨ub, uo, none⟩) n2 c2, .slice a3 n3 c3] l3 C T wz ∧ Pz.Md (Pa.pr l1 l2 l3) (gb l) N (fun p => ra Rs (p : Int)) p (pre ++ [(x1, x2)]) C T) ∧ Boxed wz B10 3 (.int .i64 (p : Nat)) ∧ Boxed wz BX 87 (.func (.func 47) #[] #[.pointer (some ⟨B8, 0, none⟩), .pointer (some ⟨B10, 0, none⟩), .pointer (some ⟨B9, 0, none⟩)]) ∧ Marks Z Ds wz ∧ W7.heap.size ≤ wz.heap.size)) := Lib.hid (fun wz hc ho => by
          have hc2 : Ch A wz (fun k => k = cb ∨ k = fb) := ⟨hc.os, hc.tape, hc.output, hc.size, hc.block⟩
          have hz7 := HZ7.out
          have hbl : ∀ q, q < A.heap.size → Z ≤ q → wz.heap[q]? = A.heap[q]? := fun q hq hZ => hc2.block q hq (by omega)
          refine ⟨⟨hc2.size, fun q o hq ho2 _ => (hbl q (Array.getElem?_eq_some_iff.1 ho2).1 (by omega)).trans ho2⟩, fun q o hq _ hu => (hc2.block q (Array.getElem?_eq_some_iff.1 hq).1 hu).trans hq, ?_, (hbl B10 ha.lt (by omega)).trans ha, (hbl BX hx.lt (by omega)).trans hx, ⟨hM.1, fun D hD => ⟨(hM.2 D hD).1, (hbl D (hM.lt D hD) (hM.2 D hD).1).trans (hM.2 D hD).2⟩⟩, Nat.le_trans hz hc2.size⟩
          rcases ho with ⟨h1, h2⟩ | ⟨h1, h2⟩
          · rw [← HPX.out] at h1 h2
            exact ⟨_, _, hk.ch HCO.out hc2 h2, hm.take hpN hcho h1⟩
          · rw [← HPX.out] at h1
            exact ⟨_, _, hk.ch HCO.out hc2 h2, hm.pass h1⟩)
        have i1 : (0 : Int) ≤ (x1 : Int) := by omega
        have i2 : (x1 : Int) < (n2 : Int) := by omega
        have i3 : (0 : Int) ≤ (x2 : Int) := by omega
        have i4 : (x2 : Int) < (m : Int) + 1 := by omega
        have HLN5 : Hid ((BX < A.drew.heap.size ∧ w.heap.size < A.drew.heap.size ∧ B7 < A.drew.heap.size ∧ ub < A.drew.heap.size ∧ dg < A.drew.heap.size) ∧ ¬ (BX = cb ∨ BX = fb) ∧ ¬ (w.heap.size = cb ∨ w.heap.size = fb) ∧ ¬ (B7 = cb ∨ B7 = fb) ∧ ¬ (ub = cb ∨ ub = fb) ∧ ¬ (dg = cb ∨ dg = fb)) := Lib.hid (by
          have t1 := hx.lt; have t2 := (Array.getElem?_eq_some_iff.1 hk.prow).1; have t3 := hk.b7.lt; have t5 := (hk.dist.lt dg rfl).2; have t6 : A.drew.heap.size = A.heap.size := rfl
          obtain ⟨o1, o2, o3, o4, o5, o6, o7⟩ := HCO.out
          rw [t6]; omega)
        clear hk hm ha hx hM hz hs hxe hcho hm2 hm3 hfar hl2 huc hfit hsx hrg huw hM4 ht1 ht2 ht3 hx3 hpl hit
        generalize C'.getD (p + Pz.sp ((x1 : Int), (x2 : Int))) 0 = cq at *
        generalize l2.getD x1 0 = za at *
        generalize l3.getD (Sy.dsy x2) 0 = zb at *
        have wz1 : IntKind.i64.wrap (za + zb) = za + zb := IntWalk.i64_in _ ⟨by omega, by omega⟩
        have hmix : Tryd.prog.follows .mixedOrders = true := by kernel_rfl
        gi_wp2_with fail
        have hSS : (fun w' : World => w'.cell? ⟨BX, 0, none⟩ = some (.func (.func 47) #[] #[.pointer (some ⟨B8, 0, none⟩), .pointer (some ⟨B10, 0, none⟩), .pointer (some ⟨B9, 0, none⟩)]) ∧ w'.cell? ⟨w.heap.size, 1, none⟩ = some (.slice (some ⟨ub, uo, none⟩) n2 c2) ∧ w'.cell? ⟨B7, 0, none⟩ = some (.slice (some ⟨dg, 0, none⟩) (m + 1) (m + 1)) ∧ w'.cell? ⟨ub, uo + x1, none⟩ = some (.int .i64 za) ∧ w'.cell? ⟨dg, x2, none⟩ = some (.int .i64 zb)) A.drew := ⟨q1, q3, q4, q5, hud⟩
        have HSN : Hid (∀ wz, Ch A.drew wz (fun k => k = cb ∨ k = fb) → (fun w' : World => w'.cell? ⟨BX, 0, none⟩ = some (.func (.func 47) #[] #[.pointer (some ⟨B8, 0, none⟩), .pointer (some ⟨B10, 0, none⟩), .pointer (some ⟨B9, 0, none⟩)]) ∧ w'.cell? ⟨w.heap.size, 1, none⟩ = some (.slice (some ⟨ub, uo, none⟩) n2 c2) ∧ w'.cell? ⟨B7, 0, none⟩ = some (.slice (some ⟨dg, 0, none⟩) (m + 1) (m + 1)) ∧ w'.cell? ⟨ub, uo + x1, none⟩ = some (.int .i64 za) ∧ w'.cell? ⟨dg, x2, none⟩ = some (.int .i64 zb)) wz) := Lib.hid (fun wz hc => by
          obtain ⟨⟨l1, l2, l3, l4, l5⟩, n1, n2, n3, n4, n5⟩ := HLN5.out
          exact ⟨(World.cell?_of_block (a := ⟨BX, 0, none⟩) (hc.block BX l1 n1)).trans q1, (World.cell?_of_block (a := ⟨w.heap.size, 1, none⟩) (hc.block w.heap.size l2 n2)).trans q3, (World.cell?_of_block (a := ⟨B7, 0, none⟩) (hc.block B7 l3 n3)).trans q4,
            (World.cell?_of_block (a := ⟨ub, uo + x1, none⟩) (hc.block ub l4 n4)).trans q5, (World.cell?_of_block (a := ⟨dg, x2, none⟩) (hc.block dg l5 n5)).trans hud⟩)
        have HSS := Lib.hid hSS
        clear q1 q3 q4 q5 hud hSS
        refine Go.wpIn_mono (region_round (Q := Ends (fun wz => KeepsFrom W7.heap.size A wz ∧ Bk.Kc (fun k => k = cb ∨ k = fb) A wz ∧ ((∃ C T, Ck w B7 B8 B9 dg cb fb N m #[.slice (some ⟨qb, qo, none⟩) n1 c1, .slice (some ⟨ub, uo, none⟩) n2 c2, .slice a3 n3 c3] l3 C T wz ∧ Pz.Md (Pa.pr l1 l2 l3) (gb l) N (fun p => ra Rs (p : Int)) p (pre ++ [(x1, x2)]) C T) ∧ Boxed wz B10 3 (.int .i64 (p : Nat)) ∧ Boxed wz BX 87 (.func (.func 47) #[] #[.pointer (some ⟨B8, 0, none⟩), .pointer (some ⟨B10, 0, none⟩), .pointer (some ⟨B9, 0, none⟩)]) ∧ Marks Z Ds wz ∧ W7.heap.size ≤ wz.heap.size)))
          (fun w' : World => w'.cell? ⟨BX, 0, none⟩ = some (.func (.func 47) #[] #[.pointer (some ⟨B8, 0, none⟩), .pointer (some ⟨B10, 0, none⟩), .pointer (some ⟨B9, 0, none⟩)]) ∧ w'.cell? ⟨w.heap.size, 1, none⟩ = some (.slice (some ⟨ub, uo, none⟩) n2 c2) ∧ w'.cell? ⟨B7, 0, none⟩ = some (.slice (some ⟨dg, 0, none⟩) (m + 1) (m + 1)) ∧ w'.cell? ⟨ub, uo + x1, none⟩ = some (.int .i64 za) ∧ w'.cell? ⟨dg, x2, none⟩ = some (.int .i64 zb)) hmix (by kernel_rfl) (ends_no _) ?_) ?_
        case refine_1 =>
          refine H_take (i := 0) (v := ?_) rfl (by kernel_rfl) (by kernel_rfl) (by kernel_rfl) (fun _ _ _ h => by cases h.1) HSS.out (by rfl) ?_ ?_
          rotate_left
          · (intro w' hw'; obtain ⟨j0, j1, j2, j3, j4⟩ := hw'; first | (go_simp; done) | (go_simp; with_reducible rfl))
          try simp only [Act.put, List.setIfInBounds_toArray, List.set_cons_zero, List.set_cons_succ]
          refine H_take (i := 1) (v := ?_) rfl (by kernel_rfl) (by kernel_rfl) (by kernel_rfl) (fun _ _ _ h => by cases h.1) HSS.out (by rfl) ?_ ?_
          rotate_left
          · (intro w' hw'; obtain ⟨j0, j1, j2, j3, j4⟩ := hw'; first | (go_simp; done) | (go_simp; with_reducible rfl))
          try simp only [Act.put, List.setIfInBounds_toArray, List.set_cons_zero, List.set_cons_succ]
          refine H_take (i := 2) (v := ?_) rfl (by kernel_rfl) (by kernel_rfl) (by kernel_rfl) (fun _ _ _ h => by cases h.1) HSS.out (by rfl) ?_ ?_
          rotate_left
          · (intro w' hw'; obtain ⟨j0, j1, j2, j3, j4⟩ := hw'; first | (go_simp; done) | (go_simp; with_reducible rfl))
          try simp only [Act.put, List.setIfInBounds_toArray, List.set_cons_zero, List.set_cons_succ]
          refine H_take (i := 3) (v := ?_) rfl (by kernel_rfl) (by kernel_rfl) (by kernel_rfl) (fun _ _ _ h => by cases h.1) HSS.out (by rfl) ?_ ?_
          rotate_left
          · (intro w' hw'; obtain ⟨j0, j1, j2, j3, j4⟩ := hw'; first | (go_simp; done) | (go_simp; with_reducible rfl))
          try simp only [Act.put, List.setIfInBounds_toArray, List.set_cons_zero, List.set_cons_succ]
          refine H_take (i := 4) (v := ?_) rfl (by kernel_rfl) (by kernel_rfl) (by kernel_rfl) (fun _ _ _ h => by cases h.1) HSS.out (by rfl) ?_ ?_
          rotate_left
          · (intro w' hw'; obtain ⟨j0, j1, j2, j3, j4⟩ := hw'; first | (go_simp; done) | (go_simp; with_reducible rfl))
          try simp only [Act.put, List.setIfInBounds_toArray, List.set_cons_zero, List.set_cons_succ]
          refine H_take (i := 5) (v := ?_) rfl (by kernel_rfl) (by kernel_rfl) (by kernel_rfl) (fun _ _ _ h => by cases h.1) HSS.out (by rfl) ?_ ?_
          rotate_left
          · (intro w' hw'; obtain ⟨j0, j1, j2, j3, j4⟩ := hw'; first | (go_simp; done) | (go_simp; with_reducible rfl))
          try simp only [Act.put, List.setIfInBounds_toArray, List.set_cons_zero, List.set_cons_succ]
          refine H_take (i := 6) (v := ?_) rfl (by kernel_rfl) (by kernel_rfl) (by kernel_rfl) (fun _ _ _ h => by cases h.1) HSS.out (by rfl) ?_ ?_
          rotate_left
          · (intro w' hw'; obtain ⟨j0, j1, j2, j3, j4⟩ := hw'; first | (go_simp; done) | (go_simp; with_reducible rfl))
          try simp only [Act.put, List.setIfInBounds_toArray, List.set_cons_zero, List.set_cons_succ]
          refine H_take (i := 7) (v := ?_) rfl (by kernel_rfl) (by kernel_rfl) (by kernel_rfl) (fun _ _ _ h => by cases h.1) HSS.out (by rfl) ?_ ?_
          rotate_left
          · (intro w' hw'; obtain ⟨j0, j1, j2, j3, j4⟩ := hw'; first | (go_simp; done) | (go_simp; with_reducible rfl))
          try simp only [Act.put, List.setIfInBounds_toArray, List.set_cons_zero, List.set_cons_succ]
          refine H_take (i := 8) (v := ?_) rfl (by kernel_rfl) (by kernel_rfl) (by kernel_rfl) (fun _ _ _ h => by cases h.1) HSS.out (by rfl) ?_ ?_
          rotate_left
          · (intro w' hw'; obtain ⟨j0, j1, j2, j3, j4⟩ := hw'; first | (go_simp; done) | (go_simp; with_reducible rfl))
          try simp only [Act.put, List.setIfInBounds_toArray, List.set_cons_zero, List.set_cons_succ]
          refine H_take (i := 9) (v := ?_) rfl (by kernel_rfl) (by kernel_rfl) (by kernel_rfl) (fun _ _ _ h => by cases h.1) HSS.out (by rfl) ?_ ?_
          rotate_left
          · (intro w' hw'; obtain ⟨j0, j1, j2, j3, j4⟩ := hw'; first | (go_simp; done) | (go_simp; with_reducible rfl))
          try simp only [Act.put, List.setIfInBounds_toArray, List.set_cons_zero, List.set_cons_succ]
          refine H_take (i := 10) (v := ?_) rfl (by kernel_rfl) (by kernel_rfl) (by kernel_rfl) (fun _ _ _ h => by cases h.1) HSS.out (by rfl) ?_ ?_
          rotate_left
          · (intro w' hw'; obtain ⟨j0, j1, j2, j3, j4⟩ := hw'; first | (go_simp; done) | (go_simp; with_reducible rfl))
          try simp only [Act.put, List.setIfInBounds_toArray, List.set_cons_zero, List.set_cons_succ]
          refine H_take (i := 11) (v := ?_) rfl (by kernel_rfl) (by kernel_rfl) (by kernel_rfl) (fun _ _ _ h => by cases h.1) HSS.out (by rfl) ?_ ?_
          rotate_left
          · (intro w' hw'; obtain ⟨j0, j1, j2, j3, j4⟩ := hw'; first | (go_simp; done) | (go_simp; with_reducible rfl))
          try simp only [Act.put, List.setIfInBounds_toArray, List.set_cons_zero, List.set_cons_succ]
          refine H_take (i := 12) (v := ?_) rfl (by kernel_rfl) (by kernel_rfl) (by kernel_rfl) (fun _ _ _ h => by cases h.1) HSS.out (by rfl) ?_ ?_
          rotate_left
          · (intro w' hw'; obtain ⟨j0, j1, j2, j3, j4⟩ := hw'; first | (go_simp; done) | (go_simp; with_reducible rfl))
          try simp only [Act.put, List.setIfInBounds_toArray, List.set_cons_zero, List.set_cons_succ]
          refine H_take (i := 13) (v := ?_) rfl (by kernel_rfl) (by kernel_rfl) (by kernel_rfl) (fun _ _ _ h => by cases h.1) HSS.out (by rfl) ?_ ?_
          rotate_left
          · (intro w' hw'; obtain ⟨j0, j1, j2, j3, j4⟩ := hw'; first | (go_simp; done) | (go_simp; with_reducible rfl))
          try simp only [Act.put, List.setIfInBounds_toArray, List.set_cons_zero, List.set_cons_succ]
          refine H_step (i := 14) (by kernel_rfl) rfl (fun K hK => ?_)
          go_simp
          go_at_call 47
          refine HTRY.out.mono ?_
          rintro e wz ⟨rfl, hch, hor⟩
          have HEND := Lib.hid (HPOST.out wz hch hor)
          have hsw := HSN.out wz hch
          clear hch hor
          go_simp
          refine hK.out _ _ hsw ?_
          clear hK K
          try simp only [Act.put, List.setIfInBounds_toArray, List.set_cons_zero, List.set_cons_succ]
          refine wpAnyH_done (by kernel_rfl) ?_ _
          exact ⟨rfl, HEND.out⟩
        rintro e a2 wz ⟨rfl, hz1, hz2, hz3⟩
        have HZE := Lib.hid (And.intro hz1 (And.intro hz2 hz3))
        clear hz1 hz2 hz3 HSN HSS HTRY HPOST HLN5
        gi_wp2
        exact HZE.out
end
end Go.Proofs.YtdojhglpiejfjaaDoor
end
