/- LaceAll, the law's function. -/
import Derived.Test.YtfdnjblbhbkndaaDoorLcAlMem
import Derived.Test.YtfdnjblbhbkndaaDoorLcEq3
import Derived.Test.YtfdnjblbhbkndaaDoorRegionTwo
import Derived.Test.YtfdnjblbhbkndaaDoorLcPassIt
import Derived.Test.YtfdnjblbhbkndaaDoorRegionOne
import Derived.Test.YtfdnjblbhbkndaaDoorLcOnMath
import Derived.Test.YtfdnjblbhbkndaaDoorWalkIn
import Derived.Test.YtfdnjblbhbkndaaDoorLcSpread
namespace Go.Proofs.YtfdnjblbhbkndaaDoor
open Go.RowKit Go.Shelf
attribute [local go_sem] Oper.semAt_some

namespace Lc
theorem res_b8 {fn : Func} (hf : fn.results = #[.cell 8 4]) (tmps : Array Value) (W : World) (g : Nat) (hp : tmps.getD 8 undef = .pointer (some ⟨g, 0, none⟩)) (h : Boxed W g 4 (.bool true)) : (results fn tmps).run Tryd.prog W = .ok (.bool true) W := by
  have hc := h.cell
  refine (results_cell1 (p := 8) (ty := 4) hf tmps Tryd.prog W).trans ?_
  rw [hp]
  have hl : (loadVar 4 ⟨g, 0, none⟩).run Tryd.prog W = .ok (.bool true) W := by go_simp
  simp [asAddr, hl, Result.andThen]
set_option maxRecDepth 100000 in
set_option maxHeartbeats 40000000 in
theorem all_any (a b l c : Int) (w : World) (hlp : Lp w) : Calls Tryd.prog 6 #[.int .i64 a, .int .i64 b, .int .i64 l, .int .i64 c] w fun e w' => e = .returned (.bool true) ∧ Below w.heap.size w w' := by
  have hro : (Fence.wide).round = none := rfl
  have hmix : Tryd.prog.follows .mixedOrders = true := by kernel_rfl
  have hb2 := below_alloc2 w (.cells #[.int .i64 c] 3) (.cells #[.bool false] 4)
  have x0 : Boxed ((w.alloc (.cells #[.int .i64 c] 3)).alloc (.cells #[.bool false] 4)) w.heap.size 3 (.int .i64 c) := heap_alloc2_old _ _ _
  have x1 : Boxed ((w.alloc (.cells #[.int .i64 c] 3)).alloc (.cells #[.bool false] 4)) (w.heap.size + 1) 4 (.bool false) := heap_alloc2_new _ _ _
  have hz2 : ((w.alloc (.cells #[.int .i64 c] 3)).alloc (.cells #[.bool false] 4)).heap.size = w.heap.size + 2 := by simp
  refine (callsIn_wide (n := 4)).1 ?_
  refine callsIn_of_wp_marks Tryd.func6 rfl trivial ?_ hro
  simp only [Tryd.ntmps6, List.size_toArray, List.length_cons, List.length_nil, Nat.reduceAdd, Nat.reduceSub, Array.replicate_succ, Array.replicate_zero, List.push_toArray, List.append_toArray, List.nil_append, List.cons_append]
  gi_wp2_with fail
  revert hb2 x0 x1 hz2
  generalize (w.alloc (.cells #[.int .i64 c] 3)).alloc (.cells #[.bool false] 4) = w2
  intro hb2 x0 x1 hz2
  have hpl := Place_any 2 1 0 w2 (hlp.below hb2)
  have e44 : plc 2 1 0 = (4, 4) := by decide +kernel
  rw [e44] at hpl
  refine ⟨trivial, (callsIn_wide.2 hpl).mono ?_⟩
  rintro e w3 ⟨rfl, hb3⟩
  have HLP0 := Lib.hid hlp
  have y0 := (hb3.block _ x0.lt).trans x0
  have y1 := (hb3.block _ x1.lt).trans x1
  have hbw3 := hb2.trans (hb3.mono hb2.size)
  have hz3 := hb3.size
  have k4 := below_alloc w3 (.cells #[.int .i64 0] 3)
  have z2 : Boxed (w3.alloc (.cells #[.int .i64 0] 3)) w3.heap.size 3 (.int .i64 0) := World.alloc_heap_new w3 _
  have z0 := (k4.block _ (Boxed.lt y0)).trans y0
  have z1 := (k4.block _ (Boxed.lt y1)).trans y1
  have hz4 : (w3.alloc (.cells #[.int .i64 0] 3)).heap.size = w3.heap.size + 1 := by simp
  have hbw4 := hbw3.trans (k4.mono hbw3.size)
  clear hpl e44 hb3 x0 x1 y0 y1 hb2 hbw3 k4 hlp
  gi_wp2_with fail
  revert z0 z1 z2 hz4 hbw4
  generalize w3.alloc (.cells #[.int .i64 0] 3) = w4
  intro z2 z0 z1 hz4 hbw4
  have h3 := three_boxes w4 8 8 1
  refine ⟨trivial, (passes_in Fence.wide 3 trivial rfl 8 8 1 _).mono ?_⟩
  rintro e w' ⟨rfl, rfl⟩
  obtain ⟨hb5, b1, b2, b3, hz5⟩ := h3
  revert hb5 b1 b2 b3 hz5
  generalize ((w4.alloc (.cells #[.int .i64 8] 3)).alloc (.cells #[.int .i64 8] 3)).alloc (.cells #[.int .i64 1] 3) = W5
  intro hb5 b1 b2 b3 hz5
  obtain ⟨S, hS⟩ : ∃ S, w3.heap.size = S := ⟨_, rfl⟩
  obtain ⟨X, hX⟩ : ∃ X, w4.heap.size = X := ⟨_, rfl⟩
  rw [hS] at z2 ⊢
  rw [hX] at b1 b2 b3 ⊢
  have hlp5 := HLP0.out.below (hbw4.trans (hb5.mono hbw4.size))
  have hit := passes_iter X (X + 1) (X + 2) 8 8 1 (fun k => k = S) W5 b1 b2 b3 hlp5 (fun k hk => by omega)
  rw [eight.1] at hit
  have r0 := (hb5.block _ (Boxed.lt z0)).trans z0
  have r1 := (hb5.block _ (Boxed.lt z1)).trans z1
  have r2 := (hb5.block _ z2.lt).trans z2
  have hbw5 := hbw4.trans (hb5.mono hbw4.size)
  have HZ : Hid (w.heap.size + 2 ≤ S ∧ S < W5.heap.size) := Lib.hid (by omega)
  clear hb5 b1 b2 b3 hz5 hlp5 z0 z1 z2 hz4 hbw4 hz3 hz2 hS hX
  gi_wp2_with fail
  have HVW := Lib.hid hbw5.size
  refine range_iterNB (F := Fence.wide) (n := 4) (P := Tryd.prog) (gf := 19) (lb := #[.pointer (some ⟨X, 0, none⟩), .pointer (some ⟨X + 1, 0, none⟩), .pointer (some ⟨X + 2, 0, none⟩)]) hro (by omega) rfl trivial (enters_of Tryd.func19 (by kernel_rfl) rfl)
    (encs := sEnc) (hseq := hit) (fun h1 h2 => h1.trans h2) (fun W l o o' hl hc => Bk.Kc.put W l o o' hl hc) (fun _ => rfl)
    (fun pre W => Boxed W w.heap.size 3 (.int .i64 c) ∧ Boxed W (w.heap.size + 1) 4 (.bool false) ∧ Boxed W S 3 (.int .i64 (pre.length : Nat)) ∧ Below w.heap.size w W ∧ W5.heap.size ≤ W.heap.size)
    (fun _ _ _ => False) ?hI ?hX ⟨r0, r1, r2, hbw5, Nat.le_refl _⟩
    (fun T x => { tmps := (T.setIfInBounds 30 (.int .i64 (x.1 : Nat))).setIfInBounds 31 (.agg #[.int .i64 (x.2.c : Nat), .int .i64 (x.2.r : Nat)]), defers := [] })
    ?has ?hbo ?hend ?hout
  case hI =>
    rintro s X' Y row ⟨h1, h2, h3, h4, h5⟩ hg hr
    have hv := HVW.out
    have hk := Bk.kc_cells hg (fun r e => (hr r e).2)
    exact ⟨hk _ _ h1 rfl (fun h => h), hk _ _ h2 rfl (fun h => h), hk _ _ h3 rfl (fun h => h), h4.grown hg (by omega) (fun r e => by have := (hr r e).1; omega), Nat.le_trans h5 hg.size⟩
  case hX => exact fun _ _ _ _ _ h => h.elim
  case has =>
    rintro k ⟨p, z0, z1, z2, z3, z4, z5⟩ X' K hK
    simp only [sEnc]
    gi_wp2
    exact hK
  case hbo =>
    rintro kk pre x A ⟨h1, h2, h3, h4, h5⟩ ⟨s, hs⟩
    have hlen := eight.2
    rw [hs] at hlen
    simp only [List.length_append, List.length_cons] at hlen
    have hp6 : pre.length ≤ 6 := by omega
    have c3 := h3.cell
    have f3 := h3.frozen
    have hz := HZ.out
    have hpl : (pre ++ [x]).length = pre.length + 1 := by simp
    have HE : Hid (KeepsFrom W5.heap.size A (A.setCell ⟨S, 0, none⟩ (.int .i64 ((pre.length : Int) + 1))) ∧ Bk.Kc (fun k => k = S) A (A.setCell ⟨S, 0, none⟩ (.int .i64 ((pre.length : Int) + 1))) ∧
        (Boxed (A.setCell ⟨S, 0, none⟩ (.int .i64 ((pre.length : Int) + 1))) w.heap.size 3 (.int .i64 c) ∧ Boxed (A.setCell ⟨S, 0, none⟩ (.int .i64 ((pre.length : Int) + 1))) (w.heap.size + 1) 4 (.bool false) ∧ Boxed (A.setCell ⟨S, 0, none⟩ (.int .i64 ((pre.length : Int) + 1))) S 3 (.int .i64 ((pre ++ [x]).length : Nat)) ∧ Below w.heap.size w (A.setCell ⟨S, 0, none⟩ (.int .i64 ((pre.length : Int) + 1))) ∧ W5.heap.size ≤ (A.setCell ⟨S, 0, none⟩ (.int .i64 ((pre.length : Int) + 1))).heap.size)) := Lib.hid (by
      have hs : Ch A (A.setCell ⟨S, 0, none⟩ (.int .i64 ((pre.length : Int) + 1))) (fun k => k = S) := Ch.set (T := fun k => k = S) (Ch.refl _ _) (p := ⟨S, 0, none⟩) (.inl rfl) _
      refine ⟨⟨hs.size, fun k o hk ho _ => (hs.block k (Array.getElem?_eq_some_iff.1 ho).1 (by omega)).trans ho⟩, fun k o ho _ hn => (hs.block k (Array.getElem?_eq_some_iff.1 ho).1 hn).trans ho, (hs.block _ h1.lt (by omega)).trans h1, (hs.block _ h2.lt (by omega)).trans h2, ?_, h4.setCell (p := ⟨S, 0, none⟩) (show w.heap.size ≤ S by omega) _, Nat.le_trans h5 hs.size⟩
      rw [hpl]
      exact heap_setCell_same A S 0 _ _ _ h3)
    clear h1 h2 h3 h4 h5 hs hlen hpl hit r0 r1 r2 hbw5
    simp only [List.setIfInBounds_toArray, List.set_cons_zero, List.set_cons_succ]
    gi_wp2
    exact HE.out
  case hend =>
    rintro xs X1 rfl ⟨h1, h2, h3, h4, h5⟩ hK
    rw [eight.2] at h3
    have c0 := h1.cell
    have f0 := h1.frozen
    have HMV := Lib.hid (most8_val c)
    have hm8 := most8_bd c
    generalize most8 c = M at *
    have HK1 := Lib.hid hK
    have hzx : W5.heap.size ≤ X1.heap.size := h5
    have hX2 : Hid (Wn w (((X1.setCell ⟨w.heap.size, 0, none⟩ (.int .i64 (wrap64 (1 + wrap64 ((IntKind.u64.wrap c).tmod 8))))).alloc (.cells #[] 46)).alloc (.cells #[.slice (some ⟨X1.heap.size, 0, none⟩) 0 0] 45)) (M : Nat) S (X1.heap.size + 1) W5.heap.size (.slice (some ⟨X1.heap.size, 0, none⟩) 0 0) []) := Lib.hid (by
      have hz := HZ.out
      have hs : Ch X1 (X1.setCell ⟨w.heap.size, 0, none⟩ (.int .i64 (wrap64 (1 + wrap64 ((IntKind.u64.wrap c).tmod 8))))) (fun k => k = w.heap.size) := Ch.set (T := fun k => k = w.heap.size) (Ch.refl _ _) (p := ⟨w.heap.size, 0, none⟩) (.inl rfl) _
      have t0 : Boxed (X1.setCell ⟨w.heap.size, 0, none⟩ (.int .i64 (wrap64 (1 + wrap64 ((IntKind.u64.wrap c).tmod 8))))) w.heap.size 3 (.int .i64 (M : Nat)) := by
        rw [HMV.out]
        exact heap_setCell_same X1 w.heap.size 0 _ _ _ h1
      have t1 := (hs.block _ h2.lt (by omega)).trans h2
      have t2 := (hs.block _ h3.lt (by omega)).trans h3
      have td := (hs.block _ (Array.getElem?_eq_some_iff.1 hK).1 (by omega)).trans hK
      have tb := h4.trans (hs.below h4.size (fun k hk => by omega))
      have tz : (X1.setCell ⟨w.heap.size, 0, none⟩ (.int .i64 (wrap64 (1 + wrap64 ((IntKind.u64.wrap c).tmod 8))))).heap.size = X1.heap.size := by simp
      revert t0 t1 t2 td tb tz
      generalize X1.setCell ⟨w.heap.size, 0, none⟩ (.int .i64 (wrap64 (1 + wrap64 ((IntKind.u64.wrap c).tmod 8)))) = Y
      intro t0 t1 t2 td tb tz
      have ka := below_alloc2 Y (.cells #[] 46) (.cells #[.slice (some ⟨X1.heap.size, 0, none⟩) 0 0] 45)
      have kb : Boxed ((Y.alloc (.cells #[] 46)).alloc (.cells #[.slice (some ⟨X1.heap.size, 0, none⟩) 0 0] 45)) (X1.heap.size + 1) 45 (.slice (some ⟨X1.heap.size, 0, none⟩) 0 0) := by
        have := World.alloc_heap_new (Y.alloc (.cells #[] 46)) (.cells #[.slice (some ⟨X1.heap.size, 0, none⟩) 0 0] 45)
        rwa [World.size_alloc, tz] at this
      have kr : (Y.alloc (.cells #[] 46)).ownsRow w.heap.size 46 3 (.slice (some ⟨Y.heap.size, 0, none⟩) 0 0) 0 [] := World.ownsRow_made Y #[] 0 tb.size (by unfold maxLen; omega) rfl
      rw [tz] at kr
      exact ⟨(ka.block _ (Boxed.lt t0)).trans t0, (ka.block _ (Boxed.lt t1)).trans t1, (ka.block _ (Boxed.lt t2)).trans t2, kb, own_below kr (below_alloc _ _), (ka.block _ (Array.getElem?_eq_some_iff.1 td).1).trans td, tb.trans (ka.mono tb.size), by omega, by omega, by omega⟩)
    obtain ⟨B, hB⟩ : ∃ B, X1.heap.size + 1 = B := ⟨_, rfl⟩
    have HB := Lib.hid hB
    rw [hB] at hX2
    clear hit r0 r1 r2 hbw5 h1 h2 h3 h4 h5 hK
    by_cases hs : 1 ≤ a ∧ 1 ≤ b ∧ a ≤ 65535 ∧ b ≤ 65535
    rotate_left
    · have hbad : decide (1 ≤ a) = false ∨ (decide (1 ≤ a) = true ∧ decide (1 ≤ b) = false) ∨ (decide (1 ≤ a) = true ∧ decide (1 ≤ b) = true ∧ decide (a ≤ 65535) = false) ∨ (decide (1 ≤ a) = true ∧ decide (1 ≤ b) = true ∧ decide (a ≤ 65535) = true ∧ decide (b ≤ 65535) = false) := by
        simp only [decide_eq_true_eq, decide_eq_false_iff_not]
        omega
      have HPS : Hid (psL a b l = []) := Lib.hid (if_neg (fun h => by
        have h1 := h.1
        have h2 := h.2.1
        unfold side at h1 h2
        simp at h1 h2
        omega))
      clear hs
      rcases hbad with e1 | ⟨e1, e2⟩ | ⟨e1, e2, e3⟩ | ⟨e1, e2, e3, e4⟩
      all_goals
        gi_wp2_with fail
        have hX3 := hX2.out
        have hsz : (((X1.setCell ⟨w.heap.size, 0, none⟩ (.int .i64 (wrap64 (1 + wrap64 ((IntKind.u64.wrap c).tmod 8))))).alloc (.cells #[] 46)).alloc (.cells #[.slice (some ⟨X1.heap.size, 0, none⟩) 0 0] 45)).heap.size = B + 1 := by simp; have := HB.out; omega
        have k8 := below_alloc (((X1.setCell ⟨w.heap.size, 0, none⟩ (.int .i64 (wrap64 (1 + wrap64 ((IntKind.u64.wrap c).tmod 8))))).alloc (.cells #[] 46)).alloc (.cells #[.slice (some ⟨X1.heap.size, 0, none⟩) 0 0] 45)) (.cells #[.int .i64 0] 3)
        have u8 : Boxed ((((X1.setCell ⟨w.heap.size, 0, none⟩ (.int .i64 (wrap64 (1 + wrap64 ((IntKind.u64.wrap c).tmod 8))))).alloc (.cells #[] 46)).alloc (.cells #[.slice (some ⟨X1.heap.size, 0, none⟩) 0 0] 45)).alloc (.cells #[.int .i64 0] 3)) (((X1.setCell ⟨w.heap.size, 0, none⟩ (.int .i64 (wrap64 (1 + wrap64 ((IntKind.u64.wrap c).tmod 8))))).alloc (.cells #[] 46)).alloc (.cells #[.slice (some ⟨X1.heap.size, 0, none⟩) 0 0] 45)).heap.size 3 (.int .i64 0) := World.alloc_heap_new (((X1.setCell ⟨w.heap.size, 0, none⟩ (.int .i64 (wrap64 (1 + wrap64 ((IntKind.u64.wrap c).tmod 8))))).alloc (.cells #[] 46)).alloc (.cells #[.slice (some ⟨X1.heap.size, 0, none⟩) 0 0] 45)) _
        have HW8 := hX3.below k8
        have hz8 : ((((X1.setCell ⟨w.heap.size, 0, none⟩ (.int .i64 (wrap64 (1 + wrap64 ((IntKind.u64.wrap c).tmod 8))))).alloc (.cells #[] 46)).alloc (.cells #[.slice (some ⟨X1.heap.size, 0, none⟩) 0 0] 45)).alloc (.cells #[.int .i64 0] 3)).heap.size = (((X1.setCell ⟨w.heap.size, 0, none⟩ (.int .i64 (wrap64 (1 + wrap64 ((IntKind.u64.wrap c).tmod 8))))).alloc (.cells #[] 46)).alloc (.cells #[.slice (some ⟨X1.heap.size, 0, none⟩) 0 0] 45)).heap.size + 1 := by simp
        have hbk := Boxed.lt hX3.bw
        rw [hsz] at u8 hz8 hbk
        clear hX3 hsz k8
        revert u8 HW8 hz8
        generalize (((X1.setCell ⟨w.heap.size, 0, none⟩ (.int .i64 (wrap64 (1 + wrap64 ((IntKind.u64.wrap c).tmod 8))))).alloc (.cells #[] 46)).alloc (.cells #[.slice (some ⟨X1.heap.size, 0, none⟩) 0 0] 45)).alloc (.cells #[.int .i64 0] 3) = W8
        intro u8 HW8 hz8
        obtain ⟨K, hKK⟩ : ∃ K, B + 1 = K := ⟨_, rfl⟩
        rw [hKK] at u8 hz8 hbk ⊢
        have h3 := three_boxes W8 a b l
        refine ⟨trivial, (passes_in Fence.wide 3 trivial rfl a b l _).mono ?_⟩
        rintro e w' ⟨rfl, rfl⟩
        obtain ⟨hb9, b1, b2, b3, hz9⟩ := h3
        revert hb9 b1 b2 b3 hz9
        generalize ((W8.alloc (.cells #[.int .i64 a] 3)).alloc (.cells #[.int .i64 b] 3)).alloc (.cells #[.int .i64 l] 3) = W9
        intro hb9 b1 b2 b3 hz9
        have HW9 := Lib.hid (HW8.below hb9)
        have u9 := (hb9.block _ (Boxed.lt u8)).trans u8
        obtain ⟨X, hXX⟩ : ∃ X, W8.heap.size = X := ⟨_, rfl⟩
        rw [hXX] at b1 b2 b3 ⊢
        have hit := passes_iter X (X + 1) (X + 2) a b l (fun k => k = K) W9 b1 b2 b3 (HLP0.out.below HW9.out.bel) (fun k hk => by omega)
        have HZ9 : Hid (B < K ∧ K < W9.heap.size) := Lib.hid (by have := HB.out; omega)
        have HGS := Lib.hid (And.intro HW9.out.gb (And.intro HW9.out.sb HW9.out.db))
        clear hb9 b1 b2 b3 hz9 u8 HW8 hz8 hbk hKK hXX
        generalize (.slice (some ⟨X1.heap.size, 0, none⟩) 0 0 : Value) = v at HW9
        gi_wp2_with fail
        have HBD := Lib.hid (fun q hq => psl_bd a b l q hq)
        rw [HPS.out] at hit HBD
        generalize ([] : List (Nat × Pa)) = wl at HW9 hit HBD
        have HVW9 := Lib.hid HW9.out.bel.size
        refine range_iterB (F := Fence.wide) (n := 4) (P := Tryd.prog) (gf := 19) (lb := #[.pointer (some ⟨X, 0, none⟩), .pointer (some ⟨X + 1, 0, none⟩), .pointer (some ⟨X + 2, 0, none⟩)]) hro (by omega) rfl trivial (enters_of Tryd.func19 (by kernel_rfl) rfl)
          (encs := sEnc) (hseq := hit) (fun h1 h2 => h1.trans h2) (fun W l o o' hl hc => Bk.Kc.put W l o o' hl hc) (fun _ => rfl)
          (fun pre W => Wn w W (M : Nat) S B W5.heap.size v wl ∧ Boxed W K 3 (.int .i64 (pre.length : Nat)) ∧ pre.length < M ∧ W9.heap.size ≤ W.heap.size)
          (fun cc pre W => cc = .exit 4 ∧ Wn w W (M : Nat) S B W5.heap.size v wl ∧ Boxed W K 3 (.int .i64 (M : Nat)) ∧ M ≤ wl.length ∧ W9.heap.size ≤ W.heap.size)
          ?gI ?gX ⟨HW9.out, u9, by show 0 < M; omega, Nat.le_refl _⟩ (fun q => .cells #[.int .i64 (q.2.c : Nat), .int .i64 (q.2.r : Nat)] 41 (0, 0)) (fun _ => rfl) (fun _ _ => Bk.Kc.alloc _ _ _)
          (fun T x Bx => { tmps := (((T.setIfInBounds 92 (.int .i64 (x.1 : Nat))).setIfInBounds 93 (.agg #[.int .i64 (x.2.c : Nat), .int .i64 (x.2.r : Nat)])).setIfInBounds 17 (.int .i64 (x.1 : Nat))).setIfInBounds 18 (.pointer (some ⟨Bx, 0, none⟩)), defers := [] })
          ?gas ?gbo ?gend ?gout
        case gI =>
          rintro s X' Y row ⟨h1, h2, h3, h4⟩ hg hr
          have hv := HVW9.out
          have hz := HZ9.out
          have hk := Bk.kc_cells hg (fun r e => (hr r e).2)
          exact ⟨h1.grown hg (fun r e => by have := (hr r e).1; omega) (fun r e => (hr r e).2), hk _ _ h2 rfl (fun h => h), h3, Nat.le_trans h4 hg.size⟩
        case gX =>
          rintro cc s X' Y row ⟨h0, h1, h2, h3, h4⟩ hg hr
          have hv := HVW9.out
          have hz := HZ9.out
          have hk := Bk.kc_cells hg (fun r e => (hr r e).2)
          exact ⟨h0, h1.grown hg (fun r e => by have := (hr r e).1; omega) (fun r e => (hr r e).2), hk _ _ h2 rfl (fun h => h), h3, Nat.le_trans h4 hg.size⟩
        case gas =>
          rintro k ⟨p, z0, z1, z2, z3, z4, z5⟩ X' K' hK'
          simp only [sEnc]
          gi_wp2
          exact hK'
        case gbo =>
          rintro kk pre ⟨p, z0, z1, z2, z3, z4, z5⟩ A Bx ⟨h1, h2, h3, h4⟩ ⟨s, hs⟩ hBx hbx
          simp only at hbx
          have hplen : pre.length < wl.length := by rw [hs]; simp
          have hget : wl[pre.length]? = some (p, (⟨z0, z1, z2, z3, z4, z5⟩ : Pa)) := by rw [hs]; simp
          have hpl : (pre ++ [(p, (⟨z0, z1, z2, z3, z4, z5⟩ : Pa))]).length = pre.length + 1 := by simp
          have HPLN := Lib.hid hpl
          have hsl := h1.slice
          rcases own_nil_or h1.row with ⟨_, hx⟩ | ⟨g, vc, rfl, _⟩
          · omega
          clear hsl
          have hz := HZ9.out
          have hmix : Tryd.prog.follows .mixedOrders = true := by kernel_rfl
          have HEA : Hid (∀ k z : Nat, k = pre.length → z = k + 1 → KeepsFrom W9.heap.size A (A.drew.setCell ⟨K, 0, none⟩ (.int .i64 ((k : Int) + 1))) ∧ Bk.Kc (fun k => k = K) A (A.drew.setCell ⟨K, 0, none⟩ (.int .i64 ((k : Int) + 1))) ∧ Wn w (A.drew.setCell ⟨K, 0, none⟩ (.int .i64 ((k : Int) + 1))) (M : Nat) S B W5.heap.size (.slice (some ⟨g, 0, none⟩) wl.length vc) wl ∧ Boxed (A.drew.setCell ⟨K, 0, none⟩ (.int .i64 ((k : Int) + 1))) K 3 (.int .i64 (z : Nat)) ∧ W9.heap.size ≤ (A.drew.setCell ⟨K, 0, none⟩ (.int .i64 ((k : Int) + 1))).heap.size) := Lib.hid (fun k z hk hz' => by
            subst hk
            have hs2 : Ch A (A.drew.setCell ⟨K, 0, none⟩ (.int .i64 ((pre.length : Int) + 1))) (fun k => k = K) := (Ch.drew (Ch.refl A (fun k => k = K))).set (p := ⟨K, 0, none⟩) (.inl rfl) _
            have h2d : Boxed A.drew K 3 (.int .i64 (pre.length : Nat)) := h2
            refine ⟨⟨hs2.size, fun j o hj ho _ => (hs2.block j (Array.getElem?_eq_some_iff.1 ho).1 (by omega)).trans ho⟩, fun j o ho _ hn => (hs2.block j (Array.getElem?_eq_some_iff.1 ho).1 hn).trans ho, (h1.below (Wx := A.drew) (Below.refl _ _).drew).setk K hz.1 _ _ h2d, ?_, Nat.le_trans h4 hs2.size⟩
            have e : (z : Int) = (pre.length : Int) + 1 := by omega
            rw [show (Value.int IntKind.i64 ((z : Nat) : Int)) = .int .i64 ((pre.length : Int) + 1) from by rw [e]]
            exact heap_setCell_same A.drew K 0 _ _ _ h2d)
          obtain ⟨k, hkk⟩ : ∃ k, pre.length = k := ⟨_, rfl⟩
          have HEK := Lib.hid hkk
          rw [hkk] at hplen h2 h3
          have hS24 : (fun w' : World => w'.cell? ⟨K, 0, none⟩ = some (.int .i64 (k : Nat)) ∧ w'.cell? ⟨B, 0, none⟩ = some (.slice (some ⟨g, 0, none⟩) wl.length vc) ∧ w'.cell? ⟨Bx, 0, none⟩ = some (.int .i64 (z4 : Nat)) ∧ w'.cell? ⟨Bx, 1, none⟩ = some (.int .i64 (z5 : Nat)) ∧ w'.cell? ⟨g, k * 3, none⟩ = some (.int .i64 (p : Nat)) ∧ w'.cell? ⟨g, k * 3 + 1, none⟩ = some (.int .i64 (z4 : Nat)) ∧ w'.cell? ⟨g, k * 3 + 2, none⟩ = some (.int .i64 (z5 : Nat))) A.drew := ⟨h2.cell, h1.bw.cell, by show A.cell? _ = _; rw [cell_of_row _ _ _ _ _ (0, 0) hbx]; rfl, by show A.cell? _ = _; rw [cell_of_row _ _ _ _ _ (0, 0) hbx]; rfl, (h1.below (Wx := A.drew) (Below.refl _ _).drew).three k _ (by rw [← hkk]; exact hget)⟩
          have HS24 := Lib.hid hS24
          obtain ⟨q1, q2, q3⟩ := HBD.out (p, (⟨z0, z1, z2, z3, z4, z5⟩ : Pa)) (by rw [hs]; simp)
          have heq := fun w' => eq3 p z4 z5 w' q1 q2 q3
          have d1 : decide ((wl.length : Int) ≤ (k : Int)) = false := by simp; omega
          have d2 : decide (wl.length ≤ k) = false := by simp; omega
          have cA := h1.b0.cell
          have cK := h2.cell
          have fK := h2.frozen
          have hneA : K ≠ w.heap.size := by have := HGS.out; omega
          have cA2 : ∀ u, (A.drew.setCell ⟨K, 0, none⟩ u).cell? ⟨w.heap.size, 0, none⟩ = some (.int .i64 (M : Nat)) := fun u => (World.cell?_setCell_far A.drew ⟨K, 0, none⟩ ⟨w.heap.size, 0, none⟩ u hneA).trans cA
          have HM8 := Lib.hid hm8
          clear hs hget hpl hS24 h1 hbx hit hBx
          simp only [List.setIfInBounds_toArray, List.set_cons_zero, List.set_cons_succ]
          gi_wp2_with fail
          refine oneH (fun w' : World => w'.cell? ⟨K, 0, none⟩ = some (.int .i64 (k : Nat)) ∧ w'.cell? ⟨B, 0, none⟩ = some (.slice (some ⟨g, 0, none⟩) wl.length vc) ∧ w'.cell? ⟨Bx, 0, none⟩ = some (.int .i64 (z4 : Nat)) ∧ w'.cell? ⟨Bx, 1, none⟩ = some (.int .i64 (z5 : Nat)) ∧ w'.cell? ⟨g, k * 3, none⟩ = some (.int .i64 (p : Nat)) ∧ w'.cell? ⟨g, k * 3 + 1, none⟩ = some (.int .i64 (z4 : Nat)) ∧ w'.cell? ⟨g, k * 3 + 2, none⟩ = some (.int .i64 (z5 : Nat))) hmix (by kernel_rfl) ?_
          constructor
          constructor
          constructor
          · skip
            refine RH_take (i := 0) (v := ?_) rfl (by kernel_rfl) (by kernel_rfl) (by kernel_rfl) (fun _ _ _ h => h) HS24.out (by rfl) ?_ ?_
            rotate_left
            · (intro w' hw'; obtain ⟨j0, j1, j2, j3, j4, j5, j6⟩ := hw'; first | (go_simp; done) | (go_simp; with_reducible rfl))
            try simp only [List.getElem_toArray, List.getElem_cons_zero, List.getElem_cons_succ, Act.put, List.setIfInBounds_toArray, List.set_cons_zero, List.set_cons_succ]
            refine RH_take (i := 1) (v := ?_) rfl (by kernel_rfl) (by kernel_rfl) (by kernel_rfl) (fun _ _ _ h => h) HS24.out (by rfl) ?_ ?_
            rotate_left
            · (intro w' hw'; obtain ⟨j0, j1, j2, j3, j4, j5, j6⟩ := hw'; first | (go_simp; done) | (go_simp; with_reducible rfl))
            try simp only [List.getElem_toArray, List.getElem_cons_zero, List.getElem_cons_succ, Act.put, List.setIfInBounds_toArray, List.set_cons_zero, List.set_cons_succ]
            refine RH_take (i := 2) (v := ?_) rfl (by kernel_rfl) (by kernel_rfl) (by kernel_rfl) (fun _ _ _ h => h) HS24.out (by rfl) ?_ ?_
            rotate_left
            · (intro w' hw'; obtain ⟨j0, j1, j2, j3, j4, j5, j6⟩ := hw'; first | (go_simp; done) | (go_simp; with_reducible rfl))
            try simp only [List.getElem_toArray, List.getElem_cons_zero, List.getElem_cons_succ, Act.put, List.setIfInBounds_toArray, List.set_cons_zero, List.set_cons_succ]
            refine RH_take (i := 3) (v := ?_) rfl (by kernel_rfl) (by kernel_rfl) (by kernel_rfl) (fun _ _ _ h => h) HS24.out (by rfl) ?_ ?_
            rotate_left
            · (intro w' hw'; obtain ⟨j0, j1, j2, j3, j4, j5, j6⟩ := hw'; first | (go_simp; done) | (go_simp; with_reducible rfl))
            try simp only [List.getElem_toArray, List.getElem_cons_zero, List.getElem_cons_succ, Act.put, List.setIfInBounds_toArray, List.set_cons_zero, List.set_cons_succ]
            refine RH_take (i := 4) (v := ?_) rfl (by kernel_rfl) (by kernel_rfl) (by kernel_rfl) (fun _ _ _ h => h) HS24.out (by rfl) ?_ ?_
            rotate_left
            · (intro w' hw'; obtain ⟨j0, j1, j2, j3, j4, j5, j6⟩ := hw'; first | (go_simp; done) | (go_simp; with_reducible rfl))
            try simp only [List.getElem_toArray, List.getElem_cons_zero, List.getElem_cons_succ, Act.put, List.setIfInBounds_toArray, List.set_cons_zero, List.set_cons_succ]
            refine RH_take (i := 5) (v := ?_) rfl (by kernel_rfl) (by kernel_rfl) (by kernel_rfl) (fun _ _ _ h => h) HS24.out (by rfl) ?_ ?_
            rotate_left
            · (intro w' hw'; obtain ⟨j0, j1, j2, j3, j4, j5, j6⟩ := hw'; first | (go_simp; done) | (go_simp; with_reducible rfl))
            try simp only [List.getElem_toArray, List.getElem_cons_zero, List.getElem_cons_succ, Act.put, List.setIfInBounds_toArray, List.set_cons_zero, List.set_cons_succ]
            refine RH_take (i := 6) (v := ?_) rfl (by kernel_rfl) (by kernel_rfl) (by kernel_rfl) (fun _ _ _ h => h) HS24.out (by rfl) ?_ ?_
            rotate_left
            · (intro w' hw'; obtain ⟨j0, j1, j2, j3, j4, j5, j6⟩ := hw'; first | (go_simp; done) | (go_simp; with_reducible rfl))
            try simp only [List.getElem_toArray, List.getElem_cons_zero, List.getElem_cons_succ, Act.put, List.setIfInBounds_toArray, List.set_cons_zero, List.set_cons_succ]
            refine RH_take (i := 7) (v := ?_) rfl (by kernel_rfl) (by kernel_rfl) (by kernel_rfl) (fun _ _ _ h => h) HS24.out (by rfl) ?_ ?_
            rotate_left
            · (intro w' hw'; obtain ⟨j0, j1, j2, j3, j4, j5, j6⟩ := hw'; first | (go_simp; done) | (go_simp; with_reducible rfl))
            try simp only [List.getElem_toArray, List.getElem_cons_zero, List.getElem_cons_succ, Act.put, List.setIfInBounds_toArray, List.set_cons_zero, List.set_cons_succ]
            refine RH_take (i := 8) (v := ?_) rfl (by kernel_rfl) (by kernel_rfl) (by kernel_rfl) (fun _ _ _ h => h) HS24.out (by rfl) ?_ ?_
            rotate_left
            · (intro w' hw'; obtain ⟨j0, j1, j2, j3, j4, j5, j6⟩ := hw'; first | (go_simp; done) | (go_simp; with_reducible rfl))
            try simp only [List.getElem_toArray, List.getElem_cons_zero, List.getElem_cons_succ, Act.put, List.setIfInBounds_toArray, List.set_cons_zero, List.set_cons_succ]
            refine RH_take (i := 9) (v := ?_) rfl (by kernel_rfl) (by kernel_rfl) (by kernel_rfl) (fun _ _ _ h => h) HS24.out (by rfl) ?_ ?_
            rotate_left
            · (intro w' hw'; obtain ⟨j0, j1, j2, j3, j4, j5, j6⟩ := hw'; first | (go_simp; done) | (go_simp; with_reducible rfl))
            try simp only [List.getElem_toArray, List.getElem_cons_zero, List.getElem_cons_succ, Act.put, List.setIfInBounds_toArray, List.set_cons_zero, List.set_cons_succ]
            refine RH_take (i := 10) (v := ?_) rfl (by kernel_rfl) (by kernel_rfl) (by kernel_rfl) (fun _ _ _ h => h) HS24.out (by rfl) ?_ ?_
            rotate_left
            · (intro w' hw'; obtain ⟨j0, j1, j2, j3, j4, j5, j6⟩ := hw'; first | (go_simp; done) | (go_simp; with_reducible rfl))
            try simp only [List.getElem_toArray, List.getElem_cons_zero, List.getElem_cons_succ, Act.put, List.setIfInBounds_toArray, List.set_cons_zero, List.set_cons_succ]
            refine RH_take (i := 11) (v := ?_) rfl (by kernel_rfl) (by kernel_rfl) (by kernel_rfl) (fun _ _ _ h => h) HS24.out (by rfl) ?_ ?_
            rotate_left
            · (intro w' hw'; obtain ⟨j0, j1, j2, j3, j4, j5, j6⟩ := hw'; first | (go_simp; done) | (go_simp; with_reducible rfl))
            try simp only [List.getElem_toArray, List.getElem_cons_zero, List.getElem_cons_succ, Act.put, List.setIfInBounds_toArray, List.set_cons_zero, List.set_cons_succ]
            refine RH_take (i := 12) (v := ?_) rfl (by kernel_rfl) (by kernel_rfl) (by kernel_rfl) (fun _ _ _ h => h) HS24.out (by rfl) ?_ ?_
            rotate_left
            · (intro w' hw'; obtain ⟨j0, j1, j2, j3, j4, j5, j6⟩ := hw'; first | (go_simp; done) | (go_simp; with_reducible rfl))
            try simp only [List.getElem_toArray, List.getElem_cons_zero, List.getElem_cons_succ, Act.put, List.setIfInBounds_toArray, List.set_cons_zero, List.set_cons_succ]
            refine RH_take (i := 13) (v := ?_) rfl (by kernel_rfl) (by kernel_rfl) (by kernel_rfl) (fun _ _ _ h => h) HS24.out (by rfl) ?_ ?_
            rotate_left
            · (intro w' hw'; obtain ⟨j0, j1, j2, j3, j4, j5, j6⟩ := hw'; first | (go_simp; done) | (go_simp; with_reducible rfl))
            try simp only [List.getElem_toArray, List.getElem_cons_zero, List.getElem_cons_succ, Act.put, List.setIfInBounds_toArray, List.set_cons_zero, List.set_cons_succ]
            refine RH_take (i := 14) (v := ?_) rfl (by kernel_rfl) (by kernel_rfl) (by kernel_rfl) (fun _ _ _ h => h) HS24.out (by rfl) ?_ ?_
            rotate_left
            · (intro w' hw'; obtain ⟨j0, j1, j2, j3, j4, j5, j6⟩ := hw'; first | (go_simp; done) | (go_simp; with_reducible rfl))
            try simp only [List.getElem_toArray, List.getElem_cons_zero, List.getElem_cons_succ, Act.put, List.setIfInBounds_toArray, List.set_cons_zero, List.set_cons_succ]
            refine RH_take (i := 15) (v := ?_) rfl (by kernel_rfl) (by kernel_rfl) (by kernel_rfl) (fun _ _ _ h => h) HS24.out (by rfl) ?_ ?_
            rotate_left
            · (intro w' hw'; obtain ⟨j0, j1, j2, j3, j4, j5, j6⟩ := hw'; first | (go_simp; done) | (go_simp; with_reducible rfl))
            try simp only [List.getElem_toArray, List.getElem_cons_zero, List.getElem_cons_succ, Act.put, List.setIfInBounds_toArray, List.set_cons_zero, List.set_cons_succ]
            refine RH_take (i := 16) (v := ?_) rfl (by kernel_rfl) (by kernel_rfl) (by kernel_rfl) (fun _ _ _ h => h) HS24.out (by rfl) ?_ ?_
            rotate_left
            · (intro w' hw'; obtain ⟨j0, j1, j2, j3, j4, j5, j6⟩ := hw'; first | (go_simp; done) | (go_simp; with_reducible rfl))
            try simp only [List.getElem_toArray, List.getElem_cons_zero, List.getElem_cons_succ, Act.put, List.setIfInBounds_toArray, List.set_cons_zero, List.set_cons_succ]
            refine wpAnyH_done (by kernel_rfl) ?_ _
            exact ⟨rfl, rfl⟩
          by_cases hbr : k + 1 = M
          · have dbr : (((k : Int) + 1) == (M : Int)) = true := by simp; omega
            have dbr2 : ((k + 1) == M) = true := by simpa using hbr
            have HE := Lib.hid (HEA.out k M HEK.out.symm hbr.symm)
            have hMl : M ≤ wl.length := by omega
            have hk6 : k ≤ 8 := by omega
            clear HEA hbr HS24 heq
            gi_wp2
            exact ⟨HE.out.1, rfl, HE.out.2.2.1, HE.out.2.2.2.1, hMl, HE.out.2.2.2.2⟩
          · have dbr : (((k : Int) + 1) == (M : Int)) = false := by simp; omega
            have dbr2 : ((k + 1) == M) = false := by simpa using hbr
            have HE := Lib.hid (HEA.out k (k + 1) HEK.out.symm rfl)
            have hk6 : k ≤ 8 := by omega
            have hkM : k + 1 < M := by omega
            have HPN : Hid ((pre ++ [(p, (⟨z0, z1, z2, z3, z4, z5⟩ : Pa))]).length = k + 1) := Lib.hid (by rw [HPLN.out, HEK.out])
            clear HEA hbr HS24 heq
            gi_wp2
            exact ⟨HE.out.1, HE.out.2.1, HE.out.2.2.1, by rw [HPN.out]; exact HE.out.2.2.2.1, by rw [HPN.out]; exact hkM, HE.out.2.2.2.2⟩
        case gend =>
          rintro xs X3 rfl ⟨h1, h2, h3, h4⟩ hK3
          obtain ⟨va, vc, rfl⟩ := h1.slice
          have hz := HZ9.out
          have hg := HGS.out
          have cS := h1.b2.cell
          have cA := h1.b0.cell
          have cB := h1.bw.cell
          have cK := h2.cell
          have cR := h1.b1.cell
          have fR := h1.b1.frozen
          have hsz9 := HW9.out.bel.size
          have HM : Hid (Marks w.heap.size [W9.heap.size, W5.heap.size] (X3.setCell ⟨w.heap.size + 1, 0, none⟩ (.bool true))) := Lib.hid (by
            refine ⟨by simp; omega, fun D hD => ?_⟩
            simp only [List.mem_cons, List.not_mem_nil, or_false] at hD
            rcases hD with rfl | rfl
            · exact ⟨by omega, by rw [Below.heap_setCell X3 ⟨w.heap.size + 1, 0, none⟩ _ _ (by simp only; omega)]; exact hK3⟩
            · exact ⟨HVW.out, by rw [Below.heap_setCell X3 ⟨w.heap.size + 1, 0, none⟩ _ _ (by have := HZ.out; simp only; omega)]; exact h1.d1⟩)
          have HQ : Hid (Below w.heap.size w (X3.setCell ⟨w.heap.size + 1, 0, none⟩ (.bool true)) ∧ Boxed (X3.setCell ⟨w.heap.size + 1, 0, none⟩ (.bool true)) (w.heap.size + 1) 4 (.bool true)) := Lib.hid
            ⟨h1.bel.setCell (p := ⟨w.heap.size + 1, 0, none⟩) (by show w.heap.size ≤ w.heap.size + 1; omega) _, heap_setCell_same X3 (w.heap.size + 1) 0 _ _ _ h1.b1⟩
          have dm : min ((M : Nat) : Int) ((xs.length : Nat) : Int) = ((xs.length : Nat) : Int) := by omega
          have dm2 : min M xs.length = xs.length := by omega
          have hxl : xs.length < M := h3
          clear h1 h2 h3 h4 hK3 hit
          gi_wp2
          refine leaves_marks (B := w.heap.size) (fun X => Below w.heap.size w X ∧ Boxed X (w.heap.size + 1) 4 (.bool true)) ?_ ?_ [W9.heap.size, W5.heap.size] _ HM.out HQ.out
          · rintro X D ⟨q1, q2⟩ hB hD
            exact ⟨q1.grown (grownBy_putObj' _ D (.deferred none)) q1.size (fun r e => by cases e; exact hB), (World.putObj_heap_other (fun e => by
              subst e
              have hq : X.heap[w.heap.size + 1]? = some (.cells #[.bool true] 4 (0, 0)) := q2
              rw [hq] at hD; cases hD)).trans q2⟩
          · rintro X ⟨q1, q2⟩
            exact ⟨.bool true, res_b8 rfl _ _ (w.heap.size + 1) rfl q2, rfl, q1⟩
        case gout =>
          rintro cc pre X3 ⟨s, hs⟩ ⟨rfl, h1, h2, h3, h4⟩ hK3
          obtain ⟨va, vc, rfl⟩ := h1.slice
          have hz := HZ9.out
          have hg := HGS.out
          have cS := h1.b2.cell
          have cA := h1.b0.cell
          have cB := h1.bw.cell
          have cK := h2.cell
          have cR := h1.b1.cell
          have fR := h1.b1.frozen
          have hsz9 := HW9.out.bel.size
          have HM : Hid (Marks w.heap.size [W9.heap.size, W5.heap.size] (X3.setCell ⟨w.heap.size + 1, 0, none⟩ (.bool true))) := Lib.hid (by
            refine ⟨by simp; omega, fun D hD => ?_⟩
            simp only [List.mem_cons, List.not_mem_nil, or_false] at hD
            rcases hD with rfl | rfl
            · exact ⟨by omega, by rw [Below.heap_setCell X3 ⟨w.heap.size + 1, 0, none⟩ _ _ (by simp only; omega)]; exact hK3⟩
            · exact ⟨HVW.out, by rw [Below.heap_setCell X3 ⟨w.heap.size + 1, 0, none⟩ _ _ (by have := HZ.out; simp only; omega)]; exact h1.d1⟩)
          have HQ : Hid (Below w.heap.size w (X3.setCell ⟨w.heap.size + 1, 0, none⟩ (.bool true)) ∧ Boxed (X3.setCell ⟨w.heap.size + 1, 0, none⟩ (.bool true)) (w.heap.size + 1) 4 (.bool true)) := Lib.hid
            ⟨h1.bel.setCell (p := ⟨w.heap.size + 1, 0, none⟩) (by show w.heap.size ≤ w.heap.size + 1; omega) _, heap_setCell_same X3 (w.heap.size + 1) 0 _ _ _ h1.b1⟩
          have dm : min ((M : Nat) : Int) ((wl.length : Nat) : Int) = ((M : Nat) : Int) := by omega
          have dm2 : min M wl.length = M := by omega
          have hxl : ¬ wl.length < M := by omega
          clear hs
          clear h1 h2 h3 h4 hK3 hit
          gi_wp2
          refine leaves_marks (B := w.heap.size) (fun X => Below w.heap.size w X ∧ Boxed X (w.heap.size + 1) 4 (.bool true)) ?_ ?_ [W9.heap.size, W5.heap.size] _ HM.out HQ.out
          · rintro X D ⟨q1, q2⟩ hB hD
            exact ⟨q1.grown (grownBy_putObj' _ D (.deferred none)) q1.size (fun r e => by cases e; exact hB), (World.putObj_heap_other (fun e => by
              subst e
              have hq : X.heap[w.heap.size + 1]? = some (.cells #[.bool true] 4 (0, 0)) := q2
              rw [hq] at hD; cases hD)).trans q2⟩
          · rintro X ⟨q1, q2⟩
            exact ⟨.bool true, res_b8 rfl _ _ (w.heap.size + 1) rfl q2, rfl, q1⟩
    obtain ⟨s1, s2, s3, s4⟩ := hs
    obtain ⟨m, rfl⟩ := Int.eq_ofNat_of_zero_le (show 0 ≤ a by omega)
    obtain ⟨n, rfl⟩ := Int.eq_ofNat_of_zero_le (show 0 ≤ b by omega)
    have g1 : decide (1 ≤ (m : Int)) = true := by simpa using s1
    have g2 : decide (1 ≤ (n : Int)) = true := by simpa using s2
    have g3 : decide ((m : Int) ≤ 65535) = true := by simpa using s3
    have g4 : decide ((n : Int) ≤ 65535) = true := by simpa using s4
    have HSD : Hid (side (m : Int) = true ∧ side (n : Int) = true) := Lib.hid ⟨by unfold side; simp; omega, by unfold side; simp; omega⟩
    by_cases hl0 : l = 0
    · subst hl0
      have HPS : Hid (psL (m : Int) (n : Int) 0 = [] ++ [(0, (⟨0, 1, 0, 1, m, n⟩ : Pa))]) := Lib.hid (if_pos ⟨HSD.out.1, HSD.out.2, .inl rfl⟩)
      have cB := hX2.out.bw.cell
      have fB := hX2.out.bw.frozen
      have HXA := Lib.hid (hX2.out.below (below_alloc _ (.cells #[.int .i64 0, .int .i64 (m : Nat), .int .i64 (n : Nat)] 46)))
      have hsrc := src_row3 (((X1.setCell ⟨w.heap.size, 0, none⟩ (.int .i64 (wrap64 (1 + wrap64 ((IntKind.u64.wrap c).tmod 8))))).alloc (.cells #[] 46)).alloc (.cells #[.slice (some ⟨X1.heap.size, 0, none⟩) 0 0] 45)) (0, (⟨0, 1, 0, 1, m, n⟩ : Pa))
      have hszX : (((X1.setCell ⟨w.heap.size, 0, none⟩ (.int .i64 (wrap64 (1 + wrap64 ((IntKind.u64.wrap c).tmod 8))))).alloc (.cells #[] 46)).alloc (.cells #[.slice (some ⟨X1.heap.size, 0, none⟩) 0 0] 45)).heap.size = B + 1 := by simp; have := HB.out; omega
      rw [hszX] at hsrc
      have hbb := HXA.out.bel.size
      clear s1 s2 s3 s4
      gi_wp2_with (gi_at_builtin; refine wplIn_app tyW rfl _ _ rfl HXA.out.row hsrc rfl rfl (by omega) (by simp) (by simp) hbb ?_)
      intro v3 w6 own6 hc6 hv6
      obtain ⟨va3, vc3, rfl⟩ := own_slice own6
      have HX6 := Lib.hid (HXA.out.push (0, (⟨0, 1, 0, 1, m, n⟩ : Pa)) own6 hc6)
      have cB6 : w6.cell? ⟨B, 0, none⟩ = some (.slice (some ⟨X1.heap.size, 0, none⟩) 0 0) := Boxed.cell ((hc6.block _ HXA.out.bw.lt (own_ne HXA.out.row HXA.out.bw (by decide))).trans HXA.out.bw)
      have fB6 : w6.frozen? ⟨B, 0, none⟩ = false := Boxed.frozen ((hc6.block _ HXA.out.bw.lt (own_ne HXA.out.row HXA.out.bw (by decide))).trans HXA.out.bw)
      clear own6 hc6 hv6 hsrc HXA cB fB hbb hX2
      gi_wp2_with fail
      revert HX6
      generalize w6.setCell ⟨B, 0, none⟩ (.slice va3 1 vc3) = X6
      intro HX6
      gi_loopw [13] (fun i wr => i = .int .i64 0 ∧ wr = X6) (fun _ _ => 0)
      case atStart => exact ⟨rfl, rfl⟩
      case round =>
        obtain ⟨rfl, rfl⟩ := hrel
        gi_wp2_with fail
        have hX3 := HX6.out
        have hsz : (wr).heap.size = wr.heap.size := by simp
        have k8 := below_alloc (wr) (.cells #[.int .i64 0] 3)
        have u8 : Boxed ((wr).alloc (.cells #[.int .i64 0] 3)) (wr).heap.size 3 (.int .i64 0) := World.alloc_heap_new (wr) _
        have HW8 := hX3.below k8
        have hz8 : ((wr).alloc (.cells #[.int .i64 0] 3)).heap.size = (wr).heap.size + 1 := by simp
        have hbk := Boxed.lt hX3.bw
        rw [hsz] at u8 hz8 hbk
        clear hX3 hsz k8
        revert u8 HW8 hz8
        generalize (wr).alloc (.cells #[.int .i64 0] 3) = W8
        intro u8 HW8 hz8
        obtain ⟨K, hKK⟩ : ∃ K, wr.heap.size = K := ⟨_, rfl⟩
        rw [hKK] at u8 hz8 hbk ⊢
        have h3 := three_boxes W8 (m : Nat) (n : Nat) 0
        refine ⟨trivial, (passes_in Fence.wide 3 trivial rfl (m : Nat) (n : Nat) 0 _).mono ?_⟩
        rintro e w' ⟨rfl, rfl⟩
        obtain ⟨hb9, b1, b2, b3, hz9⟩ := h3
        revert hb9 b1 b2 b3 hz9
        generalize ((W8.alloc (.cells #[.int .i64 (m : Nat)] 3)).alloc (.cells #[.int .i64 (n : Nat)] 3)).alloc (.cells #[.int .i64 0] 3) = W9
        intro hb9 b1 b2 b3 hz9
        have HW9 := Lib.hid (HW8.below hb9)
        have u9 := (hb9.block _ (Boxed.lt u8)).trans u8
        obtain ⟨X, hXX⟩ : ∃ X, W8.heap.size = X := ⟨_, rfl⟩
        rw [hXX] at b1 b2 b3 ⊢
        have hit := passes_iter X (X + 1) (X + 2) (m : Nat) (n : Nat) 0 (fun k => k = K) W9 b1 b2 b3 (HLP0.out.below HW9.out.bel) (fun k hk => by omega)
        have HZ9 : Hid (B < K ∧ K < W9.heap.size) := Lib.hid (by have := HB.out; omega)
        have HGS := Lib.hid (And.intro HW9.out.gb (And.intro HW9.out.sb HW9.out.db))
        clear hb9 b1 b2 b3 hz9 u8 HW8 hz8 hbk hKK hXX
        generalize (.slice va3 1 vc3 : Value) = v at HW9
        gi_wp2_with fail
        have HBD := Lib.hid (fun q hq => psl_bd (m : Nat) (n : Nat) 0 q hq)
        rw [HPS.out] at hit HBD
        generalize ([] ++ [(0, (⟨0, 1, 0, 1, m, n⟩ : Pa))] : List (Nat × Pa)) = wl at HW9 hit HBD
        have HVW9 := Lib.hid HW9.out.bel.size
        refine range_iterB (F := Fence.wide) (n := 4) (P := Tryd.prog) (gf := 19) (lb := #[.pointer (some ⟨X, 0, none⟩), .pointer (some ⟨X + 1, 0, none⟩), .pointer (some ⟨X + 2, 0, none⟩)]) hro (by omega) rfl trivial (enters_of Tryd.func19 (by kernel_rfl) rfl)
          (encs := sEnc) (hseq := hit) (fun h1 h2 => h1.trans h2) (fun W l o o' hl hc => Bk.Kc.put W l o o' hl hc) (fun _ => rfl)
          (fun pre W => Wn w W (M : Nat) S B W5.heap.size v wl ∧ Boxed W K 3 (.int .i64 (pre.length : Nat)) ∧ pre.length < M ∧ W9.heap.size ≤ W.heap.size)
          (fun cc pre W => cc = .exit 4 ∧ Wn w W (M : Nat) S B W5.heap.size v wl ∧ Boxed W K 3 (.int .i64 (M : Nat)) ∧ M ≤ wl.length ∧ W9.heap.size ≤ W.heap.size)
          ?gI ?gX ⟨HW9.out, u9, by show 0 < M; omega, Nat.le_refl _⟩ (fun q => .cells #[.int .i64 (q.2.c : Nat), .int .i64 (q.2.r : Nat)] 41 (0, 0)) (fun _ => rfl) (fun _ _ => Bk.Kc.alloc _ _ _)
          (fun T x Bx => { tmps := (((T.setIfInBounds 92 (.int .i64 (x.1 : Nat))).setIfInBounds 93 (.agg #[.int .i64 (x.2.c : Nat), .int .i64 (x.2.r : Nat)])).setIfInBounds 17 (.int .i64 (x.1 : Nat))).setIfInBounds 18 (.pointer (some ⟨Bx, 0, none⟩)), defers := [] })
          ?gas ?gbo ?gend ?gout
        case gI =>
          rintro s X' Y row ⟨h1, h2, h3, h4⟩ hg hr
          have hv := HVW9.out
          have hz := HZ9.out
          have hk := Bk.kc_cells hg (fun r e => (hr r e).2)
          exact ⟨h1.grown hg (fun r e => by have := (hr r e).1; omega) (fun r e => (hr r e).2), hk _ _ h2 rfl (fun h => h), h3, Nat.le_trans h4 hg.size⟩
        case gX =>
          rintro cc s X' Y row ⟨h0, h1, h2, h3, h4⟩ hg hr
          have hv := HVW9.out
          have hz := HZ9.out
          have hk := Bk.kc_cells hg (fun r e => (hr r e).2)
          exact ⟨h0, h1.grown hg (fun r e => by have := (hr r e).1; omega) (fun r e => (hr r e).2), hk _ _ h2 rfl (fun h => h), h3, Nat.le_trans h4 hg.size⟩
        case gas =>
          rintro k ⟨p, z0, z1, z2, z3, z4, z5⟩ X' K' hK'
          simp only [sEnc]
          gi_wp2
          exact hK'
        case gbo =>
          rintro kk pre ⟨p, z0, z1, z2, z3, z4, z5⟩ A Bx ⟨h1, h2, h3, h4⟩ ⟨s, hs⟩ hBx hbx
          simp only at hbx
          have hplen : pre.length < wl.length := by rw [hs]; simp
          have hget : wl[pre.length]? = some (p, (⟨z0, z1, z2, z3, z4, z5⟩ : Pa)) := by rw [hs]; simp
          have hpl : (pre ++ [(p, (⟨z0, z1, z2, z3, z4, z5⟩ : Pa))]).length = pre.length + 1 := by simp
          have HPLN := Lib.hid hpl
          have hsl := h1.slice
          rcases own_nil_or h1.row with ⟨_, hx⟩ | ⟨g, vc, rfl, _⟩
          · omega
          clear hsl
          have hz := HZ9.out
          have hmix : Tryd.prog.follows .mixedOrders = true := by kernel_rfl
          have HEA : Hid (∀ k z : Nat, k = pre.length → z = k + 1 → KeepsFrom W9.heap.size A (A.drew.setCell ⟨K, 0, none⟩ (.int .i64 ((k : Int) + 1))) ∧ Bk.Kc (fun k => k = K) A (A.drew.setCell ⟨K, 0, none⟩ (.int .i64 ((k : Int) + 1))) ∧ Wn w (A.drew.setCell ⟨K, 0, none⟩ (.int .i64 ((k : Int) + 1))) (M : Nat) S B W5.heap.size (.slice (some ⟨g, 0, none⟩) wl.length vc) wl ∧ Boxed (A.drew.setCell ⟨K, 0, none⟩ (.int .i64 ((k : Int) + 1))) K 3 (.int .i64 (z : Nat)) ∧ W9.heap.size ≤ (A.drew.setCell ⟨K, 0, none⟩ (.int .i64 ((k : Int) + 1))).heap.size) := Lib.hid (fun k z hk hz' => by
            subst hk
            have hs2 : Ch A (A.drew.setCell ⟨K, 0, none⟩ (.int .i64 ((pre.length : Int) + 1))) (fun k => k = K) := (Ch.drew (Ch.refl A (fun k => k = K))).set (p := ⟨K, 0, none⟩) (.inl rfl) _
            have h2d : Boxed A.drew K 3 (.int .i64 (pre.length : Nat)) := h2
            refine ⟨⟨hs2.size, fun j o hj ho _ => (hs2.block j (Array.getElem?_eq_some_iff.1 ho).1 (by omega)).trans ho⟩, fun j o ho _ hn => (hs2.block j (Array.getElem?_eq_some_iff.1 ho).1 hn).trans ho, (h1.below (Wx := A.drew) (Below.refl _ _).drew).setk K hz.1 _ _ h2d, ?_, Nat.le_trans h4 hs2.size⟩
            have e : (z : Int) = (pre.length : Int) + 1 := by omega
            rw [show (Value.int IntKind.i64 ((z : Nat) : Int)) = .int .i64 ((pre.length : Int) + 1) from by rw [e]]
            exact heap_setCell_same A.drew K 0 _ _ _ h2d)
          obtain ⟨k, hkk⟩ : ∃ k, pre.length = k := ⟨_, rfl⟩
          have HEK := Lib.hid hkk
          rw [hkk] at hplen h2 h3
          have hS24 : (fun w' : World => w'.cell? ⟨K, 0, none⟩ = some (.int .i64 (k : Nat)) ∧ w'.cell? ⟨B, 0, none⟩ = some (.slice (some ⟨g, 0, none⟩) wl.length vc) ∧ w'.cell? ⟨Bx, 0, none⟩ = some (.int .i64 (z4 : Nat)) ∧ w'.cell? ⟨Bx, 1, none⟩ = some (.int .i64 (z5 : Nat)) ∧ w'.cell? ⟨g, k * 3, none⟩ = some (.int .i64 (p : Nat)) ∧ w'.cell? ⟨g, k * 3 + 1, none⟩ = some (.int .i64 (z4 : Nat)) ∧ w'.cell? ⟨g, k * 3 + 2, none⟩ = some (.int .i64 (z5 : Nat))) A.drew := ⟨h2.cell, h1.bw.cell, by show A.cell? _ = _; rw [cell_of_row _ _ _ _ _ (0, 0) hbx]; rfl, by show A.cell? _ = _; rw [cell_of_row _ _ _ _ _ (0, 0) hbx]; rfl, (h1.below (Wx := A.drew) (Below.refl _ _).drew).three k _ (by rw [← hkk]; exact hget)⟩
          have HS24 := Lib.hid hS24
          obtain ⟨q1, q2, q3⟩ := HBD.out (p, (⟨z0, z1, z2, z3, z4, z5⟩ : Pa)) (by rw [hs]; simp)
          have heq := fun w' => eq3 p z4 z5 w' q1 q2 q3
          have d1 : decide ((wl.length : Int) ≤ (k : Int)) = false := by simp; omega
          have d2 : decide (wl.length ≤ k) = false := by simp; omega
          have cA := h1.b0.cell
          have cK := h2.cell
          have fK := h2.frozen
          have hneA : K ≠ w.heap.size := by have := HGS.out; omega
          have cA2 : ∀ u, (A.drew.setCell ⟨K, 0, none⟩ u).cell? ⟨w.heap.size, 0, none⟩ = some (.int .i64 (M : Nat)) := fun u => (World.cell?_setCell_far A.drew ⟨K, 0, none⟩ ⟨w.heap.size, 0, none⟩ u hneA).trans cA
          have HM8 := Lib.hid hm8
          clear hs hget hpl hS24 h1 hbx hit hBx
          simp only [List.setIfInBounds_toArray, List.set_cons_zero, List.set_cons_succ]
          gi_wp2_with fail
          refine oneH (fun w' : World => w'.cell? ⟨K, 0, none⟩ = some (.int .i64 (k : Nat)) ∧ w'.cell? ⟨B, 0, none⟩ = some (.slice (some ⟨g, 0, none⟩) wl.length vc) ∧ w'.cell? ⟨Bx, 0, none⟩ = some (.int .i64 (z4 : Nat)) ∧ w'.cell? ⟨Bx, 1, none⟩ = some (.int .i64 (z5 : Nat)) ∧ w'.cell? ⟨g, k * 3, none⟩ = some (.int .i64 (p : Nat)) ∧ w'.cell? ⟨g, k * 3 + 1, none⟩ = some (.int .i64 (z4 : Nat)) ∧ w'.cell? ⟨g, k * 3 + 2, none⟩ = some (.int .i64 (z5 : Nat))) hmix (by kernel_rfl) ?_
          constructor
          constructor
          constructor
          · skip
            refine RH_take (i := 0) (v := ?_) rfl (by kernel_rfl) (by kernel_rfl) (by kernel_rfl) (fun _ _ _ h => h) HS24.out (by rfl) ?_ ?_
            rotate_left
            · (intro w' hw'; obtain ⟨j0, j1, j2, j3, j4, j5, j6⟩ := hw'; first | (go_simp; done) | (go_simp; with_reducible rfl))
            try simp only [List.getElem_toArray, List.getElem_cons_zero, List.getElem_cons_succ, Act.put, List.setIfInBounds_toArray, List.set_cons_zero, List.set_cons_succ]
            refine RH_take (i := 1) (v := ?_) rfl (by kernel_rfl) (by kernel_rfl) (by kernel_rfl) (fun _ _ _ h => h) HS24.out (by rfl) ?_ ?_
            rotate_left
            · (intro w' hw'; obtain ⟨j0, j1, j2, j3, j4, j5, j6⟩ := hw'; first | (go_simp; done) | (go_simp; with_reducible rfl))
            try simp only [List.getElem_toArray, List.getElem_cons_zero, List.getElem_cons_succ, Act.put, List.setIfInBounds_toArray, List.set_cons_zero, List.set_cons_succ]
            refine RH_take (i := 2) (v := ?_) rfl (by kernel_rfl) (by kernel_rfl) (by kernel_rfl) (fun _ _ _ h => h) HS24.out (by rfl) ?_ ?_
            rotate_left
            · (intro w' hw'; obtain ⟨j0, j1, j2, j3, j4, j5, j6⟩ := hw'; first | (go_simp; done) | (go_simp; with_reducible rfl))
            try simp only [List.getElem_toArray, List.getElem_cons_zero, List.getElem_cons_succ, Act.put, List.setIfInBounds_toArray, List.set_cons_zero, List.set_cons_succ]
            refine RH_take (i := 3) (v := ?_) rfl (by kernel_rfl) (by kernel_rfl) (by kernel_rfl) (fun _ _ _ h => h) HS24.out (by rfl) ?_ ?_
            rotate_left
            · (intro w' hw'; obtain ⟨j0, j1, j2, j3, j4, j5, j6⟩ := hw'; first | (go_simp; done) | (go_simp; with_reducible rfl))
            try simp only [List.getElem_toArray, List.getElem_cons_zero, List.getElem_cons_succ, Act.put, List.setIfInBounds_toArray, List.set_cons_zero, List.set_cons_succ]
            refine RH_take (i := 4) (v := ?_) rfl (by kernel_rfl) (by kernel_rfl) (by kernel_rfl) (fun _ _ _ h => h) HS24.out (by rfl) ?_ ?_
            rotate_left
            · (intro w' hw'; obtain ⟨j0, j1, j2, j3, j4, j5, j6⟩ := hw'; first | (go_simp; done) | (go_simp; with_reducible rfl))
            try simp only [List.getElem_toArray, List.getElem_cons_zero, List.getElem_cons_succ, Act.put, List.setIfInBounds_toArray, List.set_cons_zero, List.set_cons_succ]
            refine RH_take (i := 5) (v := ?_) rfl (by kernel_rfl) (by kernel_rfl) (by kernel_rfl) (fun _ _ _ h => h) HS24.out (by rfl) ?_ ?_
            rotate_left
            · (intro w' hw'; obtain ⟨j0, j1, j2, j3, j4, j5, j6⟩ := hw'; first | (go_simp; done) | (go_simp; with_reducible rfl))
            try simp only [List.getElem_toArray, List.getElem_cons_zero, List.getElem_cons_succ, Act.put, List.setIfInBounds_toArray, List.set_cons_zero, List.set_cons_succ]
            refine RH_take (i := 6) (v := ?_) rfl (by kernel_rfl) (by kernel_rfl) (by kernel_rfl) (fun _ _ _ h => h) HS24.out (by rfl) ?_ ?_
            rotate_left
            · (intro w' hw'; obtain ⟨j0, j1, j2, j3, j4, j5, j6⟩ := hw'; first | (go_simp; done) | (go_simp; with_reducible rfl))
            try simp only [List.getElem_toArray, List.getElem_cons_zero, List.getElem_cons_succ, Act.put, List.setIfInBounds_toArray, List.set_cons_zero, List.set_cons_succ]
            refine RH_take (i := 7) (v := ?_) rfl (by kernel_rfl) (by kernel_rfl) (by kernel_rfl) (fun _ _ _ h => h) HS24.out (by rfl) ?_ ?_
            rotate_left
            · (intro w' hw'; obtain ⟨j0, j1, j2, j3, j4, j5, j6⟩ := hw'; first | (go_simp; done) | (go_simp; with_reducible rfl))
            try simp only [List.getElem_toArray, List.getElem_cons_zero, List.getElem_cons_succ, Act.put, List.setIfInBounds_toArray, List.set_cons_zero, List.set_cons_succ]
            refine RH_take (i := 8) (v := ?_) rfl (by kernel_rfl) (by kernel_rfl) (by kernel_rfl) (fun _ _ _ h => h) HS24.out (by rfl) ?_ ?_
            rotate_left
            · (intro w' hw'; obtain ⟨j0, j1, j2, j3, j4, j5, j6⟩ := hw'; first | (go_simp; done) | (go_simp; with_reducible rfl))
            try simp only [List.getElem_toArray, List.getElem_cons_zero, List.getElem_cons_succ, Act.put, List.setIfInBounds_toArray, List.set_cons_zero, List.set_cons_succ]
            refine RH_take (i := 9) (v := ?_) rfl (by kernel_rfl) (by kernel_rfl) (by kernel_rfl) (fun _ _ _ h => h) HS24.out (by rfl) ?_ ?_
            rotate_left
            · (intro w' hw'; obtain ⟨j0, j1, j2, j3, j4, j5, j6⟩ := hw'; first | (go_simp; done) | (go_simp; with_reducible rfl))
            try simp only [List.getElem_toArray, List.getElem_cons_zero, List.getElem_cons_succ, Act.put, List.setIfInBounds_toArray, List.set_cons_zero, List.set_cons_succ]
            refine RH_take (i := 10) (v := ?_) rfl (by kernel_rfl) (by kernel_rfl) (by kernel_rfl) (fun _ _ _ h => h) HS24.out (by rfl) ?_ ?_
            rotate_left
            · (intro w' hw'; obtain ⟨j0, j1, j2, j3, j4, j5, j6⟩ := hw'; first | (go_simp; done) | (go_simp; with_reducible rfl))
            try simp only [List.getElem_toArray, List.getElem_cons_zero, List.getElem_cons_succ, Act.put, List.setIfInBounds_toArray, List.set_cons_zero, List.set_cons_succ]
            refine RH_take (i := 11) (v := ?_) rfl (by kernel_rfl) (by kernel_rfl) (by kernel_rfl) (fun _ _ _ h => h) HS24.out (by rfl) ?_ ?_
            rotate_left
            · (intro w' hw'; obtain ⟨j0, j1, j2, j3, j4, j5, j6⟩ := hw'; first | (go_simp; done) | (go_simp; with_reducible rfl))
            try simp only [List.getElem_toArray, List.getElem_cons_zero, List.getElem_cons_succ, Act.put, List.setIfInBounds_toArray, List.set_cons_zero, List.set_cons_succ]
            refine RH_take (i := 12) (v := ?_) rfl (by kernel_rfl) (by kernel_rfl) (by kernel_rfl) (fun _ _ _ h => h) HS24.out (by rfl) ?_ ?_
            rotate_left
            · (intro w' hw'; obtain ⟨j0, j1, j2, j3, j4, j5, j6⟩ := hw'; first | (go_simp; done) | (go_simp; with_reducible rfl))
            try simp only [List.getElem_toArray, List.getElem_cons_zero, List.getElem_cons_succ, Act.put, List.setIfInBounds_toArray, List.set_cons_zero, List.set_cons_succ]
            refine RH_take (i := 13) (v := ?_) rfl (by kernel_rfl) (by kernel_rfl) (by kernel_rfl) (fun _ _ _ h => h) HS24.out (by rfl) ?_ ?_
            rotate_left
            · (intro w' hw'; obtain ⟨j0, j1, j2, j3, j4, j5, j6⟩ := hw'; first | (go_simp; done) | (go_simp; with_reducible rfl))
            try simp only [List.getElem_toArray, List.getElem_cons_zero, List.getElem_cons_succ, Act.put, List.setIfInBounds_toArray, List.set_cons_zero, List.set_cons_succ]
            refine RH_take (i := 14) (v := ?_) rfl (by kernel_rfl) (by kernel_rfl) (by kernel_rfl) (fun _ _ _ h => h) HS24.out (by rfl) ?_ ?_
            rotate_left
            · (intro w' hw'; obtain ⟨j0, j1, j2, j3, j4, j5, j6⟩ := hw'; first | (go_simp; done) | (go_simp; with_reducible rfl))
            try simp only [List.getElem_toArray, List.getElem_cons_zero, List.getElem_cons_succ, Act.put, List.setIfInBounds_toArray, List.set_cons_zero, List.set_cons_succ]
            refine RH_take (i := 15) (v := ?_) rfl (by kernel_rfl) (by kernel_rfl) (by kernel_rfl) (fun _ _ _ h => h) HS24.out (by rfl) ?_ ?_
            rotate_left
            · (intro w' hw'; obtain ⟨j0, j1, j2, j3, j4, j5, j6⟩ := hw'; first | (go_simp; done) | (go_simp; with_reducible rfl))
            try simp only [List.getElem_toArray, List.getElem_cons_zero, List.getElem_cons_succ, Act.put, List.setIfInBounds_toArray, List.set_cons_zero, List.set_cons_succ]
            refine RH_take (i := 16) (v := ?_) rfl (by kernel_rfl) (by kernel_rfl) (by kernel_rfl) (fun _ _ _ h => h) HS24.out (by rfl) ?_ ?_
            rotate_left
            · (intro w' hw'; obtain ⟨j0, j1, j2, j3, j4, j5, j6⟩ := hw'; first | (go_simp; done) | (go_simp; with_reducible rfl))
            try simp only [List.getElem_toArray, List.getElem_cons_zero, List.getElem_cons_succ, Act.put, List.setIfInBounds_toArray, List.set_cons_zero, List.set_cons_succ]
            refine wpAnyH_done (by kernel_rfl) ?_ _
            exact ⟨rfl, rfl⟩
          by_cases hbr : k + 1 = M
          · have dbr : (((k : Int) + 1) == (M : Int)) = true := by simp; omega
            have dbr2 : ((k + 1) == M) = true := by simpa using hbr
            have HE := Lib.hid (HEA.out k M HEK.out.symm hbr.symm)
            have hMl : M ≤ wl.length := by omega
            have hk6 : k ≤ 8 := by omega
            clear HEA hbr HS24 heq
            gi_wp2
            exact ⟨HE.out.1, rfl, HE.out.2.2.1, HE.out.2.2.2.1, hMl, HE.out.2.2.2.2⟩
          · have dbr : (((k : Int) + 1) == (M : Int)) = false := by simp; omega
            have dbr2 : ((k + 1) == M) = false := by simpa using hbr
            have HE := Lib.hid (HEA.out k (k + 1) HEK.out.symm rfl)
            have hk6 : k ≤ 8 := by omega
            have hkM : k + 1 < M := by omega
            have HPN : Hid ((pre ++ [(p, (⟨z0, z1, z2, z3, z4, z5⟩ : Pa))]).length = k + 1) := Lib.hid (by rw [HPLN.out, HEK.out])
            clear HEA hbr HS24 heq
            gi_wp2
            exact ⟨HE.out.1, HE.out.2.1, HE.out.2.2.1, by rw [HPN.out]; exact HE.out.2.2.2.1, by rw [HPN.out]; exact hkM, HE.out.2.2.2.2⟩
        case gend =>
          rintro xs X3 rfl ⟨h1, h2, h3, h4⟩ hK3
          obtain ⟨va, vc, rfl⟩ := h1.slice
          have hz := HZ9.out
          have hg := HGS.out
          have cS := h1.b2.cell
          have cA := h1.b0.cell
          have cB := h1.bw.cell
          have cK := h2.cell
          have cR := h1.b1.cell
          have fR := h1.b1.frozen
          have hsz9 := HW9.out.bel.size
          have HM : Hid (Marks w.heap.size [W9.heap.size, W5.heap.size] (X3.setCell ⟨w.heap.size + 1, 0, none⟩ (.bool true))) := Lib.hid (by
            refine ⟨by simp; omega, fun D hD => ?_⟩
            simp only [List.mem_cons, List.not_mem_nil, or_false] at hD
            rcases hD with rfl | rfl
            · exact ⟨by omega, by rw [Below.heap_setCell X3 ⟨w.heap.size + 1, 0, none⟩ _ _ (by simp only; omega)]; exact hK3⟩
            · exact ⟨HVW.out, by rw [Below.heap_setCell X3 ⟨w.heap.size + 1, 0, none⟩ _ _ (by have := HZ.out; simp only; omega)]; exact h1.d1⟩)
          have HQ : Hid (Below w.heap.size w (X3.setCell ⟨w.heap.size + 1, 0, none⟩ (.bool true)) ∧ Boxed (X3.setCell ⟨w.heap.size + 1, 0, none⟩ (.bool true)) (w.heap.size + 1) 4 (.bool true)) := Lib.hid
            ⟨h1.bel.setCell (p := ⟨w.heap.size + 1, 0, none⟩) (by show w.heap.size ≤ w.heap.size + 1; omega) _, heap_setCell_same X3 (w.heap.size + 1) 0 _ _ _ h1.b1⟩
          have dm : min ((M : Nat) : Int) ((xs.length : Nat) : Int) = ((xs.length : Nat) : Int) := by omega
          have dm2 : min M xs.length = xs.length := by omega
          have hxl : xs.length < M := h3
          clear h1 h2 h3 h4 hK3 hit
          gi_wp2
          refine leaves_marks (B := w.heap.size) (fun X => Below w.heap.size w X ∧ Boxed X (w.heap.size + 1) 4 (.bool true)) ?_ ?_ [W9.heap.size, W5.heap.size] _ HM.out HQ.out
          · rintro X D ⟨q1, q2⟩ hB hD
            exact ⟨q1.grown (grownBy_putObj' _ D (.deferred none)) q1.size (fun r e => by cases e; exact hB), (World.putObj_heap_other (fun e => by
              subst e
              have hq : X.heap[w.heap.size + 1]? = some (.cells #[.bool true] 4 (0, 0)) := q2
              rw [hq] at hD; cases hD)).trans q2⟩
          · rintro X ⟨q1, q2⟩
            exact ⟨.bool true, res_b8 rfl _ _ (w.heap.size + 1) rfl q2, rfl, q1⟩
        case gout =>
          rintro cc pre X3 ⟨s, hs⟩ ⟨rfl, h1, h2, h3, h4⟩ hK3
          obtain ⟨va, vc, rfl⟩ := h1.slice
          have hz := HZ9.out
          have hg := HGS.out
          have cS := h1.b2.cell
          have cA := h1.b0.cell
          have cB := h1.bw.cell
          have cK := h2.cell
          have cR := h1.b1.cell
          have fR := h1.b1.frozen
          have hsz9 := HW9.out.bel.size
          have HM : Hid (Marks w.heap.size [W9.heap.size, W5.heap.size] (X3.setCell ⟨w.heap.size + 1, 0, none⟩ (.bool true))) := Lib.hid (by
            refine ⟨by simp; omega, fun D hD => ?_⟩
            simp only [List.mem_cons, List.not_mem_nil, or_false] at hD
            rcases hD with rfl | rfl
            · exact ⟨by omega, by rw [Below.heap_setCell X3 ⟨w.heap.size + 1, 0, none⟩ _ _ (by simp only; omega)]; exact hK3⟩
            · exact ⟨HVW.out, by rw [Below.heap_setCell X3 ⟨w.heap.size + 1, 0, none⟩ _ _ (by have := HZ.out; simp only; omega)]; exact h1.d1⟩)
          have HQ : Hid (Below w.heap.size w (X3.setCell ⟨w.heap.size + 1, 0, none⟩ (.bool true)) ∧ Boxed (X3.setCell ⟨w.heap.size + 1, 0, none⟩ (.bool true)) (w.heap.size + 1) 4 (.bool true)) := Lib.hid
            ⟨h1.bel.setCell (p := ⟨w.heap.size + 1, 0, none⟩) (by show w.heap.size ≤ w.heap.size + 1; omega) _, heap_setCell_same X3 (w.heap.size + 1) 0 _ _ _ h1.b1⟩
          have dm : min ((M : Nat) : Int) ((wl.length : Nat) : Int) = ((M : Nat) : Int) := by omega
          have dm2 : min M wl.length = M := by omega
          have hxl : ¬ wl.length < M := by omega
          clear hs
          clear h1 h2 h3 h4 hK3 hit
          gi_wp2
          refine leaves_marks (B := w.heap.size) (fun X => Below w.heap.size w X ∧ Boxed X (w.heap.size + 1) 4 (.bool true)) ?_ ?_ [W9.heap.size, W5.heap.size] _ HM.out HQ.out
          · rintro X D ⟨q1, q2⟩ hB hD
            exact ⟨q1.grown (grownBy_putObj' _ D (.deferred none)) q1.size (fun r e => by cases e; exact hB), (World.putObj_heap_other (fun e => by
              subst e
              have hq : X.heap[w.heap.size + 1]? = some (.cells #[.bool true] 4 (0, 0)) := q2
              rw [hq] at hD; cases hD)).trans q2⟩
          · rintro X ⟨q1, q2⟩
            exact ⟨.bool true, res_b8 rfl _ _ (w.heap.size + 1) rfl q2, rfl, q1⟩
    by_cases hl1 : l = 1
    rotate_left
    · have d0 : (l == 0) = false := by simpa using hl0
      have d1 : (l == 1) = false := by simpa using hl1
      have HPS : Hid (psL (m : Int) (n : Int) l = []) := Lib.hid (if_neg (fun h => by have := h.2.2; omega))
      clear s1 s2 s3 s4 hl0 hl1
      gi_wp2_with fail
      gi_loopw [13] (fun i wr => i = .int .i64 0 ∧ wr = ((X1.setCell ⟨w.heap.size, 0, none⟩ (.int .i64 (wrap64 (1 + wrap64 ((IntKind.u64.wrap c).tmod 8))))).alloc (.cells #[] 46)).alloc (.cells #[.slice (some ⟨X1.heap.size, 0, none⟩) 0 0] 45)) (fun _ _ => 0)
      case atStart => exact ⟨rfl, rfl⟩
      case round =>
        obtain ⟨rfl, rfl⟩ := hrel
        gi_wp2_with fail
        have hX3 := hX2.out
        have hsz : (((X1.setCell ⟨w.heap.size, 0, none⟩ (.int .i64 (wrap64 (1 + wrap64 ((IntKind.u64.wrap c).tmod 8))))).alloc (.cells #[] 46)).alloc (.cells #[.slice (some ⟨X1.heap.size, 0, none⟩) 0 0] 45)).heap.size = B + 1 := by simp; have := HB.out; omega
        have k8 := below_alloc (((X1.setCell ⟨w.heap.size, 0, none⟩ (.int .i64 (wrap64 (1 + wrap64 ((IntKind.u64.wrap c).tmod 8))))).alloc (.cells #[] 46)).alloc (.cells #[.slice (some ⟨X1.heap.size, 0, none⟩) 0 0] 45)) (.cells #[.int .i64 0] 3)
        have u8 : Boxed ((((X1.setCell ⟨w.heap.size, 0, none⟩ (.int .i64 (wrap64 (1 + wrap64 ((IntKind.u64.wrap c).tmod 8))))).alloc (.cells #[] 46)).alloc (.cells #[.slice (some ⟨X1.heap.size, 0, none⟩) 0 0] 45)).alloc (.cells #[.int .i64 0] 3)) (((X1.setCell ⟨w.heap.size, 0, none⟩ (.int .i64 (wrap64 (1 + wrap64 ((IntKind.u64.wrap c).tmod 8))))).alloc (.cells #[] 46)).alloc (.cells #[.slice (some ⟨X1.heap.size, 0, none⟩) 0 0] 45)).heap.size 3 (.int .i64 0) := World.alloc_heap_new (((X1.setCell ⟨w.heap.size, 0, none⟩ (.int .i64 (wrap64 (1 + wrap64 ((IntKind.u64.wrap c).tmod 8))))).alloc (.cells #[] 46)).alloc (.cells #[.slice (some ⟨X1.heap.size, 0, none⟩) 0 0] 45)) _
        have HW8 := hX3.below k8
        have hz8 : ((((X1.setCell ⟨w.heap.size, 0, none⟩ (.int .i64 (wrap64 (1 + wrap64 ((IntKind.u64.wrap c).tmod 8))))).alloc (.cells #[] 46)).alloc (.cells #[.slice (some ⟨X1.heap.size, 0, none⟩) 0 0] 45)).alloc (.cells #[.int .i64 0] 3)).heap.size = (((X1.setCell ⟨w.heap.size, 0, none⟩ (.int .i64 (wrap64 (1 + wrap64 ((IntKind.u64.wrap c).tmod 8))))).alloc (.cells #[] 46)).alloc (.cells #[.slice (some ⟨X1.heap.size, 0, none⟩) 0 0] 45)).heap.size + 1 := by simp
        have hbk := Boxed.lt hX3.bw
        rw [hsz] at u8 hz8 hbk
        clear hX3 hsz k8
        revert u8 HW8 hz8
        generalize (((X1.setCell ⟨w.heap.size, 0, none⟩ (.int .i64 (wrap64 (1 + wrap64 ((IntKind.u64.wrap c).tmod 8))))).alloc (.cells #[] 46)).alloc (.cells #[.slice (some ⟨X1.heap.size, 0, none⟩) 0 0] 45)).alloc (.cells #[.int .i64 0] 3) = W8
        intro u8 HW8 hz8
        obtain ⟨K, hKK⟩ : ∃ K, B + 1 = K := ⟨_, rfl⟩
        rw [hKK] at u8 hz8 hbk ⊢
        have h3 := three_boxes W8 (m : Nat) (n : Nat) l
        refine ⟨trivial, (passes_in Fence.wide 3 trivial rfl (m : Nat) (n : Nat) l _).mono ?_⟩
        rintro e w' ⟨rfl, rfl⟩
        obtain ⟨hb9, b1, b2, b3, hz9⟩ := h3
        revert hb9 b1 b2 b3 hz9
        generalize ((W8.alloc (.cells #[.int .i64 (m : Nat)] 3)).alloc (.cells #[.int .i64 (n : Nat)] 3)).alloc (.cells #[.int .i64 l] 3) = W9
        intro hb9 b1 b2 b3 hz9
        have HW9 := Lib.hid (HW8.below hb9)
        have u9 := (hb9.block _ (Boxed.lt u8)).trans u8
        obtain ⟨X, hXX⟩ : ∃ X, W8.heap.size = X := ⟨_, rfl⟩
        rw [hXX] at b1 b2 b3 ⊢
        have hit := passes_iter X (X + 1) (X + 2) (m : Nat) (n : Nat) l (fun k => k = K) W9 b1 b2 b3 (HLP0.out.below HW9.out.bel) (fun k hk => by omega)
        have HZ9 : Hid (B < K ∧ K < W9.heap.size) := Lib.hid (by have := HB.out; omega)
        have HGS := Lib.hid (And.intro HW9.out.gb (And.intro HW9.out.sb HW9.out.db))
        clear hb9 b1 b2 b3 hz9 u8 HW8 hz8 hbk hKK hXX
        generalize (.slice (some ⟨X1.heap.size, 0, none⟩) 0 0 : Value) = v at HW9
        gi_wp2_with fail
        have HBD := Lib.hid (fun q hq => psl_bd (m : Nat) (n : Nat) l q hq)
        rw [HPS.out] at hit HBD
        generalize ([] : List (Nat × Pa)) = wl at HW9 hit HBD
        have HVW9 := Lib.hid HW9.out.bel.size
        refine range_iterB (F := Fence.wide) (n := 4) (P := Tryd.prog) (gf := 19) (lb := #[.pointer (some ⟨X, 0, none⟩), .pointer (some ⟨X + 1, 0, none⟩), .pointer (some ⟨X + 2, 0, none⟩)]) hro (by omega) rfl trivial (enters_of Tryd.func19 (by kernel_rfl) rfl)
          (encs := sEnc) (hseq := hit) (fun h1 h2 => h1.trans h2) (fun W l o o' hl hc => Bk.Kc.put W l o o' hl hc) (fun _ => rfl)
          (fun pre W => Wn w W (M : Nat) S B W5.heap.size v wl ∧ Boxed W K 3 (.int .i64 (pre.length : Nat)) ∧ pre.length < M ∧ W9.heap.size ≤ W.heap.size)
          (fun cc pre W => cc = .exit 4 ∧ Wn w W (M : Nat) S B W5.heap.size v wl ∧ Boxed W K 3 (.int .i64 (M : Nat)) ∧ M ≤ wl.length ∧ W9.heap.size ≤ W.heap.size)
          ?gI ?gX ⟨HW9.out, u9, by show 0 < M; omega, Nat.le_refl _⟩ (fun q => .cells #[.int .i64 (q.2.c : Nat), .int .i64 (q.2.r : Nat)] 41 (0, 0)) (fun _ => rfl) (fun _ _ => Bk.Kc.alloc _ _ _)
          (fun T x Bx => { tmps := (((T.setIfInBounds 92 (.int .i64 (x.1 : Nat))).setIfInBounds 93 (.agg #[.int .i64 (x.2.c : Nat), .int .i64 (x.2.r : Nat)])).setIfInBounds 17 (.int .i64 (x.1 : Nat))).setIfInBounds 18 (.pointer (some ⟨Bx, 0, none⟩)), defers := [] })
          ?gas ?gbo ?gend ?gout
        case gI =>
          rintro s X' Y row ⟨h1, h2, h3, h4⟩ hg hr
          have hv := HVW9.out
          have hz := HZ9.out
          have hk := Bk.kc_cells hg (fun r e => (hr r e).2)
          exact ⟨h1.grown hg (fun r e => by have := (hr r e).1; omega) (fun r e => (hr r e).2), hk _ _ h2 rfl (fun h => h), h3, Nat.le_trans h4 hg.size⟩
        case gX =>
          rintro cc s X' Y row ⟨h0, h1, h2, h3, h4⟩ hg hr
          have hv := HVW9.out
          have hz := HZ9.out
          have hk := Bk.kc_cells hg (fun r e => (hr r e).2)
          exact ⟨h0, h1.grown hg (fun r e => by have := (hr r e).1; omega) (fun r e => (hr r e).2), hk _ _ h2 rfl (fun h => h), h3, Nat.le_trans h4 hg.size⟩
        case gas =>
          rintro k ⟨p, z0, z1, z2, z3, z4, z5⟩ X' K' hK'
          simp only [sEnc]
          gi_wp2
          exact hK'
        case gbo =>
          rintro kk pre ⟨p, z0, z1, z2, z3, z4, z5⟩ A Bx ⟨h1, h2, h3, h4⟩ ⟨s, hs⟩ hBx hbx
          simp only at hbx
          have hplen : pre.length < wl.length := by rw [hs]; simp
          have hget : wl[pre.length]? = some (p, (⟨z0, z1, z2, z3, z4, z5⟩ : Pa)) := by rw [hs]; simp
          have hpl : (pre ++ [(p, (⟨z0, z1, z2, z3, z4, z5⟩ : Pa))]).length = pre.length + 1 := by simp
          have HPLN := Lib.hid hpl
          have hsl := h1.slice
          rcases own_nil_or h1.row with ⟨_, hx⟩ | ⟨g, vc, rfl, _⟩
          · omega
          clear hsl
          have hz := HZ9.out
          have hmix : Tryd.prog.follows .mixedOrders = true := by kernel_rfl
          have HEA : Hid (∀ k z : Nat, k = pre.length → z = k + 1 → KeepsFrom W9.heap.size A (A.drew.setCell ⟨K, 0, none⟩ (.int .i64 ((k : Int) + 1))) ∧ Bk.Kc (fun k => k = K) A (A.drew.setCell ⟨K, 0, none⟩ (.int .i64 ((k : Int) + 1))) ∧ Wn w (A.drew.setCell ⟨K, 0, none⟩ (.int .i64 ((k : Int) + 1))) (M : Nat) S B W5.heap.size (.slice (some ⟨g, 0, none⟩) wl.length vc) wl ∧ Boxed (A.drew.setCell ⟨K, 0, none⟩ (.int .i64 ((k : Int) + 1))) K 3 (.int .i64 (z : Nat)) ∧ W9.heap.size ≤ (A.drew.setCell ⟨K, 0, none⟩ (.int .i64 ((k : Int) + 1))).heap.size) := Lib.hid (fun k z hk hz' => by
            subst hk
            have hs2 : Ch A (A.drew.setCell ⟨K, 0, none⟩ (.int .i64 ((pre.length : Int) + 1))) (fun k => k = K) := (Ch.drew (Ch.refl A (fun k => k = K))).set (p := ⟨K, 0, none⟩) (.inl rfl) _
            have h2d : Boxed A.drew K 3 (.int .i64 (pre.length : Nat)) := h2
            refine ⟨⟨hs2.size, fun j o hj ho _ => (hs2.block j (Array.getElem?_eq_some_iff.1 ho).1 (by omega)).trans ho⟩, fun j o ho _ hn => (hs2.block j (Array.getElem?_eq_some_iff.1 ho).1 hn).trans ho, (h1.below (Wx := A.drew) (Below.refl _ _).drew).setk K hz.1 _ _ h2d, ?_, Nat.le_trans h4 hs2.size⟩
            have e : (z : Int) = (pre.length : Int) + 1 := by omega
            rw [show (Value.int IntKind.i64 ((z : Nat) : Int)) = .int .i64 ((pre.length : Int) + 1) from by rw [e]]
            exact heap_setCell_same A.drew K 0 _ _ _ h2d)
          obtain ⟨k, hkk⟩ : ∃ k, pre.length = k := ⟨_, rfl⟩
          have HEK := Lib.hid hkk
          rw [hkk] at hplen h2 h3
          have hS24 : (fun w' : World => w'.cell? ⟨K, 0, none⟩ = some (.int .i64 (k : Nat)) ∧ w'.cell? ⟨B, 0, none⟩ = some (.slice (some ⟨g, 0, none⟩) wl.length vc) ∧ w'.cell? ⟨Bx, 0, none⟩ = some (.int .i64 (z4 : Nat)) ∧ w'.cell? ⟨Bx, 1, none⟩ = some (.int .i64 (z5 : Nat)) ∧ w'.cell? ⟨g, k * 3, none⟩ = some (.int .i64 (p : Nat)) ∧ w'.cell? ⟨g, k * 3 + 1, none⟩ = some (.int .i64 (z4 : Nat)) ∧ w'.cell? ⟨g, k * 3 + 2, none⟩ = some (.int .i64 (z5 : Nat))) A.drew := ⟨h2.cell, h1.bw.cell, by show A.cell? _ = _; rw [cell_of_row _ _ _ _ _ (0, 0) hbx]; rfl, by show A.cell? _ = _; rw [cell_of_row _ _ _ _ _ (0, 0) hbx]; rfl, (h1.below (Wx := A.drew) (Below.refl _ _).drew).three k _ (by rw [← hkk]; exact hget)⟩
          have HS24 := Lib.hid hS24
          obtain ⟨q1, q2, q3⟩ := HBD.out (p, (⟨z0, z1, z2, z3, z4, z5⟩ : Pa)) (by rw [hs]; simp)
          have heq := fun w' => eq3 p z4 z5 w' q1 q2 q3
          have d1 : decide ((wl.length : Int) ≤ (k : Int)) = false := by simp; omega
          have d2 : decide (wl.length ≤ k) = false := by simp; omega
          have cA := h1.b0.cell
          have cK := h2.cell
          have fK := h2.frozen
          have hneA : K ≠ w.heap.size := by have := HGS.out; omega
          have cA2 : ∀ u, (A.drew.setCell ⟨K, 0, none⟩ u).cell? ⟨w.heap.size, 0, none⟩ = some (.int .i64 (M : Nat)) := fun u => (World.cell?_setCell_far A.drew ⟨K, 0, none⟩ ⟨w.heap.size, 0, none⟩ u hneA).trans cA
          have HM8 := Lib.hid hm8
          clear hs hget hpl hS24 h1 hbx hit hBx
          simp only [List.setIfInBounds_toArray, List.set_cons_zero, List.set_cons_succ]
          gi_wp2_with fail
          refine oneH (fun w' : World => w'.cell? ⟨K, 0, none⟩ = some (.int .i64 (k : Nat)) ∧ w'.cell? ⟨B, 0, none⟩ = some (.slice (some ⟨g, 0, none⟩) wl.length vc) ∧ w'.cell? ⟨Bx, 0, none⟩ = some (.int .i64 (z4 : Nat)) ∧ w'.cell? ⟨Bx, 1, none⟩ = some (.int .i64 (z5 : Nat)) ∧ w'.cell? ⟨g, k * 3, none⟩ = some (.int .i64 (p : Nat)) ∧ w'.cell? ⟨g, k * 3 + 1, none⟩ = some (.int .i64 (z4 : Nat)) ∧ w'.cell? ⟨g, k * 3 + 2, none⟩ = some (.int .i64 (z5 : Nat))) hmix (by kernel_rfl) ?_
          constructor
          constructor
          constructor
          · skip
            refine RH_take (i := 0) (v := ?_) rfl (by kernel_rfl) (by kernel_rfl) (by kernel_rfl) (fun _ _ _ h => h) HS24.out (by rfl) ?_ ?_
            rotate_left
            · (intro w' hw'; obtain ⟨j0, j1, j2, j3, j4, j5, j6⟩ := hw'; first | (go_simp; done) | (go_simp; with_reducible rfl))
            try simp only [List.getElem_toArray, List.getElem_cons_zero, List.getElem_cons_succ, Act.put, List.setIfInBounds_toArray, List.set_cons_zero, List.set_cons_succ]
            refine RH_take (i := 1) (v := ?_) rfl (by kernel_rfl) (by kernel_rfl) (by kernel_rfl) (fun _ _ _ h => h) HS24.out (by rfl) ?_ ?_
            rotate_left
            · (intro w' hw'; obtain ⟨j0, j1, j2, j3, j4, j5, j6⟩ := hw'; first | (go_simp; done) | (go_simp; with_reducible rfl))
            try simp only [List.getElem_toArray, List.getElem_cons_zero, List.getElem_cons_succ, Act.put, List.setIfInBounds_toArray, List.set_cons_zero, List.set_cons_succ]
            refine RH_take (i := 2) (v := ?_) rfl (by kernel_rfl) (by kernel_rfl) (by kernel_rfl) (fun _ _ _ h => h) HS24.out (by rfl) ?_ ?_
            rotate_left
            · (intro w' hw'; obtain ⟨j0, j1, j2, j3, j4, j5, j6⟩ := hw'; first | (go_simp; done) | (go_simp; with_reducible rfl))
            try simp only [List.getElem_toArray, List.getElem_cons_zero, List.getElem_cons_succ, Act.put, List.setIfInBounds_toArray, List.set_cons_zero, List.set_cons_succ]
            refine RH_take (i := 3) (v := ?_) rfl (by kernel_rfl) (by kernel_rfl) (by kernel_rfl) (fun _ _ _ h => h) HS24.out (by rfl) ?_ ?_
            rotate_left
            · (intro w' hw'; obtain ⟨j0, j1, j2, j3, j4, j5, j6⟩ := hw'; first | (go_simp; done) | (go_simp; with_reducible rfl))
            try simp only [List.getElem_toArray, List.getElem_cons_zero, List.getElem_cons_succ, Act.put, List.setIfInBounds_toArray, List.set_cons_zero, List.set_cons_succ]
            refine RH_take (i := 4) (v := ?_) rfl (by kernel_rfl) (by kernel_rfl) (by kernel_rfl) (fun _ _ _ h => h) HS24.out (by rfl) ?_ ?_
            rotate_left
            · (intro w' hw'; obtain ⟨j0, j1, j2, j3, j4, j5, j6⟩ := hw'; first | (go_simp; done) | (go_simp; with_reducible rfl))
            try simp only [List.getElem_toArray, List.getElem_cons_zero, List.getElem_cons_succ, Act.put, List.setIfInBounds_toArray, List.set_cons_zero, List.set_cons_succ]
            refine RH_take (i := 5) (v := ?_) rfl (by kernel_rfl) (by kernel_rfl) (by kernel_rfl) (fun _ _ _ h => h) HS24.out (by rfl) ?_ ?_
            rotate_left
            · (intro w' hw'; obtain ⟨j0, j1, j2, j3, j4, j5, j6⟩ := hw'; first | (go_simp; done) | (go_simp; with_reducible rfl))
            try simp only [List.getElem_toArray, List.getElem_cons_zero, List.getElem_cons_succ, Act.put, List.setIfInBounds_toArray, List.set_cons_zero, List.set_cons_succ]
            refine RH_take (i := 6) (v := ?_) rfl (by kernel_rfl) (by kernel_rfl) (by kernel_rfl) (fun _ _ _ h => h) HS24.out (by rfl) ?_ ?_
            rotate_left
            · (intro w' hw'; obtain ⟨j0, j1, j2, j3, j4, j5, j6⟩ := hw'; first | (go_simp; done) | (go_simp; with_reducible rfl))
            try simp only [List.getElem_toArray, List.getElem_cons_zero, List.getElem_cons_succ, Act.put, List.setIfInBounds_toArray, List.set_cons_zero, List.set_cons_succ]
            refine RH_take (i := 7) (v := ?_) rfl (by kernel_rfl) (by kernel_rfl) (by kernel_rfl) (fun _ _ _ h => h) HS24.out (by rfl) ?_ ?_
            rotate_left
            · (intro w' hw'; obtain ⟨j0, j1, j2, j3, j4, j5, j6⟩ := hw'; first | (go_simp; done) | (go_simp; with_reducible rfl))
            try simp only [List.getElem_toArray, List.getElem_cons_zero, List.getElem_cons_succ, Act.put, List.setIfInBounds_toArray, List.set_cons_zero, List.set_cons_succ]
            refine RH_take (i := 8) (v := ?_) rfl (by kernel_rfl) (by kernel_rfl) (by kernel_rfl) (fun _ _ _ h => h) HS24.out (by rfl) ?_ ?_
            rotate_left
            · (intro w' hw'; obtain ⟨j0, j1, j2, j3, j4, j5, j6⟩ := hw'; first | (go_simp; done) | (go_simp; with_reducible rfl))
            try simp only [List.getElem_toArray, List.getElem_cons_zero, List.getElem_cons_succ, Act.put, List.setIfInBounds_toArray, List.set_cons_zero, List.set_cons_succ]
            refine RH_take (i := 9) (v := ?_) rfl (by kernel_rfl) (by kernel_rfl) (by kernel_rfl) (fun _ _ _ h => h) HS24.out (by rfl) ?_ ?_
            rotate_left
            · (intro w' hw'; obtain ⟨j0, j1, j2, j3, j4, j5, j6⟩ := hw'; first | (go_simp; done) | (go_simp; with_reducible rfl))
            try simp only [List.getElem_toArray, List.getElem_cons_zero, List.getElem_cons_succ, Act.put, List.setIfInBounds_toArray, List.set_cons_zero, List.set_cons_succ]
            refine RH_take (i := 10) (v := ?_) rfl (by kernel_rfl) (by kernel_rfl) (by kernel_rfl) (fun _ _ _ h => h) HS24.out (by rfl) ?_ ?_
            rotate_left
            · (intro w' hw'; obtain ⟨j0, j1, j2, j3, j4, j5, j6⟩ := hw'; first | (go_simp; done) | (go_simp; with_reducible rfl))
            try simp only [List.getElem_toArray, List.getElem_cons_zero, List.getElem_cons_succ, Act.put, List.setIfInBounds_toArray, List.set_cons_zero, List.set_cons_succ]
            refine RH_take (i := 11) (v := ?_) rfl (by kernel_rfl) (by kernel_rfl) (by kernel_rfl) (fun _ _ _ h => h) HS24.out (by rfl) ?_ ?_
            rotate_left
            · (intro w' hw'; obtain ⟨j0, j1, j2, j3, j4, j5, j6⟩ := hw'; first | (go_simp; done) | (go_simp; with_reducible rfl))
            try simp only [List.getElem_toArray, List.getElem_cons_zero, List.getElem_cons_succ, Act.put, List.setIfInBounds_toArray, List.set_cons_zero, List.set_cons_succ]
            refine RH_take (i := 12) (v := ?_) rfl (by kernel_rfl) (by kernel_rfl) (by kernel_rfl) (fun _ _ _ h => h) HS24.out (by rfl) ?_ ?_
            rotate_left
            · (intro w' hw'; obtain ⟨j0, j1, j2, j3, j4, j5, j6⟩ := hw'; first | (go_simp; done) | (go_simp; with_reducible rfl))
            try simp only [List.getElem_toArray, List.getElem_cons_zero, List.getElem_cons_succ, Act.put, List.setIfInBounds_toArray, List.set_cons_zero, List.set_cons_succ]
            refine RH_take (i := 13) (v := ?_) rfl (by kernel_rfl) (by kernel_rfl) (by kernel_rfl) (fun _ _ _ h => h) HS24.out (by rfl) ?_ ?_
            rotate_left
            · (intro w' hw'; obtain ⟨j0, j1, j2, j3, j4, j5, j6⟩ := hw'; first | (go_simp; done) | (go_simp; with_reducible rfl))
            try simp only [List.getElem_toArray, List.getElem_cons_zero, List.getElem_cons_succ, Act.put, List.setIfInBounds_toArray, List.set_cons_zero, List.set_cons_succ]
            refine RH_take (i := 14) (v := ?_) rfl (by kernel_rfl) (by kernel_rfl) (by kernel_rfl) (fun _ _ _ h => h) HS24.out (by rfl) ?_ ?_
            rotate_left
            · (intro w' hw'; obtain ⟨j0, j1, j2, j3, j4, j5, j6⟩ := hw'; first | (go_simp; done) | (go_simp; with_reducible rfl))
            try simp only [List.getElem_toArray, List.getElem_cons_zero, List.getElem_cons_succ, Act.put, List.setIfInBounds_toArray, List.set_cons_zero, List.set_cons_succ]
            refine RH_take (i := 15) (v := ?_) rfl (by kernel_rfl) (by kernel_rfl) (by kernel_rfl) (fun _ _ _ h => h) HS24.out (by rfl) ?_ ?_
            rotate_left
            · (intro w' hw'; obtain ⟨j0, j1, j2, j3, j4, j5, j6⟩ := hw'; first | (go_simp; done) | (go_simp; with_reducible rfl))
            try simp only [List.getElem_toArray, List.getElem_cons_zero, List.getElem_cons_succ, Act.put, List.setIfInBounds_toArray, List.set_cons_zero, List.set_cons_succ]
            refine RH_take (i := 16) (v := ?_) rfl (by kernel_rfl) (by kernel_rfl) (by kernel_rfl) (fun _ _ _ h => h) HS24.out (by rfl) ?_ ?_
            rotate_left
            · (intro w' hw'; obtain ⟨j0, j1, j2, j3, j4, j5, j6⟩ := hw'; first | (go_simp; done) | (go_simp; with_reducible rfl))
            try simp only [List.getElem_toArray, List.getElem_cons_zero, List.getElem_cons_succ, Act.put, List.setIfInBounds_toArray, List.set_cons_zero, List.set_cons_succ]
            refine wpAnyH_done (by kernel_rfl) ?_ _
            exact ⟨rfl, rfl⟩
          by_cases hbr : k + 1 = M
          · have dbr : (((k : Int) + 1) == (M : Int)) = true := by simp; omega
            have dbr2 : ((k + 1) == M) = true := by simpa using hbr
            have HE := Lib.hid (HEA.out k M HEK.out.symm hbr.symm)
            have hMl : M ≤ wl.length := by omega
            have hk6 : k ≤ 8 := by omega
            clear HEA hbr HS24 heq
            gi_wp2
            exact ⟨HE.out.1, rfl, HE.out.2.2.1, HE.out.2.2.2.1, hMl, HE.out.2.2.2.2⟩
          · have dbr : (((k : Int) + 1) == (M : Int)) = false := by simp; omega
            have dbr2 : ((k + 1) == M) = false := by simpa using hbr
            have HE := Lib.hid (HEA.out k (k + 1) HEK.out.symm rfl)
            have hk6 : k ≤ 8 := by omega
            have hkM : k + 1 < M := by omega
            have HPN : Hid ((pre ++ [(p, (⟨z0, z1, z2, z3, z4, z5⟩ : Pa))]).length = k + 1) := Lib.hid (by rw [HPLN.out, HEK.out])
            clear HEA hbr HS24 heq
            gi_wp2
            exact ⟨HE.out.1, HE.out.2.1, HE.out.2.2.1, by rw [HPN.out]; exact HE.out.2.2.2.1, by rw [HPN.out]; exact hkM, HE.out.2.2.2.2⟩
        case gend =>
          rintro xs X3 rfl ⟨h1, h2, h3, h4⟩ hK3
          obtain ⟨va, vc, rfl⟩ := h1.slice
          have hz := HZ9.out
          have hg := HGS.out
          have cS := h1.b2.cell
          have cA := h1.b0.cell
          have cB := h1.bw.cell
          have cK := h2.cell
          have cR := h1.b1.cell
          have fR := h1.b1.frozen
          have hsz9 := HW9.out.bel.size
          have HM : Hid (Marks w.heap.size [W9.heap.size, W5.heap.size] (X3.setCell ⟨w.heap.size + 1, 0, none⟩ (.bool true))) := Lib.hid (by
            refine ⟨by simp; omega, fun D hD => ?_⟩
            simp only [List.mem_cons, List.not_mem_nil, or_false] at hD
            rcases hD with rfl | rfl
            · exact ⟨by omega, by rw [Below.heap_setCell X3 ⟨w.heap.size + 1, 0, none⟩ _ _ (by simp only; omega)]; exact hK3⟩
            · exact ⟨HVW.out, by rw [Below.heap_setCell X3 ⟨w.heap.size + 1, 0, none⟩ _ _ (by have := HZ.out; simp only; omega)]; exact h1.d1⟩)
          have HQ : Hid (Below w.heap.size w (X3.setCell ⟨w.heap.size + 1, 0, none⟩ (.bool true)) ∧ Boxed (X3.setCell ⟨w.heap.size + 1, 0, none⟩ (.bool true)) (w.heap.size + 1) 4 (.bool true)) := Lib.hid
            ⟨h1.bel.setCell (p := ⟨w.heap.size + 1, 0, none⟩) (by show w.heap.size ≤ w.heap.size + 1; omega) _, heap_setCell_same X3 (w.heap.size + 1) 0 _ _ _ h1.b1⟩
          have dm : min ((M : Nat) : Int) ((xs.length : Nat) : Int) = ((xs.length : Nat) : Int) := by omega
          have dm2 : min M xs.length = xs.length := by omega
          have hxl : xs.length < M := h3
          clear h1 h2 h3 h4 hK3 hit
          gi_wp2
          refine leaves_marks (B := w.heap.size) (fun X => Below w.heap.size w X ∧ Boxed X (w.heap.size + 1) 4 (.bool true)) ?_ ?_ [W9.heap.size, W5.heap.size] _ HM.out HQ.out
          · rintro X D ⟨q1, q2⟩ hB hD
            exact ⟨q1.grown (grownBy_putObj' _ D (.deferred none)) q1.size (fun r e => by cases e; exact hB), (World.putObj_heap_other (fun e => by
              subst e
              have hq : X.heap[w.heap.size + 1]? = some (.cells #[.bool true] 4 (0, 0)) := q2
              rw [hq] at hD; cases hD)).trans q2⟩
          · rintro X ⟨q1, q2⟩
            exact ⟨.bool true, res_b8 rfl _ _ (w.heap.size + 1) rfl q2, rfl, q1⟩
        case gout =>
          rintro cc pre X3 ⟨s, hs⟩ ⟨rfl, h1, h2, h3, h4⟩ hK3
          obtain ⟨va, vc, rfl⟩ := h1.slice
          have hz := HZ9.out
          have hg := HGS.out
          have cS := h1.b2.cell
          have cA := h1.b0.cell
          have cB := h1.bw.cell
          have cK := h2.cell
          have cR := h1.b1.cell
          have fR := h1.b1.frozen
          have hsz9 := HW9.out.bel.size
          have HM : Hid (Marks w.heap.size [W9.heap.size, W5.heap.size] (X3.setCell ⟨w.heap.size + 1, 0, none⟩ (.bool true))) := Lib.hid (by
            refine ⟨by simp; omega, fun D hD => ?_⟩
            simp only [List.mem_cons, List.not_mem_nil, or_false] at hD
            rcases hD with rfl | rfl
            · exact ⟨by omega, by rw [Below.heap_setCell X3 ⟨w.heap.size + 1, 0, none⟩ _ _ (by simp only; omega)]; exact hK3⟩
            · exact ⟨HVW.out, by rw [Below.heap_setCell X3 ⟨w.heap.size + 1, 0, none⟩ _ _ (by have := HZ.out; simp only; omega)]; exact h1.d1⟩)
          have HQ : Hid (Below w.heap.size w (X3.setCell ⟨w.heap.size + 1, 0, none⟩ (.bool true)) ∧ Boxed (X3.setCell ⟨w.heap.size + 1, 0, none⟩ (.bool true)) (w.heap.size + 1) 4 (.bool true)) := Lib.hid
            ⟨h1.bel.setCell (p := ⟨w.heap.size + 1, 0, none⟩) (by show w.heap.size ≤ w.heap.size + 1; omega) _, heap_setCell_same X3 (w.heap.size + 1) 0 _ _ _ h1.b1⟩
          have dm : min ((M : Nat) : Int) ((wl.length : Nat) : Int) = ((M : Nat) : Int) := by omega
          have dm2 : min M wl.length = M := by omega
          have hxl : ¬ wl.length < M := by omega
          clear hs
          clear h1 h2 h3 h4 hK3 hit
          gi_wp2
          refine leaves_marks (B := w.heap.size) (fun X => Below w.heap.size w X ∧ Boxed X (w.heap.size + 1) 4 (.bool true)) ?_ ?_ [W9.heap.size, W5.heap.size] _ HM.out HQ.out
          · rintro X D ⟨q1, q2⟩ hB hD
            exact ⟨q1.grown (grownBy_putObj' _ D (.deferred none)) q1.size (fun r e => by cases e; exact hB), (World.putObj_heap_other (fun e => by
              subst e
              have hq : X.heap[w.heap.size + 1]? = some (.cells #[.bool true] 4 (0, 0)) := q2
              rw [hq] at hD; cases hD)).trans q2⟩
          · rintro X ⟨q1, q2⟩
            exact ⟨.bool true, res_b8 rfl _ _ (w.heap.size + 1) rfl q2, rfl, q1⟩
    · subst hl1
      have HPS7 : Hid (psL (m : Int) (n : Int) 1 = from' m n 0 7) := Lib.hid (if_pos ⟨HSD.out.1, HSD.out.2, .inr rfl⟩)
      have HGD : Hid (∀ p : Nat, p < 7 → sz m n p = ((of p m n).c, (of p m n).r)) := Lib.hid (fun p hp => sz_good ⟨by omega, by omega, by omega, by omega, by omega, by omega⟩)
      have HOL : Hid (∀ p : Nat, (of p m n).c ≤ m ∧ (of p m n).r ≤ n) := Lib.hid (fun p => of_le p m n)
      clear hl0
      gi_wp2_with fail
      gi_loopw [13] (fun i wr => ∃ (p : Nat) (v : Value), p ≤ 7 ∧ i = .int .i64 (p : Nat) ∧ Hid (Wn w wr (M : Nat) S B W5.heap.size v (from' m n 0 p))) (fun i _ => 7 - (intOf i).toNat)
      case atStart => exact ⟨0, _, by omega, rfl, hX2⟩
      case round =>
        obtain ⟨p, v0, hp, rfl, HWP⟩ := hrel
        clear hX2
        by_cases hp7 : p < 7
        · have HST := Lib.hid (from_step m n p hp7)
          have dp : decide ((p : Int) < 7) = true := by simp; omega
          have dp2 : decide (p < 7) = true := by simpa using hp7
          have HSZ := Lib.hid (refSize_any m n p wr)
          rw [HGD.out p hp7] at HSZ
          have hol := HOL.out p
          gi_wp2_with fail
          refine ⟨trivial, (callsIn_wide.2 HSZ.out).mono ?_⟩
          rintro e w6 ⟨rfl, hb6⟩
          have HW6 := Lib.hid (HWP.out.below hb6)
          clear hb6 HWP HSZ
          obtain ⟨va, vc, rfl⟩ := HW6.out.slice
          have cB := HW6.out.bw.cell
          have fB := HW6.out.bw.frozen
          by_cases hc0 : 0 < (of p m n).c
          · have HST2 : Hid (from' m n 0 (p + 1) = from' m n 0 p ++ [(p, of p m n)]) := Lib.hid (by rw [HST.out, if_pos hc0])
            have HXA := Lib.hid (HW6.out.below (below_alloc w6 (.cells #[.int .i64 (p : Nat), .int .i64 ((of p m n).c : Nat), .int .i64 ((of p m n).r : Nat)] 46)))
            have hsrc := src_row3 w6 (p, of p m n)
            have hbb := HXA.out.bel.size
            have hfl : (from' m n 0 p).length ≤ 7 := Nat.le_trans (from_len m n p 0) hp
            generalize from' m n 0 p = L at *
            generalize of p m n = P at *
            simp only at hsrc
            have dz : decide ((0 : Int) < (P.c : Int)) = true := by simp; omega
            have dz2 : decide (0 < P.c) = true := by simpa using hc0
            clear HW6 HST
            gi_wp2_with (gi_at_builtin; refine wplIn_app tyW rfl _ _ rfl HXA.out.row hsrc rfl rfl (by omega) (by omega) (by omega) hbb ?_)
            intro v3 w7 own7 hc7 _
            obtain ⟨va3, vc3, rfl⟩ := own_slice own7
            have HX7 := Lib.hid (HXA.out.push (p, P) own7 hc7)
            rw [← HST2.out] at HX7
            have hbx7 := (hc7.block _ HXA.out.bw.lt (own_ne HXA.out.row HXA.out.bw (by decide))).trans HXA.out.bw
            have cB7 := Boxed.cell hbx7
            have fB7 := Boxed.frozen hbx7
            clear own7 hc7 hsrc HXA cB fB hbb hbx7
            gi_wp2_with fail
            go_roundw
            case rel => exact ⟨p + 1, _, by omega, by go_num, HX7⟩
            case measure => simp [intOf]; omega
          · have HST2 : Hid (from' m n 0 (p + 1) = from' m n 0 p) := Lib.hid (by rw [HST.out, if_neg hc0, List.append_nil])
            have HX7 : Hid (Wn w w6 (M : Nat) S B W5.heap.size (.slice va (from' m n 0 p).length vc) (from' m n 0 (p + 1))) := Lib.hid (by rw [HST2.out]; exact HW6.out)
            have dz : decide ((0 : Int) < ((of p m n).c : Int)) = false := by simp; omega
            have dz2 : decide (0 < (of p m n).c) = false := by simp; omega
            clear HW6 HST HST2
            gi_wp2_with fail
            go_roundw
            case rel => exact ⟨p + 1, _, by omega, by go_num, HX7⟩
            case measure => simp [intOf]; omega
        · obtain rfl : p = 7 := by omega
          have HPS := HPS7
          gi_wp2_with fail
          have hX3 := HWP.out
          have hsz : (wr).heap.size = wr.heap.size := by simp
          have k8 := below_alloc (wr) (.cells #[.int .i64 0] 3)
          have u8 : Boxed ((wr).alloc (.cells #[.int .i64 0] 3)) (wr).heap.size 3 (.int .i64 0) := World.alloc_heap_new (wr) _
          have HW8 := hX3.below k8
          have hz8 : ((wr).alloc (.cells #[.int .i64 0] 3)).heap.size = (wr).heap.size + 1 := by simp
          have hbk := Boxed.lt hX3.bw
          rw [hsz] at u8 hz8 hbk
          clear hX3 hsz k8
          revert u8 HW8 hz8
          generalize (wr).alloc (.cells #[.int .i64 0] 3) = W8
          intro u8 HW8 hz8
          obtain ⟨K, hKK⟩ : ∃ K, wr.heap.size = K := ⟨_, rfl⟩
          rw [hKK] at u8 hz8 hbk ⊢
          have h3 := three_boxes W8 (m : Nat) (n : Nat) 1
          refine ⟨trivial, (passes_in Fence.wide 3 trivial rfl (m : Nat) (n : Nat) 1 _).mono ?_⟩
          rintro e w' ⟨rfl, rfl⟩
          obtain ⟨hb9, b1, b2, b3, hz9⟩ := h3
          revert hb9 b1 b2 b3 hz9
          generalize ((W8.alloc (.cells #[.int .i64 (m : Nat)] 3)).alloc (.cells #[.int .i64 (n : Nat)] 3)).alloc (.cells #[.int .i64 1] 3) = W9
          intro hb9 b1 b2 b3 hz9
          have HW9 := Lib.hid (HW8.below hb9)
          have u9 := (hb9.block _ (Boxed.lt u8)).trans u8
          obtain ⟨X, hXX⟩ : ∃ X, W8.heap.size = X := ⟨_, rfl⟩
          rw [hXX] at b1 b2 b3 ⊢
          have hit := passes_iter X (X + 1) (X + 2) (m : Nat) (n : Nat) 1 (fun k => k = K) W9 b1 b2 b3 (HLP0.out.below HW9.out.bel) (fun k hk => by omega)
          have HZ9 : Hid (B < K ∧ K < W9.heap.size) := Lib.hid (by have := HB.out; omega)
          have HGS := Lib.hid (And.intro HW9.out.gb (And.intro HW9.out.sb HW9.out.db))
          clear hb9 b1 b2 b3 hz9 u8 HW8 hz8 hbk hKK hXX
          generalize v0 = v at HW9
          gi_wp2_with fail
          have HBD := Lib.hid (fun q hq => psl_bd (m : Nat) (n : Nat) 1 q hq)
          rw [HPS.out] at hit HBD
          generalize (from' m n 0 7) = wl at HW9 hit HBD
          have HVW9 := Lib.hid HW9.out.bel.size
          refine range_iterB (F := Fence.wide) (n := 4) (P := Tryd.prog) (gf := 19) (lb := #[.pointer (some ⟨X, 0, none⟩), .pointer (some ⟨X + 1, 0, none⟩), .pointer (some ⟨X + 2, 0, none⟩)]) hro (by omega) rfl trivial (enters_of Tryd.func19 (by kernel_rfl) rfl)
            (encs := sEnc) (hseq := hit) (fun h1 h2 => h1.trans h2) (fun W l o o' hl hc => Bk.Kc.put W l o o' hl hc) (fun _ => rfl)
            (fun pre W => Wn w W (M : Nat) S B W5.heap.size v wl ∧ Boxed W K 3 (.int .i64 (pre.length : Nat)) ∧ pre.length < M ∧ W9.heap.size ≤ W.heap.size)
            (fun cc pre W => cc = .exit 4 ∧ Wn w W (M : Nat) S B W5.heap.size v wl ∧ Boxed W K 3 (.int .i64 (M : Nat)) ∧ M ≤ wl.length ∧ W9.heap.size ≤ W.heap.size)
            ?gI ?gX ⟨HW9.out, u9, by show 0 < M; omega, Nat.le_refl _⟩ (fun q => .cells #[.int .i64 (q.2.c : Nat), .int .i64 (q.2.r : Nat)] 41 (0, 0)) (fun _ => rfl) (fun _ _ => Bk.Kc.alloc _ _ _)
            (fun T x Bx => { tmps := (((T.setIfInBounds 92 (.int .i64 (x.1 : Nat))).setIfInBounds 93 (.agg #[.int .i64 (x.2.c : Nat), .int .i64 (x.2.r : Nat)])).setIfInBounds 17 (.int .i64 (x.1 : Nat))).setIfInBounds 18 (.pointer (some ⟨Bx, 0, none⟩)), defers := [] })
            ?gas ?gbo ?gend ?gout
          case gI =>
            rintro s X' Y row ⟨h1, h2, h3, h4⟩ hg hr
            have hv := HVW9.out
            have hz := HZ9.out
            have hk := Bk.kc_cells hg (fun r e => (hr r e).2)
            exact ⟨h1.grown hg (fun r e => by have := (hr r e).1; omega) (fun r e => (hr r e).2), hk _ _ h2 rfl (fun h => h), h3, Nat.le_trans h4 hg.size⟩
          case gX =>
            rintro cc s X' Y row ⟨h0, h1, h2, h3, h4⟩ hg hr
            have hv := HVW9.out
            have hz := HZ9.out
            have hk := Bk.kc_cells hg (fun r e => (hr r e).2)
            exact ⟨h0, h1.grown hg (fun r e => by have := (hr r e).1; omega) (fun r e => (hr r e).2), hk _ _ h2 rfl (fun h => h), h3, Nat.le_trans h4 hg.size⟩
          case gas =>
            rintro k ⟨p, z0, z1, z2, z3, z4, z5⟩ X' K' hK'
            simp only [sEnc]
            gi_wp2
            exact hK'
          case gbo =>
            rintro kk pre ⟨p, z0, z1, z2, z3, z4, z5⟩ A Bx ⟨h1, h2, h3, h4⟩ ⟨s, hs⟩ hBx hbx
            simp only at hbx
            have hplen : pre.length < wl.length := by rw [hs]; simp
            have hget : wl[pre.length]? = some (p, (⟨z0, z1, z2, z3, z4, z5⟩ : Pa)) := by rw [hs]; simp
            have hpl : (pre ++ [(p, (⟨z0, z1, z2, z3, z4, z5⟩ : Pa))]).length = pre.length + 1 := by simp
            have HPLN := Lib.hid hpl
            have hsl := h1.slice
            rcases own_nil_or h1.row with ⟨_, hx⟩ | ⟨g, vc, rfl, _⟩
            · omega
            clear hsl
            have hz := HZ9.out
            have hmix : Tryd.prog.follows .mixedOrders = true := by kernel_rfl
            have HEA : Hid (∀ k z : Nat, k = pre.length → z = k + 1 → KeepsFrom W9.heap.size A (A.drew.setCell ⟨K, 0, none⟩ (.int .i64 ((k : Int) + 1))) ∧ Bk.Kc (fun k => k = K) A (A.drew.setCell ⟨K, 0, none⟩ (.int .i64 ((k : Int) + 1))) ∧ Wn w (A.drew.setCell ⟨K, 0, none⟩ (.int .i64 ((k : Int) + 1))) (M : Nat) S B W5.heap.size (.slice (some ⟨g, 0, none⟩) wl.length vc) wl ∧ Boxed (A.drew.setCell ⟨K, 0, none⟩ (.int .i64 ((k : Int) + 1))) K 3 (.int .i64 (z : Nat)) ∧ W9.heap.size ≤ (A.drew.setCell ⟨K, 0, none⟩ (.int .i64 ((k : Int) + 1))).heap.size) := Lib.hid (fun k z hk hz' => by
              subst hk
              have hs2 : Ch A (A.drew.setCell ⟨K, 0, none⟩ (.int .i64 ((pre.length : Int) + 1))) (fun k => k = K) := (Ch.drew (Ch.refl A (fun k => k = K))).set (p := ⟨K, 0, none⟩) (.inl rfl) _
              have h2d : Boxed A.drew K 3 (.int .i64 (pre.length : Nat)) := h2
              refine ⟨⟨hs2.size, fun j o hj ho _ => (hs2.block j (Array.getElem?_eq_some_iff.1 ho).1 (by omega)).trans ho⟩, fun j o ho _ hn => (hs2.block j (Array.getElem?_eq_some_iff.1 ho).1 hn).trans ho, (h1.below (Wx := A.drew) (Below.refl _ _).drew).setk K hz.1 _ _ h2d, ?_, Nat.le_trans h4 hs2.size⟩
              have e : (z : Int) = (pre.length : Int) + 1 := by omega
              rw [show (Value.int IntKind.i64 ((z : Nat) : Int)) = .int .i64 ((pre.length : Int) + 1) from by rw [e]]
              exact heap_setCell_same A.drew K 0 _ _ _ h2d)
            obtain ⟨k, hkk⟩ : ∃ k, pre.length = k := ⟨_, rfl⟩
            have HEK := Lib.hid hkk
            rw [hkk] at hplen h2 h3
            have hS24 : (fun w' : World => w'.cell? ⟨K, 0, none⟩ = some (.int .i64 (k : Nat)) ∧ w'.cell? ⟨B, 0, none⟩ = some (.slice (some ⟨g, 0, none⟩) wl.length vc) ∧ w'.cell? ⟨Bx, 0, none⟩ = some (.int .i64 (z4 : Nat)) ∧ w'.cell? ⟨Bx, 1, none⟩ = some (.int .i64 (z5 : Nat)) ∧ w'.cell? ⟨g, k * 3, none⟩ = some (.int .i64 (p : Nat)) ∧ w'.cell? ⟨g, k * 3 + 1, none⟩ = some (.int .i64 (z4 : Nat)) ∧ w'.cell? ⟨g, k * 3 + 2, none⟩ = some (.int .i64 (z5 : Nat))) A.drew := ⟨h2.cell, h1.bw.cell, by show A.cell? _ = _; rw [cell_of_row _ _ _ _ _ (0, 0) hbx]; rfl, by show A.cell? _ = _; rw [cell_of_row _ _ _ _ _ (0, 0) hbx]; rfl, (h1.below (Wx := A.drew) (Below.refl _ _).drew).three k _ (by rw [← hkk]; exact hget)⟩
            have HS24 := Lib.hid hS24
            obtain ⟨q1, q2, q3⟩ := HBD.out (p, (⟨z0, z1, z2, z3, z4, z5⟩ : Pa)) (by rw [hs]; simp)
            have heq := fun w' => eq3 p z4 z5 w' q1 q2 q3
            have d1 : decide ((wl.length : Int) ≤ (k : Int)) = false := by simp; omega
            have d2 : decide (wl.length ≤ k) = false := by simp; omega
            have cA := h1.b0.cell
            have cK := h2.cell
            have fK := h2.frozen
            have hneA : K ≠ w.heap.size := by have := HGS.out; omega
            have cA2 : ∀ u, (A.drew.setCell ⟨K, 0, none⟩ u).cell? ⟨w.heap.size, 0, none⟩ = some (.int .i64 (M : Nat)) := fun u => (World.cell?_setCell_far A.drew ⟨K, 0, none⟩ ⟨w.heap.size, 0, none⟩ u hneA).trans cA
            have HM8 := Lib.hid hm8
            clear hs hget hpl hS24 h1 hbx hit hBx
            simp only [List.setIfInBounds_toArray, List.set_cons_zero, List.set_cons_succ]
            gi_wp2_with fail
            refine oneH (fun w' : World => w'.cell? ⟨K, 0, none⟩ = some (.int .i64 (k : Nat)) ∧ w'.cell? ⟨B, 0, none⟩ = some (.slice (some ⟨g, 0, none⟩) wl.length vc) ∧ w'.cell? ⟨Bx, 0, none⟩ = some (.int .i64 (z4 : Nat)) ∧ w'.cell? ⟨Bx, 1, none⟩ = some (.int .i64 (z5 : Nat)) ∧ w'.cell? ⟨g, k * 3, none⟩ = some (.int .i64 (p : Nat)) ∧ w'.cell? ⟨g, k * 3 + 1, none⟩ = some (.int .i64 (z4 : Nat)) ∧ w'.cell? ⟨g, k * 3 + 2, none⟩ = some (.int .i64 (z5 : Nat))) hmix (by kernel_rfl) ?_
            constructor
            constructor
            constructor
            · skip
              refine RH_take (i := 0) (v := ?_) rfl (by kernel_rfl) (by kernel_rfl) (by kernel_rfl) (fun _ _ _ h => h) HS24.out (by rfl) ?_ ?_
              rotate_left
              · (intro w' hw'; obtain ⟨j0, j1, j2, j3, j4, j5, j6⟩ := hw'; first | (go_simp; done) | (go_simp; with_reducible rfl))
              try simp only [List.getElem_toArray, List.getElem_cons_zero, List.getElem_cons_succ, Act.put, List.setIfInBounds_toArray, List.set_cons_zero, List.set_cons_succ]
              refine RH_take (i := 1) (v := ?_) rfl (by kernel_rfl) (by kernel_rfl) (by kernel_rfl) (fun _ _ _ h => h) HS24.out (by rfl) ?_ ?_
              rotate_left
              · (intro w' hw'; obtain ⟨j0, j1, j2, j3, j4, j5, j6⟩ := hw'; first | (go_simp; done) | (go_simp; with_reducible rfl))
              try simp only [List.getElem_toArray, List.getElem_cons_zero, List.getElem_cons_succ, Act.put, List.setIfInBounds_toArray, List.set_cons_zero, List.set_cons_succ]
              refine RH_take (i := 2) (v := ?_) rfl (by kernel_rfl) (by kernel_rfl) (by kernel_rfl) (fun _ _ _ h => h) HS24.out (by rfl) ?_ ?_
              rotate_left
              · (intro w' hw'; obtain ⟨j0, j1, j2, j3, j4, j5, j6⟩ := hw'; first | (go_simp; done) | (go_simp; with_reducible rfl))
              try simp only [List.getElem_toArray, List.getElem_cons_zero, List.getElem_cons_succ, Act.put, List.setIfInBounds_toArray, List.set_cons_zero, List.set_cons_succ]
              refine RH_take (i := 3) (v := ?_) rfl (by kernel_rfl) (by kernel_rfl) (by kernel_rfl) (fun _ _ _ h => h) HS24.out (by rfl) ?_ ?_
              rotate_left
              · (intro w' hw'; obtain ⟨j0, j1, j2, j3, j4, j5, j6⟩ := hw'; first | (go_simp; done) | (go_simp; with_reducible rfl))
              try simp only [List.getElem_toArray, List.getElem_cons_zero, List.getElem_cons_succ, Act.put, List.setIfInBounds_toArray, List.set_cons_zero, List.set_cons_succ]
              refine RH_take (i := 4) (v := ?_) rfl (by kernel_rfl) (by kernel_rfl) (by kernel_rfl) (fun _ _ _ h => h) HS24.out (by rfl) ?_ ?_
              rotate_left
              · (intro w' hw'; obtain ⟨j0, j1, j2, j3, j4, j5, j6⟩ := hw'; first | (go_simp; done) | (go_simp; with_reducible rfl))
              try simp only [List.getElem_toArray, List.getElem_cons_zero, List.getElem_cons_succ, Act.put, List.setIfInBounds_toArray, List.set_cons_zero, List.set_cons_succ]
              refine RH_take (i := 5) (v := ?_) rfl (by kernel_rfl) (by kernel_rfl) (by kernel_rfl) (fun _ _ _ h => h) HS24.out (by rfl) ?_ ?_
              rotate_left
              · (intro w' hw'; obtain ⟨j0, j1, j2, j3, j4, j5, j6⟩ := hw'; first | (go_simp; done) | (go_simp; with_reducible rfl))
              try simp only [List.getElem_toArray, List.getElem_cons_zero, List.getElem_cons_succ, Act.put, List.setIfInBounds_toArray, List.set_cons_zero, List.set_cons_succ]
              refine RH_take (i := 6) (v := ?_) rfl (by kernel_rfl) (by kernel_rfl) (by kernel_rfl) (fun _ _ _ h => h) HS24.out (by rfl) ?_ ?_
              rotate_left
              · (intro w' hw'; obtain ⟨j0, j1, j2, j3, j4, j5, j6⟩ := hw'; first | (go_simp; done) | (go_simp; with_reducible rfl))
              try simp only [List.getElem_toArray, List.getElem_cons_zero, List.getElem_cons_succ, Act.put, List.setIfInBounds_toArray, List.set_cons_zero, List.set_cons_succ]
              refine RH_take (i := 7) (v := ?_) rfl (by kernel_rfl) (by kernel_rfl) (by kernel_rfl) (fun _ _ _ h => h) HS24.out (by rfl) ?_ ?_
              rotate_left
              · (intro w' hw'; obtain ⟨j0, j1, j2, j3, j4, j5, j6⟩ := hw'; first | (go_simp; done) | (go_simp; with_reducible rfl))
              try simp only [List.getElem_toArray, List.getElem_cons_zero, List.getElem_cons_succ, Act.put, List.setIfInBounds_toArray, List.set_cons_zero, List.set_cons_succ]
              refine RH_take (i := 8) (v := ?_) rfl (by kernel_rfl) (by kernel_rfl) (by kernel_rfl) (fun _ _ _ h => h) HS24.out (by rfl) ?_ ?_
              rotate_left
              · (intro w' hw'; obtain ⟨j0, j1, j2, j3, j4, j5, j6⟩ := hw'; first | (go_simp; done) | (go_simp; with_reducible rfl))
              try simp only [List.getElem_toArray, List.getElem_cons_zero, List.getElem_cons_succ, Act.put, List.setIfInBounds_toArray, List.set_cons_zero, List.set_cons_succ]
              refine RH_take (i := 9) (v := ?_) rfl (by kernel_rfl) (by kernel_rfl) (by kernel_rfl) (fun _ _ _ h => h) HS24.out (by rfl) ?_ ?_
              rotate_left
              · (intro w' hw'; obtain ⟨j0, j1, j2, j3, j4, j5, j6⟩ := hw'; first | (go_simp; done) | (go_simp; with_reducible rfl))
              try simp only [List.getElem_toArray, List.getElem_cons_zero, List.getElem_cons_succ, Act.put, List.setIfInBounds_toArray, List.set_cons_zero, List.set_cons_succ]
              refine RH_take (i := 10) (v := ?_) rfl (by kernel_rfl) (by kernel_rfl) (by kernel_rfl) (fun _ _ _ h => h) HS24.out (by rfl) ?_ ?_
              rotate_left
              · (intro w' hw'; obtain ⟨j0, j1, j2, j3, j4, j5, j6⟩ := hw'; first | (go_simp; done) | (go_simp; with_reducible rfl))
              try simp only [List.getElem_toArray, List.getElem_cons_zero, List.getElem_cons_succ, Act.put, List.setIfInBounds_toArray, List.set_cons_zero, List.set_cons_succ]
              refine RH_take (i := 11) (v := ?_) rfl (by kernel_rfl) (by kernel_rfl) (by kernel_rfl) (fun _ _ _ h => h) HS24.out (by rfl) ?_ ?_
              rotate_left
              · (intro w' hw'; obtain ⟨j0, j1, j2, j3, j4, j5, j6⟩ := hw'; first | (go_simp; done) | (go_simp; with_reducible rfl))
              try simp only [List.getElem_toArray, List.getElem_cons_zero, List.getElem_cons_succ, Act.put, List.setIfInBounds_toArray, List.set_cons_zero, List.set_cons_succ]
              refine RH_take (i := 12) (v := ?_) rfl (by kernel_rfl) (by kernel_rfl) (by kernel_rfl) (fun _ _ _ h => h) HS24.out (by rfl) ?_ ?_
              rotate_left
              · (intro w' hw'; obtain ⟨j0, j1, j2, j3, j4, j5, j6⟩ := hw'; first | (go_simp; done) | (go_simp; with_reducible rfl))
              try simp only [List.getElem_toArray, List.getElem_cons_zero, List.getElem_cons_succ, Act.put, List.setIfInBounds_toArray, List.set_cons_zero, List.set_cons_succ]
              refine RH_take (i := 13) (v := ?_) rfl (by kernel_rfl) (by kernel_rfl) (by kernel_rfl) (fun _ _ _ h => h) HS24.out (by rfl) ?_ ?_
              rotate_left
              · (intro w' hw'; obtain ⟨j0, j1, j2, j3, j4, j5, j6⟩ := hw'; first | (go_simp; done) | (go_simp; with_reducible rfl))
              try simp only [List.getElem_toArray, List.getElem_cons_zero, List.getElem_cons_succ, Act.put, List.setIfInBounds_toArray, List.set_cons_zero, List.set_cons_succ]
              refine RH_take (i := 14) (v := ?_) rfl (by kernel_rfl) (by kernel_rfl) (by kernel_rfl) (fun _ _ _ h => h) HS24.out (by rfl) ?_ ?_
              rotate_left
              · (intro w' hw'; obtain ⟨j0, j1, j2, j3, j4, j5, j6⟩ := hw'; first | (go_simp; done) | (go_simp; with_reducible rfl))
              try simp only [List.getElem_toArray, List.getElem_cons_zero, List.getElem_cons_succ, Act.put, List.setIfInBounds_toArray, List.set_cons_zero, List.set_cons_succ]
              refine RH_take (i := 15) (v := ?_) rfl (by kernel_rfl) (by kernel_rfl) (by kernel_rfl) (fun _ _ _ h => h) HS24.out (by rfl) ?_ ?_
              rotate_left
              · (intro w' hw'; obtain ⟨j0, j1, j2, j3, j4, j5, j6⟩ := hw'; first | (go_simp; done) | (go_simp; with_reducible rfl))
              try simp only [List.getElem_toArray, List.getElem_cons_zero, List.getElem_cons_succ, Act.put, List.setIfInBounds_toArray, List.set_cons_zero, List.set_cons_succ]
              refine RH_take (i := 16) (v := ?_) rfl (by kernel_rfl) (by kernel_rfl) (by kernel_rfl) (fun _ _ _ h => h) HS24.out (by rfl) ?_ ?_
              rotate_left
              · (intro w' hw'; obtain ⟨j0, j1, j2, j3, j4, j5, j6⟩ := hw'; first | (go_simp; done) | (go_simp; with_reducible rfl))
              try simp only [List.getElem_toArray, List.getElem_cons_zero, List.getElem_cons_succ, Act.put, List.setIfInBounds_toArray, List.set_cons_zero, List.set_cons_succ]
              refine wpAnyH_done (by kernel_rfl) ?_ _
              exact ⟨rfl, rfl⟩
            by_cases hbr : k + 1 = M
            · have dbr : (((k : Int) + 1) == (M : Int)) = true := by simp; omega
              have dbr2 : ((k + 1) == M) = true := by simpa using hbr
              have HE := Lib.hid (HEA.out k M HEK.out.symm hbr.symm)
              have hMl : M ≤ wl.length := by omega
              have hk6 : k ≤ 8 := by omega
              clear HEA hbr HS24 heq
              gi_wp2
              exact ⟨HE.out.1, rfl, HE.out.2.2.1, HE.out.2.2.2.1, hMl, HE.out.2.2.2.2⟩
            · have dbr : (((k : Int) + 1) == (M : Int)) = false := by simp; omega
              have dbr2 : ((k + 1) == M) = false := by simpa using hbr
              have HE := Lib.hid (HEA.out k (k + 1) HEK.out.symm rfl)
              have hk6 : k ≤ 8 := by omega
              have hkM : k + 1 < M := by omega
              have HPN : Hid ((pre ++ [(p, (⟨z0, z1, z2, z3, z4, z5⟩ : Pa))]).length = k + 1) := Lib.hid (by rw [HPLN.out, HEK.out])
              clear HEA hbr HS24 heq
              gi_wp2
              exact ⟨HE.out.1, HE.out.2.1, HE.out.2.2.1, by rw [HPN.out]; exact HE.out.2.2.2.1, by rw [HPN.out]; exact hkM, HE.out.2.2.2.2⟩
          case gend =>
            rintro xs X3 rfl ⟨h1, h2, h3, h4⟩ hK3
            obtain ⟨va, vc, rfl⟩ := h1.slice
            have hz := HZ9.out
            have hg := HGS.out
            have cS := h1.b2.cell
            have cA := h1.b0.cell
            have cB := h1.bw.cell
            have cK := h2.cell
            have cR := h1.b1.cell
            have fR := h1.b1.frozen
            have hsz9 := HW9.out.bel.size
            have HM : Hid (Marks w.heap.size [W9.heap.size, W5.heap.size] (X3.setCell ⟨w.heap.size + 1, 0, none⟩ (.bool true))) := Lib.hid (by
              refine ⟨by simp; omega, fun D hD => ?_⟩
              simp only [List.mem_cons, List.not_mem_nil, or_false] at hD
              rcases hD with rfl | rfl
              · exact ⟨by omega, by rw [Below.heap_setCell X3 ⟨w.heap.size + 1, 0, none⟩ _ _ (by simp only; omega)]; exact hK3⟩
              · exact ⟨HVW.out, by rw [Below.heap_setCell X3 ⟨w.heap.size + 1, 0, none⟩ _ _ (by have := HZ.out; simp only; omega)]; exact h1.d1⟩)
            have HQ : Hid (Below w.heap.size w (X3.setCell ⟨w.heap.size + 1, 0, none⟩ (.bool true)) ∧ Boxed (X3.setCell ⟨w.heap.size + 1, 0, none⟩ (.bool true)) (w.heap.size + 1) 4 (.bool true)) := Lib.hid
              ⟨h1.bel.setCell (p := ⟨w.heap.size + 1, 0, none⟩) (by show w.heap.size ≤ w.heap.size + 1; omega) _, heap_setCell_same X3 (w.heap.size + 1) 0 _ _ _ h1.b1⟩
            have dm : min ((M : Nat) : Int) ((xs.length : Nat) : Int) = ((xs.length : Nat) : Int) := by omega
            have dm2 : min M xs.length = xs.length := by omega
            have hxl : xs.length < M := h3
            clear h1 h2 h3 h4 hK3 hit
            gi_wp2
            refine leaves_marks (B := w.heap.size) (fun X => Below w.heap.size w X ∧ Boxed X (w.heap.size + 1) 4 (.bool true)) ?_ ?_ [W9.heap.size, W5.heap.size] _ HM.out HQ.out
            · rintro X D ⟨q1, q2⟩ hB hD
              exact ⟨q1.grown (grownBy_putObj' _ D (.deferred none)) q1.size (fun r e => by cases e; exact hB), (World.putObj_heap_other (fun e => by
                subst e
                have hq : X.heap[w.heap.size + 1]? = some (.cells #[.bool true] 4 (0, 0)) := q2
                rw [hq] at hD; cases hD)).trans q2⟩
            · rintro X ⟨q1, q2⟩
              exact ⟨.bool true, res_b8 rfl _ _ (w.heap.size + 1) rfl q2, rfl, q1⟩
          case gout =>
            rintro cc pre X3 ⟨s, hs⟩ ⟨rfl, h1, h2, h3, h4⟩ hK3
            obtain ⟨va, vc, rfl⟩ := h1.slice
            have hz := HZ9.out
            have hg := HGS.out
            have cS := h1.b2.cell
            have cA := h1.b0.cell
            have cB := h1.bw.cell
            have cK := h2.cell
            have cR := h1.b1.cell
            have fR := h1.b1.frozen
            have hsz9 := HW9.out.bel.size
            have HM : Hid (Marks w.heap.size [W9.heap.size, W5.heap.size] (X3.setCell ⟨w.heap.size + 1, 0, none⟩ (.bool true))) := Lib.hid (by
              refine ⟨by simp; omega, fun D hD => ?_⟩
              simp only [List.mem_cons, List.not_mem_nil, or_false] at hD
              rcases hD with rfl | rfl
              · exact ⟨by omega, by rw [Below.heap_setCell X3 ⟨w.heap.size + 1, 0, none⟩ _ _ (by simp only; omega)]; exact hK3⟩
              · exact ⟨HVW.out, by rw [Below.heap_setCell X3 ⟨w.heap.size + 1, 0, none⟩ _ _ (by have := HZ.out; simp only; omega)]; exact h1.d1⟩)
            have HQ : Hid (Below w.heap.size w (X3.setCell ⟨w.heap.size + 1, 0, none⟩ (.bool true)) ∧ Boxed (X3.setCell ⟨w.heap.size + 1, 0, none⟩ (.bool true)) (w.heap.size + 1) 4 (.bool true)) := Lib.hid
              ⟨h1.bel.setCell (p := ⟨w.heap.size + 1, 0, none⟩) (by show w.heap.size ≤ w.heap.size + 1; omega) _, heap_setCell_same X3 (w.heap.size + 1) 0 _ _ _ h1.b1⟩
            have dm : min ((M : Nat) : Int) ((wl.length : Nat) : Int) = ((M : Nat) : Int) := by omega
            have dm2 : min M wl.length = M := by omega
            have hxl : ¬ wl.length < M := by omega
            clear hs
            clear h1 h2 h3 h4 hK3 hit
            gi_wp2
            refine leaves_marks (B := w.heap.size) (fun X => Below w.heap.size w X ∧ Boxed X (w.heap.size + 1) 4 (.bool true)) ?_ ?_ [W9.heap.size, W5.heap.size] _ HM.out HQ.out
            · rintro X D ⟨q1, q2⟩ hB hD
              exact ⟨q1.grown (grownBy_putObj' _ D (.deferred none)) q1.size (fun r e => by cases e; exact hB), (World.putObj_heap_other (fun e => by
                subst e
                have hq : X.heap[w.heap.size + 1]? = some (.cells #[.bool true] 4 (0, 0)) := q2
                rw [hq] at hD; cases hD)).trans q2⟩
            · rintro X ⟨q1, q2⟩
              exact ⟨.bool true, res_b8 rfl _ _ (w.heap.size + 1) rfl q2, rfl, q1⟩
  case hout => exact fun _ _ _ _ h => h.elim
end Lc
end Go.Proofs.YtfdnjblbhbkndaaDoor
