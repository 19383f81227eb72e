/- lace.Data: its contract. -/
import Derived.Test.YtkplopfbgaiegaaDoorLcDataMath
import Derived.Test.YtkplopfbgaiegaaDoorLcRoundJ
namespace Go.Proofs.YtkplopfbgaiegaaDoor
open Go.RowKit Go.Shelf
attribute [local go_sem] Oper.semAt_some

namespace Lc
open Hd
theorem i64_wrap (a : Int) {b : Int} (h : wrap64 a = b) : IntKind.i64.wrap a = b := by rw [← h]; simp [IntKind.wrap_i64, wrap64]
theorem w_int {a : Int} (h : 0 ≤ a) (h2 : a ≤ 1000000000000) : wrap64 a = a := IntWalk.wrap64_in _ ⟨by omega, by omega⟩
set_option maxRecDepth 100000 in
set_option maxHeartbeats 4000000 in
theorem data_any (x : H) (w : World) (hlp : Lp w) : Calls Tryd.prog 20 #[x.val] w fun e w' => e = .returned (.int .i64 (data x)) ∧ Below w.heap.size w w' := by
  have hro : (Fence.wide).round = none := rfl
  have hbx := bx_new w x
  have hal := below_alloc w (.cells #[.int .i64 x.w, .int .i64 x.h, .int .i64 x.d, .int .i64 x.c, .int .i64 x.l] 48)
  have HLP := Lib.hid (hlp.below hal)
  have HBX := Lib.hid hbx
  have HAL := Lib.hid hal
  have HCK := Lib.hid (fun w => check_any x w)
  have HRW := Lib.hid (fun n w => rowSize_any x n w)
  have HGA := Lib.hid (fun h => good_all (x := x) h)
  have HDB := Lib.hid (show bad x ≠ 0 → data x = 0 from fun h => if_pos h)
  have HDG := Lib.hid (show bad x = 0 → data x = dsum x (parts x.w.toNat x.h.toNat x.l) from fun h => if_neg (by omega))
  clear hlp hbx hal
  refine (callsIn_wide (n := 4)).1 ?_
  refine callsIn_of_wp_marks Tryd.func20 rfl trivial ?_ hro
  simp only [Tryd.ntmps20, List.size_toArray, List.length_cons, List.length_nil, Nat.reduceAdd, Nat.reduceSub, Array.replicate_succ, Array.replicate_zero, List.push_toArray, List.append_toArray, List.nil_append, List.cons_append]
  have hval : x.val = .agg #[.int .i64 x.w, .int .i64 x.h, .int .i64 x.d, .int .i64 x.c, .int .i64 x.l] := rfl
  rw [hval] at HCK HRW ⊢
  clear hval
  obtain ⟨y0, y1, y2, y3, y4⟩ := HBX.out.cells
  gi_wp2_with fail
  refine ⟨trivial, (callsIn_wide.2 (HCK.out _)).mono ?_⟩
  rintro e w2 ⟨rfl, hb2⟩
  have HX2 := Lib.hid (HBX.out.below hb2)
  have HB2 := Lib.hid (below_then HAL.out hb2)
  have HL2 := Lib.hid (HLP.out.below hb2)
  clear hb2 HBX HAL HLP HCK y0 y1 y2 y3 y4
  by_cases hz : bad x = 0
  rotate_left
  · rw [errV_pos hz]
    have HD := Lib.hid (HDB.out hz)
    clear HDB HDG hz
    gi_wp2_with fail
    refine leaves_marks (B := w2.heap.size) (fun W => Below w.heap.size w W) ?_ ?_ [] _ ⟨List.nodup_nil, fun D h => by cases h⟩ HB2.out
    · intro W D hq hD _
      exact hq.grown (grownBy_putObj' W D (.deferred none)) hq.size (fun k e => by cases e; exact Nat.le_trans HB2.out.size hD)
    · intro W hq
      exact ⟨_, results_tmp rfl _ _ _, by rw [HD.out]; rfl, hq⟩
  rw [errV_zero hz]
  obtain ⟨g1, g2, g3, g4, g5, g6, g7⟩ := HGA.out hz
  have HD := Lib.hid (HDG.out hz)
  clear HDB HDG HGA hz g5 g6
  obtain ⟨xw, xh, xd, xc, xl⟩ := x
  simp only at g1 g2 g3 g4 g7 HRW HD
  obtain ⟨m, rfl⟩ : ∃ m : Nat, xw = (m : Int) := ⟨xw.toNat, by omega⟩
  obtain ⟨n, rfl⟩ : ∃ n : Nat, xh = (n : Int) := ⟨xh.toNat, by omega⟩
  have hps : psL m n xl = parts m n xl := if_pos ⟨by unfold side; simp; omega, by unfold side; simp; omega, g7⟩
  simp only [Int.toNat_natCast] at HD
  have hA := below_alloc w2 (.cells #[.int .i64 0] 3)
  have hAr : Boxed (w2.alloc (.cells #[.int .i64 0] 3)) w2.heap.size 3 (.int .i64 0) := World.alloc_heap_new w2 _
  have HXA := Lib.hid (HX2.out.below hA)
  obtain ⟨y0, y1, y2, y3, y4⟩ := HXA.out.cells
  have h3 := three_boxes (w2.alloc (.cells #[.int .i64 0] 3)) m n xl
  have hzA : (w2.alloc (.cells #[.int .i64 0] 3)).heap.size = w2.heap.size + 1 := by simp
  simp only at y0 y1 y2 y3 y4
  clear HX2
  gi_wp2_with fail
  refine ⟨trivial, (passes_in Fence.wide 3 trivial rfl m n xl _).mono ?_⟩
  rintro e w' ⟨rfl, rfl⟩
  clear y0 y1 y2 y3 y4
  obtain ⟨hb5, b1, b2, b3, hz5⟩ := h3
  revert hb5 b1 b2 b3 hz5
  generalize (((w2.alloc (.cells #[.int .i64 0] 3)).alloc (.cells #[.int .i64 (m : Nat)] 3)).alloc (.cells #[.int .i64 (n : Nat)] 3)).alloc (.cells #[.int .i64 xl] 3) = W5
  intro hb5 b1 b2 b3 hz5
  have hz2 := HB2.out.size
  have hA5 : Boxed W5 w2.heap.size 3 (.int .i64 0) := (hb5.block _ (by omega)).trans hAr
  have HX5 := Lib.hid (HXA.out.below hb5)
  have HB5 := Lib.hid (below_then (below_then HB2.out hA) hb5)
  have hlp5 := (HL2.out.below hA).below hb5
  rw [hzA] at b1 b2 b3 hz5 ⊢
  have hit := passes_iter (w2.heap.size + 1) (w2.heap.size + 1 + 1) (w2.heap.size + 1 + 2) m n xl (fun k => k = w2.heap.size) W5 b1 b2 b3 hlp5 (fun k hk => by omega)
  rw [hps] at hit
  gi_wp2_with fail
  have HVZ : Hid (w2.heap.size + 1 ≤ W5.heap.size ∧ w.heap.size < w2.heap.size) := Lib.hid ⟨by omega, by
    have := HB2.out.size; have := HXA.out.lt; rw [hzA] at this
    rcases Nat.lt_or_ge w.heap.size w2.heap.size with h | h
    · exact h
    · exfalso
      have e : w.heap.size = w2.heap.size := by omega
      have q := HXA.out
      unfold Bx at q
      rw [e] at q
      have q2 := hAr
      unfold Boxed at q2
      rw [q] at q2
      simp at q2⟩
  have HN4 := Lib.hid g4
  clear hA hAr hb5 b1 b2 b3 hz5 hlp5 hps HXA hzA hz2 HB2 HL2
  refine range_iterA (F := Fence.wide) (n := 4) (P := Tryd.prog) (gf := 30) (lb := #[.pointer (some ⟨w2.heap.size + 1, 0, none⟩), .pointer (some ⟨w2.heap.size + 1 + 1, 0, none⟩), .pointer (some ⟨w2.heap.size + 1 + 2, 0, none⟩)]) hro (by omega) rfl trivial (enters_of Tryd.func30 (by kernel_rfl) rfl)
    (encs := sEnc) (hseq := hit) (fun h1 h2 => h1.trans h2) (fun W l o o' hl hc => Bk.Kc.put W l o o' hl hc) (fun _ => rfl)
    (fun pre W => Boxed W w2.heap.size 3 (.int .i64 (dsum ⟨m, n, xd, xc, xl⟩ pre)) ∧ Bx W w.heap.size ⟨m, n, xd, xc, xl⟩ ∧ Below w.heap.size w W ∧ W5.heap.size ≤ W.heap.size)
    (fun _ _ _ => False) ?hI ?hX ⟨hA5, HX5.out, HB5.out, Nat.le_refl _⟩ (fun q => .cells #[.int .i64 (q.2.c : Nat), .int .i64 (q.2.r : Nat)] 45 (0, 0)) (fun _ => rfl) (fun _ _ => Bk.Kc.alloc _ _ _)
    (fun q Bx => { tmps := #[.agg #[.int .i64 (m : Nat), .int .i64 (n : Nat), .int .i64 xd, .int .i64 xc, .int .i64 xl], .pointer (some ⟨w.heap.size, 0, none⟩), .int .i64 0, .pointer (some ⟨w2.heap.size, 0, none⟩), undef, .pointer (some ⟨Bx, 0, none⟩), .agg #[.int .i64 (m : Nat), .int .i64 (n : Nat), .int .i64 xd, .int .i64 xc, .int .i64 xl], .nilIface, .bool false, .pointer (some ⟨w.heap.size, 0, none⟩), .int .i64 (m : Nat), .pointer (some ⟨w.heap.size, 1, none⟩), .int .i64 (n : Nat), .pointer (some ⟨w.heap.size, 4, none⟩), .int .i64 xl, .func (.func 30) #[] #[.pointer (some ⟨w2.heap.size + 1, 0, none⟩), .pointer (some ⟨w2.heap.size + 1 + 1, 0, none⟩), .pointer (some ⟨w2.heap.size + 1 + 2, 0, none⟩)], .int .i64 (q.1 : Nat), .agg #[.int .i64 (q.2.c : Nat), .int .i64 (q.2.r : Nat)], undef, undef, undef, undef, undef, undef, undef, undef, undef, undef, undef], defers := [] })
    ?has ?hbo ?hend ?hout
  case hI =>
    rintro s X Y row ⟨h1, h2, h3, h4⟩ hg hr
    have hv := HVZ.out
    exact ⟨Bk.kc_cells hg (fun r e => (hr r e).2) _ _ h1 rfl (fun h => h), Bk.kc_cells hg (fun r e => (hr r e).2) _ _ h2 rfl (fun h => h), h3.grown hg (by omega) (fun r e => by have := (hr r e).1; omega), Nat.le_trans h4 hg.size⟩
  case hX => exact fun _ _ _ _ _ h => h.elim
  case has =>
    rintro k ⟨p, z0, z1, z2, z3, z4, z5⟩ X K hK
    simp only [sEnc]
    gi_wp2
    exact hK
  case hbo =>
    rintro k pre ⟨p, z0, z1, z2, z3, z4, z5⟩ A Bx ⟨h1, h2, h3, h4⟩ hnx hBx hbx
    obtain ⟨s, hs⟩ := hnx
    have hpb := pre_bd ⟨m, n, xd, xc, xl⟩ m n xl (by have := HN4.out; omega) pre _ s hs
    have HSN := Lib.hid (dsum_snoc ⟨m, n, xd, xc, xl⟩ pre (p, ⟨z0, z1, z2, z3, z4, z5⟩))
    have hrb := row_bd ⟨m, n, xd, xc, xl⟩ (z4 : Nat)
    have hone : one ⟨m, n, xd, xc, xl⟩ (p, ⟨z0, z1, z2, z3, z4, z5⟩) = (z5 : Int) * (1 + row ⟨m, n, xd, xc, xl⟩ (z4 : Nat)) := rfl
    have HRZ := Lib.hid (HRW.out (z4 : Nat))
    simp only at hpb hbx HRZ
    rw [hone] at hpb HSN
    generalize row ⟨m, n, xd, xc, xl⟩ (z4 : Nat) = R at *
    generalize dsum ⟨m, n, xd, xc, xl⟩ pre = D at *
    have e1 : wrap64 (1 + R) = 1 + R := IntWalk.wrap64_in _ ⟨by omega, by omega⟩
    generalize hQ : (z5 : Int) * (1 + R) = Q at *
    obtain ⟨p1, p2, p3, p4, p5⟩ := hpb
    have e3 : wrap64 (D + Q) = D + Q := w_int (by omega) (by omega)
    have e2 : wrap64 ((z5 : Int) * (1 + R)) = Q := by rw [hQ]; exact w_int (by omega) (by omega)
    have hv := HVZ.out
    have hBlt := (Array.getElem?_eq_some_iff.1 hbx).1
    obtain ⟨y0, y1, y2, y3, y4⟩ := h2.cells
    simp only at y0 y1 y2 y3 y4
    have hS : (fun w' : World => w'.cell? ⟨w2.heap.size, 0, none⟩ = some (.int .i64 D) ∧ w'.frozen? ⟨w2.heap.size, 0, none⟩ = false ∧ w'.cell? ⟨Bx, 0, none⟩ = some (.int .i64 (z4 : Nat)) ∧ w'.cell? ⟨Bx, 1, none⟩ = some (.int .i64 (z5 : Nat)) ∧ w'.cell? ⟨w.heap.size, 0, none⟩ = some (.int .i64 (m : Nat)) ∧ w'.cell? ⟨w.heap.size, 1, none⟩ = some (.int .i64 (n : Nat)) ∧ w'.cell? ⟨w.heap.size, 2, none⟩ = some (.int .i64 xd) ∧ w'.cell? ⟨w.heap.size, 3, none⟩ = some (.int .i64 xc) ∧ w'.cell? ⟨w.heap.size, 4, none⟩ = some (.int .i64 xl)) A.drew := ⟨h1.cell, h1.frozen, by show A.cell? _ = _; rw [cell_of_row _ _ _ _ _ (0, 0) hbx]; rfl, by show A.cell? _ = _; rw [cell_of_row _ _ _ _ _ (0, 0) hbx]; rfl, y0, y1, y2, y3, y4⟩
    have HSB : Hid (∀ wz, Below A.drew.heap.size A.drew wz → (fun w' : World => w'.cell? ⟨w2.heap.size, 0, none⟩ = some (.int .i64 D) ∧ w'.frozen? ⟨w2.heap.size, 0, none⟩ = false ∧ w'.cell? ⟨Bx, 0, none⟩ = some (.int .i64 (z4 : Nat)) ∧ w'.cell? ⟨Bx, 1, none⟩ = some (.int .i64 (z5 : Nat)) ∧ w'.cell? ⟨w.heap.size, 0, none⟩ = some (.int .i64 (m : Nat)) ∧ w'.cell? ⟨w.heap.size, 1, none⟩ = some (.int .i64 (n : Nat)) ∧ w'.cell? ⟨w.heap.size, 2, none⟩ = some (.int .i64 xd) ∧ w'.cell? ⟨w.heap.size, 3, none⟩ = some (.int .i64 xc) ∧ w'.cell? ⟨w.heap.size, 4, none⟩ = some (.int .i64 xl)) wz) := Lib.hid (fun wz hb => by
      obtain ⟨a0, af, a1, a2, a3, a4, a5, a6, a7⟩ := hS
      have l1 : w2.heap.size < A.drew.heap.size := h1.lt
      have l2 : w.heap.size < A.drew.heap.size := h2.lt
      have l3 : Bx < A.drew.heap.size := hBlt
      exact ⟨(hb.cell (p := ⟨w2.heap.size, 0, none⟩) l1).trans a0, (hb.frozen (p := ⟨w2.heap.size, 0, none⟩) l1).trans af, (hb.cell (p := ⟨Bx, 0, none⟩) l3).trans a1, (hb.cell (p := ⟨Bx, 1, none⟩) l3).trans a2, (hb.cell (p := ⟨w.heap.size, 0, none⟩) l2).trans a3, (hb.cell (p := ⟨w.heap.size, 1, none⟩) l2).trans a4, (hb.cell (p := ⟨w.heap.size, 2, none⟩) l2).trans a5, (hb.cell (p := ⟨w.heap.size, 3, none⟩) l2).trans a6, (hb.cell (p := ⟨w.heap.size, 4, none⟩) l2).trans a7⟩)
    have HEND : Hid (∀ wz, Below A.drew.heap.size A.drew wz → (KeepsFrom W5.heap.size A (wz.setCell ⟨w2.heap.size, 0, none⟩ (.int .i64 (D + Q))) ∧ Bk.Kc (fun k => k = w2.heap.size) A (wz.setCell ⟨w2.heap.size, 0, none⟩ (.int .i64 (D + Q))) ∧
        (Boxed (wz.setCell ⟨w2.heap.size, 0, none⟩ (.int .i64 (D + Q))) w2.heap.size 3 (.int .i64 (D + Q)) ∧ Hd.Bx (wz.setCell ⟨w2.heap.size, 0, none⟩ (.int .i64 (D + Q))) w.heap.size ⟨m, n, xd, xc, xl⟩ ∧ Below w.heap.size w (wz.setCell ⟨w2.heap.size, 0, none⟩ (.int .i64 (D + Q))) ∧ W5.heap.size ≤ (wz.setCell ⟨w2.heap.size, 0, none⟩ (.int .i64 (D + Q))).heap.size))) := Lib.hid (fun wz hb => by
      have hz : A.heap.size ≤ wz.heap.size := hb.size
      have hold : ∀ (k : Nat) (o : Obj), A.heap[k]? = some o → k ≠ w2.heap.size → (wz.setCell ⟨w2.heap.size, 0, none⟩ (.int .i64 (D + Q))).heap[k]? = some o := fun k o hk hne => by
        have hkl := (Array.getElem?_eq_some_iff.1 hk).1
        rw [Below.heap_setCell wz ⟨w2.heap.size, 0, none⟩ _ k hne]
        exact (hb.block k hkl).trans hk
      have hbA : Below w.heap.size w wz := (h3.drew).trans (hb.mono h3.size)
      refine ⟨⟨by simpa using hz, fun k o hk ho _ => hold k o ho (by omega)⟩, fun k o ho _ hn => hold k o ho hn, ?_, hold _ _ h2 (by omega), hbA.setCell (p := ⟨w2.heap.size, 0, none⟩) (by show w.heap.size ≤ w2.heap.size; omega) _, by simpa using Nat.le_trans h4 hz⟩
      exact heap_setCell_same wz w2.heap.size 0 _ _ _ ((hb.block _ h1.lt).trans h1))
    have HSS := Lib.hid hS
    clear hS y0 y1 y2 y3 y4 hBlt h1 h2 h3 h4 hbx hs s hrb p1 p2 p3 p4 p5 hQ hone hit hA5
    have hmix : Tryd.prog.follows .mixedOrders = true := by kernel_rfl
    gi_wp2_with fail
    refine Go.wpIn_mono (region_roundJ (Q := Ends (fun wz => KeepsFrom W5.heap.size A wz ∧ Bk.Kc (fun k => k = w2.heap.size) A wz ∧ (Boxed wz w2.heap.size 3 (.int .i64 (D + Q)) ∧ Hd.Bx wz w.heap.size ⟨m, n, xd, xc, xl⟩ ∧ Below w.heap.size w wz ∧ W5.heap.size ≤ wz.heap.size))) 10
        (fun w' : World => w'.cell? ⟨w2.heap.size, 0, none⟩ = some (.int .i64 D) ∧ w'.frozen? ⟨w2.heap.size, 0, none⟩ = false ∧ w'.cell? ⟨Bx, 0, none⟩ = some (.int .i64 (z4 : Nat)) ∧ w'.cell? ⟨Bx, 1, none⟩ = some (.int .i64 (z5 : Nat)) ∧ w'.cell? ⟨w.heap.size, 0, none⟩ = some (.int .i64 (m : Nat)) ∧ w'.cell? ⟨w.heap.size, 1, none⟩ = some (.int .i64 (n : Nat)) ∧ w'.cell? ⟨w.heap.size, 2, none⟩ = some (.int .i64 xd) ∧ w'.cell? ⟨w.heap.size, 3, none⟩ = some (.int .i64 xc) ∧ w'.cell? ⟨w.heap.size, 4, none⟩ = some (.int .i64 xl)) hmix (by kernel_rfl) (ends_no _) ?_) ?_
    case refine_1 =>
        refine J_take (i := 0) (v := ?_) rfl (by kernel_rfl) (by kernel_rfl) (by kernel_rfl) (by kernel_rfl) (fun _ _ _ h => by cases h.1) HSS.out (by rfl) ?_ ?_
        rotate_left
        · (intro w' hw'; obtain ⟨j0, jf, j1, j2, j3, j4, j5, j6, j7⟩ := hw'; first | (go_simp; done) | (go_simp; with_reducible rfl))
        try simp only [Act.put, List.setIfInBounds_toArray, List.set_cons_zero, List.set_cons_succ]
        refine J_take (i := 1) (v := ?_) rfl (by kernel_rfl) (by kernel_rfl) (by kernel_rfl) (by kernel_rfl) (fun _ _ _ h => by cases h.1) HSS.out (by rfl) ?_ ?_
        rotate_left
        · (intro w' hw'; obtain ⟨j0, jf, j1, j2, j3, j4, j5, j6, j7⟩ := hw'; first | (go_simp; done) | (go_simp; with_reducible rfl))
        try simp only [Act.put, List.setIfInBounds_toArray, List.set_cons_zero, List.set_cons_succ]
        refine J_take (i := 2) (v := ?_) rfl (by kernel_rfl) (by kernel_rfl) (by kernel_rfl) (by kernel_rfl) (fun _ _ _ h => by cases h.1) HSS.out (by rfl) ?_ ?_
        rotate_left
        · (intro w' hw'; obtain ⟨j0, jf, j1, j2, j3, j4, j5, j6, j7⟩ := hw'; first | (go_simp; done) | (go_simp; with_reducible rfl))
        try simp only [Act.put, List.setIfInBounds_toArray, List.set_cons_zero, List.set_cons_succ]
        refine J_take (i := 3) (v := ?_) rfl (by kernel_rfl) (by kernel_rfl) (by kernel_rfl) (by kernel_rfl) (fun _ _ _ h => by cases h.1) HSS.out (by rfl) ?_ ?_
        rotate_left
        · (intro w' hw'; obtain ⟨j0, jf, j1, j2, j3, j4, j5, j6, j7⟩ := hw'; first | (go_simp; done) | (go_simp; with_reducible rfl))
        try simp only [Act.put, List.setIfInBounds_toArray, List.set_cons_zero, List.set_cons_succ]
        refine J_take (i := 4) (v := ?_) rfl (by kernel_rfl) (by kernel_rfl) (by kernel_rfl) (by kernel_rfl) (fun _ _ _ h => by cases h.1) HSS.out (by rfl) ?_ ?_
        rotate_left
        · (intro w' hw'; obtain ⟨j0, jf, j1, j2, j3, j4, j5, j6, j7⟩ := hw'; first | (go_simp; done) | (go_simp; with_reducible rfl))
        try simp only [Act.put, List.setIfInBounds_toArray, List.set_cons_zero, List.set_cons_succ]
        refine J_take (i := 5) (v := ?_) rfl (by kernel_rfl) (by kernel_rfl) (by kernel_rfl) (by kernel_rfl) (fun _ _ _ h => by cases h.1) HSS.out (by rfl) ?_ ?_
        rotate_left
        · (intro w' hw'; obtain ⟨j0, jf, j1, j2, j3, j4, j5, j6, j7⟩ := hw'; first | (go_simp; done) | (go_simp; with_reducible rfl))
        try simp only [Act.put, List.setIfInBounds_toArray, List.set_cons_zero, List.set_cons_succ]
        refine J_step (i := 6) (by kernel_rfl) rfl (fun K hK => ?_)
        go_simp
        go_at_call 32
        refine (HRZ.out _).mono ?_
        rintro e wz ⟨rfl, hbz⟩
        have hsz := HSB.out wz hbz
        have HEZ := Lib.hid (HEND.out wz hbz)
        clear hbz HSS HSB HEND HRZ
        have HSS := Lib.hid hsz
        clear hsz
        go_simp
        refine hK.out _ _ (fun _ => HSS.out) (fun _ => ?_)
        clear hK K
        try simp only [Act.put, List.setIfInBounds_toArray, List.set_cons_zero, List.set_cons_succ]
        refine J_take (i := 7) (v := ?_) rfl (by kernel_rfl) (by kernel_rfl) (by kernel_rfl) (by kernel_rfl) (fun _ _ _ h => by cases h.1) HSS.out (by rfl) ?_ ?_
        rotate_left
        · (intro w' hw'; obtain ⟨j0, jf, j1, j2, j3, j4, j5, j6, j7⟩ := hw'; first | (go_simp; done) | (go_simp; with_reducible rfl))
        try simp only [Act.put, List.setIfInBounds_toArray, List.set_cons_zero, List.set_cons_succ]
        refine J_take (i := 8) (v := ?_) rfl (by kernel_rfl) (by kernel_rfl) (by kernel_rfl) (by kernel_rfl) (fun _ _ _ h => by cases h.1) HSS.out (by rfl) ?_ ?_
        rotate_left
        · (intro w' hw'; obtain ⟨j0, jf, j1, j2, j3, j4, j5, j6, j7⟩ := hw'; first | (go_simp; done) | (go_simp; with_reducible rfl))
        try simp only [Act.put, List.setIfInBounds_toArray, List.set_cons_zero, List.set_cons_succ]
        refine J_take (i := 9) (v := ?_) rfl (by kernel_rfl) (by kernel_rfl) (by kernel_rfl) (by kernel_rfl) (fun _ _ _ h => by cases h.1) HSS.out (by rfl) ?_ ?_
        rotate_left
        · (intro w' hw'; obtain ⟨j0, jf, j1, j2, j3, j4, j5, j6, j7⟩ := hw'; first | (go_simp; done) | (go_simp; with_reducible rfl))
        try simp only [Act.put, List.setIfInBounds_toArray, List.set_cons_zero, List.set_cons_succ]
        obtain ⟨j0, jf, j1, j2, j3, j4, j5, j6, j7⟩ := HSS.out
        refine J_step (i := 10) (by kernel_rfl) rfl (fun K hK => ?_)
        go_simp
        refine hK.out _ _ (fun h => absurd rfl h) (fun _ => ?_)
        clear hK K
        try simp only [Act.put, List.setIfInBounds_toArray, List.set_cons_zero, List.set_cons_succ]
        refine J_done (by kernel_rfl) ?_ _
        refine ⟨rfl, ?_⟩
        rw [i64_wrap _ e1, i64_wrap _ e2, i64_wrap _ e3]
        exact HEZ.out
    rintro e a2 wz ⟨rfl, hz1, hz2, hz3⟩
    have HZE := Lib.hid (And.intro hz1 (And.intro hz2 hz3))
    clear hz1 hz2 hz3 HSS HSB HEND HRZ
    gi_wp2
    have hze := HZE.out
    rw [← HSN.out] at hze
    exact hze
  case hend =>
    rintro xs X rfl ⟨h1, h2, h3, h4⟩ hK
    have hv := HVZ.out
    have cA := h1.cell
    have HP := Lib.hid (h3.grown (grownBy_putObj' X W5.heap.size (.deferred none)) h3.size (fun k e => by cases e; omega))
    clear h1 h2 h3 h4 hit hA5
    gi_wp2_with fail
    refine ⟨by simp, .inl ⟨_, _, rfl, run_takeDeferred hK, ?_⟩⟩
    exact ⟨_, results_tmp rfl _ _ _, by rw [HD.out]; rfl, HP.out⟩
  case hout => exact fun _ _ _ _ h => h.elim
end Lc
end Go.Proofs.YtkplopfbgaiegaaDoor
