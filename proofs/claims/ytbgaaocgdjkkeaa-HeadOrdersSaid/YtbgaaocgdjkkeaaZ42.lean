/- burnishref13.Take: its contract. -/
import Derived.Test.YtbgaaocgdjkkeaaZ13
import Derived.Test.YtbgaaocgdjkkeaaZ27
import Derived.Test.YtbgaaocgdjkkeaaZ41
set_option linter.unusedSimpArgs false
set_option linter.unusedVariables false
section
namespace Go.Proofs.Ytbgaaocgdjkkeaa
open Go.RowKit

namespace Hd
theorem num_one (l : List UInt8) (p : Nat) (h : p < l.length) : Pt.num ((l.drop p).take 1) = gb l p := by
  have e : (l.drop p).take 1 = [l.getD p 0] := by
    have e2 : l.getD p 0 = l[p] := by simp [List.getD, List.getElem?_eq_getElem h]
    rw [e2, List.drop_eq_getElem_cons h]; rfl
  rw [e]; simp [Pt.num, gb]
theorem fv_one {l : List UInt8} (h : l.length = 13) (k : Nat) (h2 : 2 ≤ k) (h7 : k < 7) : fv l k = gb l (k + 6) := by
  unfold fv
  have hs : sz k = 1 := by unfold sz; rw [if_neg (by omega)]
  have hp : pos k = k + 6 := by unfold pos; split <;> omega
  rw [hs, hp, num_one l (k + 6) (by omega)]
def RtPost (w : World) (l : List UInt8) (e : Ending) (w' : World) : Prop := e = .returned (.tuple #[(take l).2.val, .int .i64 (take l).1]) ∧ Below w.heap.size w w'
set_option maxRecDepth 100000 in
set_option maxHeartbeats 2000000 in
theorem refTake_any (a : Option Addr) (len cap : Nat) (l : List UInt8) (w : World) (h : Bs w a len cap l) (hr : len ≤ 140737488355328) :
    Calls Try.prog 39 #[.slice a len cap] w (RtPost w l) := by
  have HL := Lib.hid h.hlen
  have HZ := Lib.hid (bx_new w zero)
  have HA := Lib.hid (below_alloc w (.cells #[.int .i64 0, .int .i64 0, .int .i64 0, .int .i64 0, .int .i64 0] 29))
  by_cases hl : len = 13
  rotate_left
  · have d0 : ((len : Int) != 13) = true := by simp; omega
    have HT := Lib.hid (take_len (l := l) (by rw [HL.out]; exact hl))
    clear hl h
    go_enter Try.func39, Try.ntmps39
    go_wp2
    refine bodyPost_ret (res_hd2 _ rfl _ _ w.heap.size zero _ rfl rfl HZ.out) rfl ⟨by rw [HT.out]; rfl, HA.out⟩
  obtain rfl := hl
  have H := Lib.hid (h.mono HA.out)
  have HZ2 : Hid (Bx (w.alloc (.cells #[.int .i64 0, .int .i64 0, .int .i64 0, .int .i64 0, .int .i64 0] 29)) w.heap.size zero) := HZ
  have hcap := h.hle
  have hcap2 := h.hmax
  obtain ⟨b, off, rfl, hb, _⟩ := h.at' 0 (by omega)
  clear h HZ
  have e8 := fv_one HL.out 2 (by omega) (by omega)
  have e9 := fv_one HL.out 3 (by omega) (by omega)
  have e10 := fv_one HL.out 4 (by omega) (by omega)
  have e11 := fv_one HL.out 5 (by omega) (by omega)
  have e12 := fv_one HL.out 6 (by omega) (by omega)
  have cel : ∀ i, i < 13 → (w.alloc (.cells #[.int .i64 0, .int .i64 0, .int .i64 0, .int .i64 0, .int .i64 0] 29)).cell? ⟨b, off + i, none⟩ = some (.int .u8 (gb l i)) := fun i hi => by
    obtain ⟨b', off', e, _, hc⟩ := H.out.at' i hi
    simp only [Option.some.injEq, Addr.mk.injEq, and_true] at e
    obtain ⟨rfl, rfl⟩ := e
    exact hc
  have c8 := cel 8 (by omega)
  have c9 := cel 9 (by omega)
  have c10 := cel 10 (by omega)
  have c11 := cel 11 (by omega)
  have c12 := cel 12 (by omega)
  have HTW4 := fun h4 => take_two (l := l) (.inl h4)
  have HTW5 := fun h5 => take_two (l := l) (.inr h5)
  have HTF := fun h4 h5 h3 => take_fine (l := l) HL.out h4 h5 h3
  have HTB := fun h4 h5 h3 => take_bad (l := l) HL.out h4 h5 h3
  rw [e10] at HTW4 HTF HTB
  rw [e11] at HTW5 HTF HTB
  simp only [Nat.reduceAdd] at HTW4 HTW5 HTF HTB e8 e9 e12
  have HW4 := Lib.hid HTW4
  have HW5 := Lib.hid HTW5
  have HF := Lib.hid HTF
  have HB := Lib.hid HTB
  have HD : Hid (dec l = ⟨(Pt.num (l.take 4) : Nat), (Pt.num ((l.drop 4).take 4) : Nat), (gb l 8 : Nat), (gb l 9 : Nat), (gb l 12 : Nat)⟩) := Lib.hid (by
    unfold dec; rw [e8, e9, e12]; rfl)
  clear cel HTW4 HTW5 HTF HTB e8 e9 e10 e11 e12
  revert c8 c9 c10 c11 c12 H HZ2 HA
  generalize hw1 : (w.alloc (.cells #[.int .i64 0, .int .i64 0, .int .i64 0, .int .i64 0, .int .i64 0] 29)) = w1
  intro HA HZ2 H c8 c9 c10 c11 c12
  have HR1 := Lib.hid (refTake_ok (some ⟨b, off, none⟩) 13 cap 4 l w1 H.out (by omega) (by omega) (by omega))
  have HR2 : Hid (∀ ao, (¬ cap = 4 → ao = some ⟨b, off + 4, none⟩) → Calls Try.prog 68 #[.slice ao (13 - 4) (cap - 4), .int .i64 4] w1 fun e w' => e = .returned (.tuple #[.int .i64 (Pt.num ((l.drop 4).take 4)), .int .i64 0]) ∧ w1 = w') := Lib.hid (fun ao hao => refTake_ok ao (13 - 4) (cap - 4) 4 (l.drop 4) w1 (H.out.drop 4 (by omega) ao hao) (by omega) (by omega) (by omega))
  have HB1 : Hid (Below w.heap.size w w1) := HA
  have HC4 : Hid (¬ cap = 4) := Lib.hid (by omega)
  clear H HL HA
  generalize Pt.num (l.take 4) = n0 at *
  generalize Pt.num ((l.drop 4).take 4) = n1 at *
  obtain ⟨z0, z1, z2, z3, z4⟩ := HZ2.out.cells
  have g0 := frozen_of_row w1 w.heap.size 0 _ _ HZ2.out
  have g1 := frozen_of_row w1 w.heap.size 1 _ _ HZ2.out
  have g2 := frozen_of_row w1 w.heap.size 2 _ _ HZ2.out
  have g3 := frozen_of_row w1 w.heap.size 3 _ _ HZ2.out
  have g4 := frozen_of_row w1 w.heap.size 4 _ _ HZ2.out
  have HSET := Lib.hid (fun x => bx_set HZ2.out x)
  have HBST := Lib.hid (fun a b c d e => below_set5 (Nat.le_refl _) HB1.out a b c d e)
  simp only [zero] at z0 z1 z2 z3 z4
  by_cases h4 : gb l 10 = 0
  rotate_left
  · have d4 : (((gb l 10 : Nat) : Int) != 0) = true := by simp; omega
    have HT := Lib.hid (HW4.out h4)
    clear h4 HW4 HW5 HF HB HD
    go_enter Try.func39, Try.ntmps39
    go_wp2
    refine bodyPost_ret (res_hd2 _ rfl _ _ w.heap.size zero _ rfl rfl (HSET.out zero)) rfl ⟨by rw [HT.out]; rfl, HBST.out _ _ _ _ _⟩
  have d4 : (((gb l 10 : Nat) : Int) != 0) = false := by simp; omega
  by_cases h5 : gb l 11 = 0
  rotate_left
  · have d5 : (((gb l 11 : Nat) : Int) != 0) = true := by simp; omega
    have HT := Lib.hid (HW5.out h5)
    clear h4 h5 HW4 HW5 HF HB HD
    go_enter Try.func39, Try.ntmps39
    go_wp2
    refine bodyPost_ret (res_hd2 _ rfl _ _ w.heap.size zero _ rfl rfl (HSET.out zero)) rfl ⟨by rw [HT.out]; rfl, HBST.out _ _ _ _ _⟩
  have d5 : (((gb l 11 : Nat) : Int) != 0) = false := by simp; omega
  have HTF := Lib.hid (HF.out h4 h5)
  have HTB := Lib.hid (HB.out h4 h5)
  clear h4 h5 HW4 HW5 HF HB HSET HBST z0 z1 z2 z3 z4 g0 g1 g2 g3 g4
  have HCK := Lib.hid (fun w => refCheck_any (dec l) w)
  obtain ⟨y, hy⟩ : ∃ y, dec l = y := ⟨_, rfl⟩
  rw [hy] at HTF HTB HCK HD
  clear hy
  have hw : y.w = (n0 : Nat) ∧ y.h = (n1 : Nat) ∧ y.d = (gb l 8 : Nat) ∧ y.c = (gb l 9 : Nat) ∧ y.l = (gb l 12 : Nat) := by rw [HD.out]; exact ⟨rfl, rfl, rfl, rfl, rfl⟩
  have HYV : Hid (y.val = .agg #[.int .i64 (n0 : Nat), .int .i64 (n1 : Nat), .int .i64 (gb l 8 : Nat), .int .i64 (gb l 9 : Nat), .int .i64 (gb l 12 : Nat)]) := Lib.hid (by rw [HD.out]; rfl)
  generalize bad y = bd at *
  go_enter Try.func39, Try.ntmps39
  go_wp2_with fail
  refine HR1.out.mono ?_
  rintro e w' ⟨rfl, rfl⟩
  go_wp2_with fail
  refine (HR2.out _ (fun _ => by simp [HC4.out])).mono ?_
  rintro e w' ⟨rfl, rfl⟩
  go_wp2_with fail
  have hblt : b < w1.heap.size := Nat.lt_of_lt_of_le hb HB1.out.size
  have HS2 : Hid (w1.drew.cell? ⟨b, off + 8, none⟩ = some (.int .u8 (gb l 8)) ∧ w1.drew.cell? ⟨b, off + 9, none⟩ = some (.int .u8 (gb l 9)) ∧ w1.drew.cell? ⟨b, off + 12, none⟩ = some (.int .u8 (gb l 12))) := Lib.hid ⟨c8, c9, c12⟩
  have k8 : IntKind.i64.wrap (gb l 8 : Nat) = (gb l 8 : Nat) := IntWalk.i64_in _ ⟨by have := gb_lt l 8; omega, by have := gb_lt l 8; omega⟩
  have k9 : IntKind.i64.wrap (gb l 9 : Nat) = (gb l 9 : Nat) := IntWalk.i64_in _ ⟨by have := gb_lt l 9; omega, by have := gb_lt l 9; omega⟩
  have k12 : IntKind.i64.wrap (gb l 12 : Nat) = (gb l 12 : Nat) := IntWalk.i64_in _ ⟨by have := gb_lt l 12; omega, by have := gb_lt l 12; omega⟩
  have hbx : Bx (w1.alloc (.cells #[.int .i64 0, .int .i64 0, .int .i64 0, .int .i64 0, .int .i64 0] 29)).drew w1.heap.size zero := bx_new w1 zero
  have hbe := (below_alloc w1 (.cells #[.int .i64 0, .int .i64 0, .int .i64 0, .int .i64 0, .int .i64 0] 29)).drew
  revert hbx hbe
  generalize hwa : (w1.alloc (.cells #[.int .i64 0, .int .i64 0, .int .i64 0, .int .i64 0, .int .i64 0] 29)).drew = wa
  intro hbx hbe
  have HS3 := Lib.hid (And.intro ((hbe.cell (p := ⟨b, off + 8, none⟩) hblt).trans c8) (And.intro ((hbe.cell (p := ⟨b, off + 9, none⟩) hblt).trans c9) ((hbe.cell (p := ⟨b, off + 12, none⟩) hblt).trans c12)))
  have hbs := below_set5 (Nat.le_refl _) hbe (.int .i64 (n0 : Nat)) (.int .i64 (n1 : Nat)) (.int .i64 (gb l 8 : Nat)) (.int .i64 (gb l 9 : Nat)) (.int .i64 (gb l 12 : Nat))
  have HS4 := Lib.hid (And.intro ((hbs.cell (p := ⟨b, off + 8, none⟩) hblt).trans c8) (And.intro ((hbs.cell (p := ⟨b, off + 9, none⟩) hblt).trans c9) ((hbs.cell (p := ⟨b, off + 12, none⟩) hblt).trans c12)))
  have HBS := Lib.hid (below_then HB1.out hbs)
  have HYB : Hid (Bx (((((wa.setCell ⟨w1.heap.size, 0, none⟩ (.int .i64 (n0 : Nat))).setCell ⟨w1.heap.size, 1, none⟩ (.int .i64 (n1 : Nat))).setCell ⟨w1.heap.size, 2, none⟩ (.int .i64 (gb l 8 : Nat))).setCell ⟨w1.heap.size, 3, none⟩ (.int .i64 (gb l 9 : Nat))).setCell ⟨w1.heap.size, 4, none⟩ (.int .i64 (gb l 12 : Nat))) w1.heap.size ⟨(n0 : Nat), (n1 : Nat), (gb l 8 : Nat), (gb l 9 : Nat), (gb l 12 : Nat)⟩) := Lib.hid (bx_set hbx ⟨(n0 : Nat), (n1 : Nat), (gb l 8 : Nat), (gb l 9 : Nat), (gb l 12 : Nat)⟩)
  obtain ⟨z0, z1, z2, z3, z4⟩ := hbx.cells
  have g0 := frozen_of_row _ w1.heap.size 0 _ _ hbx
  have g1 := frozen_of_row _ w1.heap.size 1 _ _ hbx
  have g2 := frozen_of_row _ w1.heap.size 2 _ _ hbx
  have g3 := frozen_of_row _ w1.heap.size 3 _ _ hbx
  have g4 := frozen_of_row _ w1.heap.size 4 _ _ hbx
  simp only [zero] at z0 z1 z2 z3 z4
  have HZS := Lib.hid (HZ2.out.below hbs)
  clear hbx hbe hbs HR1 HR2 hw HD d4 d5 c10 c11
  refine wp_region_noPanic ?_
  refine region_RH (fun w' => w'.cell? ⟨b, off + 8, none⟩ = some (.int .u8 (gb l 8)) ∧ w'.cell? ⟨b, off + 9, none⟩ = some (.int .u8 (gb l 9)) ∧ w'.cell? ⟨b, off + 12, none⟩ = some (.int .u8 (gb l 12))) (by kernel_rfl) ?_
  refine RH_take (i := 0) (v := ?_) rfl (by kernel_rfl) (by kernel_rfl) (by kernel_rfl) (fun _ _ _ h => h) HS2.out (by rfl) ?_ ?_
  rotate_left
  · (intro w' hw'; obtain ⟨j8, j9, j12⟩ := hw'; first | (go_simp; done) | (go_simp; with_reducible rfl))
  try simp only [List.getElem_toArray, List.getElem_cons_zero, List.getElem_cons_succ, Act.put, List.setIfInBounds_toArray, List.set_cons_zero, List.set_cons_succ]
  refine RH_take (i := 1) (v := ?_) rfl (by kernel_rfl) (by kernel_rfl) (by kernel_rfl) (fun _ _ _ h => h) HS2.out (by rfl) ?_ ?_
  rotate_left
  · (intro w' hw'; obtain ⟨j8, j9, j12⟩ := hw'; first | (go_simp; done) | (go_simp; with_reducible rfl))
  try simp only [List.getElem_toArray, List.getElem_cons_zero, List.getElem_cons_succ, Act.put, List.setIfInBounds_toArray, List.set_cons_zero, List.set_cons_succ]
  refine RH_take (i := 2) (v := ?_) rfl (by kernel_rfl) (by kernel_rfl) (by kernel_rfl) (fun _ _ _ h => h) HS2.out (by rfl) ?_ ?_
  rotate_left
  · (intro w' hw'; obtain ⟨j8, j9, j12⟩ := hw'; first | (go_simp; done) | (go_simp; with_reducible rfl))
  try simp only [List.getElem_toArray, List.getElem_cons_zero, List.getElem_cons_succ, Act.put, List.setIfInBounds_toArray, List.set_cons_zero, List.set_cons_succ]
  refine RH_take (i := 3) (v := ?_) rfl (by kernel_rfl) (by kernel_rfl) (by kernel_rfl) (fun _ _ _ h => h) HS2.out (by rfl) ?_ ?_
  rotate_left
  · (intro w' hw'; obtain ⟨j8, j9, j12⟩ := hw'; first | (go_simp; done) | (go_simp; with_reducible rfl))
  try simp only [List.getElem_toArray, List.getElem_cons_zero, List.getElem_cons_succ, Act.put, List.setIfInBounds_toArray, List.set_cons_zero, List.set_cons_succ]
  refine RH_take (i := 4) (v := ?_) rfl (by kernel_rfl) (by kernel_rfl) (by kernel_rfl) (fun _ _ _ h => h) HS2.out (by rfl) ?_ ?_
  rotate_left
  · (intro w' hw'; obtain ⟨j8, j9, j12⟩ := hw'; first | (go_simp; done) | (go_simp; with_reducible rfl))
  try simp only [List.getElem_toArray, List.getElem_cons_zero, List.getElem_cons_succ, Act.put, List.setIfInBounds_toArray, List.set_cons_zero, List.set_cons_succ]
  refine RH_take (i := 5) (v := ?_) rfl (by kernel_rfl) (by kernel_rfl) (by kernel_rfl) (fun _ _ _ h => h) HS2.out (by rfl) ?_ ?_
  rotate_left
  · (intro w' hw'; obtain ⟨j8, j9, j12⟩ := hw'; first | (go_simp; done) | (go_simp; with_reducible rfl))
  try simp only [List.getElem_toArray, List.getElem_cons_zero, List.getElem_cons_succ, Act.put, List.setIfInBounds_toArray, List.set_cons_zero, List.set_cons_succ]
  refine RH_take (i := 6) (v := ?_) rfl (by kernel_rfl) (by kernel_rfl) (by kernel_rfl) (fun _ _ _ h => h) HS2.out (by rfl) ?_ ?_
  rotate_left
  · (intro w' hw'; obtain ⟨j8, j9, j12⟩ := hw'; first | (go_simp; done) | (go_simp; with_reducible rfl))
  try simp only [List.getElem_toArray, List.getElem_cons_zero, List.getElem_cons_succ, Act.put, List.setIfInBounds_toArray, List.set_cons_zero, List.set_cons_succ]
  refine RH_take (i := 7) (v := ?_) rfl (by kernel_rfl) (by kernel_rfl) (by kernel_rfl) (fun _ _ _ h => h) HS2.out (by rfl) ?_ ?_
  rotate_left
  · (intro w' hw'; obtain ⟨j8, j9, j12⟩ := hw'; first | (go_simp; done) | (go_simp; with_reducible rfl))
  try simp only [List.getElem_toArray, List.getElem_cons_zero, List.getElem_cons_succ, Act.put, List.setIfInBounds_toArray, List.set_cons_zero, List.set_cons_succ]
  refine RH_take (i := 8) (v := ?_) rfl (by kernel_rfl) (by kernel_rfl) (by kernel_rfl) (fun _ _ _ h => h) HS2.out (by rfl) ?_ ?_
  rotate_left
  · (intro w' hw'; obtain ⟨j8, j9, j12⟩ := hw'; first | (go_simp; done) | (go_simp; with_reducible rfl))
  try simp only [List.getElem_toArray, List.getElem_cons_zero, List.getElem_cons_succ, Act.put, List.setIfInBounds_toArray, List.set_cons_zero, List.set_cons_succ]
  refine RH_take (i := 9) (v := ?_) rfl (by kernel_rfl) (by kernel_rfl) (by kernel_rfl) (fun _ _ _ h => h) HS2.out (by rfl) ?_ ?_
  rotate_left
  · (intro w' hw'; obtain ⟨j8, j9, j12⟩ := hw'; first | (go_simp; done) | (go_simp; with_reducible rfl))
  try simp only [List.getElem_toArray, List.getElem_cons_zero, List.getElem_cons_succ, Act.put, List.setIfInBounds_toArray, List.set_cons_zero, List.set_cons_succ]
  refine RH_take (i := 10) (v := ?_) rfl (by kernel_rfl) (by kernel_rfl) (by kernel_rfl) (fun _ _ _ h => h) HS2.out (by rfl) ?_ ?_
  rotate_left
  · (intro w' hw'; obtain ⟨j8, j9, j12⟩ := hw'; first | (go_simp; done) | (go_simp; with_reducible rfl))
  try simp only [List.getElem_toArray, List.getElem_cons_zero, List.getElem_cons_succ, Act.put, List.setIfInBounds_toArray, List.set_cons_zero, List.set_cons_succ]
  refine RH_take (i := 11) (v := ?_) rfl (by kernel_rfl) (by kernel_rfl) (by kernel_rfl) (fun _ _ _ h => h) HS2.out (by rfl) ?_ ?_
  rotate_left
  · (intro w' hw'; obtain ⟨j8, j9, j12⟩ := hw'; first | (go_simp; done) | (go_simp; with_reducible rfl))
  try simp only [List.getElem_toArray, List.getElem_cons_zero, List.getElem_cons_succ, Act.put, List.setIfInBounds_toArray, List.set_cons_zero, List.set_cons_succ]
  refine RH_take (i := 12) (v := ?_) rfl (by kernel_rfl) (by kernel_rfl) (by kernel_rfl) (fun _ _ _ h => h) HS2.out (by rfl) ?_ ?_
  rotate_left
  · (intro w' hw'; obtain ⟨j8, j9, j12⟩ := hw'; first | (go_simp; done) | (go_simp; with_reducible rfl))
  try simp only [List.getElem_toArray, List.getElem_cons_zero, List.getElem_cons_succ, Act.put, List.setIfInBounds_toArray, List.set_cons_zero, List.set_cons_succ]
  refine RH_take (i := 13) (v := ?_) rfl (by kernel_rfl) (by kernel_rfl) (by kernel_rfl) (fun _ _ _ h => h) HS2.out (by rfl) ?_ ?_
  rotate_left
  · (intro w' hw'; obtain ⟨j8, j9, j12⟩ := hw'; first | (go_simp; done) | (go_simp; with_reducible rfl))
  try simp only [List.getElem_toArray, List.getElem_cons_zero, List.getElem_cons_succ, Act.put, List.setIfInBounds_toArray, List.set_cons_zero, List.set_cons_succ]
  refine RH_take (i := 14) (v := ?_) rfl (by kernel_rfl) (by kernel_rfl) (by kernel_rfl) (fun _ _ _ h => h) HS2.out (by rfl) ?_ ?_
  rotate_left
  · (intro w' hw'; obtain ⟨j8, j9, j12⟩ := hw'; first | (go_simp; done) | (go_simp; with_reducible rfl))
  try simp only [List.getElem_toArray, List.getElem_cons_zero, List.getElem_cons_succ, Act.put, List.setIfInBounds_toArray, List.set_cons_zero, List.set_cons_succ]
  refine RH_step (i := 15) (by kernel_rfl) rfl (fun K hK => ?_)
  go_simp
  skip
  go_simp
  refine hK.out _ _ HS3.out ?_
  clear hK K
  try simp only [List.getElem_toArray, List.getElem_cons_zero, List.getElem_cons_succ, Act.put, List.setIfInBounds_toArray, List.set_cons_zero, List.set_cons_succ]
  refine RH_step (i := 16) (by kernel_rfl) rfl (fun K hK => ?_)
  go_simp
  skip
  go_simp
  refine hK.out _ _ HS4.out ?_
  clear hK K
  try simp only [List.getElem_toArray, List.getElem_cons_zero, List.getElem_cons_succ, Act.put, List.setIfInBounds_toArray, List.set_cons_zero, List.set_cons_succ]
  refine wpAnyH_done (by kernel_rfl) ?_ _
  refine NoPanic.normal ?_
  clear HS2 HS3 HS4 z0 z1 z2 z3 z4 g0 g1 g2 g3 g4 c8 c9 c12 k8 k9 k12 hwa hw1
  rw [HYV.out] at HCK
  obtain ⟨wb, hwb⟩ : ∃ wb, (((((wa.setCell ⟨w1.heap.size, 0, none⟩ (.int .i64 (n0 : Nat))).setCell ⟨w1.heap.size, 1, none⟩ (.int .i64 (n1 : Nat))).setCell ⟨w1.heap.size, 2, none⟩ (.int .i64 (gb l 8 : Nat))).setCell ⟨w1.heap.size, 3, none⟩ (.int .i64 (gb l 9 : Nat))).setCell ⟨w1.heap.size, 4, none⟩ (.int .i64 (gb l 12 : Nat))) = wb := ⟨_, rfl⟩
  rw [hwb] at HYB HBS HZS ⊢
  clear hwb
  have hyb := HYB.out.cells
  obtain ⟨y0, y1, y2, y3, y4⟩ := hyb
  simp only at y0 y1 y2 y3 y4
  go_wp2_with fail
  refine (HCK.out _).mono ?_
  rintro e w5 ⟨rfl, hb5⟩
  clear y0 y1 y2 y3 y4
  have HZ5 := Lib.hid (HZS.out.below hb5)
  have HY5 := Lib.hid (HYB.out.below hb5)
  have HB5 := Lib.hid (below_then HBS.out hb5)
  obtain ⟨z0, z1, z2, z3, z4⟩ := HZ5.out.cells
  have g0 := frozen_of_row w5 w.heap.size 0 _ _ HZ5.out
  have g1 := frozen_of_row w5 w.heap.size 1 _ _ HZ5.out
  have g2 := frozen_of_row w5 w.heap.size 2 _ _ HZ5.out
  have g3 := frozen_of_row w5 w.heap.size 3 _ _ HZ5.out
  have g4 := frozen_of_row w5 w.heap.size 4 _ _ HZ5.out
  obtain ⟨y0, y1, y2, y3, y4⟩ := HY5.out.cells
  have HSET := Lib.hid (fun x => bx_set HZ5.out x)
  have HBST := Lib.hid (fun a b c d e => below_set5 (Nat.le_refl _) HB5.out a b c d e)
  simp only [zero] at z0 z1 z2 z3 z4
  simp only at y0 y1 y2 y3 y4
  clear hb5 HCK HYB HBS HZS
  by_cases hz : bd = 0
  · have d0 : ((bd : Int) != 0) = false := by simp; omega
    have HT := Lib.hid (HTF.out hz)
    have HBZ := Lib.hid hz
    clear hz HTF HTB
    go_wp2
    refine bodyPost_ret (res_hd2 _ rfl _ _ w.heap.size ⟨(n0 : Nat), (n1 : Nat), (gb l 8 : Nat), (gb l 9 : Nat), (gb l 12 : Nat)⟩ _ rfl rfl (HSET.out ⟨(n0 : Nat), (n1 : Nat), (gb l 8 : Nat), (gb l 9 : Nat), (gb l 12 : Nat)⟩)) rfl ⟨by rw [HT.out]; simp only [HYV.out]; rfl, HBST.out _ _ _ _ _⟩
  · have d0 : ((bd : Int) != 0) = true := by simp; omega
    have HT := Lib.hid (HTB.out hz)
    clear hz HTF HTB
    go_wp2
    refine bodyPost_ret (res_hd2 _ rfl _ _ w.heap.size zero _ rfl rfl (HSET.out zero)) rfl ⟨by rw [HT.out]; rfl, HBST.out _ _ _ _ _⟩
end Hd
end Go.Proofs.Ytbgaaocgdjkkeaa
end
