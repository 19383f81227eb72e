/- Finder.Longest: its contract. burnishlaw08.alive: its contract. -/
import Derived.Test.YtdojhglpiejfjaaDoorZ9
import Derived.Laws.ResultCell
set_option linter.unusedSimpArgs false
set_option linter.unusedVariables false
section
namespace Go.Proofs.YtdojhglpiejfjaaDoor
open Go.RowKit Go.Shelf
attribute [local go_sem] Oper.semAt_some
/-- The longest match: the last one; 0, 0 where there is none. -/
def lastT (R : List (Nat × Nat)) : Nat × Nat := R.getLast?.getD (0, 0)
theorem lastT_nil : lastT [] = (0, 0) := rfl
theorem lastT_snoc (R : List (Nat × Nat)) (q : Nat × Nat) : lastT (R ++ [q]) = q := by simp [lastT]
theorem row_two' {w : World} {g : Nat} {a b : Value} {t : TypeId} (h : w.heap[g]? = some (.cells #[a, b] t (0, 0))) (x y : Value) : ((w.setCell ⟨g, 0, none⟩ x).setCell ⟨g, 1, none⟩ y).heap[g]? = some (.cells #[x, y] t (0, 0)) :=
  heap_setCell_same (w.setCell ⟨g, 0, none⟩ x) g 1 _ _ _ (heap_setCell_same w g 0 _ _ _ h)
theorem kc_two (w : World) (g : Nat) (x y : Value) : Bk.Kc (fun k => k = g) w ((w.setCell ⟨g, 0, none⟩ x).setCell ⟨g, 1, none⟩ y) :=
  (Bk.Kc.set (U := fun k => k = g) w ⟨g, 0, none⟩ rfl x).trans (Bk.Kc.set (U := fun k => k = g) _ ⟨g, 1, none⟩ rfl y)
theorem longest_results (tmps : Array Value) (W : World) (cb : Nat) (x y : Value) (u : Value) (h2 : tmps.getD 4 undef = .pointer (some ⟨cb, 0, none⟩)) (h3 : tmps.getD 5 undef = u) (hrow : W.heap[cb]? = some (.cells #[x, y] 46 (0, 0))) :
    (results Tryd.f26 tmps).run Tryd.prog W = .ok (.tuple #[.agg #[x, y], u]) W := by
  refine (results_cell_tmp (p := 4) (u := 5) (ty := 46) (by kernel_rfl) tmps Tryd.prog W).trans ?_
  have hl : (loadVar 46 ⟨cb, 0, none⟩).run Tryd.prog W = .ok (.agg #[x, y]) W :=
    Bk.run_load_front W cb _ 46 _ (0, 0) [x, y] _ hrow (fun j v hj => by rw [← List.getElem?_toArray] at hj; exact hj) Tryd.underlying46 rfl (by kernel_rfl)
  rw [h2, h3]
  simp [asAddr, hl, Result.andThen]
set_option maxRecDepth 100000 in
set_option maxHeartbeats 4000000 in
theorem longest_any {w : World} {gf eb base N : Nat} {l : List UInt8} {v : Value} {Rs : List (List (Nat × Nat))} (at' : Int) (hfd : Fd w gf eb base N l N v Rs) (hN : N ≤ 1048576) :
    Calls Tryd.prog 26 #[.pointer (some ⟨gf, 0, none⟩), .int .i64 at'] w fun e w' =>
      e = .returned (.tuple #[.agg #[.int .i64 ((lastT (ra Rs at')).1 : Nat), .int .i64 ((lastT (ra Rs at')).2 : Nat)], .bool (decide (0 < (lastT (ra Rs at')).1))]) ∧ Below w.heap.size w w' := by
  refine (callsIn_wide (n := 4)).1 ?_
  have hro : (Fence.wide).round = none := rfl
  refine callsIn_of_wp_marks Tryd.func26 rfl trivial ?_ hro
  simp only [Tryd.ntmps26, List.size_toArray, List.length_cons, List.length_nil, Nat.reduceAdd, Nat.reduceSub, Array.replicate_succ, Array.replicate_zero, List.push_toArray, List.append_toArray, List.nil_append, List.cons_append]
  have HFD := Lib.hid hfd
  clear hfd
  gi_wp2_with fail
  have hb1 := below_alloc2 w (.cells #[.int .i64 0, .int .i64 0] 46) (.cells #[.int .i64 0, .int .i64 0] 46)
  have hr0 : ((w.alloc (.cells #[.int .i64 0, .int .i64 0] 46)).alloc (.cells #[.int .i64 0, .int .i64 0] 46)).heap[w.heap.size]? = some (tokO (0, 0)) := heap_alloc2_old _ _ _
  have hl0 : ((w.alloc (.cells #[.int .i64 0, .int .i64 0] 46)).alloc (.cells #[.int .i64 0, .int .i64 0] 46)).heap[w.heap.size + 1]? = some (tokO (0, 0)) := heap_alloc2_new _ _ _
  revert hb1 hr0 hl0
  generalize (w.alloc (.cells #[.int .i64 0, .int .i64 0] 46)).alloc (.cells #[.int .i64 0, .int .i64 0] 46) = W3
  intro hb1 hr0 hl0
  refine ⟨trivial, (rising_in Fence.wide 3 trivial rfl (.pointer (some ⟨gf, 0, none⟩)) at' W3 (.inr ⟨gf, rfl⟩)).mono ?_⟩
  rintro e w' ⟨rfl, rfl⟩
  gi_wp2_with fail
  have hb5 := below_alloc2 W3 (.cells #[.pointer (some ⟨gf, 0, none⟩)] 55) (.cells #[.int .i64 at'] 3)
  have hB5 : Boxed ((W3.alloc (.cells #[.pointer (some ⟨gf, 0, none⟩)] 55)).alloc (.cells #[.int .i64 at'] 3)) W3.heap.size 55 (.pointer (some ⟨gf, 0, none⟩)) := heap_alloc2_old _ _ _
  have hA5 : Boxed ((W3.alloc (.cells #[.pointer (some ⟨gf, 0, none⟩)] 55)).alloc (.cells #[.int .i64 at'] 3)) (W3.heap.size + 1) 3 (.int .i64 at') := heap_alloc2_new _ _ _
  revert hb5 hB5 hA5
  generalize (W3.alloc (.cells #[.pointer (some ⟨gf, 0, none⟩)] 55)).alloc (.cells #[.int .i64 at'] 3) = W5
  intro hb5 hB5 hA5
  have hl3 := (Array.getElem?_eq_some_iff.1 hl0).1
  have hr5 := (hb5.block _ (by omega)).trans hr0
  have hl5 := (hb5.block _ hl3).trans hl0
  have hb15 : Below w.heap.size w W5 := below_then hb1 hb5
  have hvl : ∀ b, v.ownBlock = some b → ¬ (b = w.heap.size + 1) := fun b hb e => by
    rcases HFD.out.own.2 with ⟨h', _⟩ | ⟨g', cap', cur, h', hb', hg', _⟩
    · rw [h'] at hb; simp [Value.ownBlock] at hb
    · rw [h'] at hb; simp [Value.ownBlock] at hb; have := (Array.getElem?_eq_some_iff.1 hg').1; omega
  have hz5 := hb5.size
  have hit := rise_iter 3 (by omega) (W3.heap.size + 1) W3.heap.size gf eb base N at' l v Rs (fun k => k = w.heap.size + 1) W5 hA5 hB5 (HFD.out.below hb15) hN hvl (fun k hk => by omega)
  clear hb1 hr0 hl0 hb5 hA5 hB5
  refine range_iterA (F := Fence.wide) (n := 4) (P := Tryd.prog) (gf := 55) (lb := #[.pointer (some ⟨W3.heap.size + 1, 0, none⟩), .pointer (some ⟨W3.heap.size, 0, none⟩)]) hro (by omega) rfl trivial (enters_of Tryd.func55 (by kernel_rfl) rfl)
    (encs := rEnc) (hseq := hit) (fun h1 h2 => h1.trans h2) (fun W l o o' hl hc => Bk.Kc.put W l o o' hl hc) (fun _ => rfl)
    (fun pre W => Below w.heap.size w W ∧ W.heap[w.heap.size]? = some (tokO (0, 0)) ∧ W.heap[w.heap.size + 1]? = some (tokO (lastT pre))) (fun _ _ _ => False) ?hI (fun _ _ _ _ _ hs _ _ => hs) ⟨hb15, hr5, hl5⟩ (fun q => tokO q) (fun _ => rfl) (fun _ _ => Bk.Kc.alloc _ _ _)
    (fun q Bx => { tmps := #[.pointer (some ⟨gf, 0, none⟩), .int .i64 at', undef, undef, .pointer (some ⟨w.heap.size, 0, none⟩), .bool false, .pointer (some ⟨w.heap.size + 1, 0, none⟩), .pointer (some ⟨Bx, 0, none⟩), .agg #[.int .i64 0, .int .i64 0], .pointer (some ⟨gf, 0, none⟩), .int .i64 at', .func (.func 55) #[] #[.pointer (some ⟨W3.heap.size + 1, 0, none⟩), .pointer (some ⟨W3.heap.size, 0, none⟩)], .agg #[.int .i64 (q.1 : Nat), .int .i64 (q.2 : Nat)], undef, undef, undef, undef, undef], defers := [] })
    ?has ?hbo ?hend ?hout
  case hI =>
    rintro s X Y row ⟨h1, h2, h3⟩ hg hr
    exact ⟨h1.grown hg h1.size (fun r e => by have := (hr r e).1; omega), Bk.kc_cells hg (fun r e => (hr r e).2) _ _ h2 rfl (fun h => h), Bk.kc_cells hg (fun r e => (hr r e).2) _ _ h3 rfl (fun h => h)⟩
  case has =>
    intro k x X K hK
    simp only [rEnc]
    gi_wp2
    exact hK
  case hbo =>
    rintro k pre ⟨q1, q2⟩ X Bx ⟨h1, h2, h3⟩ hnx hBx hbx
    have c0 : X.cell? ⟨Bx, 0, none⟩ = some (.int .i64 (q1 : Nat)) := by rw [cell_of_row _ _ _ _ _ (0, 0) hbx]; rfl
    have c1 : X.cell? ⟨Bx, 1, none⟩ = some (.int .i64 (q2 : Nat)) := by rw [cell_of_row _ _ _ _ _ (0, 0) hbx]; rfl
    have d0 : X.cell? ⟨w.heap.size + 1, 0, none⟩ = some (.int .i64 ((lastT pre).1 : Nat)) := by rw [cell_of_row _ _ _ _ _ (0, 0) h3]; rfl
    have d1 : X.cell? ⟨w.heap.size + 1, 1, none⟩ = some (.int .i64 ((lastT pre).2 : Nat)) := by rw [cell_of_row _ _ _ _ _ (0, 0) h3]; rfl
    have f0 := frozen_of_row X (w.heap.size + 1) 0 _ _ h3
    have f1 := frozen_of_row X (w.heap.size + 1) 1 _ _ h3
    have HH := Lib.hid (And.intro h1 (And.intro h2 h3))
    clear h1 h2 h3 hit hnx hbx hr5 hl5 hvl
    gi_wp2
    obtain ⟨h1, h2, h3⟩ := HH.out
    have hkc := kc_two X (w.heap.size + 1) (.int .i64 (q1 : Nat)) (.int .i64 (q2 : Nat))
    refine ⟨((KeepsOthers.setCell X _ _).trans (KeepsOthers.setCell _ _ _)).from _, hkc, (h1.setCell (p := ⟨w.heap.size + 1, 0, none⟩) (by show w.heap.size ≤ w.heap.size + 1; omega) _).setCell (p := ⟨w.heap.size + 1, 1, none⟩) (by show w.heap.size ≤ w.heap.size + 1; omega) _, hkc _ _ h2 rfl (by omega), ?_⟩
    rw [lastT_snoc]
    exact row_two' h3 _ _
  case hend =>
    rintro xs X rfl ⟨h1, h2, h3⟩ hK
    have HH := Lib.hid (And.intro h1 (And.intro h2 h3))
    have HK := Lib.hid hK
    have d0 : X.cell? ⟨w.heap.size + 1, 0, none⟩ = some (.int .i64 ((lastT (ra Rs at')).1 : Nat)) := by rw [cell_of_row _ _ _ _ _ (0, 0) h3]; rfl
    have d1 : X.cell? ⟨w.heap.size + 1, 1, none⟩ = some (.int .i64 ((lastT (ra Rs at')).2 : Nat)) := by rw [cell_of_row _ _ _ _ _ (0, 0) h3]; rfl
    have e0 : X.cell? ⟨w.heap.size, 0, none⟩ = some (.int .i64 (0 : Nat)) := by rw [cell_of_row _ _ _ _ _ (0, 0) h2]; rfl
    have e1 : X.cell? ⟨w.heap.size, 1, none⟩ = some (.int .i64 (0 : Nat)) := by rw [cell_of_row _ _ _ _ _ (0, 0) h2]; rfl
    have f0 := frozen_of_row X w.heap.size 0 _ _ h2
    have f1 := frozen_of_row X w.heap.size 1 _ _ h2
    clear h1 h2 h3 hK hit hr5 hl5 hvl
    obtain ⟨q, hq⟩ : ∃ q, lastT (ra Rs at') = q := ⟨_, rfl⟩
    rw [hq] at HH d0 d1
    have HQ := Lib.hid hq
    clear hq
    obtain ⟨q1, q2⟩ := q
    simp only at d0 d1
    gi_wp2
    gi_region
    gi_wp2
    rw [HQ.out]
    obtain ⟨h1, h2, h3⟩ := HH.out
    have hkc := kc_two X w.heap.size (.int .i64 (q1 : Nat)) (.int .i64 (q2 : Nat))
    have hk2 : ((X.setCell ⟨w.heap.size, 0, none⟩ (.int .i64 (q1 : Nat))).setCell ⟨w.heap.size, 1, none⟩ (.int .i64 (q2 : Nat))).heap[W5.heap.size]? = some (.deferred (some [])) :=
      ((KeepsOthers.setCell X _ _).trans (KeepsOthers.setCell _ _ _)).same _ _ HK.out rfl
    have hrw := row_two' h2 (.int .i64 (q1 : Nat)) (.int .i64 (q2 : Nat))
    have hbb : Below w.heap.size w ((X.setCell ⟨w.heap.size, 0, none⟩ (.int .i64 (q1 : Nat))).setCell ⟨w.heap.size, 1, none⟩ (.int .i64 (q2 : Nat))) := (h1.setCell (p := ⟨w.heap.size, 0, none⟩) (Nat.le_refl _) _).setCell (p := ⟨w.heap.size, 1, none⟩) (Nat.le_refl _) _
    revert hk2 hrw hbb
    clear HH HK e0 e1 f0 f1 d0 d1 h1 h2 h3 hkc
    generalize (X.setCell ⟨w.heap.size, 0, none⟩ (.int .i64 (q1 : Nat))).setCell ⟨w.heap.size, 1, none⟩ (.int .i64 (q2 : Nat)) = Y
    intro hk2 hrw hbb
    refine ⟨by simp, .inl ⟨_, _, rfl, run_takeDeferred (w := Y.drew) hk2, ?_⟩⟩
    refine ⟨_, longest_results _ _ w.heap.size _ _ _ rfl rfl ((World.putObj_heap_other (by omega)).trans hrw), rfl, ?_⟩
    exact hbb.drew.grown (grownBy_putObj' Y.drew W5.heap.size (.deferred none)) hbb.size (fun r e => by cases e; omega)
  case hout =>
    intro c pre X _ h _
    exact h.elim
end Go.Proofs.YtdojhglpiejfjaaDoor
end

section
namespace Go.Proofs.YtdojhglpiejfjaaDoor
open Go.RowKit Go.Maps

theorem lastT_eq {b : Nat → Nat} {N t : Nat} {R : List (Nat × Nat)} (h : Lz.Rec b N t R) (h3 : 3 ≤ Lz.top R) : lastT R = (Lz.top R, Lz.far R (Lz.top R)) := by
  cases hl : R.getLast? with
  | none => rw [List.getLast?_eq_none_iff.1 hl, Lz.top_nil] at h3; omega
  | some z =>
    obtain ⟨us, rfl⟩ := List.getLast?_eq_some_iff.1 hl
    rw [lastT_snoc, Lz.far_last h, Lz.top_snoc]
abbrev exl : List UInt8 := [97, 98, 99, 97, 98, 99, 97, 98, 99]
instance matDec0 (b : Nat → Nat) (N t n f : Nat) : Decidable (Lz.Mat b N t n f) := by unfold Lz.Mat; infer_instance
theorem ex_mat : Lz.Mat (gb exl) 9 3 6 3 ∧ ¬ Lz.Mat (gb exl) 9 3 6 1 ∧ ¬ Lz.Mat (gb exl) 9 3 6 2 := by decide +kernel
theorem ex_lastT {R : List (Nat × Nat)} (h : Lz.Rec (gb exl) 9 3 R) : lastT R = (6, 3) ∧ Lz.top R = 6 ∧ Lz.far R 6 = 3 := by
  obtain ⟨h1, h2⟩ := Lz.mat_top h (by omega) ex_mat.1
  have h3 := Lz.top_le_L h (by omega)
  have hL : Lz.L 9 3 = 6 := by decide
  rw [hL] at h3
  have e : Lz.top R = 6 := by omega
  have hf := (Lz.far_some h (by omega : 3 ≤ 6) h1).1
  have h0 := hf.1
  have ef : Lz.far R 6 = 3 := by
    rcases (show Lz.far R 6 = 1 ∨ Lz.far R 6 = 2 ∨ Lz.far R 6 = 3 by omega) with h | h | h
    · rw [h] at hf; exact absurd hf ex_mat.2.1
    · rw [h] at hf; exact absurd hf ex_mat.2.2
    · exact h
  exact ⟨by rw [lastT_eq h (by omega), e, ef], e, ef⟩
end Go.Proofs.YtdojhglpiejfjaaDoor
end
