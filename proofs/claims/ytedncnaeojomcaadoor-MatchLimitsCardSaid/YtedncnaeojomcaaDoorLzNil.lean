/- A nil finder: what Longest and Nearest answer. -/
import Derived.Test.YtedncnaeojomcaaDoorLzLongest
import Derived.Test.YtedncnaeojomcaaDoorLzNearIt
namespace Go.Proofs.YtedncnaeojomcaaDoor
open Go.RowKit Go.Shelf
attribute [local go_sem] Oper.semAt_some
set_option maxRecDepth 100000 in
set_option maxHeartbeats 4000000 in
theorem longest_nil (w : World) (at' : Int) :
    Calls Tryd.prog 15 #[.pointer none, .int .i64 at'] w fun e w' =>
      e = .returned (.tuple #[.agg #[.int .i64 ((lastT ([] : List (Nat × Nat))).1 : Nat), .int .i64 ((lastT ([] : List (Nat × Nat))).2 : Nat)], .bool (decide (0 < (lastT ([] : List (Nat × Nat))).1))]) ∧ Below w.heap.size w w' := by
  refine (callsIn_wide (n := 4)).1 ?_
  have hro : (Fence.wide).round = none := rfl
  refine callsIn_of_wp_marks Tryd.func15 rfl trivial ?_ hro
  simp only [Tryd.ntmps15, List.size_toArray, List.length_cons, List.length_nil, Nat.reduceAdd, Nat.reduceSub, Array.replicate_succ, Array.replicate_zero, List.push_toArray, List.append_toArray, List.nil_append, List.cons_append]
  gi_wp2_with fail
  have hb1 := below_alloc2 w (.cells #[.int .i64 0, .int .i64 0] 33) (.cells #[.int .i64 0, .int .i64 0] 33)
  have hr0 : ((w.alloc (.cells #[.int .i64 0, .int .i64 0] 33)).alloc (.cells #[.int .i64 0, .int .i64 0] 33)).heap[w.heap.size]? = some (tokO (0, 0)) := heap_alloc2_old _ _ _
  have hl0 : ((w.alloc (.cells #[.int .i64 0, .int .i64 0] 33)).alloc (.cells #[.int .i64 0, .int .i64 0] 33)).heap[w.heap.size + 1]? = some (tokO (0, 0)) := heap_alloc2_new _ _ _
  revert hb1 hr0 hl0
  generalize (w.alloc (.cells #[.int .i64 0, .int .i64 0] 33)).alloc (.cells #[.int .i64 0, .int .i64 0] 33) = W3
  intro hb1 hr0 hl0
  refine ⟨trivial, (rising_in Fence.wide 3 trivial rfl (.pointer none) at' W3 (.inl rfl)).mono ?_⟩
  rintro e w' ⟨rfl, rfl⟩
  gi_wp2_with fail
  have hb5 := below_alloc2 W3 (.cells #[.pointer none] 25) (.cells #[.int .i64 at'] 3)
  have hB5 : Boxed ((W3.alloc (.cells #[.pointer none] 25)).alloc (.cells #[.int .i64 at'] 3)) W3.heap.size 25 (.pointer none) := heap_alloc2_old _ _ _
  have hA5 : Boxed ((W3.alloc (.cells #[.pointer none] 25)).alloc (.cells #[.int .i64 at'] 3)) (W3.heap.size + 1) 3 (.int .i64 at') := heap_alloc2_new _ _ _
  revert hb5 hB5 hA5
  generalize (W3.alloc (.cells #[.pointer none] 25)).alloc (.cells #[.int .i64 at'] 3) = W5
  intro hb5 hB5 hA5
  have hl3 := (Array.getElem?_eq_some_iff.1 hl0).1
  have hr5 := (hb5.block _ (by omega)).trans hr0
  have hl5 := (hb5.block _ hl3).trans hl0
  have hb15 : Below w.heap.size w W5 := below_then hb1 hb5
  have hz5 := hb5.size
  have hit := rise_iter_nil 3 (by omega) (W3.heap.size + 1) W3.heap.size at' (Bk.Kc (fun k => k = w.heap.size + 1)) (fun _ => True) (fun _ _ => False) W5 hA5 hB5
  clear hb1 hr0 hl0 hb5 hA5 hB5
  refine range_iterA (F := Fence.wide) (n := 4) (P := Tryd.prog) (gf := 57) (lb := #[.pointer (some ⟨W3.heap.size + 1, 0, none⟩), .pointer (some ⟨W3.heap.size, 0, none⟩)]) hro (by omega) rfl trivial (enters_of Tryd.func57 (by kernel_rfl) rfl)
    (encs := rEnc) (hseq := hit) (fun h1 h2 => h1.trans h2) (fun W l o o' hl hc => Bk.Kc.put W l o o' hl hc) (fun _ => rfl)
    (fun pre W => Below w.heap.size w W ∧ W.heap[w.heap.size]? = some (tokO (0, 0)) ∧ W.heap[w.heap.size + 1]? = some (tokO (lastT pre))) (fun _ _ _ => False) ?hI (fun _ _ _ _ _ hs _ _ => hs) ⟨hb15, hr5, hl5⟩ (fun q => tokO q) (fun _ => rfl) (fun _ _ => Bk.Kc.alloc _ _ _)
    (fun q Bx => { tmps := #[.pointer none, .int .i64 at', undef, undef, .pointer (some ⟨w.heap.size, 0, none⟩), .bool false, .pointer (some ⟨w.heap.size + 1, 0, none⟩), .pointer (some ⟨Bx, 0, none⟩), .agg #[.int .i64 0, .int .i64 0], .pointer none, .int .i64 at', .func (.func 57) #[] #[.pointer (some ⟨W3.heap.size + 1, 0, none⟩), .pointer (some ⟨W3.heap.size, 0, none⟩)], .agg #[.int .i64 (q.1 : Nat), .int .i64 (q.2 : Nat)], undef, undef, undef, undef, undef], defers := [] })
    ?has ?hbo ?hend ?hout
  case hI =>
    rintro s X Y row ⟨h1, h2, h3⟩ hg hr
    exact ⟨h1.grown hg h1.size (fun r e => by have := (hr r e).1; omega), Bk.kc_cells hg (fun r e => (hr r e).2) _ _ h2 rfl (fun h => h), Bk.kc_cells hg (fun r e => (hr r e).2) _ _ h3 rfl (fun h => h)⟩
  case has =>
    intro k x X K hK
    simp only [rEnc]
    gi_wp2
    exact hK
  case hbo =>
    rintro k pre ⟨q1, q2⟩ X Bx ⟨h1, h2, h3⟩ hnx hBx hbx
    exact hnx.elim
  case hend =>
    rintro xs X rfl ⟨h1, h2, h3⟩ hK
    have HH := Lib.hid (And.intro h1 (And.intro h2 h3))
    have HK := Lib.hid hK
    have d0 : X.cell? ⟨w.heap.size + 1, 0, none⟩ = some (.int .i64 ((lastT ([] : List (Nat × Nat))).1 : Nat)) := by rw [cell_of_row _ _ _ _ _ (0, 0) h3]; rfl
    have d1 : X.cell? ⟨w.heap.size + 1, 1, none⟩ = some (.int .i64 ((lastT ([] : List (Nat × Nat))).2 : Nat)) := by rw [cell_of_row _ _ _ _ _ (0, 0) h3]; rfl
    have e0 : X.cell? ⟨w.heap.size, 0, none⟩ = some (.int .i64 (0 : Nat)) := by rw [cell_of_row _ _ _ _ _ (0, 0) h2]; rfl
    have e1 : X.cell? ⟨w.heap.size, 1, none⟩ = some (.int .i64 (0 : Nat)) := by rw [cell_of_row _ _ _ _ _ (0, 0) h2]; rfl
    have f0 := frozen_of_row X w.heap.size 0 _ _ h2
    have f1 := frozen_of_row X w.heap.size 1 _ _ h2
    clear h1 h2 h3 hK hit hr5 hl5
    obtain ⟨q, hq⟩ : ∃ q, lastT ([] : List (Nat × Nat)) = q := ⟨_, rfl⟩
    rw [hq] at HH d0 d1
    have HQ := Lib.hid hq
    clear hq
    obtain ⟨q1, q2⟩ := q
    simp only at d0 d1
    gi_wp2
    gi_region
    gi_wp2
    rw [HQ.out]
    obtain ⟨h1, h2, h3⟩ := HH.out
    have hkc := kc_two X w.heap.size (.int .i64 (q1 : Nat)) (.int .i64 (q2 : Nat))
    have hk2 : ((X.setCell ⟨w.heap.size, 0, none⟩ (.int .i64 (q1 : Nat))).setCell ⟨w.heap.size, 1, none⟩ (.int .i64 (q2 : Nat))).heap[W5.heap.size]? = some (.deferred (some [])) :=
      ((KeepsOthers.setCell X _ _).trans (KeepsOthers.setCell _ _ _)).same _ _ HK.out rfl
    have hrw := row_two' h2 (.int .i64 (q1 : Nat)) (.int .i64 (q2 : Nat))
    have hbb : Below w.heap.size w ((X.setCell ⟨w.heap.size, 0, none⟩ (.int .i64 (q1 : Nat))).setCell ⟨w.heap.size, 1, none⟩ (.int .i64 (q2 : Nat))) := (h1.setCell (p := ⟨w.heap.size, 0, none⟩) (Nat.le_refl _) _).setCell (p := ⟨w.heap.size, 1, none⟩) (Nat.le_refl _) _
    revert hk2 hrw hbb
    clear HH HK e0 e1 f0 f1 d0 d1 h1 h2 h3 hkc
    generalize (X.setCell ⟨w.heap.size, 0, none⟩ (.int .i64 (q1 : Nat))).setCell ⟨w.heap.size, 1, none⟩ (.int .i64 (q2 : Nat)) = Y
    intro hk2 hrw hbb
    refine ⟨by simp, .inl ⟨_, _, rfl, run_takeDeferred (w := Y.drew) hk2, ?_⟩⟩
    refine ⟨_, longest_results _ _ w.heap.size _ _ _ rfl rfl ((World.putObj_heap_other (by omega)).trans hrw), rfl, ?_⟩
    exact hbb.drew.grown (grownBy_putObj' Y.drew W5.heap.size (.deferred none)) hbb.size (fun r e => by cases e; omega)
  case hout =>
    intro c pre X _ h _
    exact h.elim
set_option maxRecDepth 100000 in
set_option maxHeartbeats 4000000 in
theorem near_iter_nil (A B : Nat) (at' : Int) (Kp : World → World → Prop) (hKt : ∀ {A B C : World}, Kp A B → Kp B C → Kp A C) (hKb : ∀ (A : World) (k : Nat) (o o' : Obj), A.heap[k]? = some o → o.isCells = false → Kp A (A.putObj k o')) (hKa : ∀ (A : World) (o : Obj), Kp A (A.alloc o)) (Sp : List (Nat × Nat) → Prop) (Nx : List (Nat × Nat) → Nat × Nat → Prop)
    (w : World) (hA : Boxed w A 25 (.pointer none)) (hB : Boxed w B 3 (.int .i64 at')) :
    IterF Fence.wide 3 Tryd.prog 38 #[.pointer (some ⟨A, 0, none⟩), .pointer (some ⟨B, 0, none⟩)] nEnc Kp (fun xs => xs = []) Sp Nx w := fun y J Jx V hV hJ hJx h0 hY => by
  have hro : (Fence.wide).round = none := rfl
  have hA' : Boxed V A 25 (.pointer none) := (hV.block A hA.lt).trans hA
  have hB' : Boxed V B 3 (.int .i64 at') := (hV.block B hB.lt).trans hB
  have HJ := Lib.hid hJ
  have H0 := Lib.hid h0
  clear hA hB hY hJ hJx h0 hV
  refine callsIn_of_wp_marks Tryd.func38 rfl trivial ?_ hro
  simp only [Tryd.ntmps38, List.size_toArray, List.length_cons, List.length_nil, Nat.reduceAdd, Nat.reduceSub, Array.replicate_succ, Array.replicate_zero, List.push_toArray, List.append_toArray, List.nil_append, List.cons_append]
  have hb3 := below_alloc2 V (.cells #[.func (.yield y) #[] #[]] 51) (.cells #[.int .i64 3] 3)
  have hy3 : Boxed ((V.alloc (.cells #[.func (.yield y) #[] #[]] 51)).alloc (.cells #[.int .i64 3] 3)) V.heap.size 51 (.func (.yield y) #[] #[]) := heap_alloc2_old _ _ _
  have hl3 : Boxed ((V.alloc (.cells #[.func (.yield y) #[] #[]] 51)).alloc (.cells #[.int .i64 3] 3)) (V.heap.size + 1) 3 (.int .i64 (3 : Nat)) := heap_alloc2_new _ _ _
  have hz3 : ((V.alloc (.cells #[.func (.yield y) #[] #[]] 51)).alloc (.cells #[.int .i64 3] 3)).heap.size = V.heap.size + 2 := by simp
  have cA := Boxed.cell ((hb3.block A hA'.lt).trans hA')
  have cB := Boxed.cell ((hb3.block B hB'.lt).trans hB')
  gi_wp2_with fail
  have hj3 := HJ.out.alloc (.cells #[.int .i64 3] 3) (HJ.out.alloc (.cells #[.func (.yield y) #[] #[]] 51) H0.out)
  revert hb3 hy3 hl3 hz3 cA cB hj3
  generalize (V.alloc (.cells #[.func (.yield y) #[] #[]] 51)).alloc (.cells #[.int .i64 3] 3) = W3
  intro hb3 hy3 hl3 hz3 cA cB hj3
  refine ⟨trivial, (rising_in Fence.wide 2 trivial rfl (.pointer none) at' W3 (.inl rfl)).mono ?_⟩
  rintro e w' ⟨rfl, rfl⟩
  gi_wp2_with fail
  have hb5 := below_alloc2 W3 (.cells #[.pointer none] 25) (.cells #[.int .i64 at'] 3)
  have hB5 : Boxed ((W3.alloc (.cells #[.pointer none] 25)).alloc (.cells #[.int .i64 at'] 3)) W3.heap.size 25 (.pointer none) := heap_alloc2_old _ _ _
  have hA5 : Boxed ((W3.alloc (.cells #[.pointer none] 25)).alloc (.cells #[.int .i64 at'] 3)) (W3.heap.size + 1) 3 (.int .i64 at') := heap_alloc2_new _ _ _
  have hj5 := HJ.out.alloc (.cells #[.int .i64 at'] 3) (HJ.out.alloc (.cells #[.pointer none] 25) hj3)
  revert hb5 hB5 hA5 hj5
  generalize (W3.alloc (.cells #[.pointer none] 25)).alloc (.cells #[.int .i64 at'] 3) = W5
  intro hb5 hB5 hA5 hj5
  have hz5 := hb5.size
  have hy5 : Boxed W5 V.heap.size 51 (.func (.yield y) #[] #[]) := (hb5.block _ hy3.lt).trans hy3
  have hl5 : Boxed W5 (V.heap.size + 1) 3 (.int .i64 (3 : Nat)) := (hb5.block _ hl3.lt).trans hl3
  rw [hz3] at hA5 hB5
  have hit := rise_iter_nil 2 (by omega) (V.heap.size + 2 + 1) (V.heap.size + 2) at' Kp (fun _ => False) (fun _ _ => False) W5 hA5 hB5
  have HVZ : Hid (V.heap.size + 2 ≤ W5.heap.size) := Lib.hid (by omega)
  clear hb3 hy3 hl3 hz3 cA cB hj3 hb5 hA5 hB5 hz5 hA' hB' H0
  refine range_iterA (F := Fence.wide) (n := 3) (P := Tryd.prog) (gf := 57) (lb := #[.pointer (some ⟨V.heap.size + 2 + 1, 0, none⟩), .pointer (some ⟨V.heap.size + 2, 0, none⟩)]) hro (by omega) rfl trivial (enters_of Tryd.func57 (by kernel_rfl) rfl)
    (encs := rEnc) (hseq := hit) (fun h1 h2 => hKt h1 h2) hKb (fun _ => rfl)
    (fun _ W => J [] W) (fun _ _ _ => False) ?hI (fun _ _ _ _ _ hs _ _ => hs) hj5 (fun q => tokO q) (fun _ => rfl) hKa
    (fun q Bx => { tmps := #[.func (.yield y) #[] #[], .pointer (some ⟨A, 0, none⟩), .pointer (some ⟨B, 0, none⟩), .pointer (some ⟨V.heap.size, 0, none⟩), .pointer (some ⟨V.heap.size + 1, 0, none⟩), .pointer (some ⟨Bx, 0, none⟩), .pointer none, .int .i64 at', .func (.func 57) #[] #[.pointer (some ⟨V.heap.size + 2 + 1, 0, none⟩), .pointer (some ⟨V.heap.size + 2, 0, none⟩)], .agg #[.int .i64 (q.1 : Nat), .int .i64 (q.2 : Nat)], undef, undef, undef, undef, undef, undef, undef, undef, undef, undef, undef, undef], defers := [] })
    ?has ?hbo ?hend ?hout
  case hI =>
    rintro s X Y row h1 hg hr
    have := HVZ.out
    exact HJ.out _ _ _ _ h1 hg (fun r e => by have := (hr r e).1; omega)
  case has =>
    intro k x X K hK
    simp only [rEnc]
    gi_wp2
    exact hK
  case hbo => exact fun _ _ _ _ _ _ h => h.elim
  case hend =>
    rintro xs X _ h1 hK
    have hzv := HVZ.out
    have HP := Lib.hid (HJ.out.putObj (.deferred none) h1 (by omega) hK rfl)
    clear h1 hit
    gi_wp2
    refine ⟨by simp, .inl ⟨_, _, rfl, run_takeDeferred hK, ?_⟩⟩
    exact ⟨_, results_none rfl _ _ _, ⟨_, rfl⟩, .inl ⟨[], rfl, by exact HP.out⟩⟩
  case hout => exact fun _ _ _ h => h.elim
end Go.Proofs.YtedncnaeojomcaaDoor
