/- lace.Passes as an iterator. -/
import Derived.Test.YtfdnjblbhbkndaaDoorLcIter
import Derived.Test.YtfdnjblbhbkndaaDoorIterA
import Derived.Test.YtfdnjblbhbkndaaDoorMarks
import Derived.Shelf.Abstract
namespace Go.Proofs.YtfdnjblbhbkndaaDoor
open Go.RowKit Go.Shelf
attribute [local go_sem] Oper.semAt_some

namespace Lc
theorem nyield_any {m m' l y : Nat} {P : Program} {args : Array Value} {W : World} {Q : Ending → World → Prop} (h : YieldAt Fence.wide m P y args W Q) :
    ∃ fn tmps assign body, (Instr.yield y args).run P W = .ok (.round y fn tmps assign body) W ∧ RoundIn (Fence.wide.inRound l) m' P y fn tmps assign body W Q := by
  obtain ⟨fn, tmps, assign, body, hy, hR⟩ := h
  exact ⟨fn, tmps, assign, body, hy, hR.1, fun c cs _ => hR.2 c cs (room_wide _)⟩
/-- The passes that aren't empty. -/
def psL (a b l : Int) : List (Nat × Pa) := if side a = true ∧ side b = true ∧ (l = 0 ∨ l = 1) then parts a.toNat b.toNat l else []
def sEnc (q : Nat × Pa) : Array Value := #[.int .i64 (q.1 : Nat), .agg #[.int .i64 (q.2.c : Nat), .int .i64 (q.2.r : Nat)]]
def lace (l : Int) : Bool := l == 0 || l == 1
theorem goodLace_any (n : Int) (w : World) : Calls Tryd.prog 14 #[.int .i64 n] w fun e w' => e = .returned (.bool (lace n)) ∧ w = w' := by
  unfold lace
  by_cases h : n = 0
  · have d1 : (n == 0) = true := by simpa using h
    clear h
    go_enter Tryd.func14, Tryd.ntmps14
    go_wp2
    go_ret
    exact ⟨by rw [d1]; rfl, rfl⟩
  · have d1 : (n == 0) = false := by simpa using h
    clear h
    go_enter Tryd.func14, Tryd.ntmps14
    go_wp2
    go_ret
    exact ⟨by rw [d1]; rfl, rfl⟩
theorem parts_in (F : Fence) (n : Nat) (h5 : F.fn 15) (hro : F.round = none) (a b l : Int) (w : World) :
    CallsIn F n Tryd.prog 15 #[.int .i64 a, .int .i64 b, .int .i64 l] w fun e w' => e = .returned (.func (.func 22) #[] #[.pointer (some ⟨w.heap.size + 2, 0, none⟩), .pointer (some ⟨w.heap.size, 0, none⟩), .pointer (some ⟨w.heap.size + 1, 0, none⟩)]) ∧
      w' = ((w.alloc (.cells #[.int .i64 a] 3)).alloc (.cells #[.int .i64 b] 3)).alloc (.cells #[.int .i64 l] 3) := by
  refine callsIn_of_wp Tryd.func15 rfl h5 ?_ hro
  simp only [Tryd.ntmps15, List.size_toArray, List.length_cons, List.length_nil, Nat.reduceAdd, Nat.reduceSub, Array.replicate_succ, Array.replicate_zero, List.push_toArray, List.append_toArray, List.nil_append, List.cons_append]
  gi_wp2
  go_ret
  exact ⟨rfl, rfl⟩
theorem passes_in (F : Fence) (n : Nat) (h5 : F.fn 11) (hro : F.round = none) (a b l : Int) (w : World) :
    CallsIn F n Tryd.prog 11 #[.int .i64 a, .int .i64 b, .int .i64 l] w fun e w' => e = .returned (.func (.func 19) #[] #[.pointer (some ⟨w.heap.size, 0, none⟩), .pointer (some ⟨w.heap.size + 1, 0, none⟩), .pointer (some ⟨w.heap.size + 2, 0, none⟩)]) ∧
      w' = ((w.alloc (.cells #[.int .i64 a] 3)).alloc (.cells #[.int .i64 b] 3)).alloc (.cells #[.int .i64 l] 3) := by
  refine callsIn_of_wp Tryd.func11 rfl h5 ?_ hro
  simp only [Tryd.ntmps11, List.size_toArray, List.length_cons, List.length_nil, Nat.reduceAdd, Nat.reduceSub, Array.replicate_succ, Array.replicate_zero, List.push_toArray, List.append_toArray, List.nil_append, List.cons_append]
  gi_wp2
  go_ret
  exact ⟨rfl, rfl⟩
/-- Three boxes, as they are made. -/
theorem three_boxes (w : World) (a b l : Int) :
    let w' := ((w.alloc (.cells #[.int .i64 a] 3)).alloc (.cells #[.int .i64 b] 3)).alloc (.cells #[.int .i64 l] 3)
    Below w.heap.size w w' ∧ Boxed w' w.heap.size 3 (.int .i64 a) ∧ Boxed w' (w.heap.size + 1) 3 (.int .i64 b) ∧ Boxed w' (w.heap.size + 2) 3 (.int .i64 l) ∧ w'.heap.size = w.heap.size + 3 := by
  intro w'
  have h1 := below_alloc w (.cells #[.int .i64 a] 3)
  have h2 := below_alloc (w.alloc (.cells #[.int .i64 a] 3)) (.cells #[.int .i64 b] 3)
  have h3 := below_alloc ((w.alloc (.cells #[.int .i64 a] 3)).alloc (.cells #[.int .i64 b] 3)) (.cells #[.int .i64 l] 3)
  have b1 : Boxed (w.alloc (.cells #[.int .i64 a] 3)) w.heap.size 3 (.int .i64 a) := World.alloc_heap_new w _
  have b2 : Boxed ((w.alloc (.cells #[.int .i64 a] 3)).alloc (.cells #[.int .i64 b] 3)) (w.heap.size + 1) 3 (.int .i64 b) := by
    have := World.alloc_heap_new (w.alloc (.cells #[.int .i64 a] 3)) (.cells #[.int .i64 b] 3)
    rwa [World.size_alloc] at this
  have b3 : Boxed w' (w.heap.size + 2) 3 (.int .i64 l) := by
    have := World.alloc_heap_new ((w.alloc (.cells #[.int .i64 a] 3)).alloc (.cells #[.int .i64 b] 3)) (.cells #[.int .i64 l] 3)
    rwa [World.size_alloc, World.size_alloc] at this
  exact ⟨below_then (below_then h1 h2) h3, (h3.block _ (by simp; omega)).trans ((h2.block _ (by simp)).trans b1), (h3.block _ (by simp)).trans b2, b3, by simp [w']⟩
set_option maxRecDepth 100000 in
set_option maxHeartbeats 4000000 in
theorem passes_iter (X Y Z : Nat) (a b l : Int) (U : Nat → Prop) (w : World) (hX : Boxed w X 3 (.int .i64 a)) (hY : Boxed w Y 3 (.int .i64 b)) (hZ : Boxed w Z 3 (.int .i64 l)) (hlp : Lp w)
    (hU : ∀ k, U k → k < w.heap.size) :
    IterN Fence.wide 3 Tryd.prog 19 #[.pointer (some ⟨X, 0, none⟩), .pointer (some ⟨Y, 0, none⟩), .pointer (some ⟨Z, 0, none⟩)] sEnc (Bk.Kc U) (fun xs => xs = psL a b l) (fun pre => ∃ s, psL a b l = pre ++ s) (fun pre x => ∃ s, psL a b l = pre ++ x :: s) w := fun y J Jx V hV hJ hJx h0 hYd => by
  have hro : (Fence.wide).round = none := rfl
  have hX' : Boxed V X 3 (.int .i64 a) := (hV.block X hX.lt).trans hX
  have hY' : Boxed V Y 3 (.int .i64 b) := (hV.block Y hY.lt).trans hY
  have hZ' : Boxed V Z 3 (.int .i64 l) := (hV.block Z hZ.lt).trans hZ
  have HLP := Lib.hid (hlp.below hV)
  have HYD := Lib.hid hYd
  have HJ := Lib.hid hJ
  have HJX := Lib.hid hJx
  have H0 := Lib.hid h0
  have HUL : Hid (∀ k, U k → k < V.heap.size) := Lib.hid (fun k hk => Nat.lt_of_lt_of_le (hU k hk) hV.size)
  have HSD := Lib.hid (fun n w => goodSide_any n w)
  have HLC := Lib.hid (fun n w => goodLace_any n w)
  have hb3 := below_alloc V (.cells #[.func (.yield y) #[] #[]] 58)
  have hy3 : Boxed (V.alloc (.cells #[.func (.yield y) #[] #[]] 58)) V.heap.size 58 (.func (.yield y) #[] #[]) := World.alloc_heap_new V _
  have cX := Boxed.cell ((hb3.block X hX'.lt).trans hX')
  have cY := Boxed.cell ((hb3.block Y hY'.lt).trans hY')
  have cZ := Boxed.cell ((hb3.block Z hZ'.lt).trans hZ')
  have hj3 := HJ.out.alloc (.cells #[.func (.yield y) #[] #[]] 58) H0.out
  have hz3 : (V.alloc (.cells #[.func (.yield y) #[] #[]] 58)).heap.size = V.heap.size + 1 := by simp
  clear hX hY hZ hX' hY' hZ' hlp hYd hJ hJx h0 hV hU
  refine callsIn_of_wp_marks Tryd.func19 rfl trivial ?_ hro
  simp only [Tryd.ntmps19, List.size_toArray, List.length_cons, List.length_nil, Nat.reduceAdd, Nat.reduceSub, Array.replicate_succ, Array.replicate_zero, List.push_toArray, List.append_toArray, List.nil_append, List.cons_append]
  by_cases hg : side a = true ∧ side b = true ∧ (l = 0 ∨ l = 1)
  rotate_left
  · have HPS : Hid (psL a b l = []) := Lib.hid (if_neg hg)
    have hb : side a = false ∨ (side a = true ∧ side b = false) ∨ (side a = true ∧ side b = true ∧ lace l = false) := by
      unfold lace
      cases h1 : side a <;> cases h2 : side b <;> simp_all
    have HJ3 := Lib.hid hj3
    clear hg hj3 hy3 hz3
    rcases hb with s1 | ⟨s1, s2⟩ | ⟨s1, s2, s3⟩
    · gi_wp2_with fail
      refine ⟨trivial, (callsIn_wide.2 (HSD.out _ _)).mono ?_⟩
      rintro e w' ⟨rfl, rfl⟩
      gi_wp2_with fail
      refine ⟨trivial, ?_⟩
      gi_wp2_with fail
      refine ⟨trivial, ?_⟩
      gi_wp2_with fail
      refine leaves_marks (B := V.heap.size) (fun W => J [] W) ?_ ?_ [] _ ⟨List.nodup_nil, fun D h => by cases h⟩ HJ3.out
      · intro W D hq _ hd
        exact HJ.out.putObj _ hq (by assumption) hd rfl
      · intro W hq
        exact ⟨_, results_none rfl _ _ _, ⟨_, rfl⟩, .inl ⟨[], HPS.out.symm, hq⟩⟩
    · gi_wp2_with fail
      refine ⟨trivial, (callsIn_wide.2 (HSD.out _ _)).mono ?_⟩
      rintro e w' ⟨rfl, rfl⟩
      gi_wp2_with fail
      refine ⟨trivial, (callsIn_wide.2 (HSD.out _ _)).mono ?_⟩
      rintro e w' ⟨rfl, rfl⟩
      gi_wp2_with fail
      refine ⟨trivial, ?_⟩
      gi_wp2_with fail
      refine leaves_marks (B := V.heap.size) (fun W => J [] W) ?_ ?_ [] _ ⟨List.nodup_nil, fun D h => by cases h⟩ HJ3.out
      · intro W D hq _ hd
        exact HJ.out.putObj _ hq (by assumption) hd rfl
      · intro W hq
        exact ⟨_, results_none rfl _ _ _, ⟨_, rfl⟩, .inl ⟨[], HPS.out.symm, hq⟩⟩
    · gi_wp2_with fail
      refine ⟨trivial, (callsIn_wide.2 (HSD.out _ _)).mono ?_⟩
      rintro e w' ⟨rfl, rfl⟩
      gi_wp2_with fail
      refine ⟨trivial, (callsIn_wide.2 (HSD.out _ _)).mono ?_⟩
      rintro e w' ⟨rfl, rfl⟩
      gi_wp2_with fail
      refine ⟨trivial, (callsIn_wide.2 (HLC.out _ _)).mono ?_⟩
      rintro e w' ⟨rfl, rfl⟩
      gi_wp2_with fail
      refine leaves_marks (B := V.heap.size) (fun W => J [] W) ?_ ?_ [] _ ⟨List.nodup_nil, fun D h => by cases h⟩ HJ3.out
      · intro W D hq _ hd
        exact HJ.out.putObj _ hq (by assumption) hd rfl
      · intro W hq
        exact ⟨_, results_none rfl _ _ _, ⟨_, rfl⟩, .inl ⟨[], HPS.out.symm, hq⟩⟩
  obtain ⟨s1, s2, s3⟩ := id hg
  have sl : lace l = true := by unfold lace; rcases s3 with rfl | rfl <;> rfl
  have g1 : 1 ≤ a ∧ a ≤ 65535 := by unfold side at s1; simpa using s1
  have g2 : 1 ≤ b ∧ b ≤ 65535 := by unfold side at s2; simpa using s2
  obtain ⟨m, rfl⟩ : ∃ m : Nat, a = (m : Int) := ⟨a.toNat, by omega⟩
  obtain ⟨n, rfl⟩ : ∃ n : Nat, b = (n : Int) := ⟨b.toNat, by omega⟩
  have hps : psL m n l = parts m n l := if_pos hg
  rw [hps] at HYD ⊢
  clear hps hg s3
  gi_wp2_with fail
  refine ⟨trivial, (callsIn_wide.2 (HSD.out _ _)).mono ?_⟩
  rintro e w' ⟨rfl, rfl⟩
  gi_wp2_with fail
  refine ⟨trivial, (callsIn_wide.2 (HSD.out _ _)).mono ?_⟩
  rintro e w' ⟨rfl, rfl⟩
  gi_wp2_with fail
  refine ⟨trivial, (callsIn_wide.2 (HLC.out _ _)).mono ?_⟩
  rintro e w' ⟨rfl, rfl⟩
  gi_wp2_with fail
  have h3 := three_boxes (V.alloc (.cells #[.func (.yield y) #[] #[]] 58)) m n l
  have hj4 := hj3
  refine ⟨trivial, (parts_in Fence.wide 2 trivial rfl m n l _).mono ?_⟩
  rintro e w' ⟨rfl, rfl⟩
  rw [hz3] at h3
  have hj6 := HJ.out.alloc (.cells #[.int .i64 l] 3) (HJ.out.alloc (.cells #[.int .i64 (n : Nat)] 3) (HJ.out.alloc (.cells #[.int .i64 (m : Nat)] 3) hj3))
  rw [hz3]
  clear hj3 hj4
  revert h3 hj6
  generalize ((((V.alloc (.cells #[.func (.yield y) #[] #[]] 58)).alloc (.cells #[.int .i64 (m : Nat)] 3)).alloc (.cells #[.int .i64 (n : Nat)] 3)).alloc (.cells #[.int .i64 l] 3)) = W5
  intro h3 hj6
  gi_wp2_with fail
  obtain ⟨hb5, b1, b2, b3, hz5⟩ := h3
  have hy5 : Boxed W5 V.heap.size 58 (.func (.yield y) #[] #[]) := (hb5.block _ (by omega)).trans hy3
  have hlp5 : Lp W5 := HLP.out.below (hb3.trans (hb5.mono (by omega)))
  have hit := parts_iter 2 (by omega) (V.heap.size + 1 + 2) (V.heap.size + 1) (V.heap.size + 1 + 1) m n l U W5 b3 b1 b2 hlp5 (by omega) (by omega) (by omega) (by omega) (fun h => by have := HUL.out _ h; omega) (fun h => by have := HUL.out _ h; omega) (fun h => by have := HUL.out _ h; omega)
  have HVZ : Hid (V.heap.size + 1 ≤ W5.heap.size) := Lib.hid (by omega)
  clear hb3 hy3 hb5 b1 b2 b3 hz5 hlp5 cX cY cZ hz3 g1 g2 s1 s2 sl HSD HLC HLP H0
  refine range_iterA (F := Fence.wide) (n := 3) (P := Tryd.prog) (gf := 22) (lb := #[.pointer (some ⟨V.heap.size + 1 + 2, 0, none⟩), .pointer (some ⟨V.heap.size + 1, 0, none⟩), .pointer (some ⟨V.heap.size + 1 + 1, 0, none⟩)]) hro (by omega) rfl trivial (enters_of Tryd.func22 (by kernel_rfl) rfl)
    (encs := pEnc) (hseq := hit) (fun h1 h2 => h1.trans h2) (fun W l o o' hl hc => Bk.Kc.put W l o o' hl hc) (fun _ => rfl)
    (fun pre W => J pre W ∧ Boxed W V.heap.size 58 (.func (.yield y) #[] #[]))
    (fun c _ W => c = .ret ∧ ∃ pre', (∃ s, parts m n l = pre' ++ s) ∧ Jx pre' W) ?hI ?hX ⟨hj6, hy5⟩ (fun q => .cells q.2.cells 54 (0, 0)) (fun _ => rfl) (fun _ _ => Bk.Kc.alloc _ _ _)
    (fun q Bx => { tmps := #[.func (.yield y) #[] #[], .pointer (some ⟨X, 0, none⟩), .pointer (some ⟨Y, 0, none⟩), .pointer (some ⟨Z, 0, none⟩), .pointer (some ⟨V.heap.size, 0, none⟩), .int .i64 (q.1 : Nat), .pointer (some ⟨Bx, 0, none⟩), .int .i64 (m : Nat), .bool true, .bool false, .bool false, .int .i64 (n : Nat), .bool true, .bool false, .bool false, .bool false, .int .i64 l, .bool true, .bool false, .bool false, .int .i64 (m : Nat), .int .i64 (n : Nat), .int .i64 l, .func (.func 22) #[] #[.pointer (some ⟨V.heap.size + 1 + 2, 0, none⟩), .pointer (some ⟨V.heap.size + 1, 0, none⟩), .pointer (some ⟨V.heap.size + 1 + 1, 0, none⟩)], .int .i64 (q.1 : Nat), q.2.val, undef, undef, undef, undef, undef, undef, undef, undef, undef], defers := [] })
    ?has ?hbo ?hend ?hout
  case hI =>
    rintro s X Y row ⟨h1, h2⟩ hg hr
    have := HVZ.out
    exact ⟨HJ.out _ _ _ _ h1 hg (fun r e => by have := (hr r e).1; exact ⟨by omega, (hr r e).2⟩), Bk.kc_cells hg (fun r e => (hr r e).2) _ _ h2 rfl (fun h => h)⟩
  case hX =>
    rintro c s X Y row ⟨h1, pre', h2, h3⟩ hg hr
    have := HVZ.out
    exact ⟨h1, pre', h2, HJX.out _ _ _ _ h3 hg (fun r e => by have := (hr r e).1; exact ⟨by omega, (hr r e).2⟩)⟩
  case has =>
    rintro k ⟨p, z0, z1, z2, z3, z4, z5⟩ X K hK
    simp only [pEnc, Pa.val]
    gi_wp2
    exact hK
  case hbo =>
    rintro k pre ⟨p, z0, z1, z2, z3, z4, z5⟩ X Bx ⟨h1, h2⟩ hnx hBx hbx
    have hzv := HVZ.out
    have cy := h2.cell
    unfold Pa.cells at hbx
    simp only at hbx
    have c4 : X.cell? ⟨Bx, 4, none⟩ = some (.int .i64 (z4 : Nat)) := by rw [cell_of_row _ _ _ _ _ (0, 0) hbx]; rfl
    have c5 : X.cell? ⟨Bx, 5, none⟩ = some (.int .i64 (z5 : Nat)) := by rw [cell_of_row _ _ _ _ _ (0, 0) hbx]; rfl
    obtain ⟨fn, tm, asg, bo, hy, hRd⟩ := nyield_any (m' := 0) (l := k) (HYD.out pre (p, ⟨z0, z1, z2, z3, z4, z5⟩) X h1 hnx)
    have HPX : Hid (∃ s, parts m n l = (pre ++ [(p, (⟨z0, z1, z2, z3, z4, z5⟩ : Pa))]) ++ s) := Lib.hid (by obtain ⟨s, hs⟩ := hnx; exact ⟨s, by rw [hs, List.append_assoc]; rfl⟩)
    have HY2 := Lib.hid h2
    unfold sEnc at hy
    simp only [Pa.val] at hy ⊢
    clear h1 h2 hnx hbx hit hj6 hy5
    gi_wp2
    refine hRd.mono ?_
    rintro e W6 ⟨hk6, (⟨rfl, hj6, hu6⟩ | ⟨rfl, hj6⟩)⟩
    · have hY6 : Boxed W6 V.heap.size 58 (.func (.yield y) #[] #[]) := hu6 _ _ HY2.out rfl (fun h => by have := HUL.out _ h; omega)
      have HE : Hid (KeepsFrom W5.heap.size X W6 ∧ Bk.Kc U X W6 ∧ J (pre ++ [(p, (⟨z0, z1, z2, z3, z4, z5⟩ : Pa))]) W6 ∧ Boxed W6 V.heap.size 58 (.func (.yield y) #[] #[])) := Lib.hid ⟨⟨hk6.size, fun k o hk ho hc => hk6.same k o (by omega) ho hc⟩, hu6, hj6, hY6⟩
      clear hk6 hj6 hu6 hY6 hRd hy cy c4 c5
      gi_wp2
      exact HE.out
    · have HE : Hid (KeepsFrom W5.heap.size X W6 ∧ Jx (pre ++ [(p, (⟨z0, z1, z2, z3, z4, z5⟩ : Pa))]) W6) := Lib.hid ⟨⟨hk6.size, fun k o hk ho hc => hk6.same k o (by omega) ho hc⟩, hj6⟩
      clear hk6 hj6 hRd hy cy c4 c5
      gi_wp2
      exact ⟨HE.out.1, rfl, _, HPX.out, HE.out.2⟩
  case hend =>
    rintro xs X rfl ⟨h1, h2⟩ hK
    have hzv := HVZ.out
    have HP := Lib.hid (HJ.out.putObj (.deferred none) h1 (by omega) hK rfl)
    clear h1 h2 hit
    gi_wp2
    refine ⟨by simp, .inl ⟨_, _, rfl, run_takeDeferred hK, ?_⟩⟩
    exact ⟨_, results_none rfl _ _ _, ⟨_, rfl⟩, .inl ⟨_, rfl, HP.out⟩⟩
  case hout =>
    rintro c pre X _ ⟨rfl, pre', h2, h3⟩ hK
    have hzv := HVZ.out
    have HP := Lib.hid (HJX.out.putObj (.deferred none) h3 (by omega) hK rfl)
    clear h3 hit
    gi_wp2
    refine ⟨by simp, .inl ⟨_, _, rfl, run_takeDeferred hK, ?_⟩⟩
    exact ⟨_, results_none rfl _ _ _, ⟨_, rfl⟩, .inr ⟨pre', h2, by exact HP.out⟩⟩
end Lc
end Go.Proofs.YtfdnjblbhbkndaaDoor
