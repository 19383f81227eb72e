/- (*Book).All: the iterator's contract. -/
import Derived.Test.YtnlbomijnldlmaaIterO
import Derived.Test.YtnlbomijnldlmaaAllNil
namespace Go.Proofs.Ytnlbomijnldlmaa
open Go.RowKit Go.Shelf
attribute [local go_sem] Oper.semAt_some
namespace Bk
/-- A symbol and how long its code is. -/
def Em.pair {R : Nat → List Nat} (x : Em R) : Array Value := #[.int .i64 (x.x.s : Nat), .int .i64 (x.x.n : Nat)]
theorem keeps_up {A B : Nat} {W W' : World} (h : KeepsFrom A W W') (hB : A ≤ B) : KeepsFrom B W W' := ⟨h.size, fun k o hk ho hc => h.same k o (Nat.le_trans hB hk) ho hc⟩
theorem yield_any {m m' l y : Nat} {P : Program} {args : Array Value} {W : World} {Q : Ending → World → Prop} (h : YieldAt Fence.wide m P y args W Q) :
    ∃ fn tmps assign body, (Instr.yield y args).run P W = .ok (.round y fn tmps assign body) W ∧ RoundIn (Fence.wide.inRound l) m' P y fn tmps assign body W Q := by
  obtain ⟨fn, tmps, assign, body, hy, hR⟩ := h
  exact ⟨fn, tmps, assign, body, hy, hR.1, fun c cs _ => hR.2 c cs (room_wide _)⟩
set_option maxRecDepth 100000 in
set_option maxHeartbeats 2000000 in
theorem all_iter (X g B : Nat) (U : Nat → Prop) (fs : Nat → Int) (vs : Nat → Value) (wv : Value) (ev : Int) (R : Nat → List Nat)
    (hfs : ∀ n, n < 17 → fs n = (fst R n : Nat)) (hsm : ∀ n, n < 17 → fst R n + (R n).length ≤ 1000000) (hT : ∀ k, Tr vs k → ¬ U k)
    (w : World) (hx : w.cell? ⟨X, 0, none⟩ = some (.pointer (some ⟨g, 0, none⟩))) (hXl : X < w.heap.size) (hg : w.heap[g]? = some (.cells (bkCells fs vs wv ev) 105 (0, 0))) (hrows : Rows w B vs R) (hU : ∀ k, U k → k < w.heap.size) :
    IterO Fence.wide 3 Try.prog 53 #[.pointer (some ⟨X, 0, none⟩)] (Em.pair (R := R)) (Kc U) (fun ys => ys.map Em.x = seq R 17) (fun pre => ∃ t, seq R 17 = pre.map Em.x ++ t) (seq R 17).length w := fun y J Jx V hV hJ hJx h0 hY => by
  have hro : (Fence.wide).round = none := rfl
  have hvx : V.cell? ⟨X, 0, none⟩ = some (.pointer (some ⟨g, 0, none⟩)) := (hV.cell (p := ⟨X, 0, none⟩) hXl).trans hx
  have hvg : V.heap[g]? = some (.cells (bkCells fs vs wv ev) 105 (0, 0)) := (hV.block g (Array.getElem?_eq_some_iff.1 hg).1).trans hg
  have hvr := hrows.mono hV
  have hvU : ∀ k, U k → k < V.heap.size := fun k hk => Nat.lt_of_lt_of_le (hU k hk) hV.size
  have hvX := Nat.lt_of_lt_of_le hXl hV.size
  clear hx hXl hg hrows hU hV
  have HY := Lib.hid hY
  have HJ := Lib.hid hJ
  have HJX := Lib.hid hJx
  have H0 := Lib.hid h0
  have HFS := Lib.hid hfs
  have HSM := Lib.hid hsm
  have HT := Lib.hid hT
  have HVR := Lib.hid hvr
  have HVU := Lib.hid hvU
  have HVG := Lib.hid hvg
  clear hY hJ hJx h0 hfs hsm hT hvr hvU hvg
  refine callsIn_of_wp_marks Try.func53 rfl trivial ?_ hro
  simp only [Try.ntmps53, List.size_toArray, List.length_cons, List.length_nil, Nat.reduceAdd, Nat.reduceSub, Array.replicate_succ, Array.replicate_zero, List.push_toArray, List.append_toArray, List.nil_append, List.cons_append]
  have hx1 : (V.alloc (.cells #[.func (.yield y) #[] #[]] 107)).cell? ⟨X, 0, none⟩ = some (.pointer (some ⟨g, 0, none⟩)) := by
    rw [(below_alloc V _).cell (p := ⟨X, 0, none⟩) hvX]; exact hvx
  gi_wp2_with fail
  refine ⟨trivial, (inOrder_in Fence.wide 2 trivial rfl (.pointer (some ⟨g, 0, none⟩)) _ (.inr ⟨g, rfl⟩)).mono ?_⟩
  rintro e w' ⟨rfl, rfl⟩
  gi_wp2
  have hb5 := below_alloc2 V (.cells #[.func (.yield y) #[] #[]] 107) (.cells #[.pointer (some ⟨g, 0, none⟩)] 50)
  have hq5 : Boxed ((V.alloc (.cells #[.func (.yield y) #[] #[]] 107)).alloc (.cells #[.pointer (some ⟨g, 0, none⟩)] 50)) V.heap.size 107 (.func (.yield y) #[] #[]) := heap_alloc2_old _ _ _
  have hy5 : Boxed ((V.alloc (.cells #[.func (.yield y) #[] #[]] 107)).alloc (.cells #[.pointer (some ⟨g, 0, none⟩)] 50)) (V.heap.size + 1) 50 (.pointer (some ⟨g, 0, none⟩)) := heap_alloc2_new _ _ _
  have hj5 : J [] ((V.alloc (.cells #[.func (.yield y) #[] #[]] 107)).alloc (.cells #[.pointer (some ⟨g, 0, none⟩)] 50)) := HJ.out.alloc _ (HJ.out.alloc _ H0.out)
  revert hb5 hq5 hy5 hj5
  generalize (V.alloc (.cells #[.func (.yield y) #[] #[]] 107)).alloc (.cells #[.pointer (some ⟨g, 0, none⟩)] 50) = W5
  intro hb5 hq5 hy5 hj5
  have hstp := inOrder_stops Fence.wide 2 trivial rfl (by omega) (V.heap.size + 1) g B U fs vs wv ev R HFS.out HSM.out HT.out W5 hy5.cell hy5.lt ((hb5.block g (Array.getElem?_eq_some_iff.1 HVG.out).1).trans HVG.out) (HVR.out.mono hb5) (fun k hk => Nat.lt_of_lt_of_le (HVU.out k hk) hb5.size)
  have hz5 := hb5.size
  have HNU := Lib.hid (show ¬ U V.heap.size from fun h => by have := HVU.out _ h; omega)
  clear hx1 hvx hvX hb5 HVR HVG H0 HFS HSM HT HVU
  refine wpIn_rangeFunc_ownH rfl (by omega) (gf := 54) (lb := #[.pointer (some ⟨V.heap.size + 1, 0, none⟩)]) rfl trivial (enters_of Try.func54 (by kernel_rfl) rfl)
      hstp ?hKt ?hKb (Below.refl _ _) (fun _ => rfl)
      (fun pre W => J pre W ∧ Boxed W V.heap.size 107 (.func (.yield y) #[] #[]))
      (fun c pre W => c = .ret ∧ Jx pre W) ?hI ?hIx ⟨hj5, hq5⟩
      (fun x a' W => ∃ Bx, W.heap[Bx]? = some (.cells #[.int .i64 (x.x.c : Nat), .int .i64 (x.x.n : Nat)] 81 (0, 0)) ∧ a' = { tmps := #[.func (.yield y) #[] #[], .pointer (some ⟨X, 0, none⟩), .pointer (some ⟨V.heap.size, 0, none⟩), .int .i64 (x.x.s : Nat), .pointer (some ⟨Bx, 0, none⟩),
          .pointer (some ⟨g, 0, none⟩), .func (.func 54) #[] #[.pointer (some ⟨V.heap.size + 1, 0, none⟩)], .int .i64 (x.x.s : Nat), .agg #[.int .i64 (x.x.c : Nat), .int .i64 (x.x.n : Nat)], undef, undef, undef, undef, undef, undef], defers := [] })
      ?hAx ?assign ?body ?done ?stop
  case hKt => exact fun h1 h2 => h1.trans h2
  case hKb => exact fun W l o o' _ hl hc _ => Kc.put W l o o' hl hc
  case hI =>
    rintro s A C row ⟨h1, h2⟩ hg hr
    exact ⟨HJ.out s A C row h1 hg (fun r e => ⟨Nat.le_trans hz5 (hr r e).1, (hr r e).2⟩), kc_cells hg (fun r e => (hr r e).2) _ _ h2 rfl (fun h => h)⟩
  case hIx =>
    rintro c s A C row ⟨h1, h2⟩ hg hr
    exact ⟨h1, HJX.out s A C row h2 hg (fun r e => ⟨Nat.le_trans hz5 (hr r e).1, (hr r e).2⟩)⟩
  case hAx =>
    rintro x a' s A C row ⟨Bx, h2, h3⟩ hg hr
    exact ⟨Bx, kc_cells hg (fun r e => (hr r e).2) Bx _ h2 rfl (fun h => h), h3⟩
  case assign =>
    rintro l' pre x W K ⟨h1, h2⟩ hK
    simp only [Em.encs]
    gi_wp2
    exact hK _ _ ((KeepsOthers.alloc _ _).from _) (Kc.alloc _ _ _) ⟨HJ.out.alloc _ h1, h2.alloc _⟩ ⟨W.heap.size, World.alloc_heap_new W _, rfl⟩
  case body =>
    rintro l' pre x a' W hl' ⟨r, hr⟩ ⟨h1, h2⟩ ⟨Bx, hbx, rfl⟩ hlen
    have hcq := h2.cell
    have e1 : W.cell? ⟨Bx, 1, none⟩ = some (.int .i64 (x.x.n : Nat)) := by rw [cell_of_row _ _ _ _ _ (0, 0) hbx]; rfl
    obtain ⟨fn, tm, asg, bo, hy, hRd⟩ := yield_any (m' := 0) (l := l') (HY.out pre x W h1 hlen)
    unfold Em.pair at hy
    have HB := Lib.hid h2
    clear h1 h2 hbx hr hl' hlen hstp
    generalize pre ++ [x] = px at *
    generalize x.x.s = xs at *
    generalize x.x.n = xn at *
    gi_wp2
    refine hRd.mono ?_
    rintro e W3 ⟨hk3, (⟨rfl, hj3, hu3⟩ | ⟨rfl, hj3⟩)⟩
    · have HE := Lib.hid (And.intro (keeps_up hk3 hz5) (And.intro hu3 (And.intro hj3 (hu3 _ _ HB.out rfl HNU.out))))
      clear hk3 hj3 hu3 hRd hy hcq
      gi_wp2
      exact HE.out
    · have HE := Lib.hid (And.intro (keeps_up hk3 hz5) hj3)
      clear hk3 hj3 hRd hy hcq
      gi_wp2
      exact ⟨HE.out.1, rfl, HE.out.2⟩
  case done =>
    rintro D ys W hD hS ⟨h1, h2⟩ hK
    have HP := Lib.hid (HJ.out.putObj (.deferred none) h1 (Nat.le_trans hz5 hD) hK rfl)
    have HS := Lib.hid hS
    clear h1 h2 hstp hS
    gi_wp2
    refine ⟨by simp, .inl ⟨_, _, rfl, run_takeDeferred hK, ?_⟩⟩
    exact ⟨_, results_none rfl _ _ _, ⟨_, rfl⟩, .inl ⟨ys, HS.out, by exact HP.out⟩⟩
  case stop =>
    rintro D c pre W hD hSp ⟨rfl, h1⟩ hK
    have HP := Lib.hid (HJX.out.putObj (.deferred none) h1 (Nat.le_trans hz5 hD) hK rfl)
    have HS := Lib.hid hSp
    clear h1 hstp hSp
    gi_wp2
    refine ⟨by simp, .inl ⟨_, _, rfl, run_takeDeferred hK, ?_⟩⟩
    exact ⟨_, results_none rfl _ _ _, ⟨_, rfl⟩, .inr ⟨pre, HS.out, by exact HP.out⟩⟩
end Bk
end Go.Proofs.Ytnlbomijnldlmaa
