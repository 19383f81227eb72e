/- LaceOnce, the law's function. -/
import Derived.Test.YtfdnjblbhbkndaaDoorLcSpread
import Derived.Test.YtfdnjblbhbkndaaDoorRegionOne
import Derived.Test.YtfdnjblbhbkndaaDoorLcOnMath
import Derived.Test.YtfdnjblbhbkndaaDoorMade
import Derived.Test.YtfdnjblbhbkndaaDoorOwnSlot
namespace Go.Proofs.YtfdnjblbhbkndaaDoor
open Go.RowKit Go.Shelf
attribute [local go_sem] Oper.semAt_some

namespace Lc
theorem res_b {fn : Func} (hf : fn.results = #[.cell 4 4]) (tmps : Array Value) (W : World) (g : Nat) (hp : tmps.getD 4 undef = .pointer (some ⟨g, 0, none⟩)) (h : Boxed W g 4 (.bool true)) : (results fn tmps).run Tryd.prog W = .ok (.bool true) W := by
  have hc := h.cell
  refine (results_cell1 (p := 4) (ty := 4) hf tmps Tryd.prog W).trans ?_
  rw [hp]
  have hl : (loadVar 4 ⟨g, 0, none⟩).run Tryd.prog W = .ok (.bool true) W := by go_simp
  simp [asAddr, hl, Result.andThen]
/-- The law's sides. -/
def side1 (a : Int) : Nat := 1 + (IntKind.u64.wrap a % 60).toNat
theorem side_val (a : Int) : IntKind.i64.wrap (1 + IntKind.i64.wrap ((IntKind.u64.wrap a).tmod 60)) = (side1 a : Nat) := by
  have h1 : 0 ≤ IntKind.u64.wrap a := by
    simp [IntKind.wrap, IntKind.bits, IntKind.signed]; omega
  rw [Int.tmod_eq_emod_of_nonneg h1]
  unfold side1
  generalize IntKind.u64.wrap a = x at *
  rw [IntWalk.i64_in (x % 60) ⟨by omega, by omega⟩, IntWalk.i64_in _ ⟨by omega, by omega⟩]
  omega
theorem vm_val {V m U v : Nat} (hv : V * m = v) (h1 : v ≤ 3600) (h2 : U ≤ 60) : IntKind.i64.wrap (IntKind.i64.wrap ((V : Int) * (m : Int)) + (U : Int)) = ((v + U : Nat) : Int) := by
  rw [← Int.natCast_mul, hv, IntWalk.i64_in (v : Int) ⟨by omega, by omega⟩, IntWalk.i64_in _ ⟨by omega, by omega⟩]
  omega
theorem side1_bd (a : Int) : 1 ≤ side1 a ∧ side1 a ≤ 60 := by unfold side1; omega
set_option maxRecDepth 100000 in
set_option maxHeartbeats 4000000 in
theorem once_any (a b : Int) (w : World) (hlp : Lp w) : Calls Tryd.prog 5 #[.int .i64 a, .int .i64 b] w fun e w' => e = .returned (.bool true) ∧ Below w.heap.size w w' := by
  have hro : (Fence.wide).round = none := rfl
  have hmix : Tryd.prog.follows .mixedOrders = true := by kernel_rfl
  have hb3 := below_then (below_alloc2 w (.cells #[.int .i64 a] 3) (.cells #[.int .i64 b] 3)) (below_alloc ((w.alloc (.cells #[.int .i64 a] 3)).alloc (.cells #[.int .i64 b] 3)) (.cells #[.bool false] 4))
  have x0 : Boxed (((w.alloc (.cells #[.int .i64 a] 3)).alloc (.cells #[.int .i64 b] 3)).alloc (.cells #[.bool false] 4)) w.heap.size 3 (.int .i64 a) := by
    have h1 : Boxed (w.alloc (.cells #[.int .i64 a] 3)) w.heap.size 3 (.int .i64 a) := World.alloc_heap_new w _
    have h2 := (below_alloc2 (w.alloc (.cells #[.int .i64 a] 3)) (.cells #[.int .i64 b] 3) (.cells #[.bool false] 4)).block _ h1.lt
    exact h2.trans h1
  have x1 : Boxed (((w.alloc (.cells #[.int .i64 a] 3)).alloc (.cells #[.int .i64 b] 3)).alloc (.cells #[.bool false] 4)) (w.heap.size + 1) 3 (.int .i64 b) := by
    have h1 : Boxed ((w.alloc (.cells #[.int .i64 a] 3)).alloc (.cells #[.int .i64 b] 3)) (w.alloc (.cells #[.int .i64 a] 3)).heap.size 3 (.int .i64 b) := World.alloc_heap_new _ _
    have h2 := (below_alloc ((w.alloc (.cells #[.int .i64 a] 3)).alloc (.cells #[.int .i64 b] 3)) (.cells #[.bool false] 4)).block _ h1.lt
    have h3 := h2.trans h1
    rwa [World.size_alloc] at h3
  have x2 : Boxed (((w.alloc (.cells #[.int .i64 a] 3)).alloc (.cells #[.int .i64 b] 3)).alloc (.cells #[.bool false] 4)) (w.heap.size + 1 + 1) 4 (.bool false) := by
    have h1 : Boxed (((w.alloc (.cells #[.int .i64 a] 3)).alloc (.cells #[.int .i64 b] 3)).alloc (.cells #[.bool false] 4)) ((w.alloc (.cells #[.int .i64 a] 3)).alloc (.cells #[.int .i64 b] 3)).heap.size 4 (.bool false) := World.alloc_heap_new _ _
    rwa [World.size_alloc, World.size_alloc] at h1
  have hz3 : (((w.alloc (.cells #[.int .i64 a] 3)).alloc (.cells #[.int .i64 b] 3)).alloc (.cells #[.bool false] 4)).heap.size = w.heap.size + 3 := by simp
  refine (callsIn_wide (n := 4)).1 ?_
  refine callsIn_of_wp_marks Tryd.func5 rfl trivial ?_ hro
  simp only [Tryd.ntmps5, List.size_toArray, List.length_cons, List.length_nil, Nat.reduceAdd, Nat.reduceSub, Array.replicate_succ, Array.replicate_zero, List.push_toArray, List.append_toArray, List.nil_append, List.cons_append]
  gi_wp2_with fail
  revert hb3 x0 x1 x2 hz3
  generalize ((w.alloc (.cells #[.int .i64 a] 3)).alloc (.cells #[.int .i64 b] 3)).alloc (.cells #[.bool false] 4) = w3
  intro hb3 x0 x1 x2 hz3
  have HLP := Lib.hid (hlp.below hb3)
  have HLP0 := Lib.hid hlp
  have hS : w3.drew.cell? ⟨w.heap.size, 0, none⟩ = some (.int .i64 a) ∧ w3.drew.cell? ⟨w.heap.size + 1, 0, none⟩ = some (.int .i64 b) := ⟨x0.cell, x1.cell⟩
  have HS := Lib.hid hS
  have f0 : w3.drew.frozen? ⟨w.heap.size, 0, none⟩ = false := x0.frozen
  have f1 : w3.drew.frozen? ⟨w.heap.size + 1, 0, none⟩ = false := x1.frozen
  have cA : w3.drew.cell? ⟨w.heap.size, 0, none⟩ = some (.int .i64 a) := hS.1
  have cB : w3.drew.cell? ⟨w.heap.size + 1, 0, none⟩ = some (.int .i64 b) := hS.2
  have f0b : w3.frozen? ⟨w.heap.size, 0, none⟩ = false := x0.frozen
  have f1b : w3.frozen? ⟨w.heap.size + 1, 0, none⟩ = false := x1.frozen
  have cAb := x0.cell
  have cBb := x1.cell
  have cB1 : ∀ v, (w3.setCell ⟨w.heap.size, 0, none⟩ v).drew.cell? ⟨w.heap.size + 1, 0, none⟩ = some (.int .i64 b) := fun v =>
    (World.cell?_setCell_far w3 ⟨w.heap.size, 0, none⟩ ⟨w.heap.size + 1, 0, none⟩ v (by simp)).trans cBb
  have HVA := Lib.hid (side_val a)
  have HVB := Lib.hid (side_val b)
  have hma := side1_bd a
  have hmb := side1_bd b
  clear hlp hS
  generalize side1 a = m at *
  generalize side1 b = n at *
  refine oneJw 11 (fun w' : World => w'.cell? ⟨w.heap.size + 1, 0, none⟩ = some (.int .i64 b)) hmix ?_
  constructor
  constructor
  constructor
  · skip
    refine J_take (i := 5) (v := ?_) rfl (by kernel_rfl) (by kernel_rfl) (by kernel_rfl) (by kernel_rfl) (fun _ _ _ h => h.elim) cB (by rfl) ?_ ?_
    rotate_left
    · (intro w' hw'; first | (go_simp; done) | (go_simp; with_reducible rfl))
    try simp only [List.getElem_toArray, List.getElem_cons_zero, List.getElem_cons_succ, Act.put, List.setIfInBounds_toArray, List.set_cons_zero, List.set_cons_succ]
    refine J_take (i := 6) (v := ?_) rfl (by kernel_rfl) (by kernel_rfl) (by kernel_rfl) (by kernel_rfl) (fun _ _ _ h => h.elim) cB (by rfl) ?_ ?_
    rotate_left
    · (intro w' hw'; first | (go_simp; done) | (go_simp; with_reducible rfl))
    try simp only [List.getElem_toArray, List.getElem_cons_zero, List.getElem_cons_succ, Act.put, List.setIfInBounds_toArray, List.set_cons_zero, List.set_cons_succ]
    refine J_take (i := 7) (v := ?_) rfl (by kernel_rfl) (by kernel_rfl) (by kernel_rfl) (by kernel_rfl) (fun _ _ _ h => h.elim) cB (by rfl) ?_ ?_
    rotate_left
    · (intro w' hw'; first | (go_simp; done) | (go_simp; with_reducible rfl))
    try simp only [List.getElem_toArray, List.getElem_cons_zero, List.getElem_cons_succ, Act.put, List.setIfInBounds_toArray, List.set_cons_zero, List.set_cons_succ]
    refine J_take (i := 8) (v := ?_) rfl (by kernel_rfl) (by kernel_rfl) (by kernel_rfl) (by kernel_rfl) (fun _ _ _ h => h.elim) cB (by rfl) ?_ ?_
    rotate_left
    · (intro w' hw'; first | (go_simp; done) | (go_simp; with_reducible rfl))
    try simp only [List.getElem_toArray, List.getElem_cons_zero, List.getElem_cons_succ, Act.put, List.setIfInBounds_toArray, List.set_cons_zero, List.set_cons_succ]
    refine J_take (i := 9) (v := ?_) rfl (by kernel_rfl) (by kernel_rfl) (by kernel_rfl) (by kernel_rfl) (fun _ _ _ h => h.elim) cB (by rfl) ?_ ?_
    rotate_left
    · (intro w' hw'; first | (go_simp; done) | (go_simp; with_reducible rfl))
    try simp only [List.getElem_toArray, List.getElem_cons_zero, List.getElem_cons_succ, Act.put, List.setIfInBounds_toArray, List.set_cons_zero, List.set_cons_succ]
    refine J_step (i := 0) (by kernel_rfl) rfl (fun K hK => ?_)
    go_simp
    refine hK.out _ _ (fun _ => cB) (fun _ => ?_)
    clear hK K
    try simp only [List.getElem_toArray, List.getElem_cons_zero, List.getElem_cons_succ, Act.put, List.setIfInBounds_toArray, List.set_cons_zero, List.set_cons_succ]
    refine J_step (i := 1) (by kernel_rfl) rfl (fun K hK => ?_)
    go_simp
    refine hK.out _ _ (fun _ => cB) (fun _ => ?_)
    clear hK K
    try simp only [List.getElem_toArray, List.getElem_cons_zero, List.getElem_cons_succ, Act.put, List.setIfInBounds_toArray, List.set_cons_zero, List.set_cons_succ]
    refine J_step (i := 2) (by kernel_rfl) rfl (fun K hK => ?_)
    go_simp
    refine hK.out _ _ (fun _ => cB) (fun _ => ?_)
    clear hK K
    try simp only [List.getElem_toArray, List.getElem_cons_zero, List.getElem_cons_succ, Act.put, List.setIfInBounds_toArray, List.set_cons_zero, List.set_cons_succ]
    refine J_step (i := 3) (by kernel_rfl) rfl (fun K hK => ?_)
    go_simp
    refine hK.out _ _ (fun _ => cB) (fun _ => ?_)
    clear hK K
    try simp only [List.getElem_toArray, List.getElem_cons_zero, List.getElem_cons_succ, Act.put, List.setIfInBounds_toArray, List.set_cons_zero, List.set_cons_succ]
    refine J_step (i := 4) (by kernel_rfl) rfl (fun K hK => ?_)
    go_simp
    refine hK.out _ _ (fun _ => cB) (fun _ => ?_)
    clear hK K
    try simp only [List.getElem_toArray, List.getElem_cons_zero, List.getElem_cons_succ, Act.put, List.setIfInBounds_toArray, List.set_cons_zero, List.set_cons_succ]
    refine J_step (i := 10) (by kernel_rfl) rfl (fun K hK => ?_)
    go_simp
    refine hK.out _ _ (fun _ => cB1 _) (fun _ => ?_)
    clear hK K
    try simp only [List.getElem_toArray, List.getElem_cons_zero, List.getElem_cons_succ, Act.put, List.setIfInBounds_toArray, List.set_cons_zero, List.set_cons_succ]
    refine J_step (i := 11) (by kernel_rfl) rfl (fun K hK => ?_)
    go_simp
    refine hK.out _ _ (fun h => absurd rfl h) (fun _ => ?_)
    clear hK K
    try simp only [List.getElem_toArray, List.getElem_cons_zero, List.getElem_cons_succ, Act.put, List.setIfInBounds_toArray, List.set_cons_zero, List.set_cons_succ]
    refine J_done (by kernel_rfl) ?_ _
    exact ⟨rfl, rfl⟩
  rw [HVA.out, HVB.out]
  generalize IntKind.i64.wrap ((IntKind.u64.wrap a).tmod 60) = ja
  generalize IntKind.i64.wrap ((IntKind.u64.wrap b).tmod 60) = jb
  have hch : Ch w3 (((w3.setCell ⟨w.heap.size, 0, none⟩ (.int .i64 (m : Nat))).setCell ⟨w.heap.size + 1, 0, none⟩ (.int .i64 (n : Nat))).drew) (fun k => k = w.heap.size ∨ k = w.heap.size + 1) :=
    ((Ch.set (T := fun k => k = w.heap.size ∨ k = w.heap.size + 1) (Ch.refl _ _) (p := ⟨w.heap.size, 0, none⟩) (.inl (.inl rfl)) _).set (p := ⟨w.heap.size + 1, 0, none⟩) (.inl (.inr rfl)) _).drew
  have y0 : Boxed (((w3.setCell ⟨w.heap.size, 0, none⟩ (.int .i64 (m : Nat))).setCell ⟨w.heap.size + 1, 0, none⟩ (.int .i64 (n : Nat))).drew) w.heap.size 3 (.int .i64 (m : Nat)) := by
    have h1 : Boxed (w3.setCell ⟨w.heap.size, 0, none⟩ (.int .i64 (m : Nat))) w.heap.size 3 (.int .i64 (m : Nat)) := heap_setCell_same w3 w.heap.size 0 _ _ _ x0
    have c2 : Ch (w3.setCell ⟨w.heap.size, 0, none⟩ (.int .i64 (m : Nat))) ((w3.setCell ⟨w.heap.size, 0, none⟩ (.int .i64 (m : Nat))).setCell ⟨w.heap.size + 1, 0, none⟩ (.int .i64 (n : Nat))) (fun k => k = w.heap.size + 1) := Ch.set (T := fun k => k = w.heap.size + 1) (Ch.refl _ _) (p := ⟨w.heap.size + 1, 0, none⟩) (.inl rfl) _
    exact (c2.block _ h1.lt (by omega)).trans h1
  have y1 : Boxed (((w3.setCell ⟨w.heap.size, 0, none⟩ (.int .i64 (m : Nat))).setCell ⟨w.heap.size + 1, 0, none⟩ (.int .i64 (n : Nat))).drew) (w.heap.size + 1) 3 (.int .i64 (n : Nat)) := by
    have c1 : Ch w3 (w3.setCell ⟨w.heap.size, 0, none⟩ (.int .i64 (m : Nat))) (fun k => k = w.heap.size) := Ch.set (T := fun k => k = w.heap.size) (Ch.refl _ _) (p := ⟨w.heap.size, 0, none⟩) (.inl rfl) _
    have h1 : Boxed (w3.setCell ⟨w.heap.size, 0, none⟩ (.int .i64 (m : Nat))) (w.heap.size + 1) 3 (.int .i64 b) := (c1.block _ x1.lt (by omega)).trans x1
    exact heap_setCell_same (w3.setCell ⟨w.heap.size, 0, none⟩ (.int .i64 (m : Nat))) (w.heap.size + 1) 0 _ _ _ h1
  have y2 : Boxed (((w3.setCell ⟨w.heap.size, 0, none⟩ (.int .i64 (m : Nat))).setCell ⟨w.heap.size + 1, 0, none⟩ (.int .i64 (n : Nat))).drew) (w.heap.size + 2) 4 (.bool false) := (hch.block _ x2.lt (by omega)).trans x2
  have hbel := hb3.trans (hch.below hb3.size (fun k hk => by omega))
  have hlp1 : Lp (((w3.setCell ⟨w.heap.size, 0, none⟩ (.int .i64 (m : Nat))).setCell ⟨w.heap.size + 1, 0, none⟩ (.int .i64 (n : Nat))).drew) := HLP0.out.below hbel
  have hzz := hch.size
  revert y0 y1 y2 hbel hlp1 hzz
  generalize ((w3.setCell ⟨w.heap.size, 0, none⟩ (.int .i64 (m : Nat))).setCell ⟨w.heap.size + 1, 0, none⟩ (.int .i64 (n : Nat))).drew = W1
  intro y0 y1 y2 hbel hlp1 hzz
  clear hch x0 x1 x2 hb3 HLP f0 f1 cA cB f0b f1b cAb cBb cB1 HS
  have cm := y0.cell
  have cn := y1.cell
  gi_wp2_with fail
  have hgS : goodS m n 1 := ⟨by omega, by omega, by omega, by omega, by
    have : m * n ≤ 60 * 60 := Nat.mul_le_mul (by omega) (by omega)
    rw [← Int.natCast_mul]; omega, .inr rfl⟩
  refine ⟨trivial, (callsIn_wide.2 (spread_good m n 1 W1 hlp1 hgS)).mono ?_⟩
  rintro e w2 ⟨v, rfl, own2, hb2⟩
  obtain ⟨q, hq⟩ : ∃ q, m * n = q := ⟨_, rfl⟩
  have hq1 : 0 < q := by rw [← hq]; exact Nat.mul_pos (by omega) (by omega)
  have hq2 : q ≤ 60 * 60 := by rw [← hq]; exact Nat.mul_le_mul (by omega) (by omega)
  have HLN : Hid ((all (parts m n 1) m).length = q) := Lib.hid ((all_len m n 1).trans hq)
  have HQ := Lib.hid hq
  rw [il_length, HLN.out] at own2
  rcases own_nil_or own2 with ⟨_, hx⟩ | ⟨G5, c5, rfl, hlc, hg1, hg2, _⟩
  · omega
  have e1 := w_mul hq (by omega)
  have hz2 := hb2.size
  have hbel2 := hbel.trans (hb2.mono hbel.size)
  have own2' : w2.ownsRow w.heap.size 3 1 (.slice (some ⟨G5, 0, none⟩) q c5) q (ivs (il (all (parts m n 1) m))) := own_base own2 (fun j hj => by simp only [Value.ownBlock, Option.some.injEq] at hj; omega)
  have y0' := (hb2.block _ y0.lt).trans y0
  have y1' := (hb2.block _ y1.lt).trans y1
  have y2' := (hb2.block _ y2.lt).trans y2
  have hlp2 := hlp1.below hb2
  have k5 := below_alloc w2 (.cells #[.slice (some ⟨G5, 0, none⟩) q c5] 26)
  have x5 : Boxed (w2.alloc (.cells #[.slice (some ⟨G5, 0, none⟩) q c5] 26)) w2.heap.size 26 (.slice (some ⟨G5, 0, none⟩) q c5) := World.alloc_heap_new w2 _
  have hz5 : (w2.alloc (.cells #[.slice (some ⟨G5, 0, none⟩) q c5] 26)).heap.size = w2.heap.size + 1 := by simp
  have z0 : Boxed (w2.alloc (.cells #[.slice (some ⟨G5, 0, none⟩) q c5] 26)) w.heap.size 3 (.int .i64 (m : Nat)) := (k5.block _ (Array.getElem?_eq_some_iff.1 y0').1).trans y0'
  have z1 : Boxed (w2.alloc (.cells #[.slice (some ⟨G5, 0, none⟩) q c5] 26)) (w.heap.size + 1) 3 (.int .i64 (n : Nat)) := (k5.block _ (Array.getElem?_eq_some_iff.1 y1').1).trans y1'
  have z2 : Boxed (w2.alloc (.cells #[.slice (some ⟨G5, 0, none⟩) q c5] 26)) (w.heap.size + 2) 4 (.bool false) := (k5.block _ (Array.getElem?_eq_some_iff.1 y2').1).trans y2'
  have hb5 := hbel2.trans (k5.mono hbel2.size)
  have own5 := own_below own2' k5
  have hlp5 := hlp2.below k5
  have d0 := z0.cell
  have d1 := z1.cell
  have d5 := x5.cell
  clear hq y0 y1 y2 y0' y1' y2' own2 own2' hb2 hbel hbel2 hlp1 hlp2 cm cn hgS k5
  have k1 : 8 * q ≤ 281474976710656 := by omega
  have k2 : q ≤ 9223372036854775807 := by omega
  have hbz := hb5.size
  gi_wp2_with (gi_at_make; refine wplIn_make_full tyI rfl _ _ rfl w.heap.size .i64 .i64 _ _ q rfl rfl (by first | rfl | exact e1) (by first | rfl | exact e1) k1 k2 hbz ?_)
  intro w4 own4 hg4
  have hb4 : Below (w2.alloc (.cells #[.slice (some ⟨G5, 0, none⟩) q c5] 26)).heap.size (w2.alloc (.cells #[.slice (some ⟨G5, 0, none⟩) q c5] 26)) w4 := (Below.refl _ _).grown hg4 (Nat.le_refl _) (fun k e => by cases e)
  have hG4 := own4.lt (w2.heap.size + 1) rfl
  have hk4 := below_alloc2 w4 (.cells #[.slice (some ⟨w2.heap.size + 1, 0, none⟩) q q] 26) (.cells #[.int .i64 0] 3)
  have u7 : Boxed ((w4.alloc (.cells #[.slice (some ⟨w2.heap.size + 1, 0, none⟩) q q] 26)).alloc (.cells #[.int .i64 0] 3)) w4.heap.size 26 (.slice (some ⟨w2.heap.size + 1, 0, none⟩) q q) := heap_alloc2_old _ _ _
  have u8 : Boxed ((w4.alloc (.cells #[.slice (some ⟨w2.heap.size + 1, 0, none⟩) q q] 26)).alloc (.cells #[.int .i64 0] 3)) (w4.heap.size + 1) 3 (.int .i64 0) := heap_alloc2_new _ _ _
  have hz6 : ((w4.alloc (.cells #[.slice (some ⟨w2.heap.size + 1, 0, none⟩) q q] 26)).alloc (.cells #[.int .i64 0] 3)).heap.size = w4.heap.size + 2 := by simp
  have hbz4 := hb4.size
  have hz4 : w2.heap.size + 1 ≤ w4.heap.size := by omega
  have hb46 := below_then hb4 hk4
  have s0 := (hb46.block _ z0.lt).trans z0
  have s1 := (hb46.block _ z1.lt).trans z1
  have s2 := (hb46.block _ z2.lt).trans z2
  have s5 := (hb46.block _ x5.lt).trans x5
  have t5 := own_below own5 hb46
  have t7 : ((w4.alloc (.cells #[.slice (some ⟨w2.heap.size + 1, 0, none⟩) q q] 26)).alloc (.cells #[.int .i64 0] 3)).ownsRow w.heap.size 3 1 (.slice (some ⟨w2.heap.size + 1, 0, none⟩) q q) q (ivs (cnt q [])) := by
    rw [cnt_nil]
    have e := made_ints1 q
    rw [Nat.mul_one] at e
    rw [← e]
    exact own_below own4 hk4
  have hlp6 := hlp5.below hb46
  have hb6 := hb5.trans (hb46.mono hb5.size)
  clear own4 hg4 hb4 hk4 hb46 own5 hlp5 hb5 x5 z0 z1 z2 d0 d1 d5 e1 k1 k2
  have c0 := Boxed.cell s0
  have c1 := Boxed.cell s1
  gi_wp2_with fail
  revert u7 u8 hz6 s0 s1 s2 s5 t5 t7 hlp6 hb6 c0 c1
  generalize (w4.alloc (.cells #[.slice (some ⟨w2.heap.size + 1, 0, none⟩) q q] 26)).alloc (.cells #[.int .i64 0] 3) = W6
  intro u7 u8 hz6 s0 s1 s2 s5 t5 t7 hlp6 hb6 c0 c1
  have h3 := three_boxes W6 m n 1
  refine ⟨trivial, (passes_in Fence.wide 3 trivial rfl m n 1 _).mono ?_⟩
  rintro e w' ⟨rfl, rfl⟩
  clear c0 c1
  obtain ⟨hb7, b1, b2, b3, hz7⟩ := h3
  revert hb7 b1 b2 b3 hz7
  generalize ((W6.alloc (.cells #[.int .i64 (m : Nat)] 3)).alloc (.cells #[.int .i64 (n : Nat)] 3)).alloc (.cells #[.int .i64 1] 3) = W7
  intro hb7 b1 b2 b3 hz7
  obtain ⟨G, hG⟩ : ∃ G, w2.heap.size + 1 = G := ⟨_, rfl⟩
  obtain ⟨P5, hP5⟩ : ∃ P5, w2.heap.size = P5 := ⟨_, rfl⟩
  obtain ⟨P8, hP8⟩ : ∃ P8, w4.heap.size + 1 = P8 := ⟨_, rfl⟩
  obtain ⟨P7, hP7⟩ : ∃ P7, w4.heap.size = P7 := ⟨_, rfl⟩
  obtain ⟨X, hX⟩ : ∃ X, W6.heap.size = X := ⟨_, rfl⟩
  rw [hG] at u7 t7 ⊢
  rw [hP5] at s5 ⊢
  rw [hP8] at u8 ⊢
  rw [hP7] at u7 ⊢
  rw [hX] at b1 b2 b3 ⊢
  have hit := passes_iter X (X + 1) (X + 2) m n 1 (fun k => k = P8 ∨ k = G) W7 b1 b2 b3 (hlp6.below hb7) (fun k hk => by omega)
  have hps : psL m n 1 = parts m n 1 := if_pos ⟨by unfold side; simp; omega, by unfold side; simp; omega, .inr rfl⟩
  rw [hps] at hit
  have r0 := (hb7.block _ (Boxed.lt s0)).trans s0
  have r1 := (hb7.block _ (Boxed.lt s1)).trans s1
  have r2 := (hb7.block _ (Boxed.lt s2)).trans s2
  have r5 := (hb7.block _ (Boxed.lt s5)).trans s5
  have v5 := own_below t5 hb7
  have r7 := (hb7.block _ u7.lt).trans u7
  have v7 := own_below t7 hb7
  have r8 := (hb7.block _ u8.lt).trans u8
  have hbw := hb6.trans (hb7.mono hb6.size)
  have HZ : Hid (w.heap.size + 3 ≤ G5 ∧ G5 < P5 ∧ P5 < G ∧ G < P7 ∧ P7 < P8 ∧ P8 < W7.heap.size) := Lib.hid (by omega)
  clear hb7 b1 b2 b3 hz7 u7 u8 hz6 s0 s1 s2 s5 t5 t7 hlp6 hb6 hG hP5 hP8 hP7 hX hps hz4 hbz4 hG4 hz5 hbz hz2 hlc hg1 hg2 hz3 hzz
  gi_wp2_with fail
  have HVW := Lib.hid hbw.size
  refine range_iterA (F := Fence.wide) (n := 4) (P := Tryd.prog) (gf := 19) (lb := #[.pointer (some ⟨X, 0, none⟩), .pointer (some ⟨X + 1, 0, none⟩), .pointer (some ⟨X + 2, 0, none⟩)]) hro (by omega) rfl trivial (enters_of Tryd.func19 (by kernel_rfl) rfl)
    (encs := sEnc) (hseq := hit) (fun h1 h2 => h1.trans h2) (fun W l o o' hl hc => Bk.Kc.put W l o o' hl hc) (fun _ => rfl)
    (fun pre W => Boxed W w.heap.size 3 (.int .i64 (m : Nat)) ∧ Boxed W (w.heap.size + 1) 3 (.int .i64 (n : Nat)) ∧ Boxed W (w.heap.size + 2) 4 (.bool false) ∧ Boxed W P5 26 (.slice (some ⟨G5, 0, none⟩) q c5) ∧ W.ownsRow w.heap.size 3 1 (.slice (some ⟨G5, 0, none⟩) q c5) q (ivs (il (all (parts m n 1) m))) ∧ Boxed W P7 26 (.slice (some ⟨G, 0, none⟩) q q) ∧ W.ownsRow w.heap.size 3 1 (.slice (some ⟨G, 0, none⟩) q q) q (ivs (cnt q (all pre m))) ∧ Boxed W P8 3 (.int .i64 ((all pre m).length : Nat)) ∧ Below w.heap.size w W ∧ W7.heap.size ≤ W.heap.size)
    (fun _ _ _ => False) ?hI ?hX ⟨r0, r1, r2, r5, v5, r7, v7, r8, hbw, Nat.le_refl _⟩ (fun x => .cells #[.int .i64 (x.2.c : Nat), .int .i64 (x.2.r : Nat)] 41 (0, 0)) (fun _ => rfl) (fun _ _ => Bk.Kc.alloc _ _ _)
    (fun x Bx => { tmps := #[.int .i64 a, .int .i64 b, .pointer (some ⟨w.heap.size, 0, none⟩), .pointer (some ⟨w.heap.size + 1, 0, none⟩), .pointer (some ⟨w.heap.size + 1 + 1, 0, none⟩), .pointer (some ⟨P5, 0, none⟩), .nilIface, .pointer (some ⟨P7, 0, none⟩), .pointer (some ⟨P8, 0, none⟩), .int .i64 (x.1 : Nat), .pointer (some ⟨Bx, 0, none⟩), undef, undef, undef, undef, undef, undef, .int .i64 a, .int .u64 (IntKind.u64.wrap a), .int .u64 ((IntKind.u64.wrap a).tmod 60), .int .i64 (ja), .int .i64 (m : Nat), .int .i64 b, .int .u64 (IntKind.u64.wrap b), .int .u64 ((IntKind.u64.wrap b).tmod 60), .int .i64 (jb), .int .i64 (n : Nat), .tuple #[.slice (some ⟨G5, 0, none⟩) q c5, .nilIface], .int .i64 (m : Nat), .int .i64 (n : Nat), .tuple #[.slice (some ⟨G5, 0, none⟩) q c5, .nilIface], .slice (some ⟨G5, 0, none⟩) q c5, .nilIface, .nilIface, .bool false, .bool false, .slice (some ⟨G5, 0, none⟩) q c5, .int .i64 (q : Nat), .int .i64 (m : Nat), .int .i64 (n : Nat), .int .i64 (q : Nat), .bool false, .bool false, .int .i64 (m : Nat), .int .i64 (n : Nat), .int .i64 (q : Nat), .slice (some ⟨G, 0, none⟩) q q, .int .i64 (m : Nat), .int .i64 (n : Nat), .func (.func 19) #[] #[.pointer (some ⟨X, 0, none⟩), .pointer (some ⟨X + 1, 0, none⟩), .pointer (some ⟨X + 2, 0, none⟩)], .int .i64 (x.1 : Nat), .agg #[.int .i64 (x.2.c : Nat), .int .i64 (x.2.r : Nat)], undef, undef, undef, undef, undef, undef, undef, undef, undef, undef, undef, undef, undef, undef, undef, undef, undef, undef, undef, undef, undef, undef, undef, undef, undef, undef, undef, undef, undef, undef, undef, undef, undef, undef, undef, undef, undef, undef, undef, undef, undef, undef, undef, undef, undef, undef, undef, undef, undef, undef, undef, undef, undef, undef, undef, undef, undef, undef, undef, undef, undef, undef, undef, undef, undef, undef, undef, undef, undef, undef, undef, undef, undef, undef, undef, undef, undef], defers := [] })
    ?has ?hbo ?hend ?hout
  case hI =>
    rintro s X' Y row ⟨h1, h2, h3, h4, h5, h6, h7, h8, h9, h10⟩ hg hr
    have hv := HVW.out
    have hk := Bk.kc_cells hg (fun r e => (hr r e).2)
    exact ⟨hk _ _ h1 rfl (fun h => h), hk _ _ h2 rfl (fun h => h), hk _ _ h3 rfl (fun h => h), hk _ _ h4 rfl (fun h => h), Bk.own_kc h5 hk (fun _ _ h => h), hk _ _ h6 rfl (fun h => h), Bk.own_kc h7 hk (fun _ _ h => h), hk _ _ h8 rfl (fun h => h), h9.grown hg (by omega) (fun r e => by have := (hr r e).1; omega), Nat.le_trans h10 hg.size⟩
  case hX => exact fun _ _ _ _ _ h => h.elim
  case has =>
    rintro k ⟨p, z0, z1, z2, z3, z4, z5⟩ X' K hK
    simp only [sEnc]
    gi_wp2
    exact hK
  case hbo =>
    rintro kk pre ⟨p, z0, z1, z2, z3, z4, z5⟩ A Bx ⟨h1, h2, h3, h4, h5, h6, h7, h8, h9, h10⟩ hnx hBx hbx
    obtain ⟨s, hs⟩ := hnx
    obtain ⟨y1, y2, y3, y4, y5, y6⟩ := HZ.out
    have hin : (p, (⟨z0, z1, z2, z3, z4, z5⟩ : Pa)) ∈ parts m n 1 := by rw [hs]; simp
    obtain ⟨hp7, hof⟩ := part_of m n _ hin
    obtain ⟨f1, f2, f3, f4⟩ := of_row p m n
    simp only at hp7 hof
    rw [← hof] at f1 f2 f3 f4
    simp only at f1 f2 f3 f4
    have HCR := Lib.hid (fun c r hc hr => of_in p m n c r hp7 (by rw [← hof]; exact hc) (by rw [← hof]; exact hr))
    obtain ⟨s5, s6⟩ := parts_mem m n 1 _ hin
    simp only at s5 s6
    have HIN := Lib.hid (fun (r c : Nat) (hr : r < z5) (hc : c < z4) => curS_in m n p 1 pre s ⟨z0, z1, z2, z3, z4, z5⟩ r c hs hr hc)
    have HCS := Lib.hid (fun (r c : Nat) => curS_c m pre ⟨z0, z1, z2, z3, z4, z5⟩ r c)
    have HPL := Lib.hid (fun (c r : Nat) (hc : c < 65535) (hr : r < 65535) => plc_nat p c r hp7 hc hr)
    have hap : Op8 w P5 P7 P8 G5 G Bx W7.heap.size := ⟨by omega, by omega, by omega, by omega, by omega, by omega, by omega, by omega, by omega, by omega, by omega, by omega, by omega⟩
    have HAP := Lib.hid hap
    have HSQ : Hid (Oq w A A m n q (curS m pre ⟨z0, z1, z2, z3, z4, z5⟩ 0 0).length P5 P7 P8 G5 c5 G Bx W7.heap.size (all (parts m n 1) m) z4 z5 (curS m pre ⟨z0, z1, z2, z3, z4, z5⟩ 0 0)) := Lib.hid (by
      rw [curS_0]
      exact ⟨h1, h2, h3, h4, h5, h6, h7, h8, hbx, h9, KeepsFrom.refl _ _, Bk.Kc.refl _ _⟩)
    have HEN : Hid (∀ W, Oq w A W m n q (curS m pre ⟨z0, z1, z2, z3, z4, z5⟩ z5 0).length P5 P7 P8 G5 c5 G Bx W7.heap.size (all (parts m n 1) m) z4 z5 (curS m pre ⟨z0, z1, z2, z3, z4, z5⟩ z5 0) → KeepsFrom W7.heap.size A W ∧ Bk.Kc (fun k => k = P8 ∨ k = G) A W ∧
        (Boxed W w.heap.size 3 (.int .i64 (m : Nat)) ∧ Boxed W (w.heap.size + 1) 3 (.int .i64 (n : Nat)) ∧ Boxed W (w.heap.size + 2) 4 (.bool false) ∧ Boxed W P5 26 (.slice (some ⟨G5, 0, none⟩) q c5) ∧ W.ownsRow w.heap.size 3 1 (.slice (some ⟨G5, 0, none⟩) q c5) q (ivs (il (all (parts m n 1) m))) ∧ Boxed W P7 26 (.slice (some ⟨G, 0, none⟩) q q) ∧ W.ownsRow w.heap.size 3 1 (.slice (some ⟨G, 0, none⟩) q q) q (ivs (cnt q (all (pre ++ [(p, ⟨z0, z1, z2, z3, z4, z5⟩)]) m))) ∧ Boxed W P8 3 (.int .i64 ((all (pre ++ [(p, ⟨z0, z1, z2, z3, z4, z5⟩)]) m).length : Nat)) ∧ Below w.heap.size w W ∧ W7.heap.size ≤ W.heap.size)) := Lib.hid (fun W hq => by
      rw [show curS m pre ⟨z0, z1, z2, z3, z4, z5⟩ z5 0 = all (pre ++ [(p, ⟨z0, z1, z2, z3, z4, z5⟩)]) m from curS_end m p pre ⟨z0, z1, z2, z3, z4, z5⟩] at hq
      exact ⟨hq.kf, hq.kc, hq.b0, hq.b1, hq.b2, hq.b5, hq.row5, hq.b7, hq.row7, hq.b8, hq.bel, Nat.le_trans h10 hq.kf.size⟩)
    have HPF : Hid (z0 = px p ∧ z1 = pdx p ∧ z2 = py p ∧ z3 = pdy p) := Lib.hid ⟨f1, f2, f3, f4⟩
    have hm60 : m ≤ 60 := hma.2
    have hn60 : n ≤ 60 := hmb.2
    have hmix : Tryd.prog.follows .mixedOrders = true := by kernel_rfl
    clear h1 h2 h3 h4 h5 h6 h7 h8 h9 h10 hbx hs hin hof f1 f2 f3 f4 y1 y2 y3 y4 y5 y6 hit r0 r1 r2 r5 v5 r7 v7 r8 hbw hap hBx
    have cr : A.cell? ⟨Bx, 1, none⟩ = some (.int .i64 (z5 : Nat)) := by rw [cell_of_row _ _ _ _ _ (0, 0) HSQ.out.bx]; rfl
    simp only
    gi_wp2
    clear cr
    gi_loopw [54] (fun i wr => ∃ r : Nat, r ≤ z5 ∧ i = .int .i64 (r : Nat) ∧ Hid (Oq w A wr m n q (curS m pre ⟨z0, z1, z2, z3, z4, z5⟩ r 0).length P5 P7 P8 G5 c5 G Bx W7.heap.size (all (parts m n 1) m) z4 z5 (curS m pre ⟨z0, z1, z2, z3, z4, z5⟩ r 0))) (fun i _ => z5 - (intOf i).toNat)
    case atStart => exact ⟨0, by omega, rfl, HSQ⟩
    case round =>
      clear HSQ
      obtain ⟨r, hr, rfl, HSQ⟩ := hrel
      by_cases hr5 : r < z5
      · have cc : wr.cell? ⟨Bx, 0, none⟩ = some (.int .i64 (z4 : Nat)) := by rw [cell_of_row _ _ _ _ _ (0, 0) HSQ.out.bx]; rfl
        have dr : decide (r < z5) = true := by simpa using hr5
        gi_wp2
        clear cc
        gi_loopw [59] (fun i wr => ∃ c : Nat, c ≤ z4 ∧ i = .int .i64 (c : Nat) ∧ Hid (Oq w A wr m n q (curS m pre ⟨z0, z1, z2, z3, z4, z5⟩ r c).length P5 P7 P8 G5 c5 G Bx W7.heap.size (all (parts m n 1) m) z4 z5 (curS m pre ⟨z0, z1, z2, z3, z4, z5⟩ r c))) (fun i _ => z4 - (intOf i).toNat)
        case atStart => exact ⟨0, by omega, rfl, HSQ⟩
        case round =>
          clear HSQ
          obtain ⟨c, hc, rfl, HSQ⟩ := hrel
          by_cases hc4 : c < z4
          · have dc : decide (c < z4) = true := by simpa using hc4
            obtain ⟨hU, hV⟩ := HCR.out c r hc4 hr5
            obtain ⟨t, ht⟩ := HIN.out r c hr5 hc4
            have hcs := HCS.out r c
            obtain ⟨q0, q1, q2, q3⟩ := HPF.out
            have v0 : z0 + c * z1 = px p + c * pdx p := by rw [q0, q1]
            have v1 : z2 + r * z3 = py p + r * pdy p := by rw [q2, q3]
            rw [v0, v1] at hcs
            have hpl := HPL.out c r (by omega) (by omega)
            have HPW := Lib.hid (Place_any p c r wr (HLP0.out.below HSQ.out.bel))
            rw [hpl] at HPW
            generalize px p + c * pdx p = U at *
            generalize py p + r * pdy p = V at *
            rw [hcs] at ht
            have hk : (curS m pre ⟨z0, z1, z2, z3, z4, z5⟩ r c).length + 1 ≤ q := by
              have hl := HLN.out
              rw [ht, List.length_append, List.length_append] at hl
              simp at hl
              omega
            have hget : (il (all (parts m n 1) m)).getD (curS m pre ⟨z0, z1, z2, z3, z4, z5⟩ r c).length 0 = ((V * m + U : Nat) : Int) := by
              rw [ht]
              simp [il, List.getD]
            have hvq : V * m + U < q := by
              rw [← HQ.out]
              have h1 : V * m + m ≤ n * m := by
                have := Nat.mul_le_mul_right m (show V + 1 ≤ n from hV)
                rw [Nat.add_mul] at this
                omega
              rw [Nat.mul_comm m n]
              omega
            have hVm : V * m ≤ 60 * 60 := Nat.mul_le_mul (by omega) (by omega)
            have HZV : Hid (IntKind.i64.wrap (IntKind.i64.wrap ((V : Int) * (m : Int)) + (U : Int)) = ((V * m + U : Nat) : Int)) := Lib.hid (by
              exact vm_val (v := V * m) rfl (by omega) (by omega))
            have HCS2 := Lib.hid hcs
            generalize curS m pre ⟨z0, z1, z2, z3, z4, z5⟩ r c = L at *
            generalize V * m + U = v at *
            clear ht hcs hpl q0 q1 q2 q3 v0 v1 hVm
            gi_wp2_with fail
            refine ⟨trivial, (CallsIn.inRound kk (callsIn_wide.2 HPW.out)).mono ?_⟩
            rintro e w4 ⟨rfl, hb4⟩
            have HS4 := Lib.hid (HSQ.out.below hb4)
            clear hb4 HSQ HPW
            gi_wp2_with fail
            obtain ⟨k, hkk⟩ : ∃ k, L.length = k := ⟨_, rfl⟩
            have hS17 : (fun w' : World => w'.cell? ⟨w.heap.size, 0, none⟩ = some (.int .i64 (m : Nat)) ∧ w'.cell? ⟨w.heap.size + 1, 0, none⟩ = some (.int .i64 (n : Nat)) ∧ w'.cell? ⟨P8, 0, none⟩ = some (.int .i64 (k : Nat)) ∧ w'.cell? ⟨P5, 0, none⟩ = some (.slice (some ⟨G5, 0, none⟩) q c5) ∧ w'.cell? ⟨G5, k, none⟩ = some (.int .i64 (v : Nat))) w4.drew := ⟨HS4.out.b0.cell, HS4.out.b1.cell, by rw [← hkk]; exact HS4.out.b8.cell, HS4.out.b5.cell, by
              have h := HS4.out.row5.cellAt k (by omega)
              rw [ivs_get _ _ (by rw [il_length, HLN.out]; omega), ← hkk, hget] at h
              rw [← hkk]; exact h⟩
            have HS17 := Lib.hid hS17
            rw [hkk] at hk
            have e1 : decide ((U : Int) < 0) = false := by simp
            have e2 : decide ((m : Int) ≤ (U : Int)) = false := by simp; omega
            have e2b : decide (m ≤ U) = false := by simp; omega
            have e3 : decide ((V : Int) < 0) = false := by simp
            have e4 : decide ((n : Int) ≤ (V : Int)) = false := by simp; omega
            have e4b : decide (n ≤ V) = false := by simp; omega
            have e5 : decide ((q : Int) ≤ (k : Int)) = false := by simp; omega
            have e5b : decide (q ≤ k) = false := by simp; omega
            have e6 : ((v : Int) != IntKind.i64.wrap (IntKind.i64.wrap ((V : Int) * (m : Int)) + (U : Int))) = false := by rw [HZV.out]; simp
            have hkq : k < q := by omega
            clear hS17 hget hU hV hk
            refine oneH (fun w' : World => w'.cell? ⟨w.heap.size, 0, none⟩ = some (.int .i64 (m : Nat)) ∧ w'.cell? ⟨w.heap.size + 1, 0, none⟩ = some (.int .i64 (n : Nat)) ∧ w'.cell? ⟨P8, 0, none⟩ = some (.int .i64 (k : Nat)) ∧ w'.cell? ⟨P5, 0, none⟩ = some (.slice (some ⟨G5, 0, none⟩) q c5) ∧ w'.cell? ⟨G5, k, none⟩ = some (.int .i64 (v : Nat))) hmix (by kernel_rfl) ?_
            constructor
            constructor
            constructor
            · skip
              refine RH_take (i := 0) (v := ?_) rfl (by kernel_rfl) (by kernel_rfl) (by kernel_rfl) (fun _ _ _ h => h) HS17.out (by rfl) ?_ ?_
              rotate_left
              · (intro w' hw'; obtain ⟨j0, j1, j2, j3, j4⟩ := hw'; first | (go_simp; done) | (go_simp; with_reducible rfl))
              try simp only [List.getElem_toArray, List.getElem_cons_zero, List.getElem_cons_succ, Act.put, List.setIfInBounds_toArray, List.set_cons_zero, List.set_cons_succ]
              refine RH_take (i := 1) (v := ?_) rfl (by kernel_rfl) (by kernel_rfl) (by kernel_rfl) (fun _ _ _ h => h) HS17.out (by rfl) ?_ ?_
              rotate_left
              · (intro w' hw'; obtain ⟨j0, j1, j2, j3, j4⟩ := hw'; first | (go_simp; done) | (go_simp; with_reducible rfl))
              try simp only [List.getElem_toArray, List.getElem_cons_zero, List.getElem_cons_succ, Act.put, List.setIfInBounds_toArray, List.set_cons_zero, List.set_cons_succ]
              refine RH_take (i := 2) (v := ?_) rfl (by kernel_rfl) (by kernel_rfl) (by kernel_rfl) (fun _ _ _ h => h) HS17.out (by rfl) ?_ ?_
              rotate_left
              · (intro w' hw'; obtain ⟨j0, j1, j2, j3, j4⟩ := hw'; first | (go_simp; done) | (go_simp; with_reducible rfl))
              try simp only [List.getElem_toArray, List.getElem_cons_zero, List.getElem_cons_succ, Act.put, List.setIfInBounds_toArray, List.set_cons_zero, List.set_cons_succ]
              refine RH_take (i := 3) (v := ?_) rfl (by kernel_rfl) (by kernel_rfl) (by kernel_rfl) (fun _ _ _ h => h) HS17.out (by rfl) ?_ ?_
              rotate_left
              · (intro w' hw'; obtain ⟨j0, j1, j2, j3, j4⟩ := hw'; first | (go_simp; done) | (go_simp; with_reducible rfl))
              try simp only [List.getElem_toArray, List.getElem_cons_zero, List.getElem_cons_succ, Act.put, List.setIfInBounds_toArray, List.set_cons_zero, List.set_cons_succ]
              refine RH_take (i := 4) (v := ?_) rfl (by kernel_rfl) (by kernel_rfl) (by kernel_rfl) (fun _ _ _ h => h) HS17.out (by rfl) ?_ ?_
              rotate_left
              · (intro w' hw'; obtain ⟨j0, j1, j2, j3, j4⟩ := hw'; first | (go_simp; done) | (go_simp; with_reducible rfl))
              try simp only [List.getElem_toArray, List.getElem_cons_zero, List.getElem_cons_succ, Act.put, List.setIfInBounds_toArray, List.set_cons_zero, List.set_cons_succ]
              refine RH_take (i := 5) (v := ?_) rfl (by kernel_rfl) (by kernel_rfl) (by kernel_rfl) (fun _ _ _ h => h) HS17.out (by rfl) ?_ ?_
              rotate_left
              · (intro w' hw'; obtain ⟨j0, j1, j2, j3, j4⟩ := hw'; first | (go_simp; done) | (go_simp; with_reducible rfl))
              try simp only [List.getElem_toArray, List.getElem_cons_zero, List.getElem_cons_succ, Act.put, List.setIfInBounds_toArray, List.set_cons_zero, List.set_cons_succ]
              refine RH_take (i := 6) (v := ?_) rfl (by kernel_rfl) (by kernel_rfl) (by kernel_rfl) (fun _ _ _ h => h) HS17.out (by rfl) ?_ ?_
              rotate_left
              · (intro w' hw'; obtain ⟨j0, j1, j2, j3, j4⟩ := hw'; first | (go_simp; done) | (go_simp; with_reducible rfl))
              try simp only [List.getElem_toArray, List.getElem_cons_zero, List.getElem_cons_succ, Act.put, List.setIfInBounds_toArray, List.set_cons_zero, List.set_cons_succ]
              refine RH_take (i := 7) (v := ?_) rfl (by kernel_rfl) (by kernel_rfl) (by kernel_rfl) (fun _ _ _ h => h) HS17.out (by rfl) ?_ ?_
              rotate_left
              · (intro w' hw'; obtain ⟨j0, j1, j2, j3, j4⟩ := hw'; first | (go_simp; done) | (go_simp; with_reducible rfl))
              try simp only [List.getElem_toArray, List.getElem_cons_zero, List.getElem_cons_succ, Act.put, List.setIfInBounds_toArray, List.set_cons_zero, List.set_cons_succ]
              refine RH_take (i := 8) (v := ?_) rfl (by kernel_rfl) (by kernel_rfl) (by kernel_rfl) (fun _ _ _ h => h) HS17.out (by rfl) ?_ ?_
              rotate_left
              · (intro w' hw'; obtain ⟨j0, j1, j2, j3, j4⟩ := hw'; first | (go_simp; done) | (go_simp; with_reducible rfl))
              try simp only [List.getElem_toArray, List.getElem_cons_zero, List.getElem_cons_succ, Act.put, List.setIfInBounds_toArray, List.set_cons_zero, List.set_cons_succ]
              refine RH_take (i := 9) (v := ?_) rfl (by kernel_rfl) (by kernel_rfl) (by kernel_rfl) (fun _ _ _ h => h) HS17.out (by rfl) ?_ ?_
              rotate_left
              · (intro w' hw'; obtain ⟨j0, j1, j2, j3, j4⟩ := hw'; first | (go_simp; done) | (go_simp; with_reducible rfl))
              try simp only [List.getElem_toArray, List.getElem_cons_zero, List.getElem_cons_succ, Act.put, List.setIfInBounds_toArray, List.set_cons_zero, List.set_cons_succ]
              refine RH_take (i := 10) (v := ?_) rfl (by kernel_rfl) (by kernel_rfl) (by kernel_rfl) (fun _ _ _ h => h) HS17.out (by rfl) ?_ ?_
              rotate_left
              · (intro w' hw'; obtain ⟨j0, j1, j2, j3, j4⟩ := hw'; first | (go_simp; done) | (go_simp; with_reducible rfl))
              try simp only [List.getElem_toArray, List.getElem_cons_zero, List.getElem_cons_succ, Act.put, List.setIfInBounds_toArray, List.set_cons_zero, List.set_cons_succ]
              refine RH_take (i := 11) (v := ?_) rfl (by kernel_rfl) (by kernel_rfl) (by kernel_rfl) (fun _ _ _ h => h) HS17.out (by rfl) ?_ ?_
              rotate_left
              · (intro w' hw'; obtain ⟨j0, j1, j2, j3, j4⟩ := hw'; first | (go_simp; done) | (go_simp; with_reducible rfl))
              try simp only [List.getElem_toArray, List.getElem_cons_zero, List.getElem_cons_succ, Act.put, List.setIfInBounds_toArray, List.set_cons_zero, List.set_cons_succ]
              refine RH_take (i := 12) (v := ?_) rfl (by kernel_rfl) (by kernel_rfl) (by kernel_rfl) (fun _ _ _ h => h) HS17.out (by rfl) ?_ ?_
              rotate_left
              · (intro w' hw'; obtain ⟨j0, j1, j2, j3, j4⟩ := hw'; first | (go_simp; done) | (go_simp; with_reducible rfl))
              try simp only [List.getElem_toArray, List.getElem_cons_zero, List.getElem_cons_succ, Act.put, List.setIfInBounds_toArray, List.set_cons_zero, List.set_cons_succ]
              refine RH_take (i := 13) (v := ?_) rfl (by kernel_rfl) (by kernel_rfl) (by kernel_rfl) (fun _ _ _ h => h) HS17.out (by rfl) ?_ ?_
              rotate_left
              · (intro w' hw'; obtain ⟨j0, j1, j2, j3, j4⟩ := hw'; first | (go_simp; done) | (go_simp; with_reducible rfl))
              try simp only [List.getElem_toArray, List.getElem_cons_zero, List.getElem_cons_succ, Act.put, List.setIfInBounds_toArray, List.set_cons_zero, List.set_cons_succ]
              refine RH_take (i := 14) (v := ?_) rfl (by kernel_rfl) (by kernel_rfl) (by kernel_rfl) (fun _ _ _ h => h) HS17.out (by rfl) ?_ ?_
              rotate_left
              · (intro w' hw'; obtain ⟨j0, j1, j2, j3, j4⟩ := hw'; first | (go_simp; done) | (go_simp; with_reducible rfl))
              try simp only [List.getElem_toArray, List.getElem_cons_zero, List.getElem_cons_succ, Act.put, List.setIfInBounds_toArray, List.set_cons_zero, List.set_cons_succ]
              refine RH_take (i := 15) (v := ?_) rfl (by kernel_rfl) (by kernel_rfl) (by kernel_rfl) (fun _ _ _ h => h) HS17.out (by rfl) ?_ ?_
              rotate_left
              · (intro w' hw'; obtain ⟨j0, j1, j2, j3, j4⟩ := hw'; first | (go_simp; done) | (go_simp; with_reducible rfl))
              try simp only [List.getElem_toArray, List.getElem_cons_zero, List.getElem_cons_succ, Act.put, List.setIfInBounds_toArray, List.set_cons_zero, List.set_cons_succ]
              refine RH_take (i := 16) (v := ?_) rfl (by kernel_rfl) (by kernel_rfl) (by kernel_rfl) (fun _ _ _ h => h) HS17.out (by rfl) ?_ ?_
              rotate_left
              · (intro w' hw'; obtain ⟨j0, j1, j2, j3, j4⟩ := hw'; first | (go_simp; done) | (go_simp; with_reducible rfl))
              try simp only [List.getElem_toArray, List.getElem_cons_zero, List.getElem_cons_succ, Act.put, List.setIfInBounds_toArray, List.set_cons_zero, List.set_cons_succ]
              refine RH_take (i := 17) (v := ?_) rfl (by kernel_rfl) (by kernel_rfl) (by kernel_rfl) (fun _ _ _ h => h) HS17.out (by rfl) ?_ ?_
              rotate_left
              · (intro w' hw'; obtain ⟨j0, j1, j2, j3, j4⟩ := hw'; first | (go_simp; done) | (go_simp; with_reducible rfl))
              try simp only [List.getElem_toArray, List.getElem_cons_zero, List.getElem_cons_succ, Act.put, List.setIfInBounds_toArray, List.set_cons_zero, List.set_cons_succ]
              refine RH_take (i := 18) (v := ?_) rfl (by kernel_rfl) (by kernel_rfl) (by kernel_rfl) (fun _ _ _ h => h) HS17.out (by rfl) ?_ ?_
              rotate_left
              · (intro w' hw'; obtain ⟨j0, j1, j2, j3, j4⟩ := hw'; first | (go_simp; done) | (go_simp; with_reducible rfl))
              try simp only [List.getElem_toArray, List.getElem_cons_zero, List.getElem_cons_succ, Act.put, List.setIfInBounds_toArray, List.set_cons_zero, List.set_cons_succ]
              refine RH_take (i := 19) (v := ?_) rfl (by kernel_rfl) (by kernel_rfl) (by kernel_rfl) (fun _ _ _ h => h) HS17.out (by rfl) ?_ ?_
              rotate_left
              · (intro w' hw'; obtain ⟨j0, j1, j2, j3, j4⟩ := hw'; first | (go_simp; done) | (go_simp; with_reducible rfl))
              try simp only [List.getElem_toArray, List.getElem_cons_zero, List.getElem_cons_succ, Act.put, List.setIfInBounds_toArray, List.set_cons_zero, List.set_cons_succ]
              refine RH_take (i := 20) (v := ?_) rfl (by kernel_rfl) (by kernel_rfl) (by kernel_rfl) (fun _ _ _ h => h) HS17.out (by rfl) ?_ ?_
              rotate_left
              · (intro w' hw'; obtain ⟨j0, j1, j2, j3, j4⟩ := hw'; first | (go_simp; done) | (go_simp; with_reducible rfl))
              try simp only [List.getElem_toArray, List.getElem_cons_zero, List.getElem_cons_succ, Act.put, List.setIfInBounds_toArray, List.set_cons_zero, List.set_cons_succ]
              refine RH_take (i := 21) (v := ?_) rfl (by kernel_rfl) (by kernel_rfl) (by kernel_rfl) (fun _ _ _ h => h) HS17.out (by rfl) ?_ ?_
              rotate_left
              · (intro w' hw'; obtain ⟨j0, j1, j2, j3, j4⟩ := hw'; first | (go_simp; done) | (go_simp; with_reducible rfl))
              try simp only [List.getElem_toArray, List.getElem_cons_zero, List.getElem_cons_succ, Act.put, List.setIfInBounds_toArray, List.set_cons_zero, List.set_cons_succ]
              refine RH_take (i := 22) (v := ?_) rfl (by kernel_rfl) (by kernel_rfl) (by kernel_rfl) (fun _ _ _ h => h) HS17.out (by rfl) ?_ ?_
              rotate_left
              · (intro w' hw'; obtain ⟨j0, j1, j2, j3, j4⟩ := hw'; first | (go_simp; done) | (go_simp; with_reducible rfl))
              try simp only [List.getElem_toArray, List.getElem_cons_zero, List.getElem_cons_succ, Act.put, List.setIfInBounds_toArray, List.set_cons_zero, List.set_cons_succ]
              refine RH_take (i := 23) (v := ?_) rfl (by kernel_rfl) (by kernel_rfl) (by kernel_rfl) (fun _ _ _ h => h) HS17.out (by rfl) ?_ ?_
              rotate_left
              · (intro w' hw'; obtain ⟨j0, j1, j2, j3, j4⟩ := hw'; first | (go_simp; done) | (go_simp; with_reducible rfl))
              try simp only [List.getElem_toArray, List.getElem_cons_zero, List.getElem_cons_succ, Act.put, List.setIfInBounds_toArray, List.set_cons_zero, List.set_cons_succ]
              refine RH_take (i := 24) (v := ?_) rfl (by kernel_rfl) (by kernel_rfl) (by kernel_rfl) (fun _ _ _ h => h) HS17.out (by rfl) ?_ ?_
              rotate_left
              · (intro w' hw'; obtain ⟨j0, j1, j2, j3, j4⟩ := hw'; first | (go_simp; done) | (go_simp; with_reducible rfl))
              try simp only [List.getElem_toArray, List.getElem_cons_zero, List.getElem_cons_succ, Act.put, List.setIfInBounds_toArray, List.set_cons_zero, List.set_cons_succ]
              refine RH_take (i := 25) (v := ?_) rfl (by kernel_rfl) (by kernel_rfl) (by kernel_rfl) (fun _ _ _ h => h) HS17.out (by rfl) ?_ ?_
              rotate_left
              · (intro w' hw'; obtain ⟨j0, j1, j2, j3, j4⟩ := hw'; first | (go_simp; done) | (go_simp; with_reducible rfl))
              try simp only [List.getElem_toArray, List.getElem_cons_zero, List.getElem_cons_succ, Act.put, List.setIfInBounds_toArray, List.set_cons_zero, List.set_cons_succ]
              refine RH_take (i := 26) (v := ?_) rfl (by kernel_rfl) (by kernel_rfl) (by kernel_rfl) (fun _ _ _ h => h) HS17.out (by rfl) ?_ ?_
              rotate_left
              · (intro w' hw'; obtain ⟨j0, j1, j2, j3, j4⟩ := hw'; first | (go_simp; done) | (go_simp; with_reducible rfl))
              try simp only [List.getElem_toArray, List.getElem_cons_zero, List.getElem_cons_succ, Act.put, List.setIfInBounds_toArray, List.set_cons_zero, List.set_cons_succ]
              refine RH_take (i := 27) (v := ?_) rfl (by kernel_rfl) (by kernel_rfl) (by kernel_rfl) (fun _ _ _ h => h) HS17.out (by rfl) ?_ ?_
              rotate_left
              · (intro w' hw'; obtain ⟨j0, j1, j2, j3, j4⟩ := hw'; first | (go_simp; done) | (go_simp; with_reducible rfl))
              try simp only [List.getElem_toArray, List.getElem_cons_zero, List.getElem_cons_succ, Act.put, List.setIfInBounds_toArray, List.set_cons_zero, List.set_cons_succ]
              refine RH_take (i := 28) (v := ?_) rfl (by kernel_rfl) (by kernel_rfl) (by kernel_rfl) (fun _ _ _ h => h) HS17.out (by rfl) ?_ ?_
              rotate_left
              · (intro w' hw'; obtain ⟨j0, j1, j2, j3, j4⟩ := hw'; first | (go_simp; done) | (go_simp; with_reducible rfl))
              try simp only [List.getElem_toArray, List.getElem_cons_zero, List.getElem_cons_succ, Act.put, List.setIfInBounds_toArray, List.set_cons_zero, List.set_cons_succ]
              refine RH_take (i := 29) (v := ?_) rfl (by kernel_rfl) (by kernel_rfl) (by kernel_rfl) (fun _ _ _ h => h) HS17.out (by rfl) ?_ ?_
              rotate_left
              · (intro w' hw'; obtain ⟨j0, j1, j2, j3, j4⟩ := hw'; first | (go_simp; done) | (go_simp; with_reducible rfl))
              try simp only [List.getElem_toArray, List.getElem_cons_zero, List.getElem_cons_succ, Act.put, List.setIfInBounds_toArray, List.set_cons_zero, List.set_cons_succ]
              refine RH_take (i := 30) (v := ?_) rfl (by kernel_rfl) (by kernel_rfl) (by kernel_rfl) (fun _ _ _ h => h) HS17.out (by rfl) ?_ ?_
              rotate_left
              · (intro w' hw'; obtain ⟨j0, j1, j2, j3, j4⟩ := hw'; first | (go_simp; done) | (go_simp; with_reducible rfl))
              try simp only [List.getElem_toArray, List.getElem_cons_zero, List.getElem_cons_succ, Act.put, List.setIfInBounds_toArray, List.set_cons_zero, List.set_cons_succ]
              refine RH_take (i := 31) (v := ?_) rfl (by kernel_rfl) (by kernel_rfl) (by kernel_rfl) (fun _ _ _ h => h) HS17.out (by rfl) ?_ ?_
              rotate_left
              · (intro w' hw'; obtain ⟨j0, j1, j2, j3, j4⟩ := hw'; first | (go_simp; done) | (go_simp; with_reducible rfl))
              try simp only [List.getElem_toArray, List.getElem_cons_zero, List.getElem_cons_succ, Act.put, List.setIfInBounds_toArray, List.set_cons_zero, List.set_cons_succ]
              refine RH_take (i := 32) (v := ?_) rfl (by kernel_rfl) (by kernel_rfl) (by kernel_rfl) (fun _ _ _ h => h) HS17.out (by rfl) ?_ ?_
              rotate_left
              · (intro w' hw'; obtain ⟨j0, j1, j2, j3, j4⟩ := hw'; first | (go_simp; done) | (go_simp; with_reducible rfl))
              try simp only [List.getElem_toArray, List.getElem_cons_zero, List.getElem_cons_succ, Act.put, List.setIfInBounds_toArray, List.set_cons_zero, List.set_cons_succ]
              refine RH_take (i := 33) (v := ?_) rfl (by kernel_rfl) (by kernel_rfl) (by kernel_rfl) (fun _ _ _ h => h) HS17.out (by rfl) ?_ ?_
              rotate_left
              · (intro w' hw'; obtain ⟨j0, j1, j2, j3, j4⟩ := hw'; first | (go_simp; done) | (go_simp; with_reducible rfl))
              try simp only [List.getElem_toArray, List.getElem_cons_zero, List.getElem_cons_succ, Act.put, List.setIfInBounds_toArray, List.set_cons_zero, List.set_cons_succ]
              refine wpAnyH_done (by kernel_rfl) ?_ _
              exact ⟨rfl, rfl⟩
            have HS5 := Lib.hid (HS4.out.below (wx := w4.drew.drew) ((Below.refl _ _).drew.drew))
            obtain ⟨u, hu⟩ : ∃ u, L.count v = u := ⟨_, rfl⟩
            have hul : u ≤ 3600 := by
              have := List.count_le_length (a := v) (l := L)
              omega
            have hS19 : (fun w' : World => w'.cell? ⟨P7, 0, none⟩ = some (.slice (some ⟨G, 0, none⟩) q q) ∧ w'.cell? ⟨P5, 0, none⟩ = some (.slice (some ⟨G5, 0, none⟩) q c5) ∧ w'.cell? ⟨P8, 0, none⟩ = some (.int .i64 (k : Nat)) ∧ w'.cell? ⟨G5, k, none⟩ = some (.int .i64 (v : Nat)) ∧ w'.cell? ⟨G, v, none⟩ = some (.int .i64 (u : Nat))) w4.drew.drew := ⟨HS5.out.b7.cell, HS5.out.b5.cell, by rw [← hkk]; exact HS5.out.b8.cell, HS17.out.2.2.2.2, by
              have h := HS5.out.row7.cellAt v (by omega)
              rw [ivs_get _ _ (by rw [cnt_length]; exact hvq), cnt_get _ _ _ hvq, hu] at h
              exact h⟩
            have HS19 := Lib.hid hS19
            have hfr : w4.drew.drew.frozen? ⟨G, v, none⟩ = false := (own_slot HS5.out.row7 v hvq).2
            have hfr2 : w4.frozen? ⟨G, v, none⟩ = false := hfr
            obtain ⟨j0, j1, j2, j3, j4⟩ := hS19
            have j4b : w4.cell? ⟨G, v, none⟩ = some (.int .i64 (u : Nat)) := j4
            have HE7 : Hid (IntKind.i64.wrap ((u : Int) + 1) = (u : Int) + 1) := Lib.hid (IntWalk.i64_in _ ⟨by omega, by omega⟩)
            have HSY := Lib.hid (HS5.out.seen' HAP.out v ((u : Int) + 1) (by rw [hu]))
            clear HS4 HS17 e1 e2 e2b e3 e4 e4b e5 e5b e6 HZV
            gi_wp2_with fail
            refine oneJ 9 (fun w' : World => w'.cell? ⟨P7, 0, none⟩ = some (.slice (some ⟨G, 0, none⟩) q q) ∧ w'.cell? ⟨P5, 0, none⟩ = some (.slice (some ⟨G5, 0, none⟩) q c5) ∧ w'.cell? ⟨P8, 0, none⟩ = some (.int .i64 (k : Nat)) ∧ w'.cell? ⟨G5, k, none⟩ = some (.int .i64 (v : Nat)) ∧ w'.cell? ⟨G, v, none⟩ = some (.int .i64 (u : Nat))) hmix (by kernel_rfl) ?_
            constructor
            constructor
            constructor
            · skip
              refine J_take (i := 0) (v := ?_) rfl (by kernel_rfl) (by kernel_rfl) (by kernel_rfl) (by kernel_rfl) (fun _ _ _ h => h.elim) HS19.out (by rfl) ?_ ?_
              rotate_left
              · (intro w' hw'; obtain ⟨j0, j1, j2, j3, j4⟩ := hw'; first | (go_simp; done) | (go_simp; with_reducible rfl))
              try simp only [List.getElem_toArray, List.getElem_cons_zero, List.getElem_cons_succ, Act.put, List.setIfInBounds_toArray, List.set_cons_zero, List.set_cons_succ]
              refine J_take (i := 1) (v := ?_) rfl (by kernel_rfl) (by kernel_rfl) (by kernel_rfl) (by kernel_rfl) (fun _ _ _ h => h.elim) HS19.out (by rfl) ?_ ?_
              rotate_left
              · (intro w' hw'; obtain ⟨j0, j1, j2, j3, j4⟩ := hw'; first | (go_simp; done) | (go_simp; with_reducible rfl))
              try simp only [List.getElem_toArray, List.getElem_cons_zero, List.getElem_cons_succ, Act.put, List.setIfInBounds_toArray, List.set_cons_zero, List.set_cons_succ]
              refine J_take (i := 2) (v := ?_) rfl (by kernel_rfl) (by kernel_rfl) (by kernel_rfl) (by kernel_rfl) (fun _ _ _ h => h.elim) HS19.out (by rfl) ?_ ?_
              rotate_left
              · (intro w' hw'; obtain ⟨j0, j1, j2, j3, j4⟩ := hw'; first | (go_simp; done) | (go_simp; with_reducible rfl))
              try simp only [List.getElem_toArray, List.getElem_cons_zero, List.getElem_cons_succ, Act.put, List.setIfInBounds_toArray, List.set_cons_zero, List.set_cons_succ]
              refine J_take (i := 3) (v := ?_) rfl (by kernel_rfl) (by kernel_rfl) (by kernel_rfl) (by kernel_rfl) (fun _ _ _ h => h.elim) HS19.out (by rfl) ?_ ?_
              rotate_left
              · (intro w' hw'; obtain ⟨j0, j1, j2, j3, j4⟩ := hw'; first | (go_simp; done) | (go_simp; with_reducible rfl))
              try simp only [List.getElem_toArray, List.getElem_cons_zero, List.getElem_cons_succ, Act.put, List.setIfInBounds_toArray, List.set_cons_zero, List.set_cons_succ]
              refine J_take (i := 4) (v := ?_) rfl (by kernel_rfl) (by kernel_rfl) (by kernel_rfl) (by kernel_rfl) (fun _ _ _ h => h.elim) HS19.out (by rfl) ?_ ?_
              rotate_left
              · (intro w' hw'; obtain ⟨j0, j1, j2, j3, j4⟩ := hw'; first | (go_simp; done) | (go_simp; with_reducible rfl))
              try simp only [List.getElem_toArray, List.getElem_cons_zero, List.getElem_cons_succ, Act.put, List.setIfInBounds_toArray, List.set_cons_zero, List.set_cons_succ]
              refine J_take (i := 5) (v := ?_) rfl (by kernel_rfl) (by kernel_rfl) (by kernel_rfl) (by kernel_rfl) (fun _ _ _ h => h.elim) HS19.out (by rfl) ?_ ?_
              rotate_left
              · (intro w' hw'; obtain ⟨j0, j1, j2, j3, j4⟩ := hw'; first | (go_simp; done) | (go_simp; with_reducible rfl))
              try simp only [List.getElem_toArray, List.getElem_cons_zero, List.getElem_cons_succ, Act.put, List.setIfInBounds_toArray, List.set_cons_zero, List.set_cons_succ]
              refine J_take (i := 6) (v := ?_) rfl (by kernel_rfl) (by kernel_rfl) (by kernel_rfl) (by kernel_rfl) (fun _ _ _ h => h.elim) HS19.out (by rfl) ?_ ?_
              rotate_left
              · (intro w' hw'; obtain ⟨j0, j1, j2, j3, j4⟩ := hw'; first | (go_simp; done) | (go_simp; with_reducible rfl))
              try simp only [List.getElem_toArray, List.getElem_cons_zero, List.getElem_cons_succ, Act.put, List.setIfInBounds_toArray, List.set_cons_zero, List.set_cons_succ]
              refine J_take (i := 7) (v := ?_) rfl (by kernel_rfl) (by kernel_rfl) (by kernel_rfl) (by kernel_rfl) (fun _ _ _ h => h.elim) HS19.out (by rfl) ?_ ?_
              rotate_left
              · (intro w' hw'; obtain ⟨j0, j1, j2, j3, j4⟩ := hw'; first | (go_simp; done) | (go_simp; with_reducible rfl))
              try simp only [List.getElem_toArray, List.getElem_cons_zero, List.getElem_cons_succ, Act.put, List.setIfInBounds_toArray, List.set_cons_zero, List.set_cons_succ]
              refine J_take (i := 8) (v := ?_) rfl (by kernel_rfl) (by kernel_rfl) (by kernel_rfl) (by kernel_rfl) (fun _ _ _ h => h.elim) HS19.out (by rfl) ?_ ?_
              rotate_left
              · (intro w' hw'; obtain ⟨j0, j1, j2, j3, j4⟩ := hw'; first | (go_simp; done) | (go_simp; with_reducible rfl))
              try simp only [List.getElem_toArray, List.getElem_cons_zero, List.getElem_cons_succ, Act.put, List.setIfInBounds_toArray, List.set_cons_zero, List.set_cons_succ]
              refine J_step (i := 9) (by kernel_rfl) rfl (fun K hK => ?_)
              go_simp
              refine hK.out _ _ (fun h => absurd rfl h) (fun _ => ?_)
              clear hK K
              try simp only [List.getElem_toArray, List.getElem_cons_zero, List.getElem_cons_succ, Act.put, List.setIfInBounds_toArray, List.set_cons_zero, List.set_cons_succ]
              refine J_done (by kernel_rfl) ?_ _
              exact ⟨rfl, rfl⟩
            rw [HE7.out]
            have HSW : Hid (Oq w A ((w4.setCell ⟨G, v, none⟩ (.int .i64 ((u : Int) + 1))).drew.drew) m n q L.length P5 P7 P8 G5 c5 G Bx W7.heap.size (all (parts m n 1) m) z4 z5 (L ++ [v])) := Lib.hid HSY.out
            clear HSY HS5 HS19 j0 j1 j2 j3 j4 j4b hfr hfr2 HE7 hu hul
            revert HSW
            generalize (w4.setCell ⟨G, v, none⟩ (.int .i64 ((u : Int) + 1))).drew.drew = w6
            intro HSW
            have c8 := HSW.out.b8.cell
            have f8 := HSW.out.b8.frozen
            rw [hkk] at c8
            have HSZ := Lib.hid (HSW.out.next' HAP.out (k + 1) ((k : Int) + 1) (by omega))
            have HCN : Hid ((curS m pre ⟨z0, z1, z2, z3, z4, z5⟩ r (c + 1)).length = k + 1) := Lib.hid (by rw [HCS2.out, List.length_append, hkk]; rfl)
            have HS9 : Hid (Oq w A (w6.setCell ⟨P8, 0, none⟩ (.int .i64 ((k : Int) + 1))) m n q (curS m pre ⟨z0, z1, z2, z3, z4, z5⟩ r (c + 1)).length P5 P7 P8 G5 c5 G Bx W7.heap.size (all (parts m n 1) m) z4 z5 (curS m pre ⟨z0, z1, z2, z3, z4, z5⟩ r (c + 1))) := Lib.hid (by
              rw [HCN.out, HCS2.out]; exact HSZ.out)
            have hk4 : k ≤ 3600 := by omega
            clear HSW HSZ
            gi_wp2
            go_roundw
            case rel => exact ⟨c + 1, by omega, by go_num, HS9⟩
            case measure => simp [intOf]; omega
          · obtain rfl : c = z4 := by omega
            have HS7 : Hid (Oq w A _ m n q (curS m pre ⟨z0, z1, z2, z3, c, z5⟩ (r + 1) 0).length P5 P7 P8 G5 c5 G Bx W7.heap.size (all (parts m n 1) m) c z5 (curS m pre ⟨z0, z1, z2, z3, c, z5⟩ (r + 1) 0)) := Lib.hid (by rw [← curS_r]; exact HSQ.out)
            clear HSQ hc4
            gi_wp2
            go_roundw
            case rel => exact ⟨r + 1, by omega, by go_num, HS7⟩
            case measure => simp [intOf]; omega
      · obtain rfl : r = z5 := by omega
        have HE := Lib.hid (HEN.out _ HSQ.out)
        clear HSQ HEN hr5
        gi_wp2
        exact HE.out
  case hend =>
    rintro xs X' rfl ⟨h1, h2, h3, h4, h5, h6, h7, h8, h9, h10⟩ hK
    have hv := HVW.out
    have HQO : Hid (cnt q (all (parts m n 1) m) = List.replicate q 1) := Lib.hid (by rw [← HQ.out]; exact cnt_once m n)
    rw [HQO.out] at h7
    rw [HLN.out] at h8
    have cr := h3.cell
    have fr := h3.frozen
    have c5' := h4.cell
    have c7' := h6.cell
    have c8' := h8.cell
    have HRW := Lib.hid h7
    have HX3 := Lib.hid h3
    have HX9 := Lib.hid h9
    have HK := Lib.hid hK
    clear h1 h2 h3 h4 h5 h6 h7 h8 h9 h10 hit r0 r1 r2 r5 v5 r7 v7 r8 hbw hK
    gi_wp2_with fail
    gi_loopw [118] (fun i wr => ∃ k : Nat, k ≤ q ∧ i = .int .i64 (k : Nat) ∧ wr = X') (fun i _ => q - (intOf i).toNat)
    case atStart => exact ⟨0, by omega, rfl, rfl⟩
    case round =>
      obtain ⟨k, hk, rfl, rfl⟩ := hrel
      by_cases hlt : k < q
      · have c9 : wr.cell? ⟨G, k, none⟩ = some (.int .i64 1) := by
          have h := HRW.out.cellAt k (by omega)
          rw [ivs_get _ _ (by simp; exact hlt)] at h
          rw [h]
          simp [List.getD, List.getElem?_replicate, hlt]
        have dk : decide (k < q) = true := by simpa using hlt
        gi_wp2
        go_roundw
        case rel => exact ⟨k + 1, by omega, by go_num, trivial⟩
        case measure => simp [intOf]; omega
      · obtain rfl : q = k := by omega
        gi_wp2
        have hK' : (wr.setCell ⟨w.heap.size + 1 + 1, 0, none⟩ (.bool true)).heap[W7.heap.size]? = some (.deferred (some [])) := by
          rw [Below.heap_setCell wr ⟨w.heap.size + 1 + 1, 0, none⟩ _ _ (by have := HZ.out; simp only; omega)]
          exact HK.out
        refine ⟨by simp, .inl ⟨_, _, rfl, run_takeDeferred hK', ?_⟩⟩
        refine ⟨.bool true, res_b rfl _ _ (w.heap.size + 1 + 1) rfl ?_, rfl, ?_⟩
        · have h2 : Boxed (wr.setCell ⟨w.heap.size + 1 + 1, 0, none⟩ (.bool true)) (w.heap.size + 2) 4 (.bool true) := heap_setCell_same wr (w.heap.size + 2) 0 _ _ _ HX3.out
          exact (World.putObj_heap_other (fun e => by have := HZ.out; omega)).trans h2
        · have hb := HX9.out.setCell (p := ⟨w.heap.size + 1 + 1, 0, none⟩) (show w.heap.size ≤ w.heap.size + 1 + 1 by omega) (.bool true)
          exact hb.grown (grownBy_putObj' _ W7.heap.size (.deferred none)) hb.size (fun k e => by cases e; omega)
  case hout => exact fun _ _ _ _ h => h.elim
end Lc
end Go.Proofs.YtfdnjblbhbkndaaDoor
