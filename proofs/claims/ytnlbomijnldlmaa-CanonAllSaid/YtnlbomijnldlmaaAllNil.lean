/- (*Book).All at a nil book: the iterator's contract. -/
import Derived.Test.YtnlbomijnldlmaaInOrder
import Derived.Test.YtnlbomijnldlmaaCanonCodesOf
namespace Go.Proofs.Ytnlbomijnldlmaa
open Go.RowKit Go.Shelf
attribute [local go_sem] Oper.semAt_some
namespace Bk
theorem grown_of_below {W W' : World} (h : Below W.heap.size W W') : W.grownBy W' none := ⟨h.os, h.tape, h.output, h.size, fun k hk _ => h.block k hk⟩
theorem all_in (F : Fence) (n : Nat) (h5 : F.fn 35) (hro : F.round = none) (p : Value) (w : World) (hp : p = .pointer none ∨ ∃ g, p = .pointer (some ⟨g, 0, none⟩)) :
    CallsIn F n Try.prog 35 #[p] w fun e w' => e = .returned (.func (.func 53) #[] #[.pointer (some ⟨w.heap.size, 0, none⟩)]) ∧ w' = w.alloc (.cells #[p] 50) := by
  refine callsIn_of_wp Try.func35 rfl h5 ?_ hro
  simp only [Try.ntmps35, List.size_toArray, List.length_cons, List.length_nil, Nat.reduceAdd, Nat.reduceSub, Array.replicate_succ, Array.replicate_zero, List.push_toArray, List.append_toArray, List.nil_append, List.cons_append]
  rcases hp with rfl | ⟨g, rfl⟩
  · gi_wp2
    go_ret
    exact ⟨rfl, rfl⟩
  · gi_wp2
    go_ret
    exact ⟨rfl, rfl⟩
theorem em_none (x : Em noRows) : False := by
  have h := x.mem
  rw [show seq noRows 17 = [] from by decide] at h
  exact absurd h (by simp)
set_option maxRecDepth 100000 in
set_option maxHeartbeats 2000000 in
theorem all1_nil (n : Nat) (hn : 2 ≤ n) (y X : Nat) (W : World) (hx : W.cell? ⟨X, 0, none⟩ = some (.pointer none)) (hXl : X < W.heap.size) :
    CallsIn Fence.wide n Try.prog 53 #[.func (.yield y) #[] #[], .pointer (some ⟨X, 0, none⟩)] W fun e W' => (∃ v, e = .returned v) ∧ Below W.heap.size W W' := by
  have hro : (Fence.wide).round = none := rfl
  refine callsIn_of_wp_marks Try.func53 rfl trivial ?_ hro
  simp only [Try.ntmps53, List.size_toArray, List.length_cons, List.length_nil, Nat.reduceAdd, Nat.reduceSub, Array.replicate_succ, Array.replicate_zero, List.push_toArray, List.append_toArray, List.nil_append, List.cons_append]
  have hx1 : (W.alloc (.cells #[.func (.yield y) #[] #[]] 107)).cell? ⟨X, 0, none⟩ = some (.pointer none) := by
    rw [(below_alloc W _).cell (p := ⟨X, 0, none⟩) hXl]; exact hx
  gi_wp2_with fail
  refine ⟨trivial, fun _ => by omega, (inOrder_in Fence.wide (n - 1) trivial rfl (.pointer none) _ (.inl rfl)).mono ?_⟩
  rintro e w' ⟨rfl, rfl⟩
  gi_wp2
  have hb5 := below_alloc2 W (.cells #[.func (.yield y) #[] #[]] 107) (.cells #[.pointer none] 50)
  have hy5 : Boxed ((W.alloc (.cells #[.func (.yield y) #[] #[]] 107)).alloc (.cells #[.pointer none] 50)) (W.heap.size + 1) 50 (.pointer none) := heap_alloc2_new _ _ _
  revert hb5 hy5
  generalize (W.alloc (.cells #[.func (.yield y) #[] #[]] 107)).alloc (.cells #[.pointer none] 50) = W5
  intro hb5 hy5
  have hstp := inOrder_stops_nil Fence.wide (n - 1) trivial rfl (W.heap.size + 1) (fun _ => False) W5 hy5.cell hy5.lt
  refine wpIn_rangeFunc_ownH rfl (by omega) (gf := 54) (lb := #[.pointer (some ⟨W.heap.size + 1, 0, none⟩)]) rfl trivial (enters_of Try.func54 (by kernel_rfl) rfl)
      hstp ?hKt ?hKb (Below.refl _ _) (fun _ => rfl)
      (fun _ W' => Below W.heap.size W W')
      (fun _ _ _ => False) ?hI (fun _ _ _ _ _ hs _ _ => hs) hb5
      (fun _ _ _ => True) (fun _ _ _ _ _ _ _ _ _ => trivial) ?assign ?body ?done ?stop
  case hKt => exact fun h1 h2 => h1.trans h2
  case hKb => exact fun W l o o' _ hl hc _ => Kc.put W l o o' hl hc
  case hI => exact ownFrom_below (Nat.le_refl _) hb5.size
  case assign => exact fun _ _ x _ _ _ _ => (em_none x).elim
  case body => exact fun _ _ x _ _ _ _ _ _ _ => (em_none x).elim
  case done =>
    rintro D ys W' hD hS h1 hK
    have HP := Lib.hid (h1.grown (grownBy_putObj' W' D (.deferred none)) h1.size (fun r e => by cases e; have := hb5.size; omega))
    clear h1 hstp
    gi_wp2
    refine ⟨by simp, .inl ⟨_, _, rfl, run_takeDeferred hK, ?_⟩⟩
    exact ⟨_, results_none rfl _ _ _, ⟨_, rfl⟩, by exact HP.out⟩
  case stop =>
    rintro D c pre W _ _ h _
    exact h.elim
theorem all_stops_nil {α : Type} (n : Nat) (hn : 2 ≤ n) (X : Nat) (encs : α → Array Value) (Kp : World → World → Prop) (w : World) (hx : w.cell? ⟨X, 0, none⟩ = some (.pointer none)) (hXl : X < w.heap.size) :
    SeqStopsK Fence.wide n Try.prog 53 #[.pointer (some ⟨X, 0, none⟩)] encs Kp (fun ys => ys = []) (fun _ => True) 0 w := fun y J Jx W hW hJ _ hY h0 => by
  refine (all1_nil n hn y X W ((hW.cell (p := ⟨X, 0, none⟩) hXl).trans hx) (Nat.lt_of_lt_of_le hXl hW.size)).mono ?_
  rintro e W' ⟨he, hb⟩
  exact ⟨he, .inl ⟨[], rfl, hJ [] W W' none h0 (grown_of_below hb) (fun r e => by cases e)⟩⟩
end Bk
end Go.Proofs.Ytnlbomijnldlmaa
