/- match.newForest: its contract. -/
import Derived.Test.YtedncnaeojomcaaDoorLzEs
import Derived.Test.YtedncnaeojomcaaDoorMade
import Derived.Test.YtedncnaeojomcaaDoorWalkIn
namespace Go.Proofs.YtedncnaeojomcaaDoor
open Go.RowKit Go.Maps

theorem tySide : RowTy Tryd.prog 97 102 (.agg #[.int .i32 0, .int .i32 0]) 2 8 := ⟨Tryd.underlying97, by kernel_rfl, rfl, by omega⟩
/-- A forest without places. -/
def NfPost (w : World) (a : Option Addr) (cap N : Nat) (l : List UInt8) (e : Ending) (w' : World) : Prop :=
  ∃ g mb bb, e = .returned (.pointer (some ⟨g, 0, none⟩)) ∧ En w' g mb bb a cap N 0 l 0 ∧ w.heap.size ≤ g ∧ w.heap.size ≤ mb ∧ w.heap.size ≤ bb ∧ Below w.heap.size w w'
set_option maxRecDepth 100000 in
set_option maxHeartbeats 4000000 in
theorem newForest_any (a : Option Addr) (N cap : Nat) (l : List UInt8) (w : World) (h : Bs w a N cap l) (hN : N ≤ 1048576) (ha : ∀ ad, a = some ad → ad.block < w.heap.size) :
    Calls Tryd.prog 34 #[.slice a N cap] w (NfPost w a cap N l) := by
  have H := Lib.hid h
  have hcap := h.hle
  clear h
  have hmm := @run_makeMap Tryd.prog
  go_enter Tryd.func34, Tryd.ntmps34
  go_wp2_with (at_make; refine wpl_make_full tySide rfl _ _ rfl (w.heap.size + 1) .i64 .i64 _ _ N rfl rfl rfl rfl (by omega) (by omega) (by simp) ?_)
  intro w2 own2 g2
  have b1 : Below w.heap.size w (w.alloc (.map #[] 0)) := below_alloc w _
  have b2 : Below w.heap.size w w2 := b1.grown g2 (by simp) (by simp)
  have b3 : Below w.heap.size w (w2.alloc (.cells #[.slice a N cap, .map (some w.heap.size), .slice (some ⟨w.heap.size + 1, 0, none⟩) N N] 99)) := below_then b2 (below_alloc w2 _)
  have hz2 : w.heap.size + 2 ≤ w2.heap.size := by have := (own2.lt (w.heap.size + 1) rfl).2; omega
  have HP : Hid (NfPost w a cap N l (.returned (.pointer (some ⟨w2.heap.size, 0, none⟩))) (w2.alloc (.cells #[.slice a N cap, .map (some w.heap.size), .slice (some ⟨w.heap.size + 1, 0, none⟩) N N] 99))) := Lib.hid (by
    refine ⟨_, w.heap.size, w.heap.size + 1, rfl, ⟨fun _ => -1, fun _ _ => 0, fun _ => .nil, ⟨heap_alloc_last w2 _, H.out.mono b3, ⟨.map [], ?_, fun k _ => ⟨fun h => ?_, fun _ => rfl⟩⟩, ?_, ?_, ?_, ?_, ?_, fun k => ?_⟩, Lz.fo_nil _ _, fun k _ => rfl⟩, ?_, ?_, ?_, b3⟩
    · exact ((World.ownsMap_made w Tryd.prog 46 (plainElem Tryd.prog 21)).kept g2 (by simp)).alloc _
    · have : Maps.has (.map [] : DataW Unit) (kl k) = false := rfl
      rw [this] at h; cases h
    · rcases own2.2 with ⟨h', _⟩ | ⟨g', cap', cur, h', hb', hg', hnc, hm', hsz, _⟩
      · simp at h'
      · simp only [Value.slice.injEq, Option.some.injEq, Addr.mk.injEq, and_true, true_and] at h'
        obtain ⟨rfl, rfl⟩ := h'
        have hc : ∀ j, j < 2 * N → cur[j]? = some (.int .i32 0) := fun j hj => by
          have := own2.cellAt j (by omega)
          rw [cell_of_row _ _ _ _ _ (0, 0) hg', made_all _ _ (.int .i32 0) (by simp) (fun i hi => by
            rcases (show i = 0 ∨ i = 1 by simp at hi; omega) with rfl | rfl <;> rfl)] at this
          rw [this, List.getElem?_replicate, if_pos (by omega)]
        refine ⟨cur, (Below.block (below_alloc w2 _) _ (by omega)).trans hg', by omega, fun x hx => ⟨hc _ (by omega), hc _ (by omega)⟩⟩
    · show w.heap.size ≠ w2.heap.size; omega
    · show w.heap.size + 1 ≠ w2.heap.size; omega
    · omega
    · intro ad e
      have := ha ad e
      exact ⟨by show ad.block ≠ w2.heap.size; omega, by omega, by omega⟩
    · omega
    · omega
    · omega
    · omega)
  clear own2 g2 b1 b2 b3 hmm
  go_wp2
  go_ret
  exact HP.out
end Go.Proofs.YtedncnaeojomcaaDoor
