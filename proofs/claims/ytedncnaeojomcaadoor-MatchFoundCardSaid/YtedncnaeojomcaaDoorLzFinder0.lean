/- match.NewFinder: its contract, wherever the text lies. -/
import Derived.Test.YtedncnaeojomcaaDoorLzFinderOk
namespace Go.Proofs.YtedncnaeojomcaaDoor
open Go.RowKit Go.Maps

theorem newForest0 (a : Option Addr) (cap : Nat) (w : World) :
    Calls Tryd.prog 34 #[.slice a 0 cap] w fun e w' => ∃ g, e = .returned (.pointer (some ⟨g, 0, none⟩)) ∧ Below w.heap.size w w' := by
  have hmm := @run_makeMap Tryd.prog
  go_enter Tryd.func34, Tryd.ntmps34
  go_wp2_with (at_make; refine wpl_make_full tySide rfl _ _ rfl (w.heap.size + 1) .i64 .i64 _ _ 0 rfl rfl rfl rfl (by omega) (by omega) (by simp) ?_)
  intro w2 own2 g2
  have b2 : Below w.heap.size w w2 := (below_alloc w (.map #[] 0)).grown g2 (by simp) (by simp)
  have HB := Lib.hid b2
  clear own2 g2 b2 hmm
  go_wp2
  go_ret
  exact ⟨_, rfl, below_then HB.out (below_alloc w2 _)⟩
theorem newFinder0 (a : Option Addr) (cap : Nat) (w : World) : Calls Tryd.prog 12 #[.slice a 0 cap] w (NfdPost w 0 []) := by
  go_enter Tryd.func12, Tryd.ntmps12
  go_wp2_with (at_make; refine wpl_make_full tyEnds rfl _ _ rfl w.heap.size .i64 .i64 _ _ 0 rfl rfl rfl rfl (by omega) (by omega) (by omega) ?_)
  intro w1 own1 g1
  have b1 : Below w.heap.size w w1 := (Below.refl _ _).grown g1 (Nat.le_refl _) (by simp)
  have hz1 : w.heap.size < w1.heap.size := (own1.lt w.heap.size rfl).2
  have HB := Lib.hid (below_then b1 (below_alloc w1 (.cells #[.slice none 0 0, .slice (some ⟨w.heap.size, 0, none⟩) 0 0] 75)))
  have HROW := Lib.hid (heap_alloc_last w1 (.cells #[.slice none 0 0, .slice (some ⟨w.heap.size, 0, none⟩) 0 0] 75))
  have O1 := Lib.hid (own_below own1 (below_alloc w1 (.cells #[.slice none 0 0, .slice (some ⟨w.heap.size, 0, none⟩) 0 0] 75)))
  clear own1 g1 b1
  go_wp2_with fail
  refine (newForest0 a cap _).mono ?_
  rintro e w3 ⟨g, rfl, hb3⟩
  have HP : Hid (NfdPost w 0 [] (.returned (.tuple #[.pointer (some ⟨w1.heap.size, 0, none⟩), .nilIface])) w3) := Lib.hid (by
    refine ⟨w1.heap.size, w.heap.size, .slice none 0 0, [], rfl, ⟨(hb3.block _ (by simp)).trans HROW.out, World.ownsRow_nil _ _ _ _, ⟨rfl, fun i hi => absurd hi (by omega)⟩, ?_, by omega, fun b hb => by simp [Value.ownBlock] at hb⟩, by omega, Nat.le_refl _, below_then HB.out hb3⟩
    have o3 := own_below O1.out hb3
    rcases o3.2 with ⟨h', _⟩ | ⟨g', cap', cur, h', hb', hg', hnc, hm', hsz, _⟩
    · simp at h'
    · simp only [Value.slice.injEq, Option.some.injEq, Addr.mk.injEq, and_true, true_and] at h'
      obtain ⟨rfl, rfl⟩ := h'
      exact ⟨cur, hg', by omega, fun i hi => absurd hi (by omega)⟩)
  generalize w1.heap.size = gf at *
  clear hb3 HROW O1 HB
  go_wp2
  go_loopw [20] (fun i wr => i = .int .i64 0 ∧ w3 = wr) (fun _ _ => 0)
  case atStart => exact ⟨rfl, rfl⟩
  case round =>
    obtain ⟨rfl, rfl⟩ := hrel
    go_wp2
    go_ret2
    exact HP.out
theorem newFinder_all (a : Option Addr) (N cap : Nat) (l : List UInt8) (w : World) (h : Bs w a N cap l) (hN : N ≤ 1048576) (hdb : Db w) (hdl : 0 < w.heap.size) :
    Calls Tryd.prog 12 #[.slice a N cap] w (NfdPost w N l) := by
  by_cases h0 : 0 < N
  · refine newFinder_any a N cap l w h hN (fun ad e => ?_) hdb hdl
    obtain ⟨b, off, e2, hlt, _⟩ := h.at' 0 h0
    rw [e] at e2
    cases e2
    exact hlt
  · obtain rfl : N = 0 := by omega
    have : l = [] := List.eq_nil_of_length_eq_zero h.hlen
    subst this
    exact newFinder0 a cap w
end Go.Proofs.YtedncnaeojomcaaDoor
