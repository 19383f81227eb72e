import Derived.Test.YtkjdekaipphlpaaProg
import Derived.Test.YtkjdekaipphlpaaTyB
import Derived.Test.YtkjdekaipphlpaaBase
namespace Go.Proofs.Ytkjdekaipphlpaa
open Go.RowKit


def CopyPost (w : World) (len : Nat) (l : List UInt8) (e : Ending) (w' : World) : Prop :=
  ∃ g, e = .returned (.slice (some ⟨g, 0, none⟩) len (len + 2)) ∧ w'.ownsRow w.heap.size 5 1 (.slice (some ⟨g, 0, none⟩) (len + 2) (len + 2)) (len + 2) (bvs (l ++ [165, 90])) ∧ Below w.heap.size w w'

set_option maxHeartbeats 400000 in
theorem copy_any (a : Option Addr) (len cap : Nat) (l : List UInt8) (w : World) (h : Bs w a len cap l) (hr : len ≤ 140737488355328) :
    Calls Try.prog 16 #[.slice a len cap] w (CopyPost w len l) := by
  have hc := h.hcap
  have hle := h.hle
  have HL := Lib.hid h.hlen
  go_enter Try.func16, Try.ntmps16
  go_wp2_with (at_make; refine wpl_make tyB rfl _ _ rfl w.heap.size .i64 .i64 _ (len + 2) rfl rfl (by omega) (by omega) (by omega) (Nat.le_refl _) ?_)
  intro w1 hown1 hg1
  have hb1 : Below w.heap.size w w1 := (Below.refl _ _).grown hg1 (Nat.le_refl _) (by simp)
  have hz1 := hb1.size
  have hs1 := (h.mono hb1).src
  go_wp2_with (at_builtin; refine wpl_fits tyB rfl _ _ rfl hown1 hs1 rfl rfl (by omega) ?_)
  intro w2 hown2 hg2
  have hb2 : Below w.heap.size w w2 := hb1.grown hg2 hz1 (by simp)
  have hz2 := hb2.size
  have hs2 : SrcRow (w2.alloc (.cells #[Value.int IntKind.u8 165, Value.int IntKind.u8 90] 5)) (some ⟨w2.heap.size, 0, none⟩) 2 2 (bvs [165, 90]) 1 := src_new w2 _ 5 2 2 1 rfl (bvs_one [165, 90])
  go_wp2_with (at_builtin; refine wpl_fits tyB rfl _ _ rfl (hown2.alloc _) hs2 rfl rfl (by omega) ?_)
  intro w3 hown3 hg3
  have hb3 : Below w.heap.size w w3 := (hb2.alloc hz2 _).grown hg3 (by simp; omega) (by simp)
  rw [← bvs_append] at hown3
  clear hg1 hg2 hg3 hown1 hown2 hs1 hs2
  go_wp2
  go_ret
  exact ⟨_, rfl, hown3, hb3⟩

theorem kept_any (g len : Nat) (a : Option Addr) (cap : Nat) (l : List UInt8) (w : World) (base : Nat) (hr : len ≤ 140737488355328)
    (hown : w.ownsRow base 5 1 (.slice (some ⟨g, 0, none⟩) (len + 2) (len + 2)) (len + 2) (bvs (l ++ [165, 90]))) (h : Bs w a len cap l) :
    Calls Try.prog 19 #[.slice (some ⟨g, 0, none⟩) len (len + 2), .slice a len cap] w fun e w' => e = .returned (.bool true) ∧ w = w' := by
  have hc := h.hcap
  have hle := h.hle
  have hlen := h.hlen
  have hm := bs_of_own hown (by omega) len (by omega)
  rw [List.take_append_of_le_length (by omega), List.take_of_length_le (by omega)] at hm
  have c1 := conv_bs (P := Try.prog) hm 23 9 5 Try.underlying23 Try.underlying5 Try.underlying9
  have c2 := conv_bs (P := Try.prog) h 23 9 5 Try.underlying23 Try.underlying5 Try.underlying9
  have e1 : w.cell? ⟨g, len, none⟩ = some (.int .u8 165) := by
    rw [hown.cellAt len (by omega), bvs_get _ _ (by simp; omega), gb]; simp [← hlen]
  have e2 : w.cell? ⟨g, len + 1, none⟩ = some (.int .u8 90) := by
    rw [hown.cellAt (len + 1) (by omega), bvs_get _ _ (by simp; omega), gb]; simp [← hlen]
  clear hm hown
  have HL := Lib.hid hlen
  clear hlen
  go_enter Try.func19, Try.ntmps19
  go_wp2
  go_ret
  exact ⟨rfl, rfl⟩
end Go.Proofs.Ytkjdekaipphlpaa
