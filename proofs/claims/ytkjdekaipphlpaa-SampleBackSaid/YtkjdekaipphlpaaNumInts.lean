/- burnishnum.CopyInts, KeptInts: their contracts. -/
import Derived.Test.YtkjdekaipphlpaaIntsEq
import Derived.Test.YtkjdekaipphlpaaInts
import Derived.Deep.QuietTactic
import Derived.BigQuiet
import Derived.Test.YtkjdekaipphlpaaDrewN
namespace Go.Proofs.Ytkjdekaipphlpaa
open Go.RowKit

def CopyIPost (w : World) (len : Nat) (l : List Int) (e : Ending) (w' : World) : Prop :=
  ∃ g, e = .returned (.slice (some ⟨g, 0, none⟩) len (len + 1)) ∧ w'.ownsRow w.heap.size 3 1 (.slice (some ⟨g, 0, none⟩) (len + 1) (len + 1)) (len + 1) (ivs (l ++ [-77])) ∧ Below w.heap.size w w'
set_option maxHeartbeats 400000 in
theorem copyI_any (a : Option Addr) (len cap : Nat) (l : List Int) (w : World) (h : Is .i64 w a len cap l) (hr : len * 8 ≤ 140737488351232) :
    Calls Try.prog 9 #[.slice a len cap] w (CopyIPost w len l) := by
  have HL := Lib.hid h.hlen
  go_enter Try.func9, Try.ntmps9
  go_wp2_with (at_make; refine wpl_make tyI rfl _ _ rfl w.heap.size .i64 .i64 _ (len + 1) rfl rfl (by omega) (by omega) (by omega) (Nat.le_refl _) ?_)
  intro w1 hown1 hg1
  have hb1 : Below w.heap.size w w1 := (Below.refl _ _).grown hg1 (Nat.le_refl _) (by simp)
  have hz1 := hb1.size
  have hs1 := (h.mono hb1).src
  go_wp2_with (at_builtin; refine wpl_fits tyI rfl _ _ rfl hown1 hs1 rfl rfl (by omega) ?_)
  intro w2 hown2 hg2
  have hb2 : Below w.heap.size w w2 := hb1.grown hg2 hz1 (by simp)
  have hz2 := hb2.size
  have hs2 : SrcRow (w2.alloc (.cells #[Value.int .i64 (-77)] 3)) (some ⟨w2.heap.size, 0, none⟩) 1 1 (ivs [-77]) 1 := src_int w2 (-77)
  go_wp2_with (at_builtin; refine wpl_fits tyI rfl _ _ rfl (hown2.alloc _) hs2 rfl rfl (by omega) ?_)
  intro w3 hown3 hg3
  have hb3 : Below w.heap.size w w3 := (hb2.alloc hz2 _).grown hg3 (by simp; omega) (by simp)
  rw [← ivs_append] at hown3
  clear hg1 hg2 hg3 hown1 hown2 hs1 hs2
  go_wp2
  go_ret
  exact ⟨_, rfl, hown3, hb3⟩
theorem wf_mark {l : List Int} (h : Wf l) : Wf (l ++ [-77]) := by
  intro n hn
  rcases List.mem_append.1 hn with h1 | h1
  · exact h n h1
  · simp only [List.mem_singleton] at h1
    subst h1; rfl
theorem keptI_any (g len : Nat) (a : Option Addr) (cap : Nat) (l : List Int) (w : World) (base : Nat) (hr : len * 8 ≤ 140737488351232) (hw : Wf l)
    (hown : w.ownsRow base 3 1 (.slice (some ⟨g, 0, none⟩) (len + 1) (len + 1)) (len + 1) (ivs (l ++ [-77]))) (h : Is .i64 w a len cap l) :
    Calls Try.prog 13 #[.slice (some ⟨g, 0, none⟩) len (len + 1), .slice a len cap] w fun e w' => e = .returned (.bool true) ∧ ∃ n, w' = w.drewN n := by
  have hlen := h.hlen
  have hm := is_of_own hown (l := l ++ [-77]) (wf_mark hw) 0 len (len + 1) (by omega) (by omega)
  rw [List.drop_zero, List.take_append_of_le_length (by omega), List.take_of_length_le (by omega)] at hm
  have e1 : w.cell? ⟨g, len, none⟩ = some (.int .i64 (-77)) := by
    rw [hown.cellAt len (by omega), ivs_get _ _ (by simp; omega)]; simp [← hlen]
  have HM := Lib.hid hm
  have HA := Lib.hid h
  clear hm hown hlen h
  go_enter Try.func13, Try.ntmps13
  go_wp2_with fail
  refine (ints_any _ _ _ _ _ _ l l w HM.out HA.out (by omega) (by omega)).mono ?_
  rintro e w' ⟨rfl, dn, rfl⟩
  rw [show decide (l = l) = true from decide_eq_true rfl]
  go_wp2
  go_ret
  exact ⟨rfl, _, rfl⟩
end Go.Proofs.Ytkjdekaipphlpaa
