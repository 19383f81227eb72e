/- slices.Clone over bytes: its contract. -/
import Derived.Test.YtkjdekaipphlpaaTyB
import Derived.WalkSpells
import Derived.Lib.SliceRun
namespace Go.Proofs.Ytkjdekaipphlpaa
open Go.RowKit

def ClonePost (w : World) (len : Nat) (l : List UInt8) (e : Ending) (w' : World) : Prop :=
  ∃ v, e = .returned v ∧ w'.ownsRow w.heap.size 5 1 v len (bvs l) ∧ Below w.heap.size w w'
theorem clone_any (a : Option Addr) (len cap : Nat) (l : List UInt8) (w : World) (H : Bs w a len cap l) (hr : len ≤ 140737488355328) :
    Calls Try.prog 43 #[.slice a len cap] w (ClonePost w len l) := by
  cases a with
  | none =>
    obtain ⟨rfl, rfl⟩ := H.nil0 rfl
    have hl : l = [] := List.eq_nil_of_length_eq_zero H.hlen
    subst hl
    clear H
    have hnil : ∀ w, (binOp .eql 23 (.slice none 0 0) (.slice none 0 0)).run Try.prog w = .ok (.bool true) w := fun w => Lib.run_eql_slice_nil w _ 5 none 0 0 0 0 Try.underlying23
    go_enter Try.func43, Try.ntmps43
    go_wp2
    go_ret
    exact ⟨_, rfl, World.ownsRow_nil _ _ _ _, Below.refl _ _⟩
  | some ad =>
    have own0 := Lib.hid (own_new w w.heap.size 5 #[] [] (Nat.le_refl _) (by simp) 0 rfl rfl)
    have hsrc := (H.mono (below_alloc w (.cells #[] 5))).src
    have hle := H.hcap
    clear H
    have hnil : ∀ w, (binOp .eql 23 (.slice (some ad) len cap) (.slice none 0 0)).run Try.prog w = .ok (.bool false) w := fun w => Lib.run_eql_slice_nil w _ 5 (some ad) len cap 0 0 Try.underlying23
    go_enter Try.func43, Try.ntmps43
    go_wp2_with (at_builtin; refine wpl_append tyB rfl _ _ rfl own0.out hsrc rfl rfl (by omega) (by omega) (by simp) ?_)
    intro v1 w1 own1 hg1 _
    have hb1 : Below w.heap.size w w1 := (below_alloc w _).grown hg1 (by simp) (fun k hk => (own0.out.lt k hk).1)
    have H1 := Lib.hid own1
    clear own1 hg1 hsrc own0
    go_wp2
    go_ret
    exact ⟨_, rfl, by simpa [bvs] using H1.out, hb1⟩

end Go.Proofs.Ytkjdekaipphlpaa
