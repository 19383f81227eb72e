/- Runs in memory. -/
import Derived.Test.YtlbngaeimkhkgaaTks
import Derived.Test.YtlbngaeimkhkgaaBlkMath
namespace Go.Proofs.Ytlbngaeimkhkgaa
open Go.RowKit

theorem tyR : RowTy Try.prog 23 29 (.agg #[.int .i64 0, .int .i64 0]) 2 16 := ⟨Try.underlying23, by kernel_rfl, rfl, by omega⟩
theorem src_run (w : World) (t : Tok) : SrcRow (w.alloc (.cells #[.int .i64 t.1, .int .i64 t.2] 29)) (some ⟨w.heap.size, 0, none⟩) 1 1 (tks [t]) 2 :=
  src_new w #[.int .i64 t.1, .int .i64 t.2] 29 1 1 2 rfl (by intro u hu; simp at hu; rcases hu with rfl | rfl <;> rfl)
/-- A row of runs of the call's own reads as its runs. -/
theorem own_rs2 {w : World} {base n : Nat} {v : Value} {l : List Tok} (h : w.ownsRow base 29 2 v n (tks l)) (hw : ∀ i, i < n → (Lit.int .i64 (l.getD i (0, 0)).1).wf = true ∧ (Lit.int .i64 (l.getD i (0, 0)).2).wf = true) :
    ∃ a cap, v = .slice a n cap ∧ Ts2 w a n cap l := by
  have hn : l.length = n := by have := h.1; rw [tks_length] at this; omega
  rcases own_nil_or h with ⟨rfl, rfl⟩ | ⟨g, cap, rfl, hle, _⟩
  · exact ⟨none, 0, rfl, hn, Nat.le_refl _, fun _ => rfl, fun i hi => absurd hi (by omega), hw⟩
  · refine ⟨_, cap, rfl, hn, hle, fun e => by simp at e, fun i hi => ⟨g, 0, rfl, (h.lt g rfl).2, ?_⟩, hw⟩
    obtain ⟨t0, t1⟩ := tks_get l i (by omega)
    rw [Nat.zero_add, h.cellAt (i * 2) (by omega), h.cellAt (i * 2 + 1) (by omega)]
    exact ⟨t0, t1⟩
/-- What runBase answers. -/
def Bl.rb (y : Int) : Value := if 0 ≤ y ∧ y ≤ 18 then .tuple #[.int .i64 (Bl.base y : Nat), .int .i64 (Bl.bits y : Nat), .bool true] else .tuple #[.int .i64 0, .int .i64 0, .bool false]
theorem runBase_any (y : Int) (w : World) : Calls Try.prog 13 #[.int .i64 y] w fun e w' => e = .returned (Bl.rb y) ∧ w = w' := by
  by_cases h1 : 0 ≤ y ∧ y ≤ 18
  · have d1 : decide (y < 0) = false := decide_eq_false (by omega)
    have d2 : decide (19 ≤ y) = false := decide_eq_false (by omega)
    have HR : Hid (Bl.rb y = .tuple #[.int .i64 (Bl.base y : Nat), .int .i64 (Bl.bits y : Nat), .bool true]) := Lib.hid (by unfold Bl.rb; rw [if_pos h1])
    by_cases e6 : y = 16
    · subst e6
      go_enter Try.func13, Try.ntmps13
      go_wp2
      go_ret3
      exact ⟨by rw [HR.out]; rfl, rfl⟩
    · by_cases e7 : y = 17
      · subst e7
        go_enter Try.func13, Try.ntmps13
        go_wp2
        go_ret3
        exact ⟨by rw [HR.out]; rfl, rfl⟩
      · by_cases e8 : y = 18
        · subst e8
          go_enter Try.func13, Try.ntmps13
          go_wp2
          go_ret3
          exact ⟨by rw [HR.out]; rfl, rfl⟩
        · have d6 : (y == 16) = false := by simpa using e6
          have d7 : (y == 17) = false := by simpa using e7
          have d8 : (y == 18) = false := by simpa using e8
          have HB : Hid (Bl.base y = 1 ∧ Bl.bits y = 0) := Lib.hid (by unfold Bl.base Bl.bits; rw [if_neg e6, if_neg e7, if_neg e8, if_neg e6, if_neg e7, if_neg e8]; exact ⟨rfl, rfl⟩)
          clear h1 e6 e7 e8
          go_enter Try.func13, Try.ntmps13
          go_wp2
          go_ret3
          exact ⟨by rw [HR.out, HB.out.1, HB.out.2]; rfl, rfl⟩
  · have HR : Hid (Bl.rb y = .tuple #[.int .i64 0, .int .i64 0, .bool false]) := Lib.hid (by unfold Bl.rb; rw [if_neg h1])
    by_cases h2 : y < 0
    · have d1 : decide (y < 0) = true := decide_eq_true h2
      clear h1
      go_enter Try.func13, Try.ntmps13
      go_wp2
      go_ret3
      exact ⟨by rw [HR.out]; rfl, rfl⟩
    · have d1 : decide (y < 0) = false := decide_eq_false h2
      have d2 : decide (19 ≤ y) = true := decide_eq_true (by omega)
      clear h1
      go_enter Try.func13, Try.ntmps13
      go_wp2
      go_ret3
      exact ⟨by rw [HR.out]; rfl, rfl⟩
end Go.Proofs.Ytlbngaeimkhkgaa
