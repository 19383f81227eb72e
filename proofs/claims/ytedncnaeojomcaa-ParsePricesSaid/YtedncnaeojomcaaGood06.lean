/- The document's Good. -/
import Derived.Test.YtedncnaeojomcaaTok06
namespace Go.Proofs.Ytedncnaeojomcaa
open Go.RowKit

theorem refGood06_any (t : Tok) (w : World) (hw : (Lit.int .i64 t.1).wf = true ∧ (Lit.int .i64 t.2).wf = true) :
    Calls Try.prog 10 #[.agg #[.int .i64 t.1, .int .i64 t.2]] w fun e w' => e = .returned (.bool (Tk.isTok t)) ∧ Below w.heap.size w w' := by
  obtain ⟨x, y⟩ := t
  have hb := Lib.hid (below_alloc w (.cells #[.int .i64 x, .int .i64 y] 31))
  clear hw
  by_cases h0 : x = 0
  · by_cases h1 : 0 ≤ y
    · by_cases h2 : y ≤ 255
      · have E := Lib.hid (show Tk.isTok (x, y) = true by simp only [Tk.isTok, h0, if_true]; exact decide_eq_true ⟨h1, h2⟩)
        have d0 : (x == 0) = true := by simpa using h0
        have d1 : decide (0 ≤ y) = true := by simpa using h1
        have d2 : decide (y < 256) = true := by simp; omega
        clear h0
        go_enter Try.func10, Try.ntmps10
        go_wp2
        go_ret
        exact ⟨by rw [E.out]; rfl, hb.out⟩
      · have E := Lib.hid (show Tk.isTok (x, y) = false by simp only [Tk.isTok, h0, if_true]; exact decide_eq_false (fun h => h2 h.2))
        have d0 : (x == 0) = true := by simpa using h0
        have d1 : decide (0 ≤ y) = true := by simpa using h1
        have d2 : decide (y < 256) = false := by simp; omega
        clear h0
        go_enter Try.func10, Try.ntmps10
        go_wp2
        go_ret
        exact ⟨by rw [E.out]; rfl, hb.out⟩
    · have E := Lib.hid (show Tk.isTok (x, y) = false by simp only [Tk.isTok, h0, if_true]; exact decide_eq_false (fun h => h1 h.1))
      have d0 : (x == 0) = true := by simpa using h0
      have d1 : decide (0 ≤ y) = false := by simpa using h1
      clear h0
      go_enter Try.func10, Try.ntmps10
      go_wp2
      go_ret
      exact ⟨by rw [E.out]; rfl, hb.out⟩
  have d0 : (x == 0) = false := by simpa using h0
  have hi : Tk.isTok (x, y) = decide (3 ≤ x ∧ x ≤ 258 ∧ 1 ≤ y ∧ y ≤ 32768) := by simp only [Tk.isTok, if_neg h0]
  by_cases h1 : 3 ≤ x
  · have d1 : decide (3 ≤ x) = true := by simpa using h1
    by_cases h2 : x ≤ 258
    · have d2 : decide (x ≤ 258) = true := by simpa using h2
      by_cases h3 : 1 ≤ y
      · have d3 : decide (1 ≤ y) = true := by simpa using h3
        by_cases h4 : y ≤ 32768
        · have d4 : decide (y ≤ 32768) = true := by simpa using h4
          have E := Lib.hid (hi.trans (decide_eq_true ⟨h1, h2, h3, h4⟩))
          clear hi
          go_enter Try.func10, Try.ntmps10
          go_wp2
          go_ret
          exact ⟨by rw [E.out]; rfl, hb.out⟩
        · have d4 : decide (y ≤ 32768) = false := by simpa using h4
          have E := Lib.hid (hi.trans (decide_eq_false (fun h => h4 h.2.2.2)))
          clear hi
          go_enter Try.func10, Try.ntmps10
          go_wp2
          go_ret
          exact ⟨by rw [E.out]; rfl, hb.out⟩
      · have d3 : decide (1 ≤ y) = false := by simpa using h3
        have E := Lib.hid (hi.trans (decide_eq_false (fun h => h3 h.2.2.1)))
        clear hi
        go_enter Try.func10, Try.ntmps10
        go_wp2
        go_ret
        exact ⟨by rw [E.out]; rfl, hb.out⟩
    · have d2 : decide (x ≤ 258) = false := by simpa using h2
      have E := Lib.hid (hi.trans (decide_eq_false (fun h => h2 h.2.1)))
      clear hi
      go_enter Try.func10, Try.ntmps10
      go_wp2
      go_ret
      exact ⟨by rw [E.out]; rfl, hb.out⟩
  · have d1 : decide (3 ≤ x) = false := by simpa using h1
    have E := Lib.hid (hi.trans (decide_eq_false (fun h => h1 h.1)))
    clear hi
    go_enter Try.func10, Try.ntmps10
    go_wp2
    go_ret
    exact ⟨by rw [E.out]; rfl, hb.out⟩
end Go.Proofs.Ytedncnaeojomcaa
