/- A book; (*Book).word, Length: their contracts. -/
import Derived.Test.YtnlbomijnldlmaaBookNew
import Derived.Test.YtnlbomijnldlmaaBookRead
namespace Go.Proofs.Ytnlbomijnldlmaa
open Go.RowKit

namespace Bk
/-- A book that lies below S. -/
def Book (w : World) (S g : Nat) (R : Nat → List Nat) (ws : List (Nat × Nat)) : Prop :=
  ∃ (w0 : World) (B : Nat) (fs : Nat → Int) (vs : Nat → Value) (wv : Value), (∀ n, n < 17 → fs n = (fst R n : Nat)) ∧ NB w0 B g fs vs wv (nx R 17 : Nat) R ws ∧ S = w0.heap.size ∧ Below S w0 w
theorem Book.of {w : World} {B g : Nat} {fs : Nat → Int} {vs : Nat → Value} {wv : Value} {R : Nat → List Nat} {ws : List (Nat × Nat)} (h : NB w B g fs vs wv (nx R 17 : Nat) R ws) (hf : ∀ n, n < 17 → fs n = (fst R n : Nat)) : Book w w.heap.size g R ws :=
  ⟨w, B, fs, vs, wv, hf, h, rfl, Below.refl _ _⟩
theorem Book.below {w w' : World} {S g : Nat} {R : Nat → List Nat} {ws : List (Nat × Nat)} (h : Book w S g R ws) (hb : Below S w w') : Book w' S g R ws := by
  obtain ⟨w0, B, fs, vs, wv, h1, h2, h3, h4⟩ := h
  exact ⟨w0, B, fs, vs, wv, h1, h2, h3, h4.trans hb⟩
theorem Book.size {w : World} {S g : Nat} {R : Nat → List Nat} {ws : List (Nat × Nat)} (h : Book w S g R ws) : S ≤ w.heap.size := by
  obtain ⟨w0, B, fs, vs, wv, h1, h2, h3, h4⟩ := h
  rw [h3]; exact h4.size
theorem Book.mono {w w' : World} {S g : Nat} {R : Nat → List Nat} {ws : List (Nat × Nat)} (h : Book w S g R ws) (hb : Below w.heap.size w w') : Book w' S g R ws := h.below (hb.mono h.size)
theorem Book.nb {w : World} {S g : Nat} {R : Nat → List Nat} {ws : List (Nat × Nat)} (h : Book w S g R ws) : ∃ (B : Nat) (fs : Nat → Int) (vs : Nat → Value) (wv : Value), (∀ n, n < 17 → fs n = (fst R n : Nat)) ∧ NB w B g fs vs wv (nx R 17 : Nat) R ws := by
  obtain ⟨w0, B, fs, vs, wv, h1, h2, h3, h4⟩ := h
  exact ⟨B, fs, vs, wv, h1, h2.mono (by rw [← h3]; exact h4)⟩
/-- The code and the length of whatever number. -/
def wAt (ws : List (Nat × Nat)) (s : Int) : Nat × Nat := if 0 ≤ s then ws.getD s.toNat (0, 0) else (0, 0)
theorem wvs_get (ws : List (Nat × Nat)) (i : Nat) (h : i < ws.length) : (wvs ws)[i * 2]? = some (.int .i64 ((ws.getD i (0, 0)).1 : Nat)) ∧ (wvs ws)[i * 2 + 1]? = some (.int .i64 ((ws.getD i (0, 0)).2 : Nat)) := by
  induction ws generalizing i with
  | nil => simp at h
  | cons p ws ih =>
    have e : wvs (p :: ws) = .int .i64 (p.1 : Nat) :: .int .i64 (p.2 : Nat) :: wvs ws := rfl
    cases i with
    | zero => rw [e]; exact ⟨rfl, rfl⟩
    | succ i =>
      rw [e, show (i + 1) * 2 = i * 2 + 2 by omega]
      have := ih i (by simpa using h)
      simpa [List.getD] using this
/-- What comes back of a cell of two numbers. -/
theorem res_word (fn : Func) (hf : fn.results = #[.cell 4 81]) (tmps : Array Value) (w : World) (g : Nat) (c n : Int) (fr : Nat × Nat) (hp : tmps.getD 4 undef = .pointer (some ⟨g, 0, none⟩)) (hg : w.heap[g]? = some (.cells #[.int .i64 c, .int .i64 n] 81 fr)) :
    (results fn tmps).run Try.prog w = .ok (.agg #[.int .i64 c, .int .i64 n]) w :=
  results_cell_row hf tmps w g _ _ fr _ hp hg Try.underlying81 rfl (by kernel_rfl)
theorem word_nil (w : World) (s : Int) : Calls Try.prog 42 #[.pointer none, .int .i64 s] w fun e w' => e = .returned (.agg #[.int .i64 0, .int .i64 0]) ∧ Below w.heap.size w w' := by
  go_enter Try.func42, Try.ntmps42
  go_wp2
  exact bodyPost_ret (res_word _ rfl _ _ _ 0 0 _ rfl (heap_alloc_last w _)) rfl ⟨rfl, below_alloc w _⟩
theorem word_any (w : World) (S g : Nat) (R : Nat → List Nat) (ws : List (Nat × Nat)) (h : Book w S g R ws) (hl : ws.length ≤ 1000000000) (s : Int) :
    Calls Try.prog 42 #[.pointer (some ⟨g, 0, none⟩), .int .i64 s] w fun e w' => e = .returned (.agg #[.int .i64 ((wAt ws s).1 : Nat), .int .i64 ((wAt ws s).2 : Nat)]) ∧ Below w.heap.size w w' := by
  obtain ⟨B, fs, vs, wv, hf, hn⟩ := h.nb
  have hcw := hn.cW
  obtain ⟨wa, wc, hwv⟩ : ∃ wa wc, wv = .slice wa ws.length wc := by
    rcases own_nil_or hn.words with ⟨h1, h2⟩ | ⟨wb, wc, h1, _⟩
    · exact ⟨none, 0, by rw [h1, h2]⟩
    · exact ⟨_, wc, h1⟩
  subst hwv
  by_cases hneg : s < 0
  · have d1 : decide (s < 0) = true := by simpa using hneg
    have e : wAt ws s = (0, 0) := by unfold wAt; rw [if_neg (by omega)]
    rw [e]
    clear hneg e hn h
    go_enter Try.func42, Try.ntmps42
    go_wp2
    exact bodyPost_ret (res_word _ rfl _ _ _ 0 0 _ rfl (heap_alloc_last w _)) rfl ⟨rfl, below_alloc w _⟩
  · obtain ⟨i, rfl⟩ := Int.eq_ofNat_of_zero_le (show 0 ≤ s by omega)
    have d0 : decide ((i : Int) < 0) = false := by simp
    have hcw2 : (w.alloc (.cells #[.int .i64 0, .int .i64 0] 81)).cell? ⟨g, 34, none⟩ = some (.slice wa ws.length wc) := by rw [(below_alloc w _).cell (p := ⟨g, 34, none⟩) hn.lt]; exact hcw
    by_cases hi : ws.length ≤ i
    · have d1 : decide (ws.length ≤ i) = true := by simpa using hi
      have e : wAt ws (i : Int) = (0, 0) := by
        unfold wAt
        rw [if_pos (by omega), Int.toNat_natCast, List.getD, List.getElem?_eq_none hi]; rfl
      rw [e]
      clear hneg e hn h hi
      go_enter Try.func42, Try.ntmps42
      go_wp2
      exact bodyPost_ret (res_word _ rfl _ _ _ 0 0 _ rfl (heap_alloc_last w _)) rfl ⟨rfl, below_alloc w _⟩
    · have d1 : decide (ws.length ≤ i) = false := by simpa using hi
      have e : wAt ws (i : Int) = ws.getD i (0, 0) := by unfold wAt; rw [if_pos (by omega), Int.toNat_natCast]
      rw [e]
      obtain ⟨wb, rfl⟩ : ∃ wb, wa = some ⟨wb, 0, none⟩ := by
        rcases own_nil_or hn.words with ⟨_, h2⟩ | ⟨wb, wc', h1, _⟩
        · omega
        · simp only [Value.slice.injEq] at h1; exact ⟨wb, h1.1⟩
      obtain ⟨g1, g2⟩ := wvs_get ws i (by omega)
      have hwc := hn.words.cells rfl
      have e0 : w.cell? ⟨wb, i * 2, none⟩ = some (.int .i64 ((ws.getD i (0, 0)).1 : Nat)) := by have := hwc _ _ g1; rwa [Addr.add_mid, Nat.zero_add] at this
      have e1 : w.cell? ⟨wb, i * 2 + 1, none⟩ = some (.int .i64 ((ws.getD i (0, 0)).2 : Nat)) := by have := hwc _ _ g2; rwa [Addr.add_mid, Nat.zero_add] at this
      have hlt := (hn.words.lt wb rfl).2
      have b0 : (w.alloc (.cells #[.int .i64 0, .int .i64 0] 81)).cell? ⟨wb, i * 2, none⟩ = some (.int .i64 ((ws.getD i (0, 0)).1 : Nat)) := by rw [(below_alloc w _).cell (p := ⟨wb, i * 2, none⟩) hlt]; exact e0
      have b1 : (w.alloc (.cells #[.int .i64 0, .int .i64 0] 81)).cell? ⟨wb, i * 2 + 1, none⟩ = some (.int .i64 ((ws.getD i (0, 0)).2 : Nat)) := by rw [(below_alloc w _).cell (p := ⟨wb, i * 2 + 1, none⟩) hlt]; exact e1
      clear hneg e hn h hwc g1 g2 hlt
      generalize (ws.getD i (0, 0)).1 = c at *
      generalize (ws.getD i (0, 0)).2 = n at *
      go_enter Try.func42, Try.ntmps42
      go_wp2
      exact bodyPost_ret (res_word _ rfl _ _ _ c n _ rfl (heap_alloc_last w _)) rfl ⟨rfl, below_alloc w _⟩
set_option maxRecDepth 100000 in
theorem length_any (w : World) (S g : Nat) (R : Nat → List Nat) (ws : List (Nat × Nat)) (h : Book w S g R ws) (hl : ws.length ≤ 1000000000) (s : Int) :
    Calls Try.prog 22 #[.pointer (some ⟨g, 0, none⟩), .int .i64 s] w fun e w' => e = .returned (.int .i64 ((wAt ws s).2 : Nat)) ∧ Below w.heap.size w w' := by
  have hfl : ∀ (c n : Int) (w : World), (Instr.field 81 (.agg #[.int .i64 c, .int .i64 n]) 1).run Try.prog w = .ok (.int .i64 n) w := fun _ _ _ => by kernel_rfl
  go_enter Try.func22, Try.ntmps22
  go_wp2_with fail
  refine (word_any w S g R ws h hl s).mono ?_
  rintro e w' ⟨rfl, hb⟩
  go_wp2
  go_ret
  exact ⟨rfl, hb⟩
set_option maxRecDepth 100000 in
theorem length_nil (w : World) (s : Int) : Calls Try.prog 22 #[.pointer none, .int .i64 s] w fun e w' => e = .returned (.int .i64 0) ∧ Below w.heap.size w w' := by
  have hfl : ∀ (c n : Int) (w : World), (Instr.field 81 (.agg #[.int .i64 c, .int .i64 n]) 1).run Try.prog w = .ok (.int .i64 n) w := fun _ _ _ => by kernel_rfl
  go_enter Try.func22, Try.ntmps22
  go_wp2_with fail
  refine (word_nil w s).mono ?_
  rintro e w' ⟨rfl, hb⟩
  go_wp2
  go_ret
  exact ⟨rfl, hb⟩
end Bk
end Go.Proofs.Ytnlbomijnldlmaa
