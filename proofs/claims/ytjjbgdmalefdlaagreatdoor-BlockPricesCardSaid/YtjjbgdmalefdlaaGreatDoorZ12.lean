/- Which symbols a token has: parse.symbols, and the document's Length and Dist. The document's symbol of a length. block's tokens: isToken, areTokens; a length's and a distance's symbol. -/
import Derived.Test.YtjjbgdmalefdlaaGreatDoorZ8
import Derived.Test.YtjjbgdmalefdlaaGreatDoorZ9
import Derived.Test.YtjjbgdmalefdlaaGreatDoorZ11
import Derived.Deep.QuietTactic
import Derived.BigQuiet
set_option linter.unusedSimpArgs false
set_option linter.unusedVariables false
section
namespace Go.Proofs.YtjjbgdmalefdlaaGreatDoor
open Go.RowKit
namespace Sy
/-- How many bases behind the first one aren't beyond. -/
def cntB (f : Nat → Nat × Nat) (m n : Nat) : Nat := ((List.range m).filter fun s => decide ((f (s + 1)).1 ≤ n)).length
def lsy (n : Nat) : Nat := cntB lb 28 n
def dsy (n : Nat) : Nat := cntB db 29 n
theorem cnt_of {f : Nat → Nat × Nat} {m n s : Nat} (hs : s ≤ m) (h1 : ∀ k, k < s → (f (k + 1)).1 ≤ n) (h2 : ∀ k, s ≤ k → k < m → n < (f (k + 1)).1) : cntB f m n = s := by
  obtain ⟨d, rfl⟩ : ∃ d, m = s + d := ⟨m - s, by omega⟩
  unfold cntB
  rw [List.range_add, List.filter_append, List.filter_eq_self.2 (fun a ha => by simpa using h1 a (List.mem_range.1 ha)), List.filter_eq_nil_iff.2 (fun a ha => by
    obtain ⟨b, hb, rfl⟩ := List.mem_map.1 ha
    have := h2 (s + b) (by omega) (by have := List.mem_range.1 hb; omega)
    simpa using this)]
  simp
theorem lb_mono : ∀ j, j < 29 → ∀ i, i ≤ j → (lb i).1 ≤ (lb j).1 := by decide +kernel
theorem db_mono : ∀ j, j < 30 → ∀ i, i ≤ j → (db i).1 ≤ (db j).1 := by decide +kernel
theorem lsy_of {n s : Nat} (hs : s ≤ 28) (h1 : (lb s).1 ≤ n) (h2 : s < 28 → n < (lb (s + 1)).1) : lsy n = s :=
  cnt_of hs (fun k hk => Nat.le_trans (lb_mono s (by omega) (k + 1) hk) h1) (fun k hk hm => Nat.lt_of_lt_of_le (h2 (by omega)) (lb_mono (k + 1) (by omega) (s + 1) (by omega)))
theorem dsy_of {n s : Nat} (hs : s ≤ 29) (h1 : (db s).1 ≤ n) (h2 : s < 29 → n < (db (s + 1)).1) : dsy n = s :=
  cnt_of hs (fun k hk => Nat.le_trans (db_mono s (by omega) (k + 1) hk) h1) (fun k hk hm => Nat.lt_of_lt_of_le (h2 (by omega)) (db_mono (k + 1) (by omega) (s + 1) (by omega)))
theorem cnt_le (f : Nat → Nat × Nat) (m n : Nat) : cntB f m n ≤ m := by
  unfold cntB
  have := List.length_filter_le (fun s => decide ((f (s + 1)).1 ≤ n)) (List.range m)
  simpa using this
end Sy
set_option maxHeartbeats 1000000 in
theorem refDist_any (n : Nat) (w : World) (h3 : 1 ≤ n) (hn : n ≤ 32768) :
    Calls Tryz.prog 26 #[.int .i64 (n : Nat)] w fun e w' => e = .returned (.int .i64 ((Sy.dsy n : Nat) : Int)) ∧ Below w.heap.size w w' := by
  go_enter Tryz.func26, Tryz.ntmps26
  go_wp2_with fail
  refine (dists_any w).mono ?_
  rintro e w1 ⟨g, h, rfl, h2, hb1⟩
  have HB := Lib.hid hb1
  have H2 := Lib.hid h2
  clear hb1 h2
  go_wp2
  go_loopw [5] (fun i wr => ∃ s : Nat, s ≤ 29 ∧ i = .int .i64 ((s : Nat) : Int) ∧ w1 = wr ∧ Hid (∀ k, k < s → (Sy.db (k + 1)).1 ≤ n)) (fun i _ => 30 - (intOf i).toNat)
  case atStart => exact ⟨0, by omega, rfl, rfl, Lib.hid (fun k hk => by omega)⟩
  case round =>
    obtain ⟨s, hs, rfl, rfl, HK⟩ := hrel
    by_cases h28 : s < 29
    · have d1 : decide ((s : Int) + 1 < 30) = true := by simp; omega
      have c1 := H2.out.fst (s + 1) (by omega)
      have dx : decide (s + 1 < 30) = true := by simp; omega
      by_cases hb : (Sy.db (s + 1)).1 ≤ n
      · have HK2 : Hid (∀ k, k < s + 1 → (Sy.db (k + 1)).1 ≤ n) := Lib.hid (fun k hk => by
          rcases Nat.lt_or_ge k s with h | h
          · exact HK.out k h
          · obtain rfl : k = s := by omega
            exact hb)
        generalize (Sy.db (s + 1)).1 = q at *
        have d2 : decide (q ≤ n) = true := by simp; omega
        go_wp2
        go_roundw
        case rel => exact ⟨s + 1, by omega, by go_num, trivial, HK2⟩
        case measure => simp [intOf]; omega
      · have HF : Hid (Sy.dsy n = s) := Lib.hid (by
          rw [Sy.dsy, Sy.cnt_of (f := Sy.db) (m := 29) (n := n) (s := s) (by omega) HK.out (fun k h1 h2 => Nat.lt_of_lt_of_le (by omega) (Sy.db_mono (k + 1) (by omega) (s + 1) (by omega)))])
        generalize (Sy.db (s + 1)).1 = q at *
        have d2 : decide (q ≤ n) = false := by simp; omega
        go_wp2
        go_ret
        exact ⟨by rw [HF.out]; rfl, HB.out⟩
    · obtain rfl : s = 29 := by omega
      have HF : Hid (Sy.dsy n = 29) := Lib.hid (by
        rw [Sy.dsy, Sy.cnt_of (f := Sy.db) (m := 29) (n := n) (s := 29) (by omega) HK.out (fun k h1 h2 => by omega)])
      go_wp2
      go_ret
      exact ⟨by rw [HF.out]; rfl, HB.out⟩
/-- A token's symbols. -/
def SyPost (t : Tok) (v : Value) : Prop := ∃ sv dv : Int, v = .tuple #[.int .i64 sv, .int .i64 dv, .bool (Tk.isTok t)] ∧ (Tk.isTok t = true → (t.1 = 0 → sv = t.2 ∧ dv = 0) ∧ (t.1 ≠ 0 → sv = ((257 + Sy.lsy t.1.toNat : Nat) : Int) ∧ dv = ((Sy.dsy t.2.toNat : Nat) : Int)))
set_option maxHeartbeats 2000000 in
theorem symbols_any09 (t : Tok) (w : World) (hw : (Lit.int .i64 t.1).wf = true ∧ (Lit.int .i64 t.2).wf = true) :
    Calls Tryz.prog 95 #[.agg #[.int .i64 t.1, .int .i64 t.2]] w fun e w' => (∃ v, SyPost t v ∧ e = .returned v) ∧ Below w.heap.size w w' := by
  obtain ⟨x, y⟩ := t
  have HW := Lib.hid hw
  have hb := below_alloc w (.cells #[.int .i64 x, .int .i64 y] 59)
  have hrow : (w.alloc (.cells #[.int .i64 x, .int .i64 y] 59)).heap[w.heap.size]? = some (.cells #[.int .i64 x, .int .i64 y] 59 (0, 0)) := heap_alloc_last w _
  have HB := Lib.hid hb
  have c0 : (w.alloc (.cells #[.int .i64 x, .int .i64 y] 59)).cell? ⟨w.heap.size, 0, none⟩ = some (.int .i64 x) := by rw [cell_of_row _ _ _ _ _ (0, 0) hrow]; rfl
  have c1 : (w.alloc (.cells #[.int .i64 x, .int .i64 y] 59)).cell? ⟨w.heap.size, 1, none⟩ = some (.int .i64 y) := by rw [cell_of_row _ _ _ _ _ (0, 0) hrow]; rfl
  clear hw hb hrow
  by_cases h0 : x = 0
  · subst h0
    have HT : Hid (Tk.isTok (0, y) = (decide (0 ≤ y) && decide (y < 256))) := Lib.hid (by
      simp only [Tk.isTok, if_true]
      by_cases h1 : 0 ≤ y <;> by_cases h2 : y < 256 <;> simp [h1, h2] <;> omega)
    have HBn : Hid (∀ n, Below w.heap.size w ((w.alloc (.cells #[.int .i64 0, .int .i64 y] 59)).drewN n)) := Lib.hid (fun n => below_then HB.out (drewN_is _ n))
    by_cases h1 : 0 ≤ y
    · have d1 : decide (0 ≤ y) = true := by simpa using h1
      have HE : Hid (SyPost (0, y) (.tuple #[.int .i64 y, .int .i64 0, .bool (decide (y < 256))])) := Lib.hid ⟨y, 0, by rw [HT.out, d1, Bool.true_and], fun _ => ⟨fun _ => ⟨rfl, rfl⟩, fun h => absurd rfl h⟩⟩
      clear h1
      go_enter Tryz.func95, Tryz.ntmps95
      go_wp2
      go_quiet (fail)
      go_wp2
      go_ret3
      exact ⟨⟨_, HE.out, rfl⟩, HBn.out _⟩
    · have d1 : decide (0 ≤ y) = false := by simpa using h1
      have HE : Hid (SyPost (0, y) (.tuple #[.int .i64 y, .int .i64 0, .bool false])) := Lib.hid ⟨y, 0, by rw [HT.out, d1, Bool.false_and], fun _ => ⟨fun _ => ⟨rfl, rfl⟩, fun h => absurd rfl h⟩⟩
      clear h1
      go_enter Tryz.func95, Tryz.ntmps95
      go_wp2
      go_quiet (fail)
      go_wp2
      go_ret3
      exact ⟨⟨_, HE.out, rfl⟩, HBn.out _⟩
  · have d0 : (x == 0) = false := by simpa using h0
    have HT : Hid (Tk.isTok (x, y) = decide (3 ≤ x ∧ x ≤ 258 ∧ 1 ≤ y ∧ y ≤ 32768)) := Lib.hid (by simp only [Tk.isTok]; rw [if_neg h0])
    have HN0 := Lib.hid h0
    clear h0
    go_enter Tryz.func95, Tryz.ntmps95
    go_wp2_with fail
    refine (lengthSymbol_any x _ HW.out.1).mono ?_
    rintro e w' ⟨⟨v1, hv1, rfl⟩, rfl⟩
    have hv1' : ∃ (s1 : Int) (b1 : Bool), v1 = .tuple #[.int .i64 s1, .bool b1] ∧ (b1 = decide (3 ≤ x ∧ x ≤ 258)) ∧ (b1 = true → s1 = ((257 + Sy.lsy x.toNat : Nat) : Int)) := by
      rcases hv1 with ⟨h, rfl⟩ | ⟨rfl, rfl⟩ | ⟨a, r, rfl, ha, hh, rfl⟩
      · exact ⟨_, _, rfl, by simp; omega, fun h => by cases h⟩
      · exact ⟨_, _, rfl, by decide, fun _ => by rw [show (258 : Int).toNat = 258 from rfl, Sy.lsy_of (n := 258) (s := 28) (by omega) (by decide) (fun h => by omega)]; rfl⟩
      · obtain ⟨q1, q2, q3⟩ := Sy.held4 ha hh
        refine ⟨_, _, rfl, by simp; omega, fun _ => ?_⟩
        rw [show ((a : Int) + 3).toNat = a + 3 by omega, Sy.lsy_of (n := a + 3) (s := r) (by omega) q2 (fun _ => q3)]
        omega
    obtain ⟨s1, b1, rfl, hb1, hs1⟩ := hv1'
    have HB1 := Lib.hid hb1
    have HS1 := Lib.hid hs1
    clear hv1 hb1 hs1
    go_wp2_with fail
    refine (distSymbol_any y _ HW.out.2).mono ?_
    rintro e w' ⟨⟨v2, hv2, rfl⟩, rfl⟩
    have hv2' : ∃ (s2 : Int) (b2 : Bool), v2 = .tuple #[.int .i64 s2, .bool b2] ∧ (b2 = decide (1 ≤ y ∧ y ≤ 32768)) ∧ (b2 = true → s2 = ((Sy.dsy y.toNat : Nat) : Int)) := by
      rcases hv2 with ⟨h, rfl⟩ | ⟨a, r, rfl, ha, hh, rfl⟩
      · exact ⟨_, _, rfl, by simp; omega, fun h => by cases h⟩
      · obtain ⟨q1, q2, q3⟩ := Sy.held2 ha hh
        refine ⟨_, _, rfl, by simp; omega, fun _ => ?_⟩
        rw [show ((a : Int) + 1).toNat = a + 1 by omega, Sy.dsy_of (n := a + 1) (s := r) (by omega) q2 q3]
    obtain ⟨s2, b2, rfl, hb2, hs2⟩ := hv2'
    have HE : Hid (SyPost (x, y) (.tuple #[.int .i64 s1, .int .i64 s2, .bool (b1 && b2)])) := Lib.hid ⟨s1, s2, by
      rw [HT.out, HB1.out, hb2]
      congr 4
      by_cases q1 : 3 ≤ x <;> by_cases q2 : x ≤ 258 <;> by_cases q3 : 1 ≤ y <;> by_cases q4 : y ≤ 32768 <;> simp [q1, q2, q3, q4], fun ht => ⟨fun h => absurd h HN0.out, fun _ => by
      rw [HT.out] at ht
      have ht' := of_decide_eq_true ht
      exact ⟨HS1.out (by rw [HB1.out]; exact decide_eq_true ⟨ht'.1, ht'.2.1⟩), hs2 (by rw [hb2]; exact decide_eq_true ⟨ht'.2.2.1, ht'.2.2.2⟩)⟩⟩⟩
    clear hv2 HB1 hb2 HS1 hs2 c0 c1
    obtain rfl | rfl : b1 = true ∨ b1 = false := by cases b1 <;> simp
    · rw [Bool.true_and] at HE
      go_wp2
      go_ret3
      exact ⟨⟨_, HE.out, rfl⟩, HB.out⟩
    · rw [Bool.false_and] at HE
      go_wp2
      go_ret3
      exact ⟨⟨_, HE.out, rfl⟩, HB.out⟩
end Go.Proofs.YtjjbgdmalefdlaaGreatDoor
end

section
namespace Go.Proofs.YtjjbgdmalefdlaaGreatDoor
open Go.RowKit
set_option maxHeartbeats 1000000 in
theorem refLength_any (n : Nat) (w : World) (h3 : 3 ≤ n) (hn : n ≤ 258) :
    Calls Tryz.prog 25 #[.int .i64 (n : Nat)] w fun e w' => e = .returned (.int .i64 ((257 + Sy.lsy n : Nat) : Int)) ∧ Below w.heap.size w w' := by
  go_enter Tryz.func25, Tryz.ntmps25
  go_wp2_with fail
  refine (lens_any w).mono ?_
  rintro e w1 ⟨g, h, rfl, h2, hb1⟩
  have HB := Lib.hid hb1
  have H2 := Lib.hid h2
  clear hb1 h2
  go_wp2
  go_loopw [5] (fun i wr => ∃ s : Nat, s ≤ 28 ∧ i = .int .i64 ((s : Nat) : Int) ∧ w1 = wr ∧ Hid (∀ k, k < s → (Sy.lb (k + 1)).1 ≤ n)) (fun i _ => 29 - (intOf i).toNat)
  case atStart => exact ⟨0, by omega, rfl, rfl, Lib.hid (fun k hk => by omega)⟩
  case round =>
    obtain ⟨s, hs, rfl, rfl, HK⟩ := hrel
    by_cases h28 : s < 28
    · have d1 : decide ((s : Int) + 1 < 29) = true := by simp; omega
      have c1 := H2.out.fst (s + 1) (by omega)
      have dx : decide (s + 1 < 29) = true := by simp; omega
      by_cases hb : (Sy.lb (s + 1)).1 ≤ n
      · have HK2 : Hid (∀ k, k < s + 1 → (Sy.lb (k + 1)).1 ≤ n) := Lib.hid (fun k hk => by
          rcases Nat.lt_or_ge k s with h | h
          · exact HK.out k h
          · obtain rfl : k = s := by omega
            exact hb)
        generalize (Sy.lb (s + 1)).1 = q at *
        have d2 : decide (q ≤ n) = true := by simp; omega
        go_wp2
        go_roundw
        case rel => exact ⟨s + 1, by omega, by go_num, trivial, HK2⟩
        case measure => simp [intOf]; omega
      · have HF : Hid (257 + Sy.lsy n = 257 + s) := Lib.hid (by
          rw [Sy.lsy, Sy.cnt_of (f := Sy.lb) (m := 28) (n := n) (s := s) (by omega) HK.out (fun k h1 h2 => Nat.lt_of_lt_of_le (by omega) (Sy.lb_mono (k + 1) (by omega) (s + 1) (by omega)))])
        generalize (Sy.lb (s + 1)).1 = q at *
        have d2 : decide (q ≤ n) = false := by simp; omega
        go_wp2
        go_ret
        exact ⟨by rw [HF.out]; congr 2, HB.out⟩
    · obtain rfl : s = 28 := by omega
      have HF : Hid (257 + Sy.lsy n = 257 + 28) := Lib.hid (by
        rw [Sy.lsy, Sy.cnt_of (f := Sy.lb) (m := 28) (n := n) (s := 28) (by omega) HK.out (fun k h1 h2 => by omega)])
      go_wp2
      go_ret
      exact ⟨by rw [HF.out]; rfl, HB.out⟩
end Go.Proofs.YtjjbgdmalefdlaaGreatDoor
end

section
namespace Go.Proofs.YtjjbgdmalefdlaaGreatDoor
open Go.RowKit

namespace Bc
def LsV (x : Int) (e : Ending) : Prop := ∃ s : Int, e = .returned (.tuple #[.int .i64 s, .bool (decide (3 ≤ x ∧ x ≤ 258))]) ∧ (3 ≤ x ∧ x ≤ 258 → s = ((257 + Sy.lsy x.toNat : Nat) : Int))
def DsV (y : Int) (e : Ending) : Prop := ∃ s : Int, e = .returned (.tuple #[.int .i64 s, .bool (decide (1 ≤ y ∧ y ≤ 32768))]) ∧ (1 ≤ y ∧ y ≤ 32768 → s = ((Sy.dsy y.toNat : Nat) : Int))
theorem lsym_any (x : Int) (w : World) (hw : (Lit.int .i64 x).wf = true) : Calls Tryz.prog 54 #[.int .i64 x] w fun e w' => LsV x e ∧ w = w' := by
  refine (lengthSymbol_any x w hw).mono ?_
  rintro e w' ⟨⟨v1, hv1, rfl⟩, rfl⟩
  refine ⟨?_, rfl⟩
  rcases hv1 with ⟨h, rfl⟩ | ⟨rfl, rfl⟩ | ⟨a, r, rfl, ha, hh, rfl⟩
  · exact ⟨0, by rw [decide_eq_false h], fun h' => absurd h' h⟩
  · exact ⟨285, rfl, fun _ => by rw [show (258 : Int).toNat = 258 from rfl, Sy.lsy_of (n := 258) (s := 28) (by omega) (by decide) (fun h => by omega)]; rfl⟩
  · obtain ⟨q1, q2, q3⟩ := Sy.held4 ha hh
    refine ⟨_, by rw [decide_eq_true (show 3 ≤ (a : Int) + 3 ∧ (a : Int) + 3 ≤ 258 by omega)], fun _ => ?_⟩
    rw [show ((a : Int) + 3).toNat = a + 3 by omega, Sy.lsy_of (n := a + 3) (s := r) (by omega) q2 (fun _ => q3)]
    omega
theorem dsym_any (y : Int) (w : World) (hw : (Lit.int .i64 y).wf = true) : Calls Tryz.prog 63 #[.int .i64 y] w fun e w' => DsV y e ∧ w = w' := by
  refine (distSymbol_any y w hw).mono ?_
  rintro e w' ⟨⟨v2, hv2, rfl⟩, rfl⟩
  refine ⟨?_, rfl⟩
  rcases hv2 with ⟨h, rfl⟩ | ⟨a, r, rfl, ha, hh, rfl⟩
  · exact ⟨0, by rw [decide_eq_false h], fun h' => absurd h' h⟩
  · obtain ⟨q1, q2, q3⟩ := Sy.held2 ha hh
    refine ⟨_, by rw [decide_eq_true (show 1 ≤ (a : Int) + 1 ∧ (a : Int) + 1 ≤ 32768 by omega)], fun _ => ?_⟩
    rw [show ((a : Int) + 1).toNat = a + 1 by omega, Sy.dsy_of (n := a + 1) (s := r) (by omega) q2 q3]
end Bc
set_option maxHeartbeats 2000000 in
theorem isToken_any (t : Tok) (w : World) (hw : (Lit.int .i64 t.1).wf = true ∧ (Lit.int .i64 t.2).wf = true) :
    Calls Tryz.prog 72 #[.agg #[.int .i64 t.1, .int .i64 t.2]] w fun e w' => e = .returned (.bool (Tk.isTok t)) ∧ Below w.heap.size w w' := by
  obtain ⟨x, y⟩ := t
  have HW := Lib.hid hw
  have HB := Lib.hid (below_alloc w (.cells #[.int .i64 x, .int .i64 y] 59))
  have hrow : (w.alloc (.cells #[.int .i64 x, .int .i64 y] 59)).heap[w.heap.size]? = some (.cells #[.int .i64 x, .int .i64 y] 59 (0, 0)) := heap_alloc_last w _
  have c0 : (w.alloc (.cells #[.int .i64 x, .int .i64 y] 59)).cell? ⟨w.heap.size, 0, none⟩ = some (.int .i64 x) := by rw [cell_of_row _ _ _ _ _ (0, 0) hrow]; rfl
  have c1 : (w.alloc (.cells #[.int .i64 x, .int .i64 y] 59)).cell? ⟨w.heap.size, 1, none⟩ = some (.int .i64 y) := by rw [cell_of_row _ _ _ _ _ (0, 0) hrow]; rfl
  clear hw hrow
  by_cases h0 : x = 0
  · subst h0
    have HT : Hid (Tk.isTok (0, y) = (decide (0 ≤ y) && decide (y ≤ 255))) := Lib.hid (by
      simp only [Tk.isTok, if_true]
      by_cases h1 : 0 ≤ y <;> by_cases h2 : y ≤ 255 <;> simp [h1, h2])
    by_cases h1 : 0 ≤ y
    · have d1 : decide (0 ≤ y) = true := by simpa using h1
      have HE : Hid (Tk.isTok (0, y) = decide (y ≤ 255)) := Lib.hid (by rw [HT.out, d1, Bool.true_and])
      clear h1
      go_enter Tryz.func72, Tryz.ntmps72
      go_wp2
      go_ret
      exact ⟨by rw [HE.out]; rfl, HB.out⟩
    · have d1 : decide (0 ≤ y) = false := by simpa using h1
      have HE : Hid (Tk.isTok (0, y) = false) := Lib.hid (by rw [HT.out, d1, Bool.false_and])
      clear h1
      go_enter Tryz.func72, Tryz.ntmps72
      go_wp2
      go_ret
      exact ⟨by rw [HE.out]; rfl, HB.out⟩
  · have d0 : (x == 0) = false := by simpa using h0
    have HT : Hid (Tk.isTok (x, y) = (decide (3 ≤ x ∧ x ≤ 258) && decide (1 ≤ y ∧ y ≤ 32768))) := Lib.hid (by
      simp only [Tk.isTok]; rw [if_neg h0]
      by_cases h1 : 3 ≤ x ∧ x ≤ 258 <;> by_cases h2 : 1 ≤ y ∧ y ≤ 32768
      · rw [decide_eq_true h1, decide_eq_true h2, decide_eq_true (by omega)]; rfl
      · rw [decide_eq_true h1, decide_eq_false h2, decide_eq_false (by omega)]; rfl
      · rw [decide_eq_false h1, decide_eq_true h2, decide_eq_false (by omega)]; rfl
      · rw [decide_eq_false h1, decide_eq_false h2, decide_eq_false (by omega)]; rfl)
    clear h0
    go_enter Tryz.func72, Tryz.ntmps72
    go_wp2_with fail
    refine (Bc.lsym_any x _ HW.out.1).mono ?_
    rintro e w' ⟨⟨s1, rfl, _⟩, rfl⟩
    have HT2 := HT
    clear HT
    generalize decide (3 ≤ x ∧ x ≤ 258) = b1 at *
    go_wp2_with fail
    refine (Bc.dsym_any y _ HW.out.2).mono ?_
    rintro e w' ⟨⟨s2, rfl, _⟩, rfl⟩
    generalize decide (1 ≤ y ∧ y ≤ 32768) = b2 at *
    cases b1
    · have HE : Hid (Tk.isTok (x, y) = false) := Lib.hid (by rw [HT2.out, Bool.false_and])
      clear HT2
      go_wp2
      go_ret
      exact ⟨by rw [HE.out]; rfl, HB.out⟩
    · have HE : Hid (Tk.isTok (x, y) = b2) := Lib.hid (by rw [HT2.out, Bool.true_and])
      clear HT2
      go_wp2
      go_ret
      exact ⟨by rw [HE.out]; rfl, HB.out⟩
set_option maxHeartbeats 2000000 in
theorem areTokens_any (a : Option Addr) (len cap : Nat) (ts : List Tok) (w : World) (h : Ts2 w a len cap ts) (hlen : len ≤ 1000000000) :
    Calls Tryz.prog 51 #[.slice a len cap] w fun e w' => e = .returned (.bool (ts.all Tk.isTok)) ∧ Below w.heap.size w w' := by
  have H := Lib.hid h
  have HLN := Lib.hid h.hlen
  clear h
  go_enter Tryz.func51, Tryz.ntmps51
  go_wp2
  go_loopw [7] (fun i wr => ∃ k : Nat, k ≤ len ∧ i = .int .i64 k ∧ Hid (Below w.heap.size w wr) ∧ Hid (∀ j, j < k → Tk.isTok (ts.getD j (0, 0)) = true)) (fun i _ => len - (intOf i).toNat)
  case atStart => exact ⟨0, by omega, rfl, Lib.hid (Below.refl _ _), Lib.hid (fun j hj => by omega)⟩
  case round =>
    obtain ⟨k, hk, rfl, HB, HA⟩ := hrel
    by_cases hlt : k < len
    · obtain ⟨b, off, rfl, _, t0, t1⟩ := (H.out.mono HB.out).at' k hlt
      have hwf := H.out.wf k hlt
      have HN : Hid (Tk.isTok (ts.getD k (0, 0)) = true → ∀ j, j < k + 1 → Tk.isTok (ts.getD j (0, 0)) = true) := Lib.hid (fun h j hj => by
        rcases Nat.lt_succ_iff_lt_or_eq.1 hj with h1 | rfl
        · exact HA.out j h1
        · exact h)
      have HF : Hid (Tk.isTok (ts.getD k (0, 0)) = false → ts.all Tk.isTok = false) := Lib.hid (fun h => by
        rw [List.all_eq_false]
        exact ⟨ts.getD k (0, 0), by simp [List.getD, List.getElem?_eq_getElem (show k < ts.length by rw [HLN.out]; exact hlt)], by rw [h]; exact Bool.false_ne_true⟩)
      clear HA
      generalize ts.getD k (0, 0) = t at *
      obtain ⟨x, y⟩ := t
      simp only at t0 t1 hwf
      have HWF := Lib.hid hwf
      have hb5 := below_alloc wr (.cells #[.int .i64 x, .int .i64 y] 59)
      have HB5 := Lib.hid (below_then HB.out hb5)
      clear hwf hb5
      go_wp2_with fail
      refine (isToken_any (x, y) _ HWF.out).mono ?_
      rintro e w6 ⟨rfl, hb6⟩
      have HB6 := Lib.hid (below_then HB5.out hb6)
      clear hb6 HB5 HB t0 t1
      cases hc : Tk.isTok (x, y)
      · have HF2 := Lib.hid (HF.out hc)
        clear hc HF HN
        go_wp2
        go_ret
        exact ⟨by rw [HF2.out]; rfl, HB6.out⟩
      · have HN2 := Lib.hid (HN.out hc)
        clear hc HF HN
        go_wp2
        go_roundw
        case rel => exact ⟨k + 1, by omega, by go_num, HB6, HN2⟩
        case measure => simp [intOf]; omega
    · obtain rfl : len = k := by omega
      have HE : Hid (ts.all Tk.isTok = true) := Lib.hid (by
        rw [List.all_eq_true]
        intro t ht
        obtain ⟨i, hi, rfl⟩ := List.getElem_of_mem ht
        have := HA.out i (by rw [← HLN.out]; exact hi)
        simpa [List.getD, List.getElem?_eq_getElem hi] using this)
      go_wp2
      go_ret
      exact ⟨by rw [HE.out]; rfl, HB.out⟩
end Go.Proofs.YtjjbgdmalefdlaaGreatDoor
end
