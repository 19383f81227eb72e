/- Which symbols a token has: parse.symbols, and the document's Length and Dist. The document's symbol of a length. block's tokens: isToken, areTokens; a length's and a distance's symbol. parse.Count: its contract. -/
import Derived.Test.YtpoilaappcjbeaaGreatDoorZ7
import Derived.Test.YtpoilaappcjbeaaGreatDoorZ8
import Derived.Test.YtpoilaappcjbeaaGreatDoorZ10
import Derived.Test.YtpoilaappcjbeaaGreatDoorZ13
import Derived.Test.YtpoilaappcjbeaaGreatDoorZ14
import Derived.Deep.QuietTactic
import Derived.BigQuiet
set_option linter.unusedSimpArgs false
set_option linter.unusedVariables false
section
namespace Go.Proofs.YtpoilaappcjbeaaGreatDoor
open Go.RowKit
namespace Sy
/-- How many bases behind the first one aren't beyond. -/
def cntB (f : Nat → Nat × Nat) (m n : Nat) : Nat := ((List.range m).filter fun s => decide ((f (s + 1)).1 ≤ n)).length
def lsy (n : Nat) : Nat := cntB lb 28 n
def dsy (n : Nat) : Nat := cntB db 29 n
theorem cnt_of {f : Nat → Nat × Nat} {m n s : Nat} (hs : s ≤ m) (h1 : ∀ k, k < s → (f (k + 1)).1 ≤ n) (h2 : ∀ k, s ≤ k → k < m → n < (f (k + 1)).1) : cntB f m n = s := by
  obtain ⟨d, rfl⟩ : ∃ d, m = s + d := ⟨m - s, by omega⟩
  unfold cntB
  rw [List.range_add, List.filter_append, List.filter_eq_self.2 (fun a ha => by simpa using h1 a (List.mem_range.1 ha)), List.filter_eq_nil_iff.2 (fun a ha => by
    obtain ⟨b, hb, rfl⟩ := List.mem_map.1 ha
    have := h2 (s + b) (by omega) (by have := List.mem_range.1 hb; omega)
    simpa using this)]
  simp
theorem lb_mono : ∀ j, j < 29 → ∀ i, i ≤ j → (lb i).1 ≤ (lb j).1 := by decide +kernel
theorem db_mono : ∀ j, j < 30 → ∀ i, i ≤ j → (db i).1 ≤ (db j).1 := by decide +kernel
theorem lsy_of {n s : Nat} (hs : s ≤ 28) (h1 : (lb s).1 ≤ n) (h2 : s < 28 → n < (lb (s + 1)).1) : lsy n = s :=
  cnt_of hs (fun k hk => Nat.le_trans (lb_mono s (by omega) (k + 1) hk) h1) (fun k hk hm => Nat.lt_of_lt_of_le (h2 (by omega)) (lb_mono (k + 1) (by omega) (s + 1) (by omega)))
theorem dsy_of {n s : Nat} (hs : s ≤ 29) (h1 : (db s).1 ≤ n) (h2 : s < 29 → n < (db (s + 1)).1) : dsy n = s :=
  cnt_of hs (fun k hk => Nat.le_trans (db_mono s (by omega) (k + 1) hk) h1) (fun k hk hm => Nat.lt_of_lt_of_le (h2 (by omega)) (db_mono (k + 1) (by omega) (s + 1) (by omega)))
theorem cnt_le (f : Nat → Nat × Nat) (m n : Nat) : cntB f m n ≤ m := by
  unfold cntB
  have := List.length_filter_le (fun s => decide ((f (s + 1)).1 ≤ n)) (List.range m)
  simpa using this
end Sy
set_option maxHeartbeats 1000000 in
theorem refDist_any (n : Nat) (w : World) (h3 : 1 ≤ n) (hn : n ≤ 32768) :
    Calls Tryz.prog 26 #[.int .i64 (n : Nat)] w fun e w' => e = .returned (.int .i64 ((Sy.dsy n : Nat) : Int)) ∧ Below w.heap.size w w' := by
  go_enter Tryz.func26, Tryz.ntmps26
  go_wp2_with fail
  refine (dists_any w).mono ?_
  rintro e w1 ⟨g, h, rfl, h2, hb1⟩
  have HB := Lib.hid hb1
  have H2 := Lib.hid h2
  clear hb1 h2
  go_wp2
  go_loopw [5] (fun i wr => ∃ s : Nat, s ≤ 29 ∧ i = .int .i64 ((s : Nat) : Int) ∧ w1 = wr ∧ Hid (∀ k, k < s → (Sy.db (k + 1)).1 ≤ n)) (fun i _ => 30 - (intOf i).toNat)
  case atStart => exact ⟨0, by omega, rfl, rfl, Lib.hid (fun k hk => by omega)⟩
  case round =>
    obtain ⟨s, hs, rfl, rfl, HK⟩ := hrel
    by_cases h28 : s < 29
    · have d1 : decide ((s : Int) + 1 < 30) = true := by simp; omega
      have c1 := H2.out.fst (s + 1) (by omega)
      have dx : decide (s + 1 < 30) = true := by simp; omega
      by_cases hb : (Sy.db (s + 1)).1 ≤ n
      · have HK2 : Hid (∀ k, k < s + 1 → (Sy.db (k + 1)).1 ≤ n) := Lib.hid (fun k hk => by
          rcases Nat.lt_or_ge k s with h | h
          · exact HK.out k h
          · obtain rfl : k = s := by omega
            exact hb)
        generalize (Sy.db (s + 1)).1 = q at *
        have d2 : decide (q ≤ n) = true := by simp; omega
        go_wp2
        go_roundw
        case rel => exact ⟨s + 1, by omega, by go_num, trivial, HK2⟩
        case measure => simp [intOf]; omega
      · have HF : Hid (Sy.dsy n = s) := Lib.hid (by
          rw [Sy.dsy, Sy.cnt_of (f := Sy.db) (m := 29) (n := n) (s := s) (by omega) HK.out (fun k h1 h2 => Nat.lt_of_lt_of_le (by omega) (Sy.db_mono (k + 1) (by omega) (s + 1) (by omega)))])
        generalize (Sy.db (s + 1)).1 = q at *
        have d2 : decide (q ≤ n) = false := by simp; omega
        go_wp2
        go_ret
        exact ⟨by rw [HF.out]; rfl, HB.out⟩
    · obtain rfl : s = 29 := by omega
      have HF : Hid (Sy.dsy n = 29) := Lib.hid (by
        rw [Sy.dsy, Sy.cnt_of (f := Sy.db) (m := 29) (n := n) (s := 29) (by omega) HK.out (fun k h1 h2 => by omega)])
      go_wp2
      go_ret
      exact ⟨by rw [HF.out]; rfl, HB.out⟩
/-- A token's symbols. -/
def SyPost (t : Tok) (v : Value) : Prop := ∃ sv dv : Int, v = .tuple #[.int .i64 sv, .int .i64 dv, .bool (Tk.isTok t)] ∧ (Tk.isTok t = true → (t.1 = 0 → sv = t.2 ∧ dv = 0) ∧ (t.1 ≠ 0 → sv = ((257 + Sy.lsy t.1.toNat : Nat) : Int) ∧ dv = ((Sy.dsy t.2.toNat : Nat) : Int)))
set_option maxHeartbeats 2000000 in
theorem symbols_any09 (t : Tok) (w : World) (hw : (Lit.int .i64 t.1).wf = true ∧ (Lit.int .i64 t.2).wf = true) :
    Calls Tryz.prog 95 #[.agg #[.int .i64 t.1, .int .i64 t.2]] w fun e w' => (∃ v, SyPost t v ∧ e = .returned v) ∧ Below w.heap.size w w' := by
  obtain ⟨x, y⟩ := t
  have HW := Lib.hid hw
  have hb := below_alloc w (.cells #[.int .i64 x, .int .i64 y] 59)
  have hrow : (w.alloc (.cells #[.int .i64 x, .int .i64 y] 59)).heap[w.heap.size]? = some (.cells #[.int .i64 x, .int .i64 y] 59 (0, 0)) := heap_alloc_last w _
  have HB := Lib.hid hb
  have c0 : (w.alloc (.cells #[.int .i64 x, .int .i64 y] 59)).cell? ⟨w.heap.size, 0, none⟩ = some (.int .i64 x) := by rw [cell_of_row _ _ _ _ _ (0, 0) hrow]; rfl
  have c1 : (w.alloc (.cells #[.int .i64 x, .int .i64 y] 59)).cell? ⟨w.heap.size, 1, none⟩ = some (.int .i64 y) := by rw [cell_of_row _ _ _ _ _ (0, 0) hrow]; rfl
  clear hw hb hrow
  by_cases h0 : x = 0
  · subst h0
    have HT : Hid (Tk.isTok (0, y) = (decide (0 ≤ y) && decide (y < 256))) := Lib.hid (by
      simp only [Tk.isTok, if_true]
      by_cases h1 : 0 ≤ y <;> by_cases h2 : y < 256 <;> simp [h1, h2] <;> omega)
    have HBn : Hid (∀ n, Below w.heap.size w ((w.alloc (.cells #[.int .i64 0, .int .i64 y] 59)).drewN n)) := Lib.hid (fun n => below_then HB.out (drewN_is _ n))
    by_cases h1 : 0 ≤ y
    · have d1 : decide (0 ≤ y) = true := by simpa using h1
      have HE : Hid (SyPost (0, y) (.tuple #[.int .i64 y, .int .i64 0, .bool (decide (y < 256))])) := Lib.hid ⟨y, 0, by rw [HT.out, d1, Bool.true_and], fun _ => ⟨fun _ => ⟨rfl, rfl⟩, fun h => absurd rfl h⟩⟩
      clear h1
      go_enter Tryz.func95, Tryz.ntmps95
      go_wp2
      go_quiet (fail)
      go_wp2
      go_ret3
      exact ⟨⟨_, HE.out, rfl⟩, HBn.out _⟩
    · have d1 : decide (0 ≤ y) = false := by simpa using h1
      have HE : Hid (SyPost (0, y) (.tuple #[.int .i64 y, .int .i64 0, .bool false])) := Lib.hid ⟨y, 0, by rw [HT.out, d1, Bool.false_and], fun _ => ⟨fun _ => ⟨rfl, rfl⟩, fun h => absurd rfl h⟩⟩
      clear h1
      go_enter Tryz.func95, Tryz.ntmps95
      go_wp2
      go_quiet (fail)
      go_wp2
      go_ret3
      exact ⟨⟨_, HE.out, rfl⟩, HBn.out _⟩
  · have d0 : (x == 0) = false := by simpa using h0
    have HT : Hid (Tk.isTok (x, y) = decide (3 ≤ x ∧ x ≤ 258 ∧ 1 ≤ y ∧ y ≤ 32768)) := Lib.hid (by simp only [Tk.isTok]; rw [if_neg h0])
    have HN0 := Lib.hid h0
    clear h0
    go_enter Tryz.func95, Tryz.ntmps95
    go_wp2_with fail
    refine (lengthSymbol_any x _ HW.out.1).mono ?_
    rintro e w' ⟨⟨v1, hv1, rfl⟩, rfl⟩
    have hv1' : ∃ (s1 : Int) (b1 : Bool), v1 = .tuple #[.int .i64 s1, .bool b1] ∧ (b1 = decide (3 ≤ x ∧ x ≤ 258)) ∧ (b1 = true → s1 = ((257 + Sy.lsy x.toNat : Nat) : Int)) := by
      rcases hv1 with ⟨h, rfl⟩ | ⟨rfl, rfl⟩ | ⟨a, r, rfl, ha, hh, rfl⟩
      · exact ⟨_, _, rfl, by simp; omega, fun h => by cases h⟩
      · exact ⟨_, _, rfl, by decide, fun _ => by rw [show (258 : Int).toNat = 258 from rfl, Sy.lsy_of (n := 258) (s := 28) (by omega) (by decide) (fun h => by omega)]; rfl⟩
      · obtain ⟨q1, q2, q3⟩ := Sy.held4 ha hh
        refine ⟨_, _, rfl, by simp; omega, fun _ => ?_⟩
        rw [show ((a : Int) + 3).toNat = a + 3 by omega, Sy.lsy_of (n := a + 3) (s := r) (by omega) q2 (fun _ => q3)]
        omega
    obtain ⟨s1, b1, rfl, hb1, hs1⟩ := hv1'
    have HB1 := Lib.hid hb1
    have HS1 := Lib.hid hs1
    clear hv1 hb1 hs1
    go_wp2_with fail
    refine (distSymbol_any y _ HW.out.2).mono ?_
    rintro e w' ⟨⟨v2, hv2, rfl⟩, rfl⟩
    have hv2' : ∃ (s2 : Int) (b2 : Bool), v2 = .tuple #[.int .i64 s2, .bool b2] ∧ (b2 = decide (1 ≤ y ∧ y ≤ 32768)) ∧ (b2 = true → s2 = ((Sy.dsy y.toNat : Nat) : Int)) := by
      rcases hv2 with ⟨h, rfl⟩ | ⟨a, r, rfl, ha, hh, rfl⟩
      · exact ⟨_, _, rfl, by simp; omega, fun h => by cases h⟩
      · obtain ⟨q1, q2, q3⟩ := Sy.held2 ha hh
        refine ⟨_, _, rfl, by simp; omega, fun _ => ?_⟩
        rw [show ((a : Int) + 1).toNat = a + 1 by omega, Sy.dsy_of (n := a + 1) (s := r) (by omega) q2 q3]
    obtain ⟨s2, b2, rfl, hb2, hs2⟩ := hv2'
    have HE : Hid (SyPost (x, y) (.tuple #[.int .i64 s1, .int .i64 s2, .bool (b1 && b2)])) := Lib.hid ⟨s1, s2, by
      rw [HT.out, HB1.out, hb2]
      congr 4
      by_cases q1 : 3 ≤ x <;> by_cases q2 : x ≤ 258 <;> by_cases q3 : 1 ≤ y <;> by_cases q4 : y ≤ 32768 <;> simp [q1, q2, q3, q4], fun ht => ⟨fun h => absurd h HN0.out, fun _ => by
      rw [HT.out] at ht
      have ht' := of_decide_eq_true ht
      exact ⟨HS1.out (by rw [HB1.out]; exact decide_eq_true ⟨ht'.1, ht'.2.1⟩), hs2 (by rw [hb2]; exact decide_eq_true ⟨ht'.2.2.1, ht'.2.2.2⟩)⟩⟩⟩
    clear hv2 HB1 hb2 HS1 hs2 c0 c1
    obtain rfl | rfl : b1 = true ∨ b1 = false := by cases b1 <;> simp
    · rw [Bool.true_and] at HE
      go_wp2
      go_ret3
      exact ⟨⟨_, HE.out, rfl⟩, HB.out⟩
    · rw [Bool.false_and] at HE
      go_wp2
      go_ret3
      exact ⟨⟨_, HE.out, rfl⟩, HB.out⟩
end Go.Proofs.YtpoilaappcjbeaaGreatDoor
end

section
namespace Go.Proofs.YtpoilaappcjbeaaGreatDoor
open Go.RowKit
set_option maxHeartbeats 1000000 in
theorem refLength_any (n : Nat) (w : World) (h3 : 3 ≤ n) (hn : n ≤ 258) :
    Calls Tryz.prog 25 #[.int .i64 (n : Nat)] w fun e w' => e = .returned (.int .i64 ((257 + Sy.lsy n : Nat) : Int)) ∧ Below w.heap.size w w' := by
  go_enter Tryz.func25, Tryz.ntmps25
  go_wp2_with fail
  refine (lens_any w).mono ?_
  rintro e w1 ⟨g, h, rfl, h2, hb1⟩
  have HB := Lib.hid hb1
  have H2 := Lib.hid h2
  clear hb1 h2
  go_wp2
  go_loopw [5] (fun i wr => ∃ s : Nat, s ≤ 28 ∧ i = .int .i64 ((s : Nat) : Int) ∧ w1 = wr ∧ Hid (∀ k, k < s → (Sy.lb (k + 1)).1 ≤ n)) (fun i _ => 29 - (intOf i).toNat)
  case atStart => exact ⟨0, by omega, rfl, rfl, Lib.hid (fun k hk => by omega)⟩
  case round =>
    obtain ⟨s, hs, rfl, rfl, HK⟩ := hrel
    by_cases h28 : s < 28
    · have d1 : decide ((s : Int) + 1 < 29) = true := by simp; omega
      have c1 := H2.out.fst (s + 1) (by omega)
      have dx : decide (s + 1 < 29) = true := by simp; omega
      by_cases hb : (Sy.lb (s + 1)).1 ≤ n
      · have HK2 : Hid (∀ k, k < s + 1 → (Sy.lb (k + 1)).1 ≤ n) := Lib.hid (fun k hk => by
          rcases Nat.lt_or_ge k s with h | h
          · exact HK.out k h
          · obtain rfl : k = s := by omega
            exact hb)
        generalize (Sy.lb (s + 1)).1 = q at *
        have d2 : decide (q ≤ n) = true := by simp; omega
        go_wp2
        go_roundw
        case rel => exact ⟨s + 1, by omega, by go_num, trivial, HK2⟩
        case measure => simp [intOf]; omega
      · have HF : Hid (257 + Sy.lsy n = 257 + s) := Lib.hid (by
          rw [Sy.lsy, Sy.cnt_of (f := Sy.lb) (m := 28) (n := n) (s := s) (by omega) HK.out (fun k h1 h2 => Nat.lt_of_lt_of_le (by omega) (Sy.lb_mono (k + 1) (by omega) (s + 1) (by omega)))])
        generalize (Sy.lb (s + 1)).1 = q at *
        have d2 : decide (q ≤ n) = false := by simp; omega
        go_wp2
        go_ret
        exact ⟨by rw [HF.out]; congr 2, HB.out⟩
    · obtain rfl : s = 28 := by omega
      have HF : Hid (257 + Sy.lsy n = 257 + 28) := Lib.hid (by
        rw [Sy.lsy, Sy.cnt_of (f := Sy.lb) (m := 28) (n := n) (s := 28) (by omega) HK.out (fun k h1 h2 => by omega)])
      go_wp2
      go_ret
      exact ⟨by rw [HF.out]; rfl, HB.out⟩
end Go.Proofs.YtpoilaappcjbeaaGreatDoor
end

section
namespace Go.Proofs.YtpoilaappcjbeaaGreatDoor
open Go.RowKit

namespace Bc
def LsV (x : Int) (e : Ending) : Prop := ∃ s : Int, e = .returned (.tuple #[.int .i64 s, .bool (decide (3 ≤ x ∧ x ≤ 258))]) ∧ (3 ≤ x ∧ x ≤ 258 → s = ((257 + Sy.lsy x.toNat : Nat) : Int))
def DsV (y : Int) (e : Ending) : Prop := ∃ s : Int, e = .returned (.tuple #[.int .i64 s, .bool (decide (1 ≤ y ∧ y ≤ 32768))]) ∧ (1 ≤ y ∧ y ≤ 32768 → s = ((Sy.dsy y.toNat : Nat) : Int))
theorem lsym_any (x : Int) (w : World) (hw : (Lit.int .i64 x).wf = true) : Calls Tryz.prog 54 #[.int .i64 x] w fun e w' => LsV x e ∧ w = w' := by
  refine (lengthSymbol_any x w hw).mono ?_
  rintro e w' ⟨⟨v1, hv1, rfl⟩, rfl⟩
  refine ⟨?_, rfl⟩
  rcases hv1 with ⟨h, rfl⟩ | ⟨rfl, rfl⟩ | ⟨a, r, rfl, ha, hh, rfl⟩
  · exact ⟨0, by rw [decide_eq_false h], fun h' => absurd h' h⟩
  · exact ⟨285, rfl, fun _ => by rw [show (258 : Int).toNat = 258 from rfl, Sy.lsy_of (n := 258) (s := 28) (by omega) (by decide) (fun h => by omega)]; rfl⟩
  · obtain ⟨q1, q2, q3⟩ := Sy.held4 ha hh
    refine ⟨_, by rw [decide_eq_true (show 3 ≤ (a : Int) + 3 ∧ (a : Int) + 3 ≤ 258 by omega)], fun _ => ?_⟩
    rw [show ((a : Int) + 3).toNat = a + 3 by omega, Sy.lsy_of (n := a + 3) (s := r) (by omega) q2 (fun _ => q3)]
    omega
theorem dsym_any (y : Int) (w : World) (hw : (Lit.int .i64 y).wf = true) : Calls Tryz.prog 63 #[.int .i64 y] w fun e w' => DsV y e ∧ w = w' := by
  refine (distSymbol_any y w hw).mono ?_
  rintro e w' ⟨⟨v2, hv2, rfl⟩, rfl⟩
  refine ⟨?_, rfl⟩
  rcases hv2 with ⟨h, rfl⟩ | ⟨a, r, rfl, ha, hh, rfl⟩
  · exact ⟨0, by rw [decide_eq_false h], fun h' => absurd h' h⟩
  · obtain ⟨q1, q2, q3⟩ := Sy.held2 ha hh
    refine ⟨_, by rw [decide_eq_true (show 1 ≤ (a : Int) + 1 ∧ (a : Int) + 1 ≤ 32768 by omega)], fun _ => ?_⟩
    rw [show ((a : Int) + 1).toNat = a + 1 by omega, Sy.dsy_of (n := a + 1) (s := r) (by omega) q2 q3]
end Bc
set_option maxHeartbeats 2000000 in
theorem isToken_any (t : Tok) (w : World) (hw : (Lit.int .i64 t.1).wf = true ∧ (Lit.int .i64 t.2).wf = true) :
    Calls Tryz.prog 72 #[.agg #[.int .i64 t.1, .int .i64 t.2]] w fun e w' => e = .returned (.bool (Tk.isTok t)) ∧ Below w.heap.size w w' := by
  obtain ⟨x, y⟩ := t
  have HW := Lib.hid hw
  have HB := Lib.hid (below_alloc w (.cells #[.int .i64 x, .int .i64 y] 59))
  have hrow : (w.alloc (.cells #[.int .i64 x, .int .i64 y] 59)).heap[w.heap.size]? = some (.cells #[.int .i64 x, .int .i64 y] 59 (0, 0)) := heap_alloc_last w _
  have c0 : (w.alloc (.cells #[.int .i64 x, .int .i64 y] 59)).cell? ⟨w.heap.size, 0, none⟩ = some (.int .i64 x) := by rw [cell_of_row _ _ _ _ _ (0, 0) hrow]; rfl
  have c1 : (w.alloc (.cells #[.int .i64 x, .int .i64 y] 59)).cell? ⟨w.heap.size, 1, none⟩ = some (.int .i64 y) := by rw [cell_of_row _ _ _ _ _ (0, 0) hrow]; rfl
  clear hw hrow
  by_cases h0 : x = 0
  · subst h0
    have HT : Hid (Tk.isTok (0, y) = (decide (0 ≤ y) && decide (y ≤ 255))) := Lib.hid (by
      simp only [Tk.isTok, if_true]
      by_cases h1 : 0 ≤ y <;> by_cases h2 : y ≤ 255 <;> simp [h1, h2])
    by_cases h1 : 0 ≤ y
    · have d1 : decide (0 ≤ y) = true := by simpa using h1
      have HE : Hid (Tk.isTok (0, y) = decide (y ≤ 255)) := Lib.hid (by rw [HT.out, d1, Bool.true_and])
      clear h1
      go_enter Tryz.func72, Tryz.ntmps72
      go_wp2
      go_ret
      exact ⟨by rw [HE.out]; rfl, HB.out⟩
    · have d1 : decide (0 ≤ y) = false := by simpa using h1
      have HE : Hid (Tk.isTok (0, y) = false) := Lib.hid (by rw [HT.out, d1, Bool.false_and])
      clear h1
      go_enter Tryz.func72, Tryz.ntmps72
      go_wp2
      go_ret
      exact ⟨by rw [HE.out]; rfl, HB.out⟩
  · have d0 : (x == 0) = false := by simpa using h0
    have HT : Hid (Tk.isTok (x, y) = (decide (3 ≤ x ∧ x ≤ 258) && decide (1 ≤ y ∧ y ≤ 32768))) := Lib.hid (by
      simp only [Tk.isTok]; rw [if_neg h0]
      by_cases h1 : 3 ≤ x ∧ x ≤ 258 <;> by_cases h2 : 1 ≤ y ∧ y ≤ 32768
      · rw [decide_eq_true h1, decide_eq_true h2, decide_eq_true (by omega)]; rfl
      · rw [decide_eq_true h1, decide_eq_false h2, decide_eq_false (by omega)]; rfl
      · rw [decide_eq_false h1, decide_eq_true h2, decide_eq_false (by omega)]; rfl
      · rw [decide_eq_false h1, decide_eq_false h2, decide_eq_false (by omega)]; rfl)
    clear h0
    go_enter Tryz.func72, Tryz.ntmps72
    go_wp2_with fail
    refine (Bc.lsym_any x _ HW.out.1).mono ?_
    rintro e w' ⟨⟨s1, rfl, _⟩, rfl⟩
    have HT2 := HT
    clear HT
    generalize decide (3 ≤ x ∧ x ≤ 258) = b1 at *
    go_wp2_with fail
    refine (Bc.dsym_any y _ HW.out.2).mono ?_
    rintro e w' ⟨⟨s2, rfl, _⟩, rfl⟩
    generalize decide (1 ≤ y ∧ y ≤ 32768) = b2 at *
    cases b1
    · have HE : Hid (Tk.isTok (x, y) = false) := Lib.hid (by rw [HT2.out, Bool.false_and])
      clear HT2
      go_wp2
      go_ret
      exact ⟨by rw [HE.out]; rfl, HB.out⟩
    · have HE : Hid (Tk.isTok (x, y) = b2) := Lib.hid (by rw [HT2.out, Bool.true_and])
      clear HT2
      go_wp2
      go_ret
      exact ⟨by rw [HE.out]; rfl, HB.out⟩
set_option maxHeartbeats 2000000 in
theorem areTokens_any (a : Option Addr) (len cap : Nat) (ts : List Tok) (w : World) (h : Ts2 w a len cap ts) (hlen : len ≤ 1000000000) :
    Calls Tryz.prog 51 #[.slice a len cap] w fun e w' => e = .returned (.bool (ts.all Tk.isTok)) ∧ Below w.heap.size w w' := by
  have H := Lib.hid h
  have HLN := Lib.hid h.hlen
  clear h
  go_enter Tryz.func51, Tryz.ntmps51
  go_wp2
  go_loopw [7] (fun i wr => ∃ k : Nat, k ≤ len ∧ i = .int .i64 k ∧ Hid (Below w.heap.size w wr) ∧ Hid (∀ j, j < k → Tk.isTok (ts.getD j (0, 0)) = true)) (fun i _ => len - (intOf i).toNat)
  case atStart => exact ⟨0, by omega, rfl, Lib.hid (Below.refl _ _), Lib.hid (fun j hj => by omega)⟩
  case round =>
    obtain ⟨k, hk, rfl, HB, HA⟩ := hrel
    by_cases hlt : k < len
    · obtain ⟨b, off, rfl, _, t0, t1⟩ := (H.out.mono HB.out).at' k hlt
      have hwf := H.out.wf k hlt
      have HN : Hid (Tk.isTok (ts.getD k (0, 0)) = true → ∀ j, j < k + 1 → Tk.isTok (ts.getD j (0, 0)) = true) := Lib.hid (fun h j hj => by
        rcases Nat.lt_succ_iff_lt_or_eq.1 hj with h1 | rfl
        · exact HA.out j h1
        · exact h)
      have HF : Hid (Tk.isTok (ts.getD k (0, 0)) = false → ts.all Tk.isTok = false) := Lib.hid (fun h => by
        rw [List.all_eq_false]
        exact ⟨ts.getD k (0, 0), by simp [List.getD, List.getElem?_eq_getElem (show k < ts.length by rw [HLN.out]; exact hlt)], by rw [h]; exact Bool.false_ne_true⟩)
      clear HA
      generalize ts.getD k (0, 0) = t at *
      obtain ⟨x, y⟩ := t
      simp only at t0 t1 hwf
      have HWF := Lib.hid hwf
      have hb5 := below_alloc wr (.cells #[.int .i64 x, .int .i64 y] 59)
      have HB5 := Lib.hid (below_then HB.out hb5)
      clear hwf hb5
      go_wp2_with fail
      refine (isToken_any (x, y) _ HWF.out).mono ?_
      rintro e w6 ⟨rfl, hb6⟩
      have HB6 := Lib.hid (below_then HB5.out hb6)
      clear hb6 HB5 HB t0 t1
      cases hc : Tk.isTok (x, y)
      · have HF2 := Lib.hid (HF.out hc)
        clear hc HF HN
        go_wp2
        go_ret
        exact ⟨by rw [HF2.out]; rfl, HB6.out⟩
      · have HN2 := Lib.hid (HN.out hc)
        clear hc HF HN
        go_wp2
        go_roundw
        case rel => exact ⟨k + 1, by omega, by go_num, HB6, HN2⟩
        case measure => simp [intOf]; omega
    · obtain rfl : len = k := by omega
      have HE : Hid (ts.all Tk.isTok = true) := Lib.hid (by
        rw [List.all_eq_true]
        intro t ht
        obtain ⟨i, hi, rfl⟩ := List.getElem_of_mem ht
        have := HA.out i (by rw [← HLN.out]; exact hi)
        simpa [List.getD, List.getElem?_eq_getElem hi] using this)
      go_wp2
      go_ret
      exact ⟨by rw [HE.out]; rfl, HB.out⟩
end Go.Proofs.YtpoilaappcjbeaaGreatDoor
end

section
namespace Go.Proofs.YtpoilaappcjbeaaGreatDoor
open Go.RowKit
namespace Pa
/-- One more of a symbol. -/
def bmp (l : List Int) (i : Nat) : List Int := l.set i (l.getD i 0 + 1)
/-- A token, counted. -/
def stC (p : List Int × List Int) (t : Tok) : List Int × List Int := if Tk.isTok t = true then (if t.1 = 0 then (bmp p.1 t.2.toNat, p.2) else (bmp p.1 (257 + Sy.lsy t.1.toNat), bmp p.2 (Sy.dsy t.2.toNat))) else p
def c0 : List Int × List Int := ((List.replicate 286 0).set 256 1, List.replicate 30 0)
def cts (ts : List Tok) (k : Nat) : List Int × List Int := (ts.take k).foldl stC c0
theorem cts_next (ts : List Tok) (k : Nat) (h : k < ts.length) : cts ts (k + 1) = stC (cts ts k) (ts.getD k (0, 0)) := by
  unfold cts
  rw [List.take_succ_eq_append_getElem h, List.foldl_append]
  simp [List.getD, List.getElem?_eq_getElem h]
/-- In range. -/
def In (m : Nat) (l : List Int) (n : Nat) : Prop := l.length = m ∧ ∀ i, 0 ≤ l.getD i 0 ∧ l.getD i 0 ≤ n
theorem In.bmp {m n i : Nat} {l : List Int} (h : In m l n) : In m (bmp l i) (n + 1) := by
  refine ⟨by simp [Pa.bmp, h.1], fun j => ?_⟩
  have h1 := h.2 j
  unfold Pa.bmp
  by_cases e : i = j
  · subst e
    by_cases hl : i < l.length
    · have : (l.set i (l.getD i 0 + 1)).getD i 0 = l.getD i 0 + 1 := by simp [List.getD, hl]
      rw [this]; omega
    · have : (l.set i (l.getD i 0 + 1)).getD i 0 = 0 := by simp [List.getD, List.getElem?_eq_none (by simpa using Nat.le_of_not_lt hl : (l.set i (l[i]?.getD 0 + 1)).length ≤ i)]
      rw [this]; omega
  · have : (l.set i (l.getD i 0 + 1)).getD j 0 = l.getD j 0 := by simp [List.getD, List.getElem?_set_ne e]
    rw [this]; omega
theorem In.up {m n : Nat} {l : List Int} (h : In m l n) : In m l (n + 1) := ⟨h.1, fun i => by have := h.2 i; omega⟩
theorem zs_get (n i : Nat) : (List.replicate n (0 : Int)).getD i 0 = 0 := by
  by_cases h : i < n <;> simp [List.getD, List.getElem?_replicate, h]
theorem one_get (n k i : Nat) : 0 ≤ ((List.replicate n (0 : Int)).set k 1).getD i 0 ∧ ((List.replicate n (0 : Int)).set k 1).getD i 0 ≤ (1 : Nat) := by
  by_cases e : k = i
  · subst e
    by_cases h : k < n
    · have : ((List.replicate n (0 : Int)).set k 1).getD k 0 = 1 := by simp [List.getD, h]
      rw [this]; omega
    · have : ((List.replicate n (0 : Int)).set k 1).getD k 0 = 0 := by simp [List.getD, List.getElem?_eq_none (by simpa using Nat.le_of_not_lt h : ((List.replicate n (0 : Int)).set k 1).length ≤ k)]
      rw [this]; omega
  · have : ((List.replicate n (0 : Int)).set k 1).getD i 0 = (List.replicate n (0 : Int)).getD i 0 := by simp [List.getD, List.getElem?_set_ne e]
    rw [this, zs_get]; omega
theorem in_one (n k : Nat) : In n ((List.replicate n (0 : Int)).set k 1) 1 := ⟨by rw [List.length_set, List.length_replicate], one_get n k⟩
theorem in_zs (n : Nat) : In n (List.replicate n (0 : Int)) 1 := ⟨List.length_replicate .., fun i => by rw [zs_get]; omega⟩
theorem in_c0 : In 286 c0.1 1 ∧ In 30 c0.2 1 := ⟨in_one 286 256, in_zs 30⟩
theorem in_step {p : List Int × List Int} {n : Nat} (t : Tok) (h : In 286 p.1 n ∧ In 30 p.2 n) : In 286 (stC p t).1 (n + 1) ∧ In 30 (stC p t).2 (n + 1) := by
  unfold stC
  split
  · split
    · exact ⟨h.1.bmp, h.2.up⟩
    · exact ⟨h.1.bmp, h.2.bmp⟩
  · exact ⟨h.1.up, h.2.up⟩
theorem in_cts (ts : List Tok) : ∀ k, k ≤ ts.length → In 286 (cts ts k).1 (k + 1) ∧ In 30 (cts ts k).2 (k + 1)
  | 0, _ => in_c0
  | k + 1, h => by rw [cts_next ts k (by omega)]; exact in_step _ (in_cts ts k (by omega))
theorem In.wf {m n : Nat} {l : List Int} (h : In m l n) (hn : n ≤ 1000000000) : Wf l := by
  intro x hx
  obtain ⟨i, hi, rfl⟩ := List.getElem_of_mem hx
  have := h.2 i
  rw [List.getD, List.getElem?_eq_getElem hi] at this
  simp only [Option.getD_some] at this
  simp only [Lit.wf, IntKind.min, IntKind.max, IntKind.signed, IntKind.bits, Bool.and_eq_true, decide_eq_true_eq, if_true]
  simp; omega
/-- Two rows of counts in memory. -/
structure Cn (w0 w : World) (g1 g2 : Nat) (L D : List Int) : Prop where
  own1 : w.ownsRow w0.heap.size 3 1 (.slice (some ⟨g1, 0, none⟩) 286 286) 286 (ivs L)
  own2 : w.ownsRow w0.heap.size 3 1 (.slice (some ⟨g2, 0, none⟩) 30 30) 30 (ivs D)
  ne : g1 ≠ g2
  bel : Below w0.heap.size w0 w
theorem own_fz {w : World} {base : Nat} {e : TypeId} {size n cap g : Nat} {xs : List Value} (h : w.ownsRow base e size (.slice (some ⟨g, 0, none⟩) n cap) n xs) (o : Nat) : w.frozen? ⟨g, o, none⟩ = false := by
  rcases h.2 with ⟨h', _⟩ | ⟨g', cap', cur, h', hb, hg, _⟩
  · simp at h'
  · simp only [Value.slice.injEq, Option.some.injEq, Addr.mk.injEq, and_true, true_and] at h'
    obtain ⟨rfl, rfl⟩ := h'
    exact frozen_of_row w g o _ _ hg
theorem Cn.mono {w0 w w' : World} {g1 g2 : Nat} {L D : List Int} (h : Cn w0 w g1 g2 L D) (hb : Below w.heap.size w w') : Cn w0 w' g1 g2 L D :=
  ⟨own_below h.own1 hb, own_below h.own2 hb, h.ne, h.bel.trans (hb.mono h.bel.size)⟩
theorem own_ot {w : World} {base : Nat} {e : TypeId} {size : Nat} {v : Value} {n : Nat} {xs : List Value} {g j : Nat} {z : Value} (h : w.ownsRow base e size v n xs) (hv : ∀ b, v.ownBlock = some b → b ≠ g) : (w.setCell ⟨g, j, none⟩ z).ownsRow base e size v n xs :=
  ((Ch.refl w (fun k => k = g)).set (p := ⟨g, j, none⟩) (.inl rfl) z).own h hv
theorem Cn.set1 {w0 w : World} {g1 g2 : Nat} {L D : List Int} (h : Cn w0 w g1 g2 L D) (j : Nat) (z : Int) : Cn w0 (w.setCell ⟨g1, j, none⟩ (.int .i64 z)) g1 g2 (L.set j z) D :=
  ⟨own_set h.own1 j z, own_ot h.own2 (fun b hb => by simp [Value.ownBlock] at hb; rw [← hb]; exact fun e => h.ne e.symm), h.ne, h.bel.setCell (p := ⟨g1, j, none⟩) (h.own1.lt g1 rfl).1 _⟩
theorem Cn.set2 {w0 w : World} {g1 g2 : Nat} {L D : List Int} (h : Cn w0 w g1 g2 L D) (j : Nat) (z : Int) : Cn w0 (w.setCell ⟨g2, j, none⟩ (.int .i64 z)) g1 g2 L (D.set j z) :=
  ⟨own_ot h.own1 (fun b hb => by simp [Value.ownBlock] at hb; rw [← hb]; exact h.ne), own_set h.own2 j z, h.ne, h.bel.setCell (p := ⟨g2, j, none⟩) (h.own2.lt g2 rfl).1 _⟩
theorem Cn.c1 {w0 w : World} {g1 g2 : Nat} {L D : List Int} (h : Cn w0 w g1 g2 L D) (j : Nat) (hj : j < 286) : w.cell? ⟨g1, j, none⟩ = some (.int .i64 (L.getD j 0)) := by
  have hl : L.length = 286 := by have := h.own1.1; rw [ivs_length] at this; omega
  rw [h.own1.cellAt j (by omega), ivs_get L j (by omega)]
theorem Cn.c2 {w0 w : World} {g1 g2 : Nat} {L D : List Int} (h : Cn w0 w g1 g2 L D) (j : Nat) (hj : j < 30) : w.cell? ⟨g2, j, none⟩ = some (.int .i64 (D.getD j 0)) := by
  have hl : D.length = 30 := by have := h.own2.1; rw [ivs_length] at this; omega
  rw [h.own2.cellAt j (by omega), ivs_get D j (by omega)]
end Pa
theorem mk_ints (W : World) (base n : Nat) (hb : base ≤ W.heap.size) (hn : n ≤ 1000) :
    ∃ W', (Instr.makeSlice 53 (.int .i64 (n : Int)) (.int .i64 (n : Int))).run Tryz.prog W = .ok (.slice (some ⟨W.heap.size, 0, none⟩) n n) W' ∧ W'.ownsRow base 3 1 (.slice (some ⟨W.heap.size, 0, none⟩) n n) n (ivs (List.replicate n 0)) ∧ W.grownBy W' none := by
  obtain ⟨i0, hi, hz0, hz1, hz2⟩ := info_parts tyI.info
  obtain ⟨W', h1, h2, h3⟩ := run_makeSlice_full (P := Tryz.prog) (w := W) base 53 3 i0 (.int .i64 0) 1 tyI.ht hi hz0 hz1 .i64 .i64 n (by omega) (by rw [hz2]; omega) (by unfold maxLen; omega) hb
  have e := made_ints1 n
  exact ⟨W', h1, by rw [← e]; exact h2, h3⟩
set_option maxRecDepth 100000 in
set_option maxHeartbeats 4000000 in
theorem count_any (a : Option Addr) (len cap : Nat) (ts : List Tok) (w : World) (h : Ts2 w a len cap ts) (hlen : len ≤ 1000000) :
    Calls Tryz.prog 73 #[.slice a len cap] w fun e w' => ∃ g1 g2, e = .returned (.tuple #[.slice (some ⟨g1, 0, none⟩) 286 286, .slice (some ⟨g2, 0, none⟩) 30 30]) ∧ Pa.Cn w w' g1 g2 (Pa.cts ts len).1 (Pa.cts ts len).2 := by
  have H := Lib.hid h
  have HLN := Lib.hid h.hlen
  clear h
  go_enter Tryz.func73, Tryz.ntmps73
  obtain ⟨w1, m1, o1, g1⟩ := mk_ints w.drew w.heap.size 286 (Nat.le_refl _) (by omega)
  have b1 : Below w.heap.size w w1 := (Below.drew (Below.refl w.heap.size w)).grown g1 (Nat.le_refl _) (by simp)
  obtain ⟨w2, m2, o2, g2⟩ := mk_ints w1 w.heap.size 30 b1.size (by omega)
  have b2 : Below w1.heap.size w1 w2 := (Below.refl _ _).grown g2 (Nat.le_refl _) (by simp)
  have n1 : (Instr.makeSlice 53 (.int .i64 286) (.int .i64 286)).run Tryz.prog w.drew = .ok (.slice (some ⟨w.heap.size, 0, none⟩) 286 286) w1 := m1
  have n2 : (Instr.makeSlice 53 (.int .i64 30) (.int .i64 30)).run Tryz.prog w1 = .ok (.slice (some ⟨w1.heap.size, 0, none⟩) 30 30) w2 := m2
  have hC : Pa.Cn w w2 w.heap.size w1.heap.size (List.replicate 286 0) (List.replicate 30 0) := ⟨own_below o1 b2, o2, by have := (o1.lt w.heap.size rfl).2; omega, below_then b1 b2⟩
  have HCA := Lib.hid hC
  clear m1 m2 o1 o2 g1 g2 b1 b2 hC
  obtain ⟨w3, m1, o1, g1⟩ := mk_ints w.drew w.heap.size 30 (Nat.le_refl _) (by omega)
  have b1 : Below w.heap.size w w3 := (Below.drew (Below.refl w.heap.size w)).grown g1 (Nat.le_refl _) (by simp)
  obtain ⟨w4, m2, o2, g2⟩ := mk_ints w3 w.heap.size 286 b1.size (by omega)
  have b2 : Below w3.heap.size w3 w4 := (Below.refl _ _).grown g2 (Nat.le_refl _) (by simp)
  have n3 : (Instr.makeSlice 53 (.int .i64 30) (.int .i64 30)).run Tryz.prog w.drew = .ok (.slice (some ⟨w.heap.size, 0, none⟩) 30 30) w3 := m1
  have n4 : (Instr.makeSlice 53 (.int .i64 286) (.int .i64 286)).run Tryz.prog w3 = .ok (.slice (some ⟨w3.heap.size, 0, none⟩) 286 286) w4 := m2
  have hC : Pa.Cn w w4 w3.heap.size w.heap.size (List.replicate 286 0) (List.replicate 30 0) := ⟨o2, own_below o1 b2, by have := (o1.lt w.heap.size rfl).2; omega, below_then b1 b2⟩
  have HCB := Lib.hid hC
  clear m1 m2 o1 o2 g1 g2 b1 b2 hC
  go_wp2
  go_region
  · clear n1 n2 n3 n4 HCB
    revert HCA
    generalize w1.heap.size = g2
    generalize w.heap.size = g1
    generalize w2 = W
    intro HC
    have hc0 := HC.out.c1 256 (by omega)
    have hf0 := Pa.own_fz HC.out.own1 256
    have HC0 : Hid (Pa.Cn w (W.setCell ⟨g1, 256, none⟩ (.int .i64 1)) g1 g2 (Pa.cts ts 0).1 (Pa.cts ts 0).2) := Lib.hid (HC.out.set1 256 1)
    clear HC
    go_wp2_with fail
    clear hc0 hf0
    revert HC0
    generalize W.setCell ⟨g1, 256, none⟩ (.int .i64 1) = W1
    intro HC0
    go_loopw [17] (fun i wr => ∃ k : Nat, k ≤ len ∧ i = .int .i64 ((k : Nat) : Int) ∧ Hid (Pa.Cn w wr g1 g2 (Pa.cts ts k).1 (Pa.cts ts k).2)) (fun i _ => len - (intOf i).toNat)
    case atStart => exact ⟨0, by omega, rfl, HC0⟩
    case round =>
      clear HC0
      obtain ⟨k, hk, rfl, HC⟩ := hrel
      by_cases hlt : k < len
      · obtain ⟨b, off, rfl, hbl, t0, t1⟩ := (H.out.mono HC.out.bel).at' k hlt
        have hwf := H.out.wf k hlt
        have hnx := Pa.cts_next ts k (by rw [HLN.out]; exact hlt)
        have hin := Pa.in_cts ts k (by rw [HLN.out]; exact hk)
        generalize ts.getD k (0, 0) = t at *
        obtain ⟨x, y⟩ := t
        simp only at t0 t1 hwf
        have hb5 := below_alloc wr (.cells #[.int .i64 x, .int .i64 y] 59)
        have hr5 : (wr.alloc (.cells #[.int .i64 x, .int .i64 y] 59)).heap[wr.heap.size]? = some (.cells #[.int .i64 x, .int .i64 y] 59 (0, 0)) := heap_alloc_last wr _
        have HS := Lib.hid (symbols_any09 (x, y) (wr.alloc (.cells #[.int .i64 x, .int .i64 y] 59)) hwf)
        have HNX := Lib.hid hnx
        have HIN := Lib.hid hin
        have HC5 := Lib.hid (HC.out.mono hb5)
        have HG := Lib.hid (And.intro (HC.out.own1.lt g1 rfl).2 (HC.out.own2.lt g2 rfl).2)
        clear hnx hin hwf hb5 HC hbl
        simp only at HS
        go_wp2_with fail
        refine HS.out.mono ?_
        rintro e w6 ⟨⟨v, ⟨sv, dv, rfl, hsd⟩, rfl⟩, hb6⟩
        have hr6 := (hb6.block wr.heap.size (by simp)).trans hr5
        have HC6 := Lib.hid (HC5.out.mono hb6)
        have x0 : w6.cell? ⟨wr.heap.size, 0, none⟩ = some (.int .i64 x) := by rw [cell_of_row _ _ _ _ _ (0, 0) hr6]; rfl
        clear hb6 hr6 hr5 HS HC5 t0 t1
        by_cases htok : Tk.isTok (x, y) = true
        · have htr := Tk.tok_range htok
          simp only at htr
          obtain ⟨hs0, hs1⟩ := hsd htok
          have HST : Hid (Pa.cts ts (k + 1) = if x = 0 then (Pa.bmp (Pa.cts ts k).1 y.toNat, (Pa.cts ts k).2) else (Pa.bmp (Pa.cts ts k).1 (257 + Sy.lsy x.toNat), Pa.bmp (Pa.cts ts k).2 (Sy.dsy y.toNat))) := Lib.hid (by rw [HNX.out]; unfold Pa.stC; rw [if_pos htok])
          rw [htok]
          clear hsd htok HNX
          by_cases hx : x = 0
          · obtain ⟨rfl, rfl⟩ := hs0 hx
            subst hx
            obtain ⟨j, rfl⟩ : ∃ j : Nat, sv = (j : Int) := ⟨sv.toNat, by omega⟩
            have hj : j < 286 := by omega
            have hcj := HC6.out.c1 j hj
            have hfj := Pa.own_fz HC6.out.own1 j
            have hvr := HIN.out.1.2 j
            have x1 : (w6.setCell ⟨g1, j, none⟩ (.int .i64 ((Pa.cts ts k).1.getD j 0 + 1))).cell? ⟨wr.heap.size, 0, none⟩ = some (.int .i64 0) := by rw [cell_set_other (by have := HG.out.1; omega)]; exact x0
            have HC7 := Lib.hid (HC6.out.set1 j ((Pa.cts ts k).1.getD j 0 + 1))
            have HE : Hid (Pa.cts ts (k + 1) = ((Pa.cts ts k).1.set j ((Pa.cts ts k).1.getD j 0 + 1), (Pa.cts ts k).2)) := Lib.hid (by rw [HST.out, if_pos rfl, Int.toNat_natCast]; rfl)
            have dj : decide (j < 286) = true := by simp; omega
            clear HST HC6 HIN hs0 hs1
            generalize (Pa.cts ts k).1.getD j 0 = z at *
            go_wp2
            go_roundw
            case rel => exact ⟨k + 1, by omega, by go_num, by rw [HE.out]; exact HC7⟩
            case measure => simp [intOf]; omega
          · obtain ⟨rfl, rfl⟩ := hs1 hx
            have hx3 : decide (0 < x) = true := by simp; omega
            have hj : 257 + Sy.lsy x.toNat < 286 := by have := Sy.cnt_le Sy.lb 28 x.toNat; unfold Sy.lsy; omega
            have hd29 : Sy.dsy y.toNat ≤ 29 := Sy.cnt_le _ _ _
            have HST2 : Hid (Pa.cts ts (k + 1) = (Pa.bmp (Pa.cts ts k).1 (257 + Sy.lsy x.toNat), Pa.bmp (Pa.cts ts k).2 (Sy.dsy y.toNat))) := Lib.hid (by rw [HST.out, if_neg hx])
            clear hs0 hs1 HST
            generalize 257 + Sy.lsy x.toNat = j at *
            generalize Sy.dsy y.toNat = q at *
            have hq : q < 30 := by omega
            have hcj := HC6.out.c1 j hj
            have hfj := Pa.own_fz HC6.out.own1 j
            have hvr := HIN.out.1.2 j
            have hvq := HIN.out.2.2 q
            have HC7 := Lib.hid (HC6.out.set1 j ((Pa.cts ts k).1.getD j 0 + 1))
            have HC8 := Lib.hid (HC7.out.set2 q ((Pa.cts ts k).2.getD q 0 + 1))
            have x1 : (w6.setCell ⟨g1, j, none⟩ (.int .i64 ((Pa.cts ts k).1.getD j 0 + 1))).cell? ⟨wr.heap.size, 0, none⟩ = some (.int .i64 x) := by rw [cell_set_other (by have := HG.out.1; omega)]; exact x0
            have hcq := HC7.out.c2 q hq
            have hfq := Pa.own_fz HC7.out.own2 q
            have HE : Hid (Pa.cts ts (k + 1) = ((Pa.cts ts k).1.set j ((Pa.cts ts k).1.getD j 0 + 1), (Pa.cts ts k).2.set q ((Pa.cts ts k).2.getD q 0 + 1))) := Lib.hid (by rw [HST2.out]; rfl)
            have dj : decide (j < 286) = true := by simp; omega
            have dq : decide (q < 30) = true := by simp; omega
            clear HST2 HC6 HIN HC7
            generalize (Pa.cts ts k).1.getD j 0 = z at *
            generalize (Pa.cts ts k).2.getD q 0 = z2 at *
            go_wp2
            go_roundw
            case rel => exact ⟨k + 1, by omega, by go_num, by rw [HE.out]; exact HC8⟩
            case measure => simp [intOf]; omega
        · have hf : Tk.isTok (x, y) = false := by simpa using htok
          rw [hf]
          have HE : Hid (Pa.cts ts (k + 1) = Pa.cts ts k) := Lib.hid (by rw [HNX.out]; unfold Pa.stC; rw [if_neg htok])
          clear hsd htok hf HNX HIN x0
          go_wp2
          go_roundw
          case rel => exact ⟨k + 1, by omega, by go_num, by rw [HE.out]; exact HC6⟩
          case measure => simp [intOf]; omega
      · obtain rfl : len = k := by omega
        go_wp2
        go_ret2
        exact ⟨g1, g2, rfl, HC.out⟩
  · clear n1 n2 n3 n4 HCA
    revert HCB
    generalize w3.heap.size = g1
    generalize w.heap.size = g2
    generalize w4 = W
    intro HC
    have hc0 := HC.out.c1 256 (by omega)
    have hf0 := Pa.own_fz HC.out.own1 256
    have HC0 : Hid (Pa.Cn w (W.setCell ⟨g1, 256, none⟩ (.int .i64 1)) g1 g2 (Pa.cts ts 0).1 (Pa.cts ts 0).2) := Lib.hid (HC.out.set1 256 1)
    clear HC
    go_wp2_with fail
    clear hc0 hf0
    revert HC0
    generalize W.setCell ⟨g1, 256, none⟩ (.int .i64 1) = W1
    intro HC0
    go_loopw [17] (fun i wr => ∃ k : Nat, k ≤ len ∧ i = .int .i64 ((k : Nat) : Int) ∧ Hid (Pa.Cn w wr g1 g2 (Pa.cts ts k).1 (Pa.cts ts k).2)) (fun i _ => len - (intOf i).toNat)
    case atStart => exact ⟨0, by omega, rfl, HC0⟩
    case round =>
      clear HC0
      obtain ⟨k, hk, rfl, HC⟩ := hrel
      by_cases hlt : k < len
      · obtain ⟨b, off, rfl, hbl, t0, t1⟩ := (H.out.mono HC.out.bel).at' k hlt
        have hwf := H.out.wf k hlt
        have hnx := Pa.cts_next ts k (by rw [HLN.out]; exact hlt)
        have hin := Pa.in_cts ts k (by rw [HLN.out]; exact hk)
        generalize ts.getD k (0, 0) = t at *
        obtain ⟨x, y⟩ := t
        simp only at t0 t1 hwf
        have hb5 := below_alloc wr (.cells #[.int .i64 x, .int .i64 y] 59)
        have hr5 : (wr.alloc (.cells #[.int .i64 x, .int .i64 y] 59)).heap[wr.heap.size]? = some (.cells #[.int .i64 x, .int .i64 y] 59 (0, 0)) := heap_alloc_last wr _
        have HS := Lib.hid (symbols_any09 (x, y) (wr.alloc (.cells #[.int .i64 x, .int .i64 y] 59)) hwf)
        have HNX := Lib.hid hnx
        have HIN := Lib.hid hin
        have HC5 := Lib.hid (HC.out.mono hb5)
        have HG := Lib.hid (And.intro (HC.out.own1.lt g1 rfl).2 (HC.out.own2.lt g2 rfl).2)
        clear hnx hin hwf hb5 HC hbl
        simp only at HS
        go_wp2_with fail
        refine HS.out.mono ?_
        rintro e w6 ⟨⟨v, ⟨sv, dv, rfl, hsd⟩, rfl⟩, hb6⟩
        have hr6 := (hb6.block wr.heap.size (by simp)).trans hr5
        have HC6 := Lib.hid (HC5.out.mono hb6)
        have x0 : w6.cell? ⟨wr.heap.size, 0, none⟩ = some (.int .i64 x) := by rw [cell_of_row _ _ _ _ _ (0, 0) hr6]; rfl
        clear hb6 hr6 hr5 HS HC5 t0 t1
        by_cases htok : Tk.isTok (x, y) = true
        · have htr := Tk.tok_range htok
          simp only at htr
          obtain ⟨hs0, hs1⟩ := hsd htok
          have HST : Hid (Pa.cts ts (k + 1) = if x = 0 then (Pa.bmp (Pa.cts ts k).1 y.toNat, (Pa.cts ts k).2) else (Pa.bmp (Pa.cts ts k).1 (257 + Sy.lsy x.toNat), Pa.bmp (Pa.cts ts k).2 (Sy.dsy y.toNat))) := Lib.hid (by rw [HNX.out]; unfold Pa.stC; rw [if_pos htok])
          rw [htok]
          clear hsd htok HNX
          by_cases hx : x = 0
          · obtain ⟨rfl, rfl⟩ := hs0 hx
            subst hx
            obtain ⟨j, rfl⟩ : ∃ j : Nat, sv = (j : Int) := ⟨sv.toNat, by omega⟩
            have hj : j < 286 := by omega
            have hcj := HC6.out.c1 j hj
            have hfj := Pa.own_fz HC6.out.own1 j
            have hvr := HIN.out.1.2 j
            have x1 : (w6.setCell ⟨g1, j, none⟩ (.int .i64 ((Pa.cts ts k).1.getD j 0 + 1))).cell? ⟨wr.heap.size, 0, none⟩ = some (.int .i64 0) := by rw [cell_set_other (by have := HG.out.1; omega)]; exact x0
            have HC7 := Lib.hid (HC6.out.set1 j ((Pa.cts ts k).1.getD j 0 + 1))
            have HE : Hid (Pa.cts ts (k + 1) = ((Pa.cts ts k).1.set j ((Pa.cts ts k).1.getD j 0 + 1), (Pa.cts ts k).2)) := Lib.hid (by rw [HST.out, if_pos rfl, Int.toNat_natCast]; rfl)
            have dj : decide (j < 286) = true := by simp; omega
            clear HST HC6 HIN hs0 hs1
            generalize (Pa.cts ts k).1.getD j 0 = z at *
            go_wp2
            go_roundw
            case rel => exact ⟨k + 1, by omega, by go_num, by rw [HE.out]; exact HC7⟩
            case measure => simp [intOf]; omega
          · obtain ⟨rfl, rfl⟩ := hs1 hx
            have hx3 : decide (0 < x) = true := by simp; omega
            have hj : 257 + Sy.lsy x.toNat < 286 := by have := Sy.cnt_le Sy.lb 28 x.toNat; unfold Sy.lsy; omega
            have hd29 : Sy.dsy y.toNat ≤ 29 := Sy.cnt_le _ _ _
            have HST2 : Hid (Pa.cts ts (k + 1) = (Pa.bmp (Pa.cts ts k).1 (257 + Sy.lsy x.toNat), Pa.bmp (Pa.cts ts k).2 (Sy.dsy y.toNat))) := Lib.hid (by rw [HST.out, if_neg hx])
            clear hs0 hs1 HST
            generalize 257 + Sy.lsy x.toNat = j at *
            generalize Sy.dsy y.toNat = q at *
            have hq : q < 30 := by omega
            have hcj := HC6.out.c1 j hj
            have hfj := Pa.own_fz HC6.out.own1 j
            have hvr := HIN.out.1.2 j
            have hvq := HIN.out.2.2 q
            have HC7 := Lib.hid (HC6.out.set1 j ((Pa.cts ts k).1.getD j 0 + 1))
            have HC8 := Lib.hid (HC7.out.set2 q ((Pa.cts ts k).2.getD q 0 + 1))
            have x1 : (w6.setCell ⟨g1, j, none⟩ (.int .i64 ((Pa.cts ts k).1.getD j 0 + 1))).cell? ⟨wr.heap.size, 0, none⟩ = some (.int .i64 x) := by rw [cell_set_other (by have := HG.out.1; omega)]; exact x0
            have hcq := HC7.out.c2 q hq
            have hfq := Pa.own_fz HC7.out.own2 q
            have HE : Hid (Pa.cts ts (k + 1) = ((Pa.cts ts k).1.set j ((Pa.cts ts k).1.getD j 0 + 1), (Pa.cts ts k).2.set q ((Pa.cts ts k).2.getD q 0 + 1))) := Lib.hid (by rw [HST2.out]; rfl)
            have dj : decide (j < 286) = true := by simp; omega
            have dq : decide (q < 30) = true := by simp; omega
            clear HST2 HC6 HIN HC7
            generalize (Pa.cts ts k).1.getD j 0 = z at *
            generalize (Pa.cts ts k).2.getD q 0 = z2 at *
            go_wp2
            go_roundw
            case rel => exact ⟨k + 1, by omega, by go_num, by rw [HE.out]; exact HC8⟩
            case measure => simp [intOf]; omega
        · have hf : Tk.isTok (x, y) = false := by simpa using htok
          rw [hf]
          have HE : Hid (Pa.cts ts (k + 1) = Pa.cts ts k) := Lib.hid (by rw [HNX.out]; unfold Pa.stC; rw [if_neg htok])
          clear hsd htok hf HNX HIN x0
          go_wp2
          go_roundw
          case rel => exact ⟨k + 1, by omega, by go_num, by rw [HE.out]; exact HC6⟩
          case measure => simp [intOf]; omega
      · obtain rfl : len = k := by omega
        go_wp2
        go_ret2
        exact ⟨g1, g2, rfl, HC.out⟩
end Go.Proofs.YtpoilaappcjbeaaGreatDoor
end
