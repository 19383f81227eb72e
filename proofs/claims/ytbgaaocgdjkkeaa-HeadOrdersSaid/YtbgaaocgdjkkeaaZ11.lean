/- head.sequence in memory: its counts in a map by name; none: its contract. -/
import Derived.Test.YtbgaaocgdjkkeaaZ6
import Derived.Test.YtbgaaocgdjkkeaaZ10
import Derived.Maps.Own
import Derived.Maps.OwnOps
import Derived.StringKeys
set_option linter.unusedSimpArgs false
set_option linter.unusedVariables false
section
namespace Go.Proofs.Ytbgaaocgdjkkeaa
open Go.RowKit Go.Maps Go.ChangeMaps

namespace Hd
/-- A map that the call made: so many by name. -/
def Cm (w : World) (mb n : Nat) (f : List UInt8 → Nat) : Prop :=
  ∃ D : DataW Unit, w.ownsMap Try.prog 9 (plainElem Try.prog 3) mb n D ∧ ∀ nm : List UInt8, nm.length ≤ 1000 → D.atKey (.string nm) (.lit (.int .i64 0)) = .lit (.int .i64 (f nm : Nat))
theorem skey : Keyed Try.prog 9 := string_keyed Try.underlying9
theorem key_str {nm : List UInt8} (h : nm.length ≤ 1000) : keyOf Try.prog 9 (.string (str nm)) = some (.string nm) :=
  Go.WideMaps.keyOf_string_mk Try.underlying9 (by rw [str_size]; unfold maxLen; omega)
theorem zero_int (w : World) : (zeroValue 3).run Try.prog w = .ok (.int .i64 0) w := by kernel_rfl
theorem Cm.look {w : World} {mb n : Nat} {f : List UInt8 → Nat} (h : Cm w mb n f) {nm : List UInt8} (hn : nm.length ≤ 1000) : (Instr.lookup 68 (.map (some mb)) (.string (str nm)) false).run Try.prog w = .ok (.int .i64 (f nm : Nat)) w := by
  obtain ⟨D, hown, hD⟩ := h
  obtain ⟨c, hrun, hat, _⟩ := hown.lookup_int skey Try.underlying68 Try.underlying3 (zero_int w) (key_str hn)
  rw [hD nm hn] at hat
  simp only [DataW.lit.injEq, Lit.int.injEq, true_and] at hat
  rw [hrun, ← hat]
theorem Cm.lt {w : World} {mb n : Nat} {f : List UInt8 → Nat} (h : Cm w mb n f) : mb < w.heap.size := by obtain ⟨D, hown, _⟩ := h; exact hown.lt
theorem Cm.kept {w w' : World} {row : Option Nat} {mb n : Nat} {f : List UInt8 → Nat} (h : Cm w mb n f) (hg : w.grownBy w' row) (hne : some mb ≠ row) : Cm w' mb n f := by
  obtain ⟨D, hown, hD⟩ := h
  exact ⟨D, hown.kept hg hne, hD⟩
theorem Cm.below {w w' : World} {mb n : Nat} {f : List UInt8 → Nat} (h : Cm w mb n f) (hb : Below w.heap.size w w') : Cm w' mb n f :=
  h.kept (row := none) ⟨hb.os, hb.tape, hb.output, hb.size, fun k hk _ => hb.block k hk⟩ (by simp)
theorem cm_new (w : World) : Cm (w.alloc (.map #[] 0)) w.heap.size 0 (fun _ => 0) := ⟨_, World.ownsMap_made _ _ _ _, fun nm _ => rfl⟩
theorem Cm.put {w : World} {mb n : Nat} {f : List UInt8 → Nat} (h : Cm w mb n f) {nm : List UInt8} (hn : nm.length ≤ 1000) (hr : n < 1000000) {c : Nat} (hc : c < 1000000) :
    ∃ w', (Instr.mapUpdate 68 (.map (some mb)) (.string (str nm)) (.int .i64 (c : Nat))).run Try.prog w = .ok () w' ∧ Cm w' mb (n + 1) (fun m => if m = nm then c else f m) ∧ w.grownBy w' (some mb) := by
  obtain ⟨D, hown, hD⟩ := h
  have hw : (Lit.int .i64 (c : Int)).wf = true := by simp only [Lit.wf, IntKind.min, IntKind.max, IntKind.signed, IntKind.bits, Bool.and_eq_true, decide_eq_true_eq, if_true]; simp; omega
  obtain ⟨w', hrun, hown', hg⟩ := hown.update skey Try.underlying68 (by unfold maxLen; omega) (key_str hn) (plainElem_int Try.underlying3 hw)
  refine ⟨w', hrun, ⟨_, hown', fun m hm => ?_⟩, hg⟩
  show _ = DataW.lit (.int .i64 ((if m = nm then c else f m : Nat) : Int))
  by_cases e : m = nm
  · subst e
    rw [if_pos rfl]
    exact Maps.atKey_put_same hown.isMap (by first | exact rfl | simp [WideAt.IsKeyLit]) _ _
  · rw [if_neg e, Maps.atKey_put_other (by simpa using e)]
    exact hD m hm
/-- The sequence, in memory. -/
structure Sq (w : World) (g mb n : Nat) (x : H) (f : List UInt8 → Nat) (prev : List UInt8) (ent : Nat) : Prop where
  row : w.heap[g]? = some (.cells #[.int .i64 x.w, .int .i64 x.h, .int .i64 x.d, .int .i64 x.c, .int .i64 x.l, .map (some mb), .string (str prev), .int .i64 (ent : Nat)] 70 (0, 0))
  cm : Cm w mb n f
theorem Sq.lt {w : World} {g mb n : Nat} {x : H} {f : List UInt8 → Nat} {prev : List UInt8} {ent : Nat} (h : Sq w g mb n x f prev ent) : g < w.heap.size := (Array.getElem?_eq_some_iff.1 h.row).1
theorem Sq.below {w w' : World} {g mb n : Nat} {x : H} {f : List UInt8 → Nat} {prev : List UInt8} {ent : Nat} (h : Sq w g mb n x f prev ent) (hb : Below w.heap.size w w') : Sq w' g mb n x f prev ent :=
  ⟨(hb.block g h.lt).trans h.row, h.cm.below hb⟩
theorem Sq.cells {w : World} {g mb n : Nat} {x : H} {f : List UInt8 → Nat} {prev : List UInt8} {ent : Nat} (h : Sq w g mb n x f prev ent) : w.cell? ⟨g, 2, none⟩ = some (.int .i64 x.d) ∧ w.cell? ⟨g, 3, none⟩ = some (.int .i64 x.c) ∧ w.cell? ⟨g, 5, none⟩ = some (.map (some mb)) ∧ w.cell? ⟨g, 6, none⟩ = some (.string (str prev)) ∧ w.cell? ⟨g, 7, none⟩ = some (.int .i64 (ent : Nat)) := by
  refine ⟨?_, ?_, ?_, ?_, ?_⟩
  all_goals rw [cell_of_row _ _ _ _ _ (0, 0) h.row]; rfl
/-- None of these is there. -/
def nz (f : List UInt8 → Nat) (l : List (List UInt8)) : Bool := l.all fun nm => f nm == 0
def sts (l : List (List UInt8)) : Array Value := (l.map fun n => .string (str n)).toArray
theorem sts_get (l : List (List UInt8)) (i : Nat) (h : i < l.length) : (sts l)[i]? = some (.string (str (l.getD i []))) := by
  simp [sts, List.getD, List.getElem?_eq_getElem h]
set_option maxRecDepth 100000 in
set_option maxHeartbeats 1000000 in
theorem none_any {w : World} {g mb n : Nat} {x : H} {f : List UInt8 → Nat} {prev : List UInt8} {ent : Nat} (h : Sq w g mb n x f prev ent) (l : List (List UInt8)) (q m : Nat) (hm : l.length = m) (hrow : w.heap[q]? = some (.cells (sts l) 9 (0, 0))) (hl : ∀ k, k < m → (l.getD k []).length ≤ 1000) (hm2 : m ≤ 1000) :
    Calls Try.prog 66 #[.pointer (some ⟨g, 0, none⟩), .slice (some ⟨q, 0, none⟩) m m] w fun e w' => e = .returned (.bool (nz f l)) ∧ w = w' := by
  have HR := Lib.hid hrow
  have HL := Lib.hid hl
  have HM := Lib.hid hm
  obtain ⟨_, _, c5, _, _⟩ := h.cells
  have HLK := Lib.hid (fun nm hn => h.cm.look (nm := nm) hn)
  clear h hrow hl hm
  go_enter Try.func66, Try.ntmps66
  go_wp2
  go_loop [6, 9] (fun _ i => ∃ k : Nat, k ≤ m ∧ i = .int .i64 (k : Nat) ∧ Hid (∀ j, j < k → f (l.getD j []) = 0)) (fun _ i => m - (intOf i).toNat)
  case atStart => exact ⟨0, by omega, rfl, Lib.hid (fun j hj => by omega)⟩
  case round =>
    obtain ⟨k, hk, rfl, HA⟩ := hrel
    by_cases hlt : k < m
    · have hc : w.cell? ⟨q, k, none⟩ = some (.string (str (l.getD k []))) := (cell_of_row _ _ _ _ _ (0, 0) HR.out).trans (sts_get l k (by rw [HM.out]; exact hlt))
      have hlk := HLK.out (l.getD k []) (HL.out k hlt)
      have HF : Hid (f (l.getD k []) ≠ 0 → nz f l = false) := Lib.hid (fun h => by
        unfold nz
        rw [List.all_eq_false]
        have hk2 : k < l.length := by rw [HM.out]; exact hlt
        have e2 : l.getD k [] = l[k] := by simp [List.getD, List.getElem?_eq_getElem hk2]
        rw [e2] at h
        exact ⟨l[k], List.getElem_mem hk2, by simpa using h⟩)
      have HN : Hid (f (l.getD k []) = 0 → ∀ j, j < k + 1 → f (l.getD j []) = 0) := Lib.hid (fun h j hj => by
        rcases Nat.lt_succ_iff_lt_or_eq.1 hj with h1 | rfl
        · exact HA.out j h1
        · exact h)
      clear HA
      generalize f (l.getD k []) = c at *
      generalize l.getD k [] = nm at *
      by_cases hz : c = 0
      · subst hz
        have HN2 := Lib.hid (HN.out rfl)
        clear HF HN
        go_wp2
        go_round
        case rel => exact ⟨k + 1, by omega, by go_num, HN2⟩
        case measure => simp [intOf]; omega
      · have d1 : decide (0 < c) = true := by simp; omega
        have d2 : decide ((0 : Int) < (c : Int)) = true := by simp; omega
        have HF2 := Lib.hid (HF.out hz)
        clear HF HN hz
        go_wp2
        go_ret
        exact ⟨by rw [HF2.out]; rfl, rfl⟩
    · obtain rfl : k = m := by omega
      have HE : Hid (nz f l = true) := Lib.hid (by
        unfold nz
        rw [List.all_eq_true]
        intro nm hnm
        obtain ⟨i, hi, rfl⟩ := List.getElem_of_mem hnm
        have := HA.out i (by rw [← HM.out]; exact hi)
        simpa [List.getD, List.getElem?_eq_getElem hi] using this)
      clear HA
      go_wp2
      go_ret
      exact ⟨by rw [HE.out]; rfl, rfl⟩
end Hd
end Go.Proofs.Ytbgaaocgdjkkeaa
end
