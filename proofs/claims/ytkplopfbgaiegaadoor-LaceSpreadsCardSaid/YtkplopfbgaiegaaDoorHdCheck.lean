/- slices.Contains, head.depths, Check, Channels, RowSize: their contracts. -/
import Derived.Test.YtkplopfbgaiegaaDoorHdPure
import Derived.Test.YtkplopfbgaiegaaDoorInts
import Derived.Test.YtkplopfbgaiegaaDoorFront
import Derived.Test.YtkplopfbgaiegaaDoorDrewN
import Derived.Deep.RegionHeld3
namespace Go.Proofs.YtkplopfbgaiegaaDoor
open Go.RowKit

/-- A new block of numbers. -/
theorem is_new (w : World) (l : List Int) (t : TypeId) (n : Nat) (hn : l.length = n) (hw : Wf l) (cs : Array Value) (hcs : (ivs l).toArray = cs) : Is .i64 (w.alloc (.cells cs t)) (some ⟨w.heap.size, 0, none⟩) n n l := by
  subst hcs
  refine ⟨hn, Nat.le_refl _, fun h => by simp at h, fun i hi => ⟨w.heap.size, 0, rfl, by simp, ?_⟩, hw⟩
  rw [cell_of_row _ _ _ _ t (0, 0) (heap_alloc_last w _), Nat.zero_add, ← ivs_get l i (by omega)]
  simp

namespace Hd
def IdxPost (w : World) (l : List Int) (v : Int) (e : Ending) (w' : World) : Prop := ∃ r : Int, e = .returned (.int .i64 r) ∧ w = w' ∧ Hid (decide (0 ≤ r) = l.contains v)
theorem index_any (a : Option Addr) (len cap : Nat) (l : List Int) (v : Int) (w : World) (h : Is .i64 w a len cap l) (hr : len ≤ 1000000000) :
    Calls Tryd.prog 39 #[.slice a len cap, .int .i64 v] w (IdxPost w l v) := by
  have H := Lib.hid h
  have HLN := Lib.hid h.hlen
  clear h
  go_enter Tryd.func39, Tryd.ntmps39
  go_wp2
  go_loop [8] (fun i => ∃ k : Nat, k ≤ len ∧ i = .int .i64 k ∧ Hid (∀ j, j < k → l.getD j 0 ≠ v)) (fun i => len - (intOf i).toNat)
  case atStart => exact ⟨0, by omega, rfl, Lib.hid (fun j hj => by omega)⟩
  case round =>
    obtain ⟨k, hk, rfl, HA⟩ := hrel
    by_cases hlt : k < len
    · obtain ⟨b, off, rfl, hb, hcell⟩ := H.out.at' k hlt
      have HF : Hid (l.getD k 0 = v → l.contains v = true) := Lib.hid (fun e => by
        have hk2 : k < l.length := by rw [HLN.out]; exact hlt
        have e2 : l.getD k 0 = l[k] := by simp [List.getD, List.getElem?_eq_getElem hk2]
        rw [← e, e2]
        simp [List.getElem_mem hk2])
      have HN : Hid (l.getD k 0 ≠ v → ∀ j, j < k + 1 → l.getD j 0 ≠ v) := Lib.hid (fun h j hj => by
        rcases Nat.lt_succ_iff_lt_or_eq.1 hj with h1 | rfl
        · exact HA.out j h1
        · exact h)
      clear HA
      generalize l.getD k 0 = z at *
      by_cases hz : z = v
      · have d1 : (v == z) = true := by rw [hz]; exact beq_self_eq_true _
        have HE := Lib.hid (HF.out hz)
        have HK : Hid (decide (0 ≤ (k : Int)) = true) := Lib.hid (by simp)
        clear HF HN hz
        go_wp2
        go_ret
        exact ⟨_, rfl, rfl, Lib.hid (by rw [HE.out, HK.out])⟩
      · have d1 : (v == z) = false := by simpa using fun e => hz e.symm
        have HN2 := Lib.hid (HN.out hz)
        clear HF HN hz
        go_wp2
        go_round
        case rel => exact ⟨k + 1, by omega, by go_num, HN2⟩
        case measure => simp [intOf]; omega
    · obtain rfl : len = k := by omega
      have HE : Hid (l.contains v = false) := Lib.hid (by
        apply Bool.eq_false_iff.2
        intro hc
        obtain ⟨i, hi, e⟩ := List.getElem_of_mem (show v ∈ l by simpa using hc)
        exact HA.out i (by rw [← HLN.out]; exact hi) (by simp [List.getD, List.getElem?_eq_getElem hi, e]))
      go_wp2
      go_ret
      exact ⟨_, rfl, rfl, Lib.hid (by rw [HE.out]; rfl)⟩
theorem contains_any (a : Option Addr) (len cap : Nat) (l : List Int) (v : Int) (w : World) (h : Is .i64 w a len cap l) (hr : len ≤ 1000000000) :
    Calls Tryd.prog 36 #[.slice a len cap, .int .i64 v] w fun e w' => e = .returned (.bool (l.contains v)) ∧ w = w' := by
  have H := Lib.hid h
  clear h
  go_enter Tryd.func36, Tryd.ntmps36
  go_wp2_with fail
  refine (index_any _ _ _ l v w H.out hr).mono ?_
  rintro e w' ⟨r, rfl, rfl, hd⟩
  go_wp2
  go_ret
  exact ⟨by rw [hd.out]; rfl, rfl⟩
def DepPost (w : World) (c : Int) (e : Ending) (w' : World) : Prop := ∃ a n cap, e = .returned (.slice a n cap) ∧ n ≤ 5 ∧ Is .i64 w' a n cap (deps c) ∧ Below w.heap.size w w'
theorem depths_any (c : Int) (w : World) : Calls Tryd.prog 37 #[.int .i64 c] w (DepPost w c) := by
  by_cases h0 : c = 0
  · subst h0
    go_enter Tryd.func37, Tryd.ntmps37
    go_wp2
    go_ret
    exact ⟨_, _, _, rfl, by omega, is_new w [1, 2, 4, 8, 16] _ 5 rfl (by unfold Wf; decide) _ rfl, below_alloc _ _⟩
  by_cases h3 : c = 3
  · subst h3
    go_enter Tryd.func37, Tryd.ntmps37
    go_wp2
    go_ret
    exact ⟨_, _, _, rfl, by omega, is_new w [1, 2, 4, 8] _ 4 rfl (by unfold Wf; decide) _ rfl, below_alloc _ _⟩
  by_cases h2 : c = 2 ∨ c = 4 ∨ c = 6
  · rcases h2 with rfl | rfl | rfl
    all_goals
      go_enter Tryd.func37, Tryd.ntmps37
      go_wp2
      go_ret
      exact ⟨_, _, _, rfl, by omega, is_new w [8, 16] _ 2 rfl (by unfold Wf; decide) _ rfl, below_alloc _ _⟩
  · have d0 : (c == (0 : Int)) = false := by simpa using h0
    have d3 : (c == (3 : Int)) = false := by simpa using h3
    have d2 : (c == (2 : Int)) = false := by simp; omega
    have d4 : (c == (4 : Int)) = false := by simp; omega
    have d6 : (c == (6 : Int)) = false := by simp; omega
    have HD : Hid (deps c = []) := Lib.hid (by unfold deps; rw [if_neg h0, if_neg h3, if_neg h2])
    clear h0 h3 h2
    go_enter Tryd.func37, Tryd.ntmps37
    go_wp2
    go_ret
    exact ⟨_, _, _, rfl, by omega, by rw [HD.out]; exact is_nil w, Below.refl _ _⟩
theorem chan_any (c : Int) (w : World) : Calls Tryd.prog 38 #[.int .i64 c] w fun e w' => e = .returned (.int .i64 (chan c)) ∧ w = w' := by
  by_cases h : c = 0 ∨ c = 2 ∨ c = 3 ∨ c = 4 ∨ c = 6
  · rcases h with rfl | rfl | rfl | rfl | rfl
    all_goals
      go_enter Tryd.func38, Tryd.ntmps38
      go_wp2
      go_ret
      exact ⟨rfl, rfl⟩
  · have d0 : (c == (0 : Int)) = false := by simp; omega
    have d3 : (c == (3 : Int)) = false := by simp; omega
    have d2 : (c == (2 : Int)) = false := by simp; omega
    have d4 : (c == (4 : Int)) = false := by simp; omega
    have d6 : (c == (6 : Int)) = false := by simp; omega
    have HD : Hid (chan c = 0) := Lib.hid (by unfold chan; rw [if_neg (by omega), if_neg (by omega), if_neg (by omega), if_neg (by omega), if_neg (by omega)])
    clear h
    go_enter Tryd.func38, Tryd.ntmps38
    go_wp2
    go_ret
    exact ⟨by rw [HD.out]; rfl, rfl⟩
/-- A head in a block of its own. -/
def Bx (w : World) (g : Nat) (x : H) : Prop := w.heap[g]? = some (.cells #[.int .i64 x.w, .int .i64 x.h, .int .i64 x.d, .int .i64 x.c, .int .i64 x.l] 48 (0, 0))
theorem Bx.cells {w : World} {g : Nat} {x : H} (h : Bx w g x) : w.cell? ⟨g, 0, none⟩ = some (.int .i64 x.w) ∧ w.cell? ⟨g, 1, none⟩ = some (.int .i64 x.h) ∧ w.cell? ⟨g, 2, none⟩ = some (.int .i64 x.d) ∧ w.cell? ⟨g, 3, none⟩ = some (.int .i64 x.c) ∧ w.cell? ⟨g, 4, none⟩ = some (.int .i64 x.l) := by
  unfold Bx at h
  refine ⟨?_, ?_, ?_, ?_, ?_⟩
  all_goals rw [cell_of_row _ _ _ _ _ (0, 0) h]; rfl
theorem Bx.lt {w : World} {g : Nat} {x : H} (h : Bx w g x) : g < w.heap.size := (Array.getElem?_eq_some_iff.1 h).1
theorem Bx.below {w w' : World} {g : Nat} {x : H} (h : Bx w g x) (hb : Below w.heap.size w w') : Bx w' g x := (hb.block g h.lt).trans h
theorem bx_new (w : World) (x : H) : Bx (w.alloc (.cells #[.int .i64 x.w, .int .i64 x.h, .int .i64 x.d, .int .i64 x.c, .int .i64 x.l] 48)) w.heap.size x := heap_alloc_last w _
theorem bx_drew {w : World} {g : Nat} {x : H} (h : Bx w g x) : Bx w.drew g x := h
theorem mul_small {a b : Int} (h1 : 0 ≤ a) (h2 : a ≤ 65535) (h3 : 0 ≤ b) (h4 : b ≤ 65535) : 0 ≤ a * b ∧ a * b ≤ 4294836225 := by
  have := Int.mul_le_mul h2 h4 h3 (by omega)
  exact ⟨Int.mul_nonneg h1 h3, by omega⟩
end Hd
end Go.Proofs.YtkplopfbgaiegaaDoor
