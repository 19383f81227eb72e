/- Slices of numbers of the call's own. -/
import Derived.Test.YtfdnjblbhbkndaaDoorOpen
import Derived.Test.YtfdnjblbhbkndaaDoorProg
import Derived.Test.YtfdnjblbhbkndaaDoorApartMem
namespace Go.Proofs.YtfdnjblbhbkndaaDoor
open Go.RowKit

/-- Numbers as cells. -/
def ivs (l : List Int) : List Value := l.map fun n => .int .i64 n
theorem ivs_length (l : List Int) : (ivs l).length = l.length := by simp [ivs]
theorem ivs_append (l m : List Int) : ivs (l ++ m) = ivs l ++ ivs m := by simp [ivs]
theorem ivs_one (l : List Int) : ∀ u ∈ ivs l, u.oneCell' = true := by
  intro u hu
  simp only [ivs, List.mem_map] at hu
  obtain ⟨x, _, rfl⟩ := hu
  rfl
theorem ivs_get (l : List Int) (i : Nat) (h : i < l.length) : (ivs l)[i]? = some (.int .i64 (l.getD i 0)) := by
  simp [ivs, List.getD, List.getElem?_eq_getElem h]
theorem ivs_set (l : List Int) (j : Nat) (n : Int) : (ivs l).set j (.int .i64 n) = ivs (l.set j n) := by simp [ivs, List.map_set]
/-- All of them are numbers of a machine. -/
def Wf (l : List Int) : Prop := ∀ n ∈ l, (Lit.int .i64 n).wf = true
theorem tyI : RowTy Tryd.prog 26 3 (.int .i64 0) 1 8 := ⟨Tryd.underlying26, by kernel_rfl, rfl, by omega⟩
theorem Is.mono {k : IntKind} {w w' : World} {a : Option Addr} {len cap : Nat} {l : List Int} (h : Is k w a len cap l) (hb : Below w.heap.size w w') : Is k w' a len cap l :=
  ⟨h.hlen, h.hle, h.hnil, fun i hi => by
    obtain ⟨b, off, e, hlt, hc⟩ := h.at' i hi
    exact ⟨b, off, e, Nat.lt_of_lt_of_le hlt hb.size, by rw [hb.cell (p := ⟨b, off + i, none⟩) hlt]; exact hc⟩, h.wf⟩
theorem Is.src {w : World} {a : Option Addr} {len cap : Nat} {l : List Int} (h : Is .i64 w a len cap l) : SrcRow w a len cap (ivs l) 1 := by
  refine ⟨by rw [ivs_length, h.hlen, Nat.mul_one], fun e => ?_, fun ad e j u hu => ?_, ivs_one l⟩
  · have := h.hnil e; have := h.hle; omega
  · have hj : j < l.length := by have := (List.getElem?_eq_some_iff.1 hu).1; simpa [ivs] using this
    obtain ⟨b, off, e2, _, hc⟩ := h.at' j (by rw [← h.hlen]; exact hj)
    rw [e] at e2
    obtain rfl := Option.some.inj e2
    rw [Addr.add_mid, hc, ← ivs_get l j hj]
    exact hu
/-- A row that the call owns reads as its numbers, any part of it. -/
theorem is_of_own {w : World} {base : Nat} {e : TypeId} {g n cap : Nat} {l : List Int} (h : w.ownsRow base e 1 (.slice (some ⟨g, 0, none⟩) n cap) n (ivs l)) (hw : Wf l) (s k c : Nat) (hk : s + k ≤ n) (hc : k ≤ c) :
    Is .i64 w (some ⟨g, s, none⟩) k c ((l.drop s).take k) := by
  have hn : l.length = n := by have := h.1; rw [ivs_length] at this; omega
  have hlt : g < w.heap.size := (h.lt g rfl).2
  refine ⟨by simp; omega, hc, fun h => by simp at h, fun i hi => ⟨g, s, rfl, hlt, ?_⟩, fun n hn => hw n (List.mem_of_mem_drop (List.mem_of_mem_take hn))⟩
  rw [h.cellAt (s + i) (by omega), ivs_get l (s + i) (by omega)]
  simp [List.getD, List.getElem?_take, hi, List.getElem?_drop]
theorem own_is {w : World} {base : Nat} {e : TypeId} {v : Value} {n : Nat} {l : List Int} (h : w.ownsRow base e 1 v n (ivs l)) (hw : Wf l) :
    ∃ a cap, v = .slice a n cap ∧ Is .i64 w a n cap l := by
  have hn : l.length = n := by have := h.1; rw [ivs_length] at this; omega
  rcases own_nil_or h with ⟨rfl, rfl⟩ | ⟨g, cap, rfl, hle, _⟩
  · have : l = [] := List.eq_nil_of_length_eq_zero hn
    subst this
    exact ⟨none, 0, rfl, rfl, Nat.le_refl _, fun _ => rfl, fun i hi => absurd hi (by omega), fun n hn => by simp at hn⟩
  · have := is_of_own h hw 0 n cap (by omega) hle
    rw [List.drop_zero, List.take_of_length_le (by omega)] at this
    exact ⟨_, cap, rfl, this⟩
theorem is_nil (w : World) : Is .i64 w none 0 0 [] := ⟨rfl, Nat.le_refl _, fun _ => rfl, fun i hi => absurd hi (by omega), fun n hn => by simp at hn⟩
/-- One number, as what is appended. -/
theorem src_int (w : World) (n : Int) : SrcRow (w.alloc (.cells #[Value.int .i64 n] 3)) (some ⟨w.heap.size, 0, none⟩) 1 1 (ivs [n]) 1 :=
  src_new w #[Value.int .i64 n] 3 1 1 1 rfl (ivs_one [n])
theorem own_int (w : World) (base : Nat) (n : Int) (hb : base ≤ w.heap.size) : (w.alloc (.cells #[Value.int .i64 n] 3)).ownsRow base 3 1 (.slice (some ⟨w.heap.size, 0, none⟩) 1 1) 1 (ivs [n]) :=
  ⟨by simp [ivs], .inr ⟨w.heap.size, 1, #[Value.int .i64 n], rfl, hb, heap_alloc_last w _, by omega, by unfold maxLen; omega, rfl, rfl⟩⟩
/-- Bits as numbers. -/
def bi (l : List Bool) : List Int := l.map fun b => (b.toNat : Int)
theorem bi_length (l : List Bool) : (bi l).length = l.length := by simp [bi]
theorem bi_append (l m : List Bool) : bi (l ++ m) = bi l ++ bi m := by simp [bi]
theorem bi_getD (l : List Bool) (i : Nat) : (bi l).getD i 0 = ((l.getD i false).toNat : Int) := by
  by_cases h : i < l.length
  · simp [bi, List.getD, List.getElem?_eq_getElem h]
  · simp [bi, List.getD, List.getElem?_eq_none (Nat.le_of_not_lt h)]
theorem bi_wf (l : List Bool) : Wf (bi l) := by
  intro n hn
  simp only [bi, List.mem_map] at hn
  obtain ⟨b, _, rfl⟩ := hn
  cases b <;> rfl
end Go.Proofs.YtfdnjblbhbkndaaDoor
