/- Slices of numbers of the call's own. Numbers as a literal. The document's tables of bases: their contracts. Which symbol holds a length or a distance. The document's table of lengths: its contract. -/
import Derived.Test.YtjjbgdmalefdlaaGreatDoorZ2
import Derived.Test.YtjjbgdmalefdlaaGreatDoorZ4
import Derived.Test.YtjjbgdmalefdlaaGreatDoorZ7
import Derived.Test.YtjjbgdmalefdlaaGreatDoorProg
set_option linter.unusedSimpArgs false
set_option linter.unusedVariables false
section
namespace Go.Proofs.YtjjbgdmalefdlaaGreatDoor
open Go.RowKit

/-- Numbers as cells. -/
def ivs (l : List Int) : List Value := l.map fun n => .int .i64 n
theorem ivs_length (l : List Int) : (ivs l).length = l.length := by simp [ivs]
theorem ivs_append (l m : List Int) : ivs (l ++ m) = ivs l ++ ivs m := by simp [ivs]
theorem ivs_one (l : List Int) : ∀ u ∈ ivs l, u.oneCell' = true := by
  intro u hu
  simp only [ivs, List.mem_map] at hu
  obtain ⟨x, _, rfl⟩ := hu
  rfl
theorem ivs_get (l : List Int) (i : Nat) (h : i < l.length) : (ivs l)[i]? = some (.int .i64 (l.getD i 0)) := by
  simp [ivs, List.getD, List.getElem?_eq_getElem h]
theorem ivs_set (l : List Int) (j : Nat) (n : Int) : (ivs l).set j (.int .i64 n) = ivs (l.set j n) := by simp [ivs, List.map_set]
/-- All of them are numbers of a machine. -/
def Wf (l : List Int) : Prop := ∀ n ∈ l, (Lit.int .i64 n).wf = true
theorem tyI : RowTy Tryz.prog 53 3 (.int .i64 0) 1 8 := ⟨Tryz.underlying53, by kernel_rfl, rfl, by omega⟩
theorem Is.mono {k : IntKind} {w w' : World} {a : Option Addr} {len cap : Nat} {l : List Int} (h : Is k w a len cap l) (hb : Below w.heap.size w w') : Is k w' a len cap l :=
  ⟨h.hlen, h.hle, h.hnil, fun i hi => by
    obtain ⟨b, off, e, hlt, hc⟩ := h.at' i hi
    exact ⟨b, off, e, Nat.lt_of_lt_of_le hlt hb.size, by rw [hb.cell (p := ⟨b, off + i, none⟩) hlt]; exact hc⟩, h.wf⟩
theorem Is.src {w : World} {a : Option Addr} {len cap : Nat} {l : List Int} (h : Is .i64 w a len cap l) : SrcRow w a len cap (ivs l) 1 := by
  refine ⟨by rw [ivs_length, h.hlen, Nat.mul_one], fun e => ?_, fun ad e j u hu => ?_, ivs_one l⟩
  · have := h.hnil e; have := h.hle; omega
  · have hj : j < l.length := by have := (List.getElem?_eq_some_iff.1 hu).1; simpa [ivs] using this
    obtain ⟨b, off, e2, _, hc⟩ := h.at' j (by rw [← h.hlen]; exact hj)
    rw [e] at e2
    obtain rfl := Option.some.inj e2
    rw [Addr.add_mid, hc, ← ivs_get l j hj]
    exact hu
/-- A row that the call owns reads as its numbers, any part of it. -/
theorem is_of_own {w : World} {base : Nat} {e : TypeId} {g n cap : Nat} {l : List Int} (h : w.ownsRow base e 1 (.slice (some ⟨g, 0, none⟩) n cap) n (ivs l)) (hw : Wf l) (s k c : Nat) (hk : s + k ≤ n) (hc : k ≤ c) :
    Is .i64 w (some ⟨g, s, none⟩) k c ((l.drop s).take k) := by
  have hn : l.length = n := by have := h.1; rw [ivs_length] at this; omega
  have hlt : g < w.heap.size := (h.lt g rfl).2
  refine ⟨by simp; omega, hc, fun h => by simp at h, fun i hi => ⟨g, s, rfl, hlt, ?_⟩, fun n hn => hw n (List.mem_of_mem_drop (List.mem_of_mem_take hn))⟩
  rw [h.cellAt (s + i) (by omega), ivs_get l (s + i) (by omega)]
  simp [List.getD, List.getElem?_take, hi, List.getElem?_drop]
theorem own_is {w : World} {base : Nat} {e : TypeId} {v : Value} {n : Nat} {l : List Int} (h : w.ownsRow base e 1 v n (ivs l)) (hw : Wf l) :
    ∃ a cap, v = .slice a n cap ∧ Is .i64 w a n cap l := by
  have hn : l.length = n := by have := h.1; rw [ivs_length] at this; omega
  rcases own_nil_or h with ⟨rfl, rfl⟩ | ⟨g, cap, rfl, hle, _⟩
  · have : l = [] := List.eq_nil_of_length_eq_zero hn
    subst this
    exact ⟨none, 0, rfl, rfl, Nat.le_refl _, fun _ => rfl, fun i hi => absurd hi (by omega), fun n hn => by simp at hn⟩
  · have := is_of_own h hw 0 n cap (by omega) hle
    rw [List.drop_zero, List.take_of_length_le (by omega)] at this
    exact ⟨_, cap, rfl, this⟩
theorem is_nil (w : World) : Is .i64 w none 0 0 [] := ⟨rfl, Nat.le_refl _, fun _ => rfl, fun i hi => absurd hi (by omega), fun n hn => by simp at hn⟩
/-- One number, as what is appended. -/
theorem src_int (w : World) (n : Int) : SrcRow (w.alloc (.cells #[Value.int .i64 n] 3)) (some ⟨w.heap.size, 0, none⟩) 1 1 (ivs [n]) 1 :=
  src_new w #[Value.int .i64 n] 3 1 1 1 rfl (ivs_one [n])
theorem own_int (w : World) (base : Nat) (n : Int) (hb : base ≤ w.heap.size) : (w.alloc (.cells #[Value.int .i64 n] 3)).ownsRow base 3 1 (.slice (some ⟨w.heap.size, 0, none⟩) 1 1) 1 (ivs [n]) :=
  ⟨by simp [ivs], .inr ⟨w.heap.size, 1, #[Value.int .i64 n], rfl, hb, heap_alloc_last w _, by omega, by unfold maxLen; omega, rfl, rfl⟩⟩
/-- Bits as numbers. -/
def bi (l : List Bool) : List Int := l.map fun b => (b.toNat : Int)
theorem bi_length (l : List Bool) : (bi l).length = l.length := by simp [bi]
theorem bi_append (l m : List Bool) : bi (l ++ m) = bi l ++ bi m := by simp [bi]
theorem bi_getD (l : List Bool) (i : Nat) : (bi l).getD i 0 = ((l.getD i false).toNat : Int) := by
  by_cases h : i < l.length
  · simp [bi, List.getD, List.getElem?_eq_getElem h]
  · simp [bi, List.getD, List.getElem?_eq_none (Nat.le_of_not_lt h)]
theorem bi_wf (l : List Bool) : Wf (bi l) := by
  intro n hn
  simp only [bi, List.mem_map] at hn
  obtain ⟨b, _, rfl⟩ := hn
  cases b <;> rfl
end Go.Proofs.YtjjbgdmalefdlaaGreatDoor
end

section
namespace Go.Proofs.YtjjbgdmalefdlaaGreatDoor
open Go.RowKit

theorem is_lit (w : World) (l : List Int) (n : Nat) (t : TypeId) (cs : Array Value) (hcs : (ivs l).toArray = cs) (hn : l.length = n) (hw : Wf l) : Is .i64 (w.alloc (.cells cs t)) (some ⟨w.heap.size, 0, none⟩) n n l := by
  subst hcs
  refine ⟨hn, Nat.le_refl _, fun h => by simp at h, fun i hi => ⟨w.heap.size, 0, rfl, by simp, ?_⟩, hw⟩
  rw [cell_of_row _ _ _ _ t (0, 0) (heap_alloc_last w _), Nat.zero_add, List.getElem?_toArray]
  exact ivs_get l i (by omega)
/-- The same, at an address that is spelled otherwise (w.heap.size + 1 behind one alloc: Array.size_push). -/
theorem is_lit_at (w : World) (g : Nat) (hg : w.heap.size = g) (l : List Int) (n : Nat) (t : TypeId) (cs : Array Value) (hcs : (ivs l).toArray = cs) (hn : l.length = n) (hw : Wf l) : Is .i64 (w.alloc (.cells cs t)) (some ⟨g, 0, none⟩) n n l := by
  subst hg; exact is_lit w l n t cs hcs hn hw
end Go.Proofs.YtjjbgdmalefdlaaGreatDoor
end

section
namespace Go.Proofs.YtjjbgdmalefdlaaGreatDoor
open Go.RowKit
namespace Sy
def lensL : List Int := [3, 4, 5, 6, 7, 8, 9, 10, 11, 13, 15, 17, 19, 23, 27, 31, 35, 43, 51, 59, 67, 83, 99, 115, 131, 163, 195, 227, 258]
def lensX : List Int := [0, 0, 0, 0, 0, 0, 0, 0, 1, 1, 1, 1, 2, 2, 2, 2, 3, 3, 3, 3, 4, 4, 4, 4, 5, 5, 5, 5, 0]
def distL : List Int := [1, 2, 3, 4, 5, 7, 9, 13, 17, 25, 33, 49, 65, 97, 129, 193, 257, 385, 513, 769, 1025, 1537, 2049, 3073, 4097, 6145, 8193, 12289, 16385, 24577]
def distX : List Int := [0, 0, 0, 0, 1, 1, 2, 2, 3, 3, 4, 4, 5, 5, 6, 6, 7, 7, 8, 8, 9, 9, 10, 10, 11, 11, 12, 12, 13, 13]
theorem lens_eq : ∀ p, p < 29 → lensL.getD p 0 = ((lb p).1 : Int) ∧ lensX.getD p 0 = ((lb p).2 : Int) := by decide +kernel
theorem dist_eq : ∀ p, p < 30 → distL.getD p 0 = ((db p).1 : Int) ∧ distX.getD p 0 = ((db p).2 : Int) := by decide +kernel
/-- Two rows of numbers in memory. -/
structure Two (w : World) (g h n : Nat) (f : Nat → Nat × Nat) : Prop where
  lg : g < w.heap.size
  lh : h < w.heap.size
  fst : ∀ i, i < n → w.cell? ⟨g, i, none⟩ = some (.int .i64 ((f i).1 : Nat))
  snd : ∀ i, i < n → w.cell? ⟨h, i, none⟩ = some (.int .i64 ((f i).2 : Nat))
theorem Two.mono {w w' : World} {g h n : Nat} {f : Nat → Nat × Nat} (H : Two w g h n f) (hb : Below w.heap.size w w') : Two w' g h n f :=
  ⟨Nat.lt_of_lt_of_le H.lg hb.size, Nat.lt_of_lt_of_le H.lh hb.size, fun i hi => (hb.cell (p := ⟨g, i, none⟩) H.lg).trans (H.fst i hi), fun i hi => (hb.cell (p := ⟨h, i, none⟩) H.lh).trans (H.snd i hi)⟩
theorem two_new (w : World) (n : Nat) (f : Nat → Nat × Nat) (x y : List Int) (t : TypeId) (hx : x.length = n) (hy : y.length = n) (h : ∀ p, p < n → x.getD p 0 = ((f p).1 : Int) ∧ y.getD p 0 = ((f p).2 : Int)) (cs ds : Array Value) (hc : (ivs x).toArray = cs) (hd : (ivs y).toArray = ds) :
    Two ((w.alloc (.cells cs t)).alloc (.cells ds t)) w.heap.size (w.heap.size + 1) n f := by
  subst hc
  subst hd
  have e2 : (w.alloc (.cells (ivs x).toArray t)).heap.size = w.heap.size + 1 := by simp
  refine ⟨by simp; omega, by simp, fun i hi => ?_, fun i hi => ?_⟩
  · have hb := below_alloc (w.alloc (.cells (ivs x).toArray t)) (.cells (ivs y).toArray t)
    rw [hb.cell (p := ⟨w.heap.size, i, none⟩) (by show w.heap.size < _; rw [e2]; omega), cell_of_row _ _ _ _ t (0, 0) (heap_alloc_last w _), List.getElem?_toArray, ivs_get _ _ (by omega), (h i hi).1]
  · rw [← e2, cell_of_row _ _ _ _ t (0, 0) (heap_alloc_last _ _), List.getElem?_toArray, ivs_get _ _ (by omega), (h i hi).2]
def TwoPost (w : World) (n : Nat) (f : Nat → Nat × Nat) (e : Ending) (w' : World) : Prop := ∃ g h, e = .returned (.tuple #[.slice (some ⟨g, 0, none⟩) n n, .slice (some ⟨h, 0, none⟩) n n]) ∧ Two w' g h n f ∧ Below w.heap.size w w'
end Sy
theorem dists_any (w : World) : Calls Tryz.prog 28 #[] w (Sy.TwoPost w 30 Sy.db) := by
  have HT := Lib.hid (Sy.two_new w 30 Sy.db Sy.distL Sy.distX 3 rfl rfl Sy.dist_eq _ _ rfl rfl)
  go_enter Tryz.func28, Tryz.ntmps28
  go_wp2
  go_ret2
  exact ⟨_, _, rfl, HT.out, below_alloc2 _ _ _⟩
end Go.Proofs.YtjjbgdmalefdlaaGreatDoor
end

section
namespace Go.Proofs.YtjjbgdmalefdlaaGreatDoor
open Go.RowKit
namespace Sy
theorem held4 {a r : Nat} (ha : a < 255) (h : Held a 4 r) : r ≤ 27 ∧ (lb r).1 ≤ a + 3 ∧ a + 3 < (lb (r + 1)).1 := by
  obtain ⟨e, he, h1, h2, h3⟩ := h
  have T : ∀ e, e < 6 → ∀ q, q < 8 → (e = 0 ∨ 4 ≤ q) → (lb (e * 4 + q)).1 = 3 + q * 2 ^ e ∧ (e * 4 + q < 27 → (lb (e * 4 + q + 1)).1 = 3 + 2 ^ e * (q + 1)) := by decide +kernel
  have l1 := Nat.div_mul_le_self a (2 ^ e)
  have l2 := Nat.lt_mul_div_succ a (Nat.two_pow_pos e)
  have h6 : e < 6 := by
    rcases Nat.lt_or_ge e 6 with h | h
    · exact h
    · have p : 2 ^ 6 ≤ 2 ^ e := Nat.pow_le_pow_right (by omega) h
      have := Nat.mul_le_mul (show 4 ≤ a / 2 ^ e by omega) p
      omega
  generalize a / 2 ^ e = q at *
  obtain ⟨t1, t2⟩ := T e h6 q h1 h2
  subst he
  refine ⟨by omega, by omega, ?_⟩
  by_cases h27 : e * 4 + q = 27
  · rw [h27]; have : (lb (27 + 1)).1 = 258 := by decide
    omega
  · rw [t2 (by omega)]; omega
theorem held2 {a r : Nat} (ha : a < 32768) (h : Held a 2 r) : r ≤ 29 ∧ (db r).1 ≤ a + 1 ∧ (r < 29 → a + 1 < (db (r + 1)).1) := by
  obtain ⟨e, he, h1, h2, h3⟩ := h
  have T : ∀ e, e < 14 → ∀ q, q < 4 → (e = 0 ∨ 2 ≤ q) → (db (e * 2 + q)).1 = 1 + q * 2 ^ e ∧ (e * 2 + q < 29 → (db (e * 2 + q + 1)).1 = 1 + 2 ^ e * (q + 1)) := by decide +kernel
  have l1 := Nat.div_mul_le_self a (2 ^ e)
  have l2 := Nat.lt_mul_div_succ a (Nat.two_pow_pos e)
  have h6 : e < 14 := by
    rcases Nat.lt_or_ge e 14 with h | h
    · exact h
    · have p : 2 ^ 14 ≤ 2 ^ e := Nat.pow_le_pow_right (by omega) h
      have := Nat.mul_le_mul (show 2 ≤ a / 2 ^ e by omega) p
      omega
  generalize a / 2 ^ e = q at *
  obtain ⟨t1, t2⟩ := T e h6 q h1 h2
  subst he
  exact ⟨by omega, by omega, fun h => by rw [t2 h]; omega⟩
end Sy
end Go.Proofs.YtjjbgdmalefdlaaGreatDoor
end

section
namespace Go.Proofs.YtjjbgdmalefdlaaGreatDoor
open Go.RowKit
theorem lens_any (w : World) : Calls Tryz.prog 27 #[] w (Sy.TwoPost w 29 Sy.lb) := by
  have HT := Lib.hid (Sy.two_new w 29 Sy.lb Sy.lensL Sy.lensX 3 rfl rfl Sy.lens_eq _ _ rfl rfl)
  go_enter Tryz.func27, Tryz.ntmps27
  go_wp2
  go_ret2
  exact ⟨_, _, rfl, HT.out, below_alloc2 _ _ _⟩
end Go.Proofs.YtjjbgdmalefdlaaGreatDoor
end
