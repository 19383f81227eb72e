/- Runs that stand for so many of one length. -/
import Derived.Test.YtlbngaeimkhkgaaBlkMath
namespace Go.Proofs.Ytlbngaeimkhkgaa
open Go.RowKit

namespace Bl
/-- What runs come to, behind what there is. -/
def unrL : List Int → List (Int × Int) → Option (List Int)
  | o, [] => some o
  | o, r :: rs => (stp o r).bind fun p => unrL p rs
theorem unrL_append : ∀ (rs ss : List (Int × Int)) (o : List Int), unrL o (rs ++ ss) = (unrL o rs).bind fun p => unrL p ss
  | [], ss, o => rfl
  | r :: rs, ss, o => by
    rw [List.cons_append, unrL, unrL]
    cases h : stp o r with
    | none => rfl
    | some p => exact unrL_append rs ss p
theorem unrL_one (o : List Int) (r : Int × Int) : unrL o [r] = stp o r := by
  rw [unrL]
  cases stp o r <;> rfl
/-- The first k by their numbers, and as a list. -/
theorem unr_list (f : Nat → Int × Int) : ∀ k, unr f k = unrL [] ((List.range k).map f)
  | 0 => rfl
  | k + 1 => by
    rw [unr, unr_list f k, List.range_succ, List.map_append, unrL_append]
    congr 1
    funext p
    rw [List.map_cons, List.map_nil, unrL_one]
theorem unr_getD (rs : List (Int × Int)) : unr (fun k => rs.getD k (0, 0)) rs.length = unrL [] rs := by
  rw [unr_list]
  congr 1
  apply List.ext_getElem
  · simp
  · intro i h1 h2
    simp [List.getD, List.getElem?_eq_getElem h2]
def Rg (rs : List (Int × Int)) : Prop := ∀ t ∈ rs, 0 ≤ t.1 ∧ t.1 ≤ 18 ∧ 0 ≤ t.2 ∧ t.2 ≤ 127
theorem Rg.append {rs ss : List (Int × Int)} (h : Rg rs) (h2 : Rg ss) : Rg (rs ++ ss) := fun t ht => (List.mem_append.1 ht).elim (h t) (h2 t)
theorem Rg.one {y x : Int} (h : 0 ≤ y ∧ y ≤ 18 ∧ 0 ≤ x ∧ x ≤ 127) : Rg [(y, x)] := fun t ht => by
  simp only [List.mem_singleton] at ht
  subst ht; exact h
/-- Runs that stand for d times y, wherever they stand; no more of them than d. -/
structure Got (y : Int) (d : Nat) (rs : List (Int × Int)) : Prop where
  un : ∀ o, unrL o rs = some (o ++ List.replicate d y)
  le : rs.length ≤ d
  rg : Rg rs
theorem Got.nil (y : Int) : Got y 0 [] := ⟨fun o => by simp [unrL], Nat.le_refl _, fun t ht => by simp at ht⟩
theorem Got.more {y : Int} {d e : Nat} {rs : List (Int × Int)} {r : Int × Int} (h : Got y d rs) (he : 1 ≤ e) (hs : ∀ o : List Int, stp (o ++ List.replicate d y) r = some ((o ++ List.replicate d y) ++ List.replicate e y)) (hr : Rg [r]) : Got y (d + e) (rs ++ [r]) :=
  ⟨fun o => by rw [unrL_append, h.un o]; show unrL _ [r] = _; rw [unrL_one, hs, List.append_assoc, List.replicate_append_replicate],
   by have := h.le; simp; omega, h.rg.append hr⟩
theorem Got.lit {y : Int} {d : Nat} {rs : List (Int × Int)} (h : Got y d rs) (h0 : 0 ≤ y) (h15 : y ≤ 15) : Got y (d + 1) (rs ++ [(y, 0)]) := by
  have e6 : ¬ y = 16 := by omega
  have e7 : ¬ y = 17 := by omega
  have e8 : ¬ y = 18 := by omega
  refine h.more (Nat.le_refl _) (fun o => ?_) (Rg.one (by omega))
  rw [stp_yes ⟨h0, by omega, by omega, by unfold top; rw [if_neg e6, if_neg e7, if_neg e8]; omega⟩ (fun e => absurd e e6)]
  unfold base val
  rw [if_neg e6, if_neg e7, if_neg e8, if_neg e6, if_pos (by omega)]
  rfl
theorem Got.zeros {s : Int} {d z : Nat} {rs : List (Int × Int)} (h : Got 0 d rs) (hs : s = 17 ∨ s = 18) (hz : (z : Int) ≤ top s) : Got 0 (d + (base s + z)) (rs ++ [(s, (z : Int))]) := by
  have hb := base_ge s
  refine h.more (by omega) (fun o => ?_) (Rg.one ⟨by omega, by omega, by omega, by have := top_le s; omega⟩)
  rw [stp_yes ⟨by omega, by omega, by omega, hz⟩ (fun e => by omega)]
  unfold val
  rw [if_neg (by omega), if_neg (by omega)]
  rfl
theorem Got.again {y : Int} {d z : Nat} {rs : List (Int × Int)} (h : Got y d rs) (hd : 1 ≤ d) (hz : (z : Int) ≤ 3) : Got y (d + (3 + z)) (rs ++ [(16, (z : Int))]) := by
  refine h.more (by omega) (fun o => ?_) (Rg.one ⟨by omega, by omega, by omega, by omega⟩)
  rw [stp_yes ⟨by omega, by omega, by omega, by simpa [top] using hz⟩ (fun _ => by rw [List.length_append, List.length_replicate]; omega)]
  obtain ⟨e, rfl⟩ : ∃ e, d = e + 1 := ⟨d - 1, by omega⟩
  have hv : val (o ++ List.replicate (e + 1) y) 16 = y := by
    unfold val
    rw [if_pos rfl, List.replicate_succ', ← List.append_assoc]
    simp [List.getD]
  rw [hv]
  rfl
theorem Got.rest {y : Int} {rs : List (Int × Int)} (h0 : 0 ≤ y) (h15 : y ≤ 15) : ∀ (k : Nat) {d : Nat}, Got y d rs → Got y (d + k) (rs ++ List.replicate k (y, 0))
  | 0, _, h => by simpa using h
  | k + 1, d, h => by
    have := (Got.rest h0 h15 k h).lit h0 h15
    rw [List.append_assoc, ← List.replicate_succ'] at this
    exact this
end Bl
end Go.Proofs.Ytlbngaeimkhkgaa
