/- Which runs a stretch is laid in. -/
import Derived.Test.YtlbngaeimkhkgaaBlkGot
namespace Go.Proofs.Ytlbngaeimkhkgaa
open Go.RowKit

namespace Bl
/-- As many runs of a symbol as there is room for, and what is left; f: enough. -/
def repsF (s : Int) (b t : Nat) : Nat → Nat → List (Int × Int) × Nat
  | 0, r => ([], r)
  | f + 1, r => if r < b then ([], r) else ((s, ((min (r - b) t : Nat) : Int)) :: (repsF s b t f (r - (b + min (r - b) t))).1, (repsF s b t f (r - (b + min (r - b) t))).2)
theorem repsF_fuel (s : Int) {b : Nat} (t : Nat) (hb : 1 ≤ b) : ∀ (f g r : Nat), r ≤ f → r ≤ g → repsF s b t f r = repsF s b t g r
  | 0, 0, r, _, _ => rfl
  | 0, g + 1, r, hf, _ => by
    obtain rfl : r = 0 := by omega
    rw [repsF, repsF, if_pos (by omega)]
  | f + 1, 0, r, _, hg => by
    obtain rfl : r = 0 := by omega
    rw [repsF, repsF, if_pos (by omega)]
  | f + 1, g + 1, r, hf, hg => by
    rw [repsF, repsF]
    by_cases h : r < b
    · rw [if_pos h, if_pos h]
    · rw [if_neg h, if_neg h, repsF_fuel s t hb f g _ (by omega) (by omega)]
/-- What is laid, and what is left, behind such runs. -/
def go (s : Int) (b t : Nat) (rs : List (Int × Int)) (r : Nat) : List (Int × Int) × Nat := (rs ++ (repsF s b t r r).1, (repsF s b t r r).2)
theorem go_end (s : Int) (b t : Nat) (rs : List (Int × Int)) (r : Nat) (h : r < b) : go s b t rs r = (rs, r) := by
  unfold go
  cases r with
  | zero => rw [repsF]; simp
  | succ r => rw [repsF, if_pos h]; simp
theorem go_step (s : Int) {b t : Nat} (hb : 1 ≤ b) (rs : List (Int × Int)) (r z e : Nat) (h : b ≤ r) (hz : z = min (r - b) t) (he : b + z + e = r) : go s b t rs r = go s b t (rs ++ [(s, (z : Int))]) e := by
  subst hz
  unfold go
  obtain ⟨q, rfl⟩ : ∃ q, r = q + 1 := ⟨r - 1, by omega⟩
  have e1 : q + 1 - (b + min (q + 1 - b) t) = e := by omega
  rw [repsF, if_neg (by omega), e1, repsF_fuel s t hb q e e (by omega) (Nat.le_refl _)]
  simp
/-- Behind i symbols, of zeros. -/
def zs (c : Nat) : Nat → List (Int × Int) × Nat
  | 0 => ([], c)
  | 1 => go 18 11 127 [] c
  | _ => go 17 3 7 (go 18 11 127 [] c).1 (go 18 11 127 [] c).2
/-- The same, of another length. -/
def ys (y : Int) (c : Nat) : Nat → List (Int × Int) × Nat
  | 0 => ([(y, 0)], c - 1)
  | _ => go 16 3 3 [(y, 0)] (c - 1)
/-- The runs of a stretch. -/
def stF (y : Int) (c : Nat) : List (Int × Int) := if y = 0 then (zs c 2).1 ++ List.replicate (zs c 2).2 (0, 0) else (ys y c 1).1 ++ List.replicate (ys y c 1).2 (y, 0)
end Bl
end Go.Proofs.Ytlbngaeimkhkgaa
