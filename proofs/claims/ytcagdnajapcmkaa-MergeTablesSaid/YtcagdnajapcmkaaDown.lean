/- Indices from the last one down, and a slice whose cells a round keeps. -/
import Derived.Test.YtcagdnajapcmkaaKc
import Derived.Test.YtcagdnajapcmkaaIterN
namespace Go.Proofs.Ytcagdnajapcmkaa
open Go.RowKit
namespace Bk
/-- The first k of the indices below n, the last one first. -/
def down (n k : Nat) : List Nat := (List.range k).map fun j => n - 1 - j
theorem down_length (n k : Nat) : (down n k).length = k := by simp [down]
theorem down_succ (n k : Nat) : down n (k + 1) = down n k ++ [n - 1 - k] := by simp [down, List.range_succ]
/-- What is handed over next. -/
def Nxt (n : Nat) (pre : List Nat) (x : Nat) : Prop := pre.length < n ∧ pre = down n pre.length ∧ x + pre.length + 1 = n
/-- A slice whose cells are f's. -/
def Src (w : World) (U : Nat → Prop) (a : Option Addr) (len : Nat) (f : Nat → Value) : Prop :=
  ∀ i, i < len → ∃ b off cs t fr, a = some ⟨b, off, none⟩ ∧ ¬ U b ∧ w.heap[b]? = some (.cells cs t fr) ∧ cs[off + i]? = some (f i)
theorem Src.kept {w w' : World} {U : Nat → Prop} {a : Option Addr} {len : Nat} {f : Nat → Value} (h : Src w U a len f) (c : Kc U w w') : Src w' U a len f := fun i hi => by
  obtain ⟨b, off, cs, t, fr, e, hu, hb, hc⟩ := h i hi
  exact ⟨b, off, cs, t, fr, e, hu, c b _ hb rfl hu, hc⟩
theorem Src.mono {w w' : World} {U : Nat → Prop} {a : Option Addr} {len : Nat} {f : Nat → Value} (h : Src w U a len f) (hb : Below w.heap.size w w') : Src w' U a len f := fun i hi => by
  obtain ⟨b, off, cs, t, fr, e, hu, hr, hc⟩ := h i hi
  exact ⟨b, off, cs, t, fr, e, hu, (hb.block b (Array.getElem?_eq_some_iff.1 hr).1).trans hr, hc⟩
end Bk
end Go.Proofs.Ytcagdnajapcmkaa
