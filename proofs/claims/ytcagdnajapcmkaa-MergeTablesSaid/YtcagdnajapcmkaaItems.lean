/- Slices of items. -/
import Derived.Test.YtcagdnajapcmkaaNumInts
import Derived.Test.YtcagdnajapcmkaaCh
import Derived.Test.YtcagdnajapcmkaaPmMath
namespace Go.Proofs.Ytcagdnajapcmkaa
open Go.RowKit
open Mg (Itm)

/-- Items as cells. -/
def itv (A : List Itm) : List Value := A.flatMap fun x => [.int .i64 x.1, .bool x.2]
theorem itv_length (A : List Itm) : (itv A).length = A.length * 2 := by
  induction A with
  | nil => rfl
  | cons x A ih => simp [itv] at ih ⊢; omega
theorem itv_append (A B : List Itm) : itv (A ++ B) = itv A ++ itv B := by simp [itv]
theorem itv_get (A : List Itm) : ∀ i, i < A.length → (itv A)[i * 2]? = some (.int .i64 (A.getD i (0, false)).1) ∧ (itv A)[i * 2 + 1]? = some (.bool (A.getD i (0, false)).2) := by
  induction A with
  | nil => intro i h; simp at h
  | cons x A ih =>
    intro i h
    cases i with
    | zero => simp [itv]
    | succ i =>
      have := ih i (by simpa using h)
      have e : itv (x :: A) = .int .i64 x.1 :: .bool x.2 :: itv A := by simp [itv]
      rw [e, show (i + 1) * 2 = i * 2 + 1 + 1 by omega]
      simpa using this
theorem itv_one (A : List Itm) : ∀ u ∈ itv A, u.oneCell' = true := by
  intro u hu
  simp only [itv, List.mem_flatMap] at hu
  obtain ⟨x, _, hx⟩ := hu
  simp at hx
  rcases hx with rfl | rfl <;> rfl
/-- A slice of items. -/
structure Its (w : World) (a : Option Addr) (len cap : Nat) (A : List Itm) : Prop where
  hlen : A.length = len
  hle : len ≤ cap
  hnil : a = none → cap = 0
  at' : ∀ i, i < len → ∃ b off, a = some ⟨b, off, none⟩ ∧ b < w.heap.size ∧ w.cell? ⟨b, off + i * 2, none⟩ = some (.int .i64 (A.getD i (0, false)).1) ∧ w.cell? ⟨b, off + (i * 2 + 1), none⟩ = some (.bool (A.getD i (0, false)).2)
theorem Its.mono {w w' : World} {a : Option Addr} {len cap : Nat} {A : List Itm} (h : Its w a len cap A) (hb : Below w.heap.size w w') : Its w' a len cap A :=
  ⟨h.hlen, h.hle, h.hnil, fun i hi => by
    obtain ⟨b, off, e, hlt, h1, h2⟩ := h.at' i hi
    exact ⟨b, off, e, Nat.lt_of_lt_of_le hlt hb.size, by rw [hb.cell (p := ⟨b, off + i * 2, none⟩) hlt]; exact h1, by rw [hb.cell (p := ⟨b, off + (i * 2 + 1), none⟩) hlt]; exact h2⟩⟩
theorem Its.drop {w : World} {b off len cap : Nat} {A : List Itm} (h : Its w (some ⟨b, off, none⟩) len cap A) (s : Nat) (hs : s ≤ len) (ao : Option Addr) (hao : ¬ cap = s → ao = some ⟨b, off + s * 2, none⟩) : Its w ao (len - s) (cap - s) (A.drop s) := by
  have h1 := h.hlen
  have h2 := h.hle
  refine ⟨by simp; omega, by omega, fun e => ?_, fun i hi => ?_⟩
  · by_cases hc : cap = s
    · omega
    · rw [hao hc] at e; simp at e
  · obtain ⟨b', off', e', hb', c1, c2⟩ := h.at' (s + i) (by omega)
    simp only [Option.some.injEq, Addr.mk.injEq, and_true] at e'
    obtain ⟨rfl, rfl⟩ := e'
    refine ⟨b, off + s * 2, hao (by omega), hb', ?_, ?_⟩
    · rw [show off + s * 2 + i * 2 = off + (s + i) * 2 by omega, c1]; simp [List.getD, List.getElem?_drop]
    · rw [show off + s * 2 + (i * 2 + 1) = off + ((s + i) * 2 + 1) by omega, c2]; simp [List.getD, List.getElem?_drop]
theorem its_nil (w : World) : Its w none 0 0 [] := ⟨rfl, Nat.le_refl _, fun _ => rfl, fun i hi => absurd hi (by omega)⟩
theorem own_its {w : World} {base : Nat} {e : TypeId} {v : Value} {n : Nat} {A : List Itm} (h : w.ownsRow base e 2 v n (itv A)) : ∃ a cap, v = .slice a n cap ∧ Its w a n cap A := by
  have hn : A.length = n := by have := h.1; rw [itv_length] at this; omega
  rcases own_nil_or h with ⟨rfl, rfl⟩ | ⟨g, cap, rfl, hle, _⟩
  · have : A = [] := List.eq_nil_of_length_eq_zero hn
    subst this
    exact ⟨none, 0, rfl, its_nil w⟩
  · refine ⟨_, cap, rfl, hn, hle, fun e => by simp at e, fun i hi => ⟨g, 0, rfl, (h.lt g rfl).2, ?_, ?_⟩⟩
    · obtain ⟨t0, _⟩ := itv_get A i (by omega)
      rw [Nat.zero_add, h.cellAt (i * 2) (by omega)]; exact t0
    · obtain ⟨_, t1⟩ := itv_get A i (by omega)
      rw [Nat.zero_add, h.cellAt (i * 2 + 1) (by omega)]; exact t1
theorem tyIt : RowTy Try.prog 88 94 (.agg #[.int .i64 0, .bool false]) 2 16 := ⟨Try.underlying88, by kernel_rfl, rfl, by omega⟩
theorem src_item (w : World) (x : Int) (b : Bool) : SrcRow (w.alloc (.cells #[.int .i64 x, .bool b] 94)) (some ⟨w.heap.size, 0, none⟩) 1 1 (itv [(x, b)]) 2 :=
  src_new w #[.int .i64 x, .bool b] 94 1 1 2 rfl (by intro u hu; simp at hu; rcases hu with rfl | rfl <;> rfl)
/-- A slice of numbers, from some place on. -/
theorem Is.tail {k : IntKind} {w : World} {b off len cap : Nat} {l : List Int} (h : Is k w (some ⟨b, off, none⟩) len cap l) (s : Nat) (hs : s ≤ len) (ao : Option Addr) (hao : ¬ cap = s → ao = some ⟨b, off + s, none⟩) : Is k w ao (len - s) (cap - s) (l.drop s) := by
  have h1 := h.hlen
  have h2 := h.hle
  refine ⟨by simp; omega, by omega, fun e => ?_, fun i hi => ?_, fun n hn => h.wf n (List.mem_of_mem_drop hn)⟩
  · by_cases hc : cap = s
    · omega
    · rw [hao hc] at e; simp at e
  · obtain ⟨b', off', e', hb', hc⟩ := h.at' (s + i) (by omega)
    simp only [Option.some.injEq, Addr.mk.injEq, and_true] at e'
    obtain ⟨rfl, rfl⟩ := e'
    refine ⟨b, off + s, hao (by omega), hb', ?_⟩
    rw [Nat.add_assoc, hc]
    simp [List.getD, List.getElem?_drop]
end Go.Proofs.Ytcagdnajapcmkaa
