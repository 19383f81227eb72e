/- Arrays of three numbers are equal to themselves. -/
import Derived.Test.YtfdnjblbhbkndaaDoorLcPassIt
import Derived.Test.YtfdnjblbhbkndaaDoorLcOnMath
import Derived.DeepKeys
namespace Go.Proofs.YtfdnjblbhbkndaaDoor
open Go.RowKit
namespace Lc
theorem wf_s (n : Nat) (h : n ≤ 1000000000000) : (Lit.int .i64 (n : Int)).wf = true := by
  simp [Lit.wf, IntKind.min, IntKind.max, IntKind.signed, IntKind.bits]; omega
theorem lits1 (n : Nat) (h : n ≤ 1000000000000) : Tryd.prog.keyLits 8 3 [.int .i64 (n : Nat)] = some [.int .i64 (n : Nat)] := by
  unfold Program.keyLits
  rw [Tryd.underlying3]
  simp [wf_s n h]
theorem lits3 (p a b : Nat) (h1 : p ≤ 1000000000000) (h2 : a ≤ 1000000000000) (h3 : b ≤ 1000000000000) :
    Tryd.prog.keyLits 9 46 [.int .i64 (p : Nat), .int .i64 (a : Nat), .int .i64 (b : Nat)] = some [.int .i64 (p : Nat), .int .i64 (a : Nat), .int .i64 (b : Nat)] := by
  have c3 : Tryd.prog.cellsOf 46 = 3 := by kernel_rfl
  have c1 : Tryd.prog.cellsOf 3 = 1 := by kernel_rfl
  unfold Program.keyLits
  rw [Tryd.underlying46]
  have e : List.range 3 = [0, 1, 2] := rfl
  simp only [c3, c1, e, List.length_cons, List.length_nil, Nat.reduceAdd, if_true]
  simp [lits1 p h1, lits1 a h2, lits1 b h3]
theorem eq3 (p a b : Nat) (w : World) (h1 : p ≤ 1000000000000) (h2 : a ≤ 1000000000000) (h3 : b ≤ 1000000000000) : (Op.equalIn 10000 46 (.agg #[.int .i64 (p : Nat), .int .i64 (a : Nat), .int .i64 (b : Nat)]) (.agg #[.int .i64 (p : Nat), .int .i64 (a : Nat), .int .i64 (b : Nat)])).run Tryd.prog w = .ok true w := by
  have h := run_equalIn_deep (P := Tryd.prog) 9998 2 46 (by kernel_rfl) w
  obtain ⟨r, hr, hi⟩ := h 9 9 (.agg #[.int .i64 (p : Nat), .int .i64 (a : Nat), .int .i64 (b : Nat)]) (.agg #[.int .i64 (p : Nat), .int .i64 (a : Nat), .int .i64 (b : Nat)]) [.int .i64 (p : Nat), .int .i64 (a : Nat), .int .i64 (b : Nat)] [.int .i64 (p : Nat), .int .i64 (a : Nat), .int .i64 (b : Nat)]
    (by first | rfl | kernel_rfl) (by first | rfl | kernel_rfl) (lits3 p a b h1 h2 h3) (lits3 p a b h1 h2 h3)
  have hr1 : r = true := hi.2 rfl
  rw [hr1] at hr
  exact hr
theorem psl_bd (a b l : Int) (q : Nat × Pa) (hq : q ∈ psL a b l) : q.1 ≤ 1000000000000 ∧ q.2.c ≤ 1000000000000 ∧ q.2.r ≤ 1000000000000 := by
  unfold psL at hq
  split at hq
  · rename_i h
    obtain ⟨h1, h2, h3⟩ := h
    unfold side at h1 h2
    simp at h1 h2
    have hm := parts_mem _ _ _ _ hq
    refine ⟨?_, by omega, by omega⟩
    rcases h3 with rfl | rfl
    · unfold parts at hq
      rw [if_pos rfl] at hq
      have e : q = (0, ⟨0, 1, 0, 1, a.toNat, b.toNat⟩) := by simpa using hq
      rw [e]; omega
    · have := (part_of _ _ _ hq).1; omega
  · cases hq
end Lc
end Go.Proofs.YtfdnjblbhbkndaaDoor
