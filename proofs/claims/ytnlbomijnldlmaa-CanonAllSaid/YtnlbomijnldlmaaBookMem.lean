/- A book in memory. -/
import Derived.OwnWalkIn
import Derived.RangeFuncFrom
import Derived.Test.YtnlbomijnldlmaaRef04b
import Derived.Test.YtnlbomijnldlmaaBookMath
namespace Go.Proofs.Ytnlbomijnldlmaa
open Go.RowKit

namespace Bk
def sy (l : List Nat) : List Int := l.map fun (s : Nat) => (s : Int)
theorem sy_length (l : List Nat) : (sy l).length = l.length := by simp [sy]
theorem sy_getD (l : List Nat) (i : Nat) : (sy l).getD i 0 = ((l.getD i 0 : Nat) : Int) := by
  by_cases h : i < l.length
  · simp [sy, List.getD, List.getElem?_eq_getElem h]
  · simp [sy, List.getD, List.getElem?_eq_none (Nat.le_of_not_lt h)]
theorem sy_append (l m : List Nat) : sy (l ++ m) = sy l ++ sy m := by simp [sy]
/-- The cells of the sequences. -/
def sqs (fs : Nat → Int) (vs : Nat → Value) (m : Nat) : List Value := (List.range m).flatMap fun n => [.int .i64 (fs n), vs n]
theorem sqs_length (fs : Nat → Int) (vs : Nat → Value) (m : Nat) : (sqs fs vs m).length = 2 * m := by
  induction m with
  | zero => rfl
  | succ m ih => simp only [sqs, List.range_succ, List.flatMap_append, List.length_append] at *; rw [ih]; simp; omega
theorem sqs_succ (fs : Nat → Int) (vs : Nat → Value) (m : Nat) : sqs fs vs (m + 1) = sqs fs vs m ++ [.int .i64 (fs m), vs m] := by simp [sqs, List.range_succ]
theorem sqs_get (fs : Nat → Int) (vs : Nat → Value) (m n : Nat) (h : n < m) : (sqs fs vs m)[2 * n]? = some (.int .i64 (fs n)) ∧ (sqs fs vs m)[2 * n + 1]? = some (vs n) := by
  induction m with
  | zero => omega
  | succ m ih =>
    rw [sqs_succ]
    by_cases hm : n < m
    · rw [List.getElem?_append_left (by rw [sqs_length]; omega), List.getElem?_append_left (by rw [sqs_length]; omega)]
      exact ih hm
    · obtain rfl : n = m := by omega
      rw [List.getElem?_append_right (by rw [sqs_length]; omega), List.getElem?_append_right (by rw [sqs_length]; omega), sqs_length]
      constructor
      · rw [show 2 * n - 2 * n = 0 by omega]; rfl
      · rw [show 2 * n + 1 - 2 * n = 1 by omega]; rfl
def bkCells (fs : Nat → Int) (vs : Nat → Value) (wv : Value) (e : Int) : Array Value := (sqs fs vs 17 ++ [wv, .int .i64 e]).toArray
/-- The rows of symbols. -/
def Rows (w : World) (B : Nat) (vs : Nat → Value) (R : Nat → List Nat) : Prop := ∀ n, n < 17 → w.ownsRow B 3 1 (vs n) (R n).length (ivs (sy (R n)))
def Tr (vs : Nat → Value) (k : Nat) : Prop := ∃ n, n < 17 ∧ (vs n).ownBlock = some k
/-- What a round keeps: all cells but those of U. -/
def Kc (U : Nat → Prop) (W W' : World) : Prop := ∀ k o, W.heap[k]? = some o → o.isCells = true → ¬ U k → W'.heap[k]? = some o
theorem Kc.refl (U : Nat → Prop) (W : World) : Kc U W W := fun _ _ h _ _ => h
theorem Kc.trans {U : Nat → Prop} {A B C : World} (h : Kc U A B) (k : Kc U B C) : Kc U A C := fun i o hi ho hu => k i o (h i o hi ho hu) ho hu
theorem Kc.alloc (U : Nat → Prop) (W : World) (o : Obj) : Kc U W (W.alloc o) := fun k _ hk _ _ => (Below.heap_alloc W o k (Array.getElem?_eq_some_iff.1 hk).1).trans hk
theorem Kc.grown {U : Nat → Prop} {W W' : World} {row : Option Nat} (hg : W.grownBy W' row) (hr : ∀ r, row = some r → U r ∨ W.heap.size ≤ r) : Kc U W W' := fun k o hk _ hu => by
  have hlt := (Array.getElem?_eq_some_iff.1 hk).1
  exact (hg.block k hlt (fun e => (hr k e.symm).elim hu (fun h => by omega))).trans hk
theorem Kc.drew {U : Nat → Prop} {A B : World} (h : Kc U A B) : Kc U A B.drew := h
theorem Kc.set {U : Nat → Prop} (W : World) (p : Addr) (hp : U p.block) (v : Value) : Kc U W (W.setCell p v) := fun k _ hk _ hu => (Below.heap_setCell W p v k (fun e => hu (e ▸ hp))).trans hk
theorem Kc.put {U : Nat → Prop} (W : World) (l : Nat) (o o' : Obj) (h : W.heap[l]? = some o) (hc : o.isCells = false) : Kc U W (W.putObj l o') := fun k o2 hk ho _ => by
  have : k ≠ l := fun e => by subst e; rw [h] at hk; cases hk; rw [hc] at ho; cases ho
  exact (World.putObj_heap_other this).trans hk
theorem own_same {w w' : World} {B : Nat} {e : TypeId} {size : Nat} {v : Value} {n : Nat} {xs : List Value} (h : w.ownsRow B e size v n xs) (hk : ∀ g, v.ownBlock = some g → w'.heap[g]? = w.heap[g]?) : w'.ownsRow B e size v n xs := by
  obtain ⟨h1, h2⟩ := h
  refine ⟨h1, ?_⟩
  rcases h2 with h2 | ⟨g, cap, cur, rfl, hb, hg, r⟩
  · exact .inl h2
  · exact .inr ⟨g, cap, cur, rfl, hb, (hk g rfl).trans hg, r⟩
theorem own_kc {U : Nat → Prop} {w w' : World} {B : Nat} {e : TypeId} {size : Nat} {v : Value} {n : Nat} {xs : List Value} (h : w.ownsRow B e size v n xs) (c : Kc U w w') (hn : ∀ g, v.ownBlock = some g → ¬ U g) : w'.ownsRow B e size v n xs := by
  obtain ⟨h1, h2⟩ := h
  refine ⟨h1, ?_⟩
  rcases h2 with h2 | ⟨g, cap, cur, rfl, hb, hg, r⟩
  · exact .inl h2
  · exact .inr ⟨g, cap, cur, rfl, hb, c g _ hg rfl (hn g rfl), r⟩
theorem Rows.kept {U : Nat → Prop} {w w' : World} {B : Nat} {vs : Nat → Value} {R : Nat → List Nat} (h : Rows w B vs R) (c : Kc U w w') (hn : ∀ k, Tr vs k → ¬ U k) : Rows w' B vs R := fun n hl => own_kc (h n hl) c (fun g hg => hn g ⟨n, hl, hg⟩)
theorem Rows.mono {w w' : World} {B : Nat} {vs : Nat → Value} {R : Nat → List Nat} (h : Rows w B vs R) (hb : Below w.heap.size w w') : Rows w' B vs R := fun n hl => own_below (h n hl) hb
/-- An array that is loaded out of a block's front. -/
theorem run_load_front {P : Program} (w : World) (g : Nat) (t ty : TypeId) (cs : Array Value) (fr : Nat × Nat) (xs : List Value) (d : TypeDesc) (hg : w.heap[g]? = some (.cells cs t fr)) (hxs : ∀ (j : Nat) (v : Value), xs[j]? = some v → cs[j]? = some v)
    (hu : P.underlying ty = some d) (hd : (match d with | .struct _ | .array _ _ => true | _ => false) = true) (hi : (P.info? ty).map (·.size) = some xs.length) :
    (loadVar ty ⟨g, 0, none⟩).run P w = .ok (.agg xs.toArray) w := by
  have hl : (loadCells ⟨g, 0, none⟩ xs.length).run P w = .ok xs.toArray w :=
    run_loadCells_list (P := P) w ⟨g, 0, none⟩ xs (fun j v hv => by
      rw [Addr.add_mid, cell_of_row w g _ cs t fr hg, Nat.zero_add]
      exact hxs j v hv)
  cases hq : P.info? ty with
  | none => simp [hq] at hi
  | some i =>
    have hs : i.size = xs.length := by simpa [hq] using hi
    have hagg : (isAgg ty).run P w = .ok true w := by
      unfold isAgg
      rw [Sem.run_bind, run_underlying hu w]
      cases d <;> simp_all
    simp [loadVar, Sem.run_bind, hagg, sizeOf, typeInfo, hq, hs, hl]
theorem wplIn_load {F : Fence} {n : Nat} {P : Program} {w : World} {ops : Array Oper} {rest : List Oper} {o : Oper} {a : Act} {Q : Exit → Act → World → Prop} (hg : o.guard = none) (ty : TypeId) (x : Operand) (hop : o.op = .load ty x)
    (ad : Addr) (hx : a.eval x = .pointer (some ad)) (u : Value) (hrun : (loadVar ty ad).run P w = .ok u w) (hK : wpListIn F n P ops Q rest (a.put o.dst u) w) : wpListIn F n P ops Q (o :: rest) a w := by
  refine wpListIn_plain hg fun K hK' => ?_
  unfold Oper.wpIn
  refine ⟨?_, ?_⟩
  · simp [Oper.about, hop]
  · rw [Oper.semAt_plain F _ _ (by rw [hop]; intro c hc'; cases hc')]
    simp [execOp, hop, hx, Instr.loadAt, Instr.sureAddr, Sem.run_bind, hrun, Result.andThen]
    exact hK' _ _ hK
theorem sqs_front (fs : Nat → Int) (vs : Nat → Value) (wv : Value) (e : Int) : ∀ (j : Nat) (v : Value), (sqs fs vs 17)[j]? = some v → (bkCells fs vs wv e)[j]? = some v := by
  intro j v h
  have hj : j < (sqs fs vs 17).length := (List.getElem?_eq_some_iff.1 h).1
  show ((sqs fs vs 17 ++ [wv, .int .i64 e]).toArray)[j]? = some v
  rw [List.getElem?_toArray, List.getElem?_append_left hj]; exact h
theorem load_sqs (w : World) (g : Nat) (fs : Nat → Int) (vs : Nat → Value) (wv : Value) (e : Int) (hg : w.heap[g]? = some (.cells (bkCells fs vs wv e) 105 (0, 0))) :
    (loadVar 101 ⟨g, 0, none⟩).run Try.prog w = .ok (.agg (sqs fs vs 17).toArray) w :=
  run_load_front w g _ _ _ _ _ _ hg (sqs_front fs vs wv e) Try.underlying101 rfl (by rw [sqs_length]; kernel_rfl)
theorem idx_sqs (w : World) (fs : Nat → Int) (vs : Nat → Value) (n : Nat) (hn : n < 17) : (Instr.index 101 (.agg (sqs fs vs 17).toArray) (.int .i64 (n : Nat))).run Try.prog w = .ok (.agg #[.int .i64 (fs n), vs n]) w := by
  obtain ⟨h1, h2⟩ := sqs_get fs vs 17 n hn
  have hx : List.take 2 (List.drop (n * 2) (sqs fs vs 17)) = [.int .i64 (fs n), vs n] := by
    apply List.ext_getElem?
    intro i
    rw [List.getElem?_take, List.getElem?_drop]
    match i with
    | 0 => rw [if_pos (by omega), show n * 2 + 0 = 2 * n by omega, h1]; rfl
    | 1 => rw [if_pos (by omega), show n * 2 + 1 = 2 * n + 1 by omega, h2]; rfl
    | i + 2 => rw [if_neg (by omega)]; rfl
  have hu := run_underlying Try.underlying101 w
  have hlt : (0 : Int) ≤ (n : Int) ∧ (n : Int) < ((17 : Nat) : Int) := by omega
  unfold Instr.index
  simp [go_sem]
  rw [if_pos hn, hx]
end Bk
end Go.Proofs.Ytnlbomijnldlmaa
