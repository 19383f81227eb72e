/- A book of codes: its rows of symbols, where each length's codes begin, and what reading comes to. What is loaded out of a block's front. A book in memory. A book that is being made. -/
import Derived.Test.YtpoilaappcjbeaaGreatDoorZ9
import Derived.OwnWalkIn
import Derived.RangeFuncFrom
set_option linter.unusedSimpArgs false
set_option linter.unusedVariables false
section
namespace Go.Proofs.YtpoilaappcjbeaaGreatDoor
open Go.RowKit

namespace Bk
/-- A symbol, its code, and how many bits it has. -/
structure It where
  s : Nat
  c : Nat
  n : Nat

instance : Inhabited It := ⟨⟨0, 0, 0⟩⟩
def It.bits (x : It) : List Bool := Bt.dg true x.c x.n
/-- The next code behind those of fewer than n bits. -/
def nx (R : Nat → List Nat) : Nat → Nat
  | 0 => 0
  | n + 1 => 2 * nx R n + (R n).length
/-- The first code of n bits. -/
def fst (R : Nat → List Nat) (n : Nat) : Nat := 2 * nx R n
def sumR (R : Nat → List Nat) : Nat → Nat
  | 0 => 0
  | n + 1 => sumR R n + (R n).length * 2 ^ (16 - n)
def it (R : Nat → List Nat) (n i : Nat) : It := ⟨(R n).getD i 0, fst R n + i, n⟩
def rowS (R : Nat → List Nat) (n i : Nat) : List It := (List.range i).map (it R n)
/-- The codes of fewer than m bits, in their order. -/
def seq (R : Nat → List Nat) (m : Nat) : List It := (List.range m).flatMap fun n => rowS R n (R n).length
def sizR (R : Nat → List Nat) (m : Nat) : List Int := (List.range m).flatMap fun n => List.replicate (R n).length (n : Int)
structure Good (R : Nat → List Nat) : Prop where
  r0 : R 0 = []
  le : sumR R 17 ≤ 65536
theorem nx_succ (R : Nat → List Nat) (n : Nat) : nx R (n + 1) = fst R n + (R n).length := rfl
theorem pow_split (n m : Nat) (h : n ≤ m) (hm : m ≤ 16) : 2 ^ (16 - n) = 2 ^ (m - n) * 2 ^ (16 - m) := by
  rw [← Nat.pow_add]; congr 1; omega
theorem nx_val (R : Nat → List Nat) : ∀ n, n ≤ 16 → nx R (n + 1) * 2 ^ (16 - n) = sumR R (n + 1) := by
  intro n
  induction n with
  | zero => intro _; simp [nx, sumR]
  | succ n ih =>
    intro h
    have h1 := ih (by omega)
    have h2 := pow_split n (n + 1) (by omega) h
    rw [show n + 1 - n = 1 by omega, Nat.pow_one] at h2
    rw [h2] at h1
    have e1 : nx R (n + 1 + 1) = 2 * nx R (n + 1) + (R (n + 1)).length := rfl
    have e2 : sumR R (n + 1 + 1) = sumR R (n + 1) + (R (n + 1)).length * 2 ^ (16 - (n + 1)) := rfl
    rw [e1, e2, ← h1, Nat.add_mul]
    congr 1
    rw [Nat.mul_comm 2, Nat.mul_assoc]
theorem fst_val (R : Nat → List Nat) (n : Nat) (h : n ≤ 16) : fst R n * 2 ^ (16 - n) = sumR R n := by
  cases n with
  | zero => simp [fst, nx, sumR]
  | succ n =>
    have h1 := nx_val R n (by omega)
    have h2 := pow_split n (n + 1) (by omega) h
    rw [show n + 1 - n = 1 by omega, Nat.pow_one] at h2
    rw [← h1, h2]
    unfold fst
    rw [Nat.mul_comm 2, Nat.mul_assoc]
theorem end_val (R : Nat → List Nat) : nx R 17 = sumR R 17 := by have := nx_val R 16 (Nat.le_refl _); simpa using this
theorem sumR_mono (R : Nat → List Nat) (m n : Nat) (h : m ≤ n) : sumR R m ≤ sumR R n := by
  induction n with
  | zero => obtain rfl : m = 0 := by omega
            exact Nat.le_refl _
  | succ n ih =>
    by_cases h2 : m ≤ n
    · have := ih h2; show _ ≤ sumR R n + _; omega
    · obtain rfl : m = n + 1 := by omega
      exact Nat.le_refl _
theorem two_pos (n : Nat) : 0 < 2 ^ n := Nat.pow_pos (by omega)
theorem code_lt (R : Nat → List Nat) (h : Good R) (n i : Nat) (hn : n ≤ 16) (hi : i ≤ (R n).length) : fst R n + i ≤ 2 ^ n := by
  have h1 := nx_val R n hn
  rw [nx_succ] at h1
  have h2 := sumR_mono R (n + 1) 17 (by omega)
  have h3 := h.le
  have h4 : (2 : Nat) ^ n * 2 ^ (16 - n) = 65536 := by rw [← Nat.pow_add, show n + (16 - n) = 16 by omega]
  have h5 : (fst R n + (R n).length) * 2 ^ (16 - n) ≤ 2 ^ n * 2 ^ (16 - n) := by omega
  have := Nat.le_of_mul_le_mul_right h5 (two_pos _)
  omega
theorem it_lt (R : Nat → List Nat) (h : Good R) (n i : Nat) (hn : n ≤ 16) (hi : i < (R n).length) : (it R n i).c < 2 ^ n := by
  have := code_lt R h n (i + 1) hn hi
  show fst R n + i < 2 ^ n
  omega
theorem mem_seq (R : Nat → List Nat) (m : Nat) (x : It) : x ∈ seq R m ↔ ∃ n i, n < m ∧ i < (R n).length ∧ x = it R n i := by
  simp only [seq, rowS, List.mem_flatMap, List.mem_range, List.mem_map]
  constructor
  · rintro ⟨n, hn, i, hi, rfl⟩; exact ⟨n, i, hn, hi, rfl⟩
  · rintro ⟨n, i, hn, hi, rfl⟩; exact ⟨n, hn, i, hi, rfl⟩
theorem seq_succ (R : Nat → List Nat) (m : Nat) : seq R (m + 1) = seq R m ++ rowS R m (R m).length := by simp [seq, List.range_succ]
theorem sizR_succ (R : Nat → List Nat) (m : Nat) : sizR R (m + 1) = sizR R m ++ List.replicate (R m).length (m : Int) := by simp [sizR, List.range_succ]
theorem rowS_succ (R : Nat → List Nat) (n i : Nat) : rowS R n (i + 1) = rowS R n i ++ [it R n i] := by simp [rowS, List.range_succ]
theorem rowS_length (R : Nat → List Nat) (n i : Nat) : (rowS R n i).length = i := by simp [rowS]
theorem seq_mono (R : Nat → List Nat) (m n : Nat) (h : m ≤ n) : ∃ t, seq R n = seq R m ++ t := by
  induction n with
  | zero => obtain rfl : m = 0 := by omega
            exact ⟨[], by simp⟩
  | succ n ih =>
    by_cases h2 : m ≤ n
    · obtain ⟨t, ht⟩ := ih h2
      exact ⟨t ++ rowS R n (R n).length, by rw [seq_succ, ht, List.append_assoc]⟩
    · obtain rfl : m = n + 1 := by omega
      exact ⟨[], by simp⟩
/-- Bits and numbers. -/
theorem dg_of_num (b : List Bool) (n : Nat) (h : b.length = n) : Bt.dg true (Bt.numH b) n = b := by
  subst h
  apply List.ext_getElem
  · simp [Bt.dg_length]
  · intro i h1 h2
    have e := Bt.dg_getD true (Bt.numH b) b.length i false h2
    rw [List.getD, List.getElem?_eq_getElem h1, Option.getD_some] at e
    rw [e, if_pos rfl, Bt.numH_testBit]
    have e2 : b.length - 1 - (b.length - 1 - i) = i := by omega
    rw [e2]
    have e3 : decide (b.length - 1 - i < b.length) = true := decide_eq_true (by omega)
    rw [e3]
    simp [List.getD, List.getElem?_eq_getElem h2]
theorem numH_dg (c n : Nat) (h : c < 2 ^ n) : Bt.numH (Bt.dg true c n) = c := Bt.num_dg true c n h
theorem dg_take (c m n : Nat) (h : n ≤ m) : (Bt.dg true c m).take n = Bt.dg true (c / 2 ^ (m - n)) n := by
  apply List.ext_getElem
  · simp [Bt.dg_length]; omega
  · intro i h1 h2
    rw [Bt.dg_length] at h2
    simp only [Bt.dg, List.getElem_take, List.getElem_map, List.getElem_range, if_true]
    rw [← Nat.shiftRight_eq_div_pow, Nat.testBit_shiftRight]
    congr 1; omega
theorem codes_eq_of (zs : List Int) (xs : List It) (hl : zs.length = xs.length) (hz : ∀ i, i < zs.length → 1 ≤ zs.getD i 0 ∧ zs.getD i 0 ≤ 16)
    (hs : ∀ i, i + 1 < zs.length → zs.getD i 0 ≤ zs.getD (i + 1) 0) (hk : Cn.sum zs ≤ 65536)
    (hx : ∀ i, i < zs.length → zs.getD i 0 = ((xs.getD i default).n : Nat) ∧ Cn.sum (zs.take i) = (xs.getD i default).c * 2 ^ (16 - (xs.getD i default).n)) :
    Cn.codes zs = xs.map It.bits := by
  apply List.ext_getElem
  · rw [Cn.codes_length, List.length_map, hl]
  · intro i h1 h2
    rw [Cn.codes_length] at h1
    obtain ⟨hv1, hv2⟩ := Cn.codes_val zs hz hs hk i h1
    obtain ⟨hx1, hx2⟩ := hx i h1
    have hxl : i < xs.length := by omega
    have e1 : (Cn.codes zs).getD i [] = (Cn.codes zs)[i]'(by rw [Cn.codes_length]; exact h1) := by simp [List.getD, List.getElem?_eq_getElem (show i < (Cn.codes zs).length by rw [Cn.codes_length]; exact h1)]
    have e2 : xs.getD i default = xs[i] := by simp [List.getD, List.getElem?_eq_getElem hxl]
    rw [e1] at hv1 hv2
    rw [e2] at hx1 hx2
    rw [List.getElem_map]
    rw [hx1] at hv1 hv2
    simp only [Int.toNat_natCast] at hv1 hv2
    rw [hx2] at hv2
    have := Nat.eq_of_mul_eq_mul_right (two_pos _) hv2
    rw [It.bits, ← this, dg_of_num _ _ hv1]
/-- How lengths and codes go together, up to somewhere. -/
structure Tog (zs : List Int) (xs : List It) : Prop where
  len : zs.length = xs.length
  one : ∀ i, i < zs.length → 1 ≤ zs.getD i 0 ∧ zs.getD i 0 ≤ 16 ∧ zs.getD i 0 = ((xs.getD i default).n : Nat) ∧ Cn.sum (zs.take i) = (xs.getD i default).c * 2 ^ (16 - (xs.getD i default).n)
theorem Tog.snoc {zs : List Int} {xs : List It} (h : Tog zs xs) (x : It) (hn : 1 ≤ x.n) (hn2 : x.n ≤ 16) (hs : Cn.sum zs = x.c * 2 ^ (16 - x.n)) : Tog (zs ++ [(x.n : Int)]) (xs ++ [x]) := by
  refine ⟨by simp [h.len], fun i hi => ?_⟩
  rw [List.length_append, List.length_cons, List.length_nil] at hi
  by_cases hil : i < zs.length
  · have := h.one i hil
    have e1 : (zs ++ [(x.n : Int)]).getD i 0 = zs.getD i 0 := by simp only [List.getD]; rw [List.getElem?_append_left hil]
    have e2 : (xs ++ [x]).getD i default = xs.getD i default := by simp only [List.getD]; rw [List.getElem?_append_left (by rw [← h.len]; exact hil)]
    have e3 : (zs ++ [(x.n : Int)]).take i = zs.take i := List.take_append_of_le_length (by omega)
    rw [e1, e2, e3]; exact this
  · have he : i = zs.length := by omega
    subst he
    have e1 : (zs ++ [(x.n : Int)]).getD zs.length 0 = x.n := by simp [List.getD]
    have e2 : (xs ++ [x]).getD zs.length default = x := by rw [h.len]; simp [List.getD]
    have e3 : (zs ++ [(x.n : Int)]).take zs.length = zs := by simp
    rw [e1, e2, e3]
    exact ⟨by omega, by omega, rfl, hs⟩
theorem tog_row (R : Nat → List Nat) (n : Nat) (hn : 1 ≤ n) (hn2 : n ≤ 16) (h : Tog (sizR R n) (seq R n)) (hs : Cn.sum (sizR R n) = sumR R n) : ∀ i, i ≤ (R n).length →
    Tog (sizR R n ++ List.replicate i (n : Int)) (seq R n ++ rowS R n i) ∧ Cn.sum (sizR R n ++ List.replicate i (n : Int)) = sumR R n + i * 2 ^ (16 - n) := by
  intro i
  induction i with
  | zero => intro _; simpa [rowS] using ⟨h, hs⟩
  | succ i ih =>
    intro hi
    obtain ⟨h1, h2⟩ := ih (by omega)
    have hp : Cn.part ((n : Nat) : Int) = 2 ^ (16 - n) := by have := Cn.part_eq (n : Int) ⟨by omega, by omega⟩; simpa using this
    rw [List.replicate_succ', ← List.append_assoc, rowS_succ, ← List.append_assoc]
    refine ⟨h1.snoc (it R n i) hn hn2 ?_, ?_⟩
    · rw [h2, ← fst_val R n hn2, ← Nat.add_mul]; rfl
    · rw [Cn.sum_snoc, h2, hp, Nat.add_mul, Nat.one_mul, Nat.add_assoc]
theorem tog_seq (R : Nat → List Nat) (h0 : R 0 = []) : ∀ m, m ≤ 17 → Tog (sizR R m) (seq R m) ∧ Cn.sum (sizR R m) = sumR R m := by
  intro m
  induction m with
  | zero => intro _; exact ⟨⟨rfl, fun i hi => by simp [sizR] at hi⟩, by simp [sizR, Cn.sum, sumR]⟩
  | succ m ih =>
    intro hm
    obtain ⟨h1, h2⟩ := ih (by omega)
    rw [sizR_succ, seq_succ]
    by_cases hm0 : m = 0
    · subst hm0
      rw [h0]
      refine ⟨by simpa [rowS] using h1, ?_⟩
      show _ = sumR R 0 + (R 0).length * _
      rw [h0]; simpa using h2
    · exact tog_row R m (by omega) (by omega) h1 h2 _ (Nat.le_refl _)
theorem sizR_sorted (R : Nat → List Nat) (m : Nat) : (sizR R m).Pairwise (· ≤ ·) ∧ ∀ x ∈ sizR R m, x < (m : Int) := by
  induction m with
  | zero => exact ⟨List.Pairwise.nil, fun x hx => by simp [sizR] at hx⟩
  | succ m ih =>
    rw [sizR_succ, List.pairwise_append]
    refine ⟨⟨ih.1, ?_, fun x hx y hy => ?_⟩, fun x hx => ?_⟩
    · exact List.pairwise_replicate.2 (.inr (Int.le_refl _))
    · have := ih.2 x hx
      rw [List.mem_replicate] at hy
      omega
    · rcases List.mem_append.1 hx with hx | hx
      · have := ih.2 x hx; omega
      · rw [List.mem_replicate] at hx; omega
/-- The document's codes are those of the rows. -/
theorem codes_seq (R : Nat → List Nat) (h : Good R) : Cn.codes (sizR R 17) = (seq R 17).map It.bits := by
  obtain ⟨h1, h2⟩ := tog_seq R h.r0 17 (Nat.le_refl _)
  have h3 := (sizR_sorted R 17).1
  refine codes_eq_of _ _ h1.len (fun i hi => ⟨(h1.one i hi).1, (h1.one i hi).2.1⟩) (fun i hi => ?_) (by rw [h2]; exact h.le) (fun i hi => (h1.one i hi).2.2)
  have hg : ∀ j (hj : j < (sizR R 17).length), (sizR R 17).getD j 0 = (sizR R 17)[j] := fun j hj => by simp [List.getD, List.getElem?_eq_getElem hj]
  rw [hg i (by omega), hg (i + 1) hi]
  exact List.pairwise_iff_getElem.1 h3 i (i + 1) (by omega) hi (Nat.lt_succ_self _)
end Bk
end Go.Proofs.YtpoilaappcjbeaaGreatDoor
end

section
namespace Go.Proofs.YtpoilaappcjbeaaGreatDoor
open Go.RowKit
theorem wpl_load {P : Program} {w : World} {ops : Array Oper} {rest : List Oper} {o : Oper} {a : Act} {Q : Exit → Act → World → Prop} (hg : o.guard = none) (ty : TypeId) (x : Operand) (hop : o.op = .load ty x)
    (ad : Addr) (hx : a.eval x = .pointer (some ad)) (u : Value) (hrun : (loadVar ty ad).run P w = .ok u w) (hK : wpList P ops Q rest (a.put o.dst u) w) : wpList P ops Q (o :: rest) a w := by
  refine wpList_plain hg fun K hK' => ?_
  unfold Oper.wp
  simp [execOp, hop, hx, Instr.loadAt, Instr.sureAddr, Sem.run_bind, hrun, Result.andThen]
  exact hK' _ _ hK
namespace Bk
/-- An array that is loaded out of a block's front. -/
theorem run_load_front {P : Program} (w : World) (g : Nat) (t ty : TypeId) (cs : Array Value) (fr : Nat × Nat) (xs : List Value) (d : TypeDesc) (hg : w.heap[g]? = some (.cells cs t fr)) (hxs : ∀ (j : Nat) (v : Value), xs[j]? = some v → cs[j]? = some v)
    (hu : P.underlying ty = some d) (hd : (match d with | .struct _ | .array _ _ => true | _ => false) = true) (hi : (P.info? ty).map (·.size) = some xs.length) :
    (loadVar ty ⟨g, 0, none⟩).run P w = .ok (.agg xs.toArray) w := by
  have hl : (loadCells ⟨g, 0, none⟩ xs.length).run P w = .ok xs.toArray w :=
    run_loadCells_list (P := P) w ⟨g, 0, none⟩ xs (fun j v hv => by
      rw [Addr.add_mid, cell_of_row w g _ cs t fr hg, Nat.zero_add]
      exact hxs j v hv)
  cases hq : P.info? ty with
  | none => simp [hq] at hi
  | some i =>
    have hs : i.size = xs.length := by simpa [hq] using hi
    have hagg : (isAgg ty).run P w = .ok true w := by
      unfold isAgg
      rw [Sem.run_bind, run_underlying hu w]
      cases d <;> simp_all
    simp [loadVar, Sem.run_bind, hagg, sizeOf, typeInfo, hq, hs, hl]
theorem wplIn_load {F : Fence} {n : Nat} {P : Program} {w : World} {ops : Array Oper} {rest : List Oper} {o : Oper} {a : Act} {Q : Exit → Act → World → Prop} (hg : o.guard = none) (ty : TypeId) (x : Operand) (hop : o.op = .load ty x)
    (ad : Addr) (hx : a.eval x = .pointer (some ad)) (u : Value) (hrun : (loadVar ty ad).run P w = .ok u w) (hK : wpListIn F n P ops Q rest (a.put o.dst u) w) : wpListIn F n P ops Q (o :: rest) a w := by
  refine wpListIn_plain hg fun K hK' => ?_
  unfold Oper.wpIn
  refine ⟨?_, ?_⟩
  · simp [Oper.about, hop]
  · rw [Oper.semAt_plain F _ _ (by rw [hop]; intro c hc'; cases hc')]
    simp [execOp, hop, hx, Instr.loadAt, Instr.sureAddr, Sem.run_bind, hrun, Result.andThen]
    exact hK' _ _ hK
theorem wplIn_store_row {F : Fence} {n : Nat} {P : Program} {w : World} {ops : Array Oper} {rest : List Oper} {o : Oper} {a : Act} {Q : Exit → Act → World → Prop} (hgd : o.guard = none) (ty : TypeId) (x y : Operand) (ho : o.op = .store ty x y)
    (g : Nat) (cells : Array Value) (hx : a.eval x = .pointer (some ⟨g, 0, none⟩)) (hy : a.eval y = .agg cells)
    (t : TypeId) (old : Array Value) (hg : w.heap[g]? = some (.cells old t (0, 0))) (hi : (P.info? ty).map (·.size) = some cells.size)
    (hold : old.size = cells.size) (h1 : cells.all (·.oneCell') = true)
    (hK : wpListIn F n P ops Q rest (a.put o.dst undef) (w.setRow g cells)) : wpListIn F n P ops Q (o :: rest) a w := by
  refine wpListIn_plain hgd fun K hK' => ?_
  unfold Oper.wpIn
  refine ⟨?_, ?_⟩
  · simp [Oper.about, ho]
  · rw [Oper.semAt_plain F _ _ (by rw [ho]; intro c hc'; cases hc')]
    simp only [execOp, ho, hx, hy, Instr.storeAt, Instr.sureAddr, Sem.run_bind, Sem.run_pure, Result.andThen_ok, run_storeVar_row w g t ty old cells hg hi hold h1]
    exact hK' _ _ hK
end Bk
end Go.Proofs.YtpoilaappcjbeaaGreatDoor
end

section
namespace Go.Proofs.YtpoilaappcjbeaaGreatDoor
open Go.RowKit

namespace Bk
def sy (l : List Nat) : List Int := l.map fun (s : Nat) => (s : Int)
theorem sy_length (l : List Nat) : (sy l).length = l.length := by simp [sy]
theorem sy_getD (l : List Nat) (i : Nat) : (sy l).getD i 0 = ((l.getD i 0 : Nat) : Int) := by
  by_cases h : i < l.length
  · simp [sy, List.getD, List.getElem?_eq_getElem h]
  · simp [sy, List.getD, List.getElem?_eq_none (Nat.le_of_not_lt h)]
theorem sy_append (l m : List Nat) : sy (l ++ m) = sy l ++ sy m := by simp [sy]
/-- The cells of the sequences. -/
def sqs (fs : Nat → Int) (vs : Nat → Value) (m : Nat) : List Value := (List.range m).flatMap fun n => [.int .i64 (fs n), vs n]
theorem sqs_length (fs : Nat → Int) (vs : Nat → Value) (m : Nat) : (sqs fs vs m).length = 2 * m := by
  induction m with
  | zero => rfl
  | succ m ih => simp only [sqs, List.range_succ, List.flatMap_append, List.length_append] at *; rw [ih]; simp; omega
theorem sqs_succ (fs : Nat → Int) (vs : Nat → Value) (m : Nat) : sqs fs vs (m + 1) = sqs fs vs m ++ [.int .i64 (fs m), vs m] := by simp [sqs, List.range_succ]
theorem sqs_get (fs : Nat → Int) (vs : Nat → Value) (m n : Nat) (h : n < m) : (sqs fs vs m)[2 * n]? = some (.int .i64 (fs n)) ∧ (sqs fs vs m)[2 * n + 1]? = some (vs n) := by
  induction m with
  | zero => omega
  | succ m ih =>
    rw [sqs_succ]
    by_cases hm : n < m
    · rw [List.getElem?_append_left (by rw [sqs_length]; omega), List.getElem?_append_left (by rw [sqs_length]; omega)]
      exact ih hm
    · obtain rfl : n = m := by omega
      rw [List.getElem?_append_right (by rw [sqs_length]; omega), List.getElem?_append_right (by rw [sqs_length]; omega), sqs_length]
      constructor
      · rw [show 2 * n - 2 * n = 0 by omega]; rfl
      · rw [show 2 * n + 1 - 2 * n = 1 by omega]; rfl
def bkCells (fs : Nat → Int) (vs : Nat → Value) (wv : Value) (e : Int) : Array Value := (sqs fs vs 17 ++ [wv, .int .i64 e]).toArray
/-- The rows of symbols. -/
def Rows (w : World) (B : Nat) (vs : Nat → Value) (R : Nat → List Nat) : Prop := ∀ n, n < 17 → w.ownsRow B 3 1 (vs n) (R n).length (ivs (sy (R n)))
def Tr (vs : Nat → Value) (k : Nat) : Prop := ∃ n, n < 17 ∧ (vs n).ownBlock = some k
theorem Rows.kept {U : Nat → Prop} {w w' : World} {B : Nat} {vs : Nat → Value} {R : Nat → List Nat} (h : Rows w B vs R) (c : Kc U w w') (hn : ∀ k, Tr vs k → ¬ U k) : Rows w' B vs R := fun n hl => own_kc (h n hl) c (fun g hg => hn g ⟨n, hl, hg⟩)
theorem Rows.mono {w w' : World} {B : Nat} {vs : Nat → Value} {R : Nat → List Nat} (h : Rows w B vs R) (hb : Below w.heap.size w w') : Rows w' B vs R := fun n hl => own_below (h n hl) hb
theorem sqs_front (fs : Nat → Int) (vs : Nat → Value) (wv : Value) (e : Int) : ∀ (j : Nat) (v : Value), (sqs fs vs 17)[j]? = some v → (bkCells fs vs wv e)[j]? = some v := by
  intro j v h
  have hj : j < (sqs fs vs 17).length := (List.getElem?_eq_some_iff.1 h).1
  show ((sqs fs vs 17 ++ [wv, .int .i64 e]).toArray)[j]? = some v
  rw [List.getElem?_toArray, List.getElem?_append_left hj]; exact h
theorem load_sqs (w : World) (g : Nat) (fs : Nat → Int) (vs : Nat → Value) (wv : Value) (e : Int) (hg : w.heap[g]? = some (.cells (bkCells fs vs wv e) 170 (0, 0))) :
    (loadVar 167 ⟨g, 0, none⟩).run Tryz.prog w = .ok (.agg (sqs fs vs 17).toArray) w :=
  run_load_front w g _ _ _ _ _ _ hg (sqs_front fs vs wv e) Tryz.underlying167 rfl (by rw [sqs_length]; kernel_rfl)
theorem idx_sqs (w : World) (fs : Nat → Int) (vs : Nat → Value) (n : Nat) (hn : n < 17) : (Instr.index 167 (.agg (sqs fs vs 17).toArray) (.int .i64 (n : Nat))).run Tryz.prog w = .ok (.agg #[.int .i64 (fs n), vs n]) w := by
  obtain ⟨h1, h2⟩ := sqs_get fs vs 17 n hn
  have hx : List.take 2 (List.drop (n * 2) (sqs fs vs 17)) = [.int .i64 (fs n), vs n] := by
    apply List.ext_getElem?
    intro i
    rw [List.getElem?_take, List.getElem?_drop]
    match i with
    | 0 => rw [if_pos (by omega), show n * 2 + 0 = 2 * n by omega, h1]; rfl
    | 1 => rw [if_pos (by omega), show n * 2 + 1 = 2 * n + 1 by omega, h2]; rfl
    | i + 2 => rw [if_neg (by omega)]; rfl
  have hu := run_underlying Tryz.underlying167 w
  have hlt : (0 : Int) ≤ (n : Int) ∧ (n : Int) < ((17 : Nat) : Int) := by omega
  unfold Instr.index
  simp [go_sem]
  rw [if_pos hn, hx]
end Bk
end Go.Proofs.YtpoilaappcjbeaaGreatDoor
end

section
namespace Go.Proofs.YtpoilaappcjbeaaGreatDoor
open Go.RowKit

namespace Bk
def upd {α : Type} (f : Nat → α) (n : Nat) (x : α) : Nat → α := fun m => if m = n then x else f m
theorem upd_same {α : Type} (f : Nat → α) (n : Nat) (x : α) : upd f n x n = x := by simp [upd]
theorem upd_other {α : Type} (f : Nat → α) (n m : Nat) (x : α) (h : m ≠ n) : upd f n x m = f m := by simp [upd, h]
/-- The rows of symbols, by their lengths, in an order. -/
def rowsOf (l : List Int) (ord : List Nat) (n : Nat) : List Nat := if n = 0 then [] else ord.filter fun s => l.getD s 0 == (n : Int)
theorem rowsOf_snoc_no (l : List Int) (ord : List Nat) (s : Nat) (h : l.getD s 0 = 0) : rowsOf l (ord ++ [s]) = rowsOf l ord := by
  funext n
  unfold rowsOf
  by_cases hn : n = 0
  · simp [hn]
  · rw [if_neg hn, if_neg hn, List.filter_append, List.filter_cons_of_neg (by rw [h]; simp; omega)]; simp
theorem rowsOf_snoc (l : List Int) (ord : List Nat) (s n : Nat) (hn : 0 < n) (h : l.getD s 0 = (n : Int)) : rowsOf l (ord ++ [s]) = upd (rowsOf l ord) n (rowsOf l ord n ++ [s]) := by
  funext m
  unfold upd
  by_cases hm : m = n
  · subst hm
    rw [if_pos rfl]
    unfold rowsOf
    rw [if_neg (by omega), if_neg (by omega), List.filter_append, List.filter_cons_of_pos (by rw [h]; simp)]; rfl
  · rw [if_neg hm]
    unfold rowsOf
    by_cases h0 : m = 0
    · simp [h0]
    · rw [if_neg h0, if_neg h0, List.filter_append, List.filter_cons_of_neg (by rw [h]; simp; omega)]; simp
theorem rowsOf_mem (l : List Int) (ord : List Nat) (n s : Nat) (h : s ∈ rowsOf l ord n) : s ∈ ord ∧ l.getD s 0 = (n : Int) ∧ 0 < n := by
  unfold rowsOf at h
  by_cases hn : n = 0
  · simp [hn] at h
  · rw [if_neg hn, List.mem_filter] at h
    exact ⟨h.1, eq_of_beq h.2, by omega⟩
theorem rowsOf_le (l : List Int) (ord : List Nat) (n : Nat) : (rowsOf l ord n).length ≤ ord.length := by
  unfold rowsOf
  split
  · simp
  · exact List.length_filter_le _ _
theorem bk_get (fs : Nat → Int) (vs : Nat → Value) (wv : Value) (e : Int) :
    (∀ n, n < 17 → (bkCells fs vs wv e)[2 * n]? = some (.int .i64 (fs n)) ∧ (bkCells fs vs wv e)[2 * n + 1]? = some (vs n)) ∧ (bkCells fs vs wv e)[34]? = some wv ∧ (bkCells fs vs wv e)[35]? = some (.int .i64 e) := by
  refine ⟨fun n hn => ⟨sqs_front fs vs wv e _ _ (sqs_get fs vs 17 n hn).1, sqs_front fs vs wv e _ _ (sqs_get fs vs 17 n hn).2⟩, ?_, ?_⟩
  · show ((sqs fs vs 17 ++ [wv, .int .i64 e]).toArray)[34]? = _
    rw [List.getElem?_toArray, List.getElem?_append_right (by rw [sqs_length]; omega), sqs_length]; rfl
  · show ((sqs fs vs 17 ++ [wv, .int .i64 e]).toArray)[35]? = _
    rw [List.getElem?_toArray, List.getElem?_append_right (by rw [sqs_length]; omega), sqs_length]; rfl
theorem bk_size (fs : Nat → Int) (vs : Nat → Value) (wv : Value) (e : Int) : (bkCells fs vs wv e).size = 36 := by
  show ((sqs fs vs 17 ++ [wv, .int .i64 e]).toArray).size = 36
  rw [List.size_toArray, List.length_append, sqs_length]; rfl
theorem bk_ext (A B : Array Value) (hA : A.size = 36) (hB : B.size = 36) (h : ∀ n, n < 17 → A[2 * n]? = B[2 * n]? ∧ A[2 * n + 1]? = B[2 * n + 1]?) (h4 : A[34]? = B[34]?) (h5 : A[35]? = B[35]?) : A = B := by
  apply Array.ext_getElem?
  intro i
  by_cases hi : i < 34
  · have := h (i / 2) (by omega)
    rcases Nat.mod_two_eq_zero_or_one i with e | e
    · rw [show i = 2 * (i / 2) by omega]; exact this.1
    · rw [show i = 2 * (i / 2) + 1 by omega]; exact this.2
  · by_cases h34 : i = 34
    · subst h34; exact h4
    · by_cases h35 : i = 35
      · subst h35; exact h5
      · rw [Array.getElem?_eq_none (by omega), Array.getElem?_eq_none (by omega)]
theorem bk_setV (fs : Nat → Int) (vs : Nat → Value) (wv : Value) (e : Int) (n : Nat) (hn : n < 17) (v : Value) : (bkCells fs vs wv e).setIfInBounds (2 * n + 1) v = bkCells fs (upd vs n v) wv e := by
  obtain ⟨h1, h2, h3⟩ := bk_get fs vs wv e
  obtain ⟨k1, k2, k3⟩ := bk_get fs (upd vs n v) wv e
  have hs := bk_size fs vs wv e
  refine bk_ext _ _ (by rw [Array.size_setIfInBounds]; exact hs) (bk_size _ _ _ _) (fun m hm => ⟨?_, ?_⟩) ?_ ?_
  · rw [Array.getElem?_setIfInBounds, if_neg (by omega), (h1 m hm).1, (k1 m hm).1]
  · rw [Array.getElem?_setIfInBounds, (k1 m hm).2]
    by_cases hmn : n = m
    · subst hmn; rw [if_pos rfl, if_pos (by omega), upd_same]
    · rw [if_neg (by omega), (h1 m hm).2, upd_other _ _ _ _ (by omega)]
  · rw [Array.getElem?_setIfInBounds, if_neg (by omega), h2, k2]
  · rw [Array.getElem?_setIfInBounds, if_neg (by omega), h3, k3]
theorem bk_setF (fs : Nat → Int) (vs : Nat → Value) (wv : Value) (e : Int) (n : Nat) (hn : n < 17) (z : Int) : (bkCells fs vs wv e).setIfInBounds (2 * n) (.int .i64 z) = bkCells (upd fs n z) vs wv e := by
  obtain ⟨h1, h2, h3⟩ := bk_get fs vs wv e
  obtain ⟨k1, k2, k3⟩ := bk_get (upd fs n z) vs wv e
  have hs := bk_size fs vs wv e
  refine bk_ext _ _ (by rw [Array.size_setIfInBounds]; exact hs) (bk_size _ _ _ _) (fun m hm => ⟨?_, ?_⟩) ?_ ?_
  · rw [Array.getElem?_setIfInBounds, (k1 m hm).1]
    by_cases hmn : n = m
    · subst hmn; rw [if_pos rfl, if_pos (by omega), upd_same]
    · rw [if_neg (by omega), (h1 m hm).1, upd_other _ _ _ _ (by omega)]
  · rw [Array.getElem?_setIfInBounds, if_neg (by omega), (h1 m hm).2, (k1 m hm).2]
  · rw [Array.getElem?_setIfInBounds, if_neg (by omega), h2, k2]
  · rw [Array.getElem?_setIfInBounds, if_neg (by omega), h3, k3]
theorem bk_setE (fs : Nat → Int) (vs : Nat → Value) (wv : Value) (e z : Int) : (bkCells fs vs wv e).setIfInBounds 35 (.int .i64 z) = bkCells fs vs wv z := by
  obtain ⟨h1, h2, h3⟩ := bk_get fs vs wv e
  obtain ⟨k1, k2, k3⟩ := bk_get fs vs wv z
  have hs := bk_size fs vs wv e
  refine bk_ext _ _ (by rw [Array.size_setIfInBounds]; exact hs) (bk_size _ _ _ _) (fun m hm => ⟨?_, ?_⟩) ?_ ?_
  · rw [Array.getElem?_setIfInBounds, if_neg (by omega), (h1 m hm).1, (k1 m hm).1]
  · rw [Array.getElem?_setIfInBounds, if_neg (by omega), (h1 m hm).2, (k1 m hm).2]
  · rw [Array.getElem?_setIfInBounds, if_neg (by omega), h2, k2]
  · rw [Array.getElem?_setIfInBounds, if_pos rfl, if_pos (by omega), k3]

/-- Codes and their lengths as cells. -/
def wvs (ws : List (Nat × Nat)) : List Value := ws.flatMap fun p => [.int .i64 (p.1 : Nat), .int .i64 (p.2 : Nat)]
theorem wvs_length (ws : List (Nat × Nat)) : (wvs ws).length = ws.length * 2 := by
  induction ws with
  | nil => rfl
  | cons p ws ih => simp only [wvs, List.flatMap_cons, List.length_append, List.length_cons, List.length_nil] at *; omega
theorem made_words (n : Nat) : (madeCells #[.int .i64 0, .int .i64 0] (n * 2)).toList = wvs (List.replicate n (0, 0)) := by
  rw [made_all _ _ (.int .i64 0) (by simp) (fun i hi => by
    match i, hi with
    | 0, _ => rfl
    | 1, _ => rfl)]
  symm
  rw [List.eq_replicate_iff]
  refine ⟨by rw [wvs_length, List.length_replicate], fun b hb => ?_⟩
  simp only [wvs, List.mem_flatMap, List.mem_replicate] at hb
  obtain ⟨p, ⟨_, rfl⟩, hb⟩ := hb
  simpa using hb
theorem made_ints (n : Nat) : (madeCells #[.int .i64 0] (n * 1)).toList = ivs (List.replicate n 0) := by
  rw [made_all _ _ (.int .i64 0) (by simp) (fun i hi => by
    match i, hi with
    | 0, _ => rfl), Nat.mul_one]
  simp [ivs]
/-- A book: its box's block is g; all its blocks are apart, and lie at or above B. -/
structure NB (w : World) (B g : Nat) (fs : Nat → Int) (vs : Nat → Value) (wv : Value) (e : Int) (R : Nat → List Nat) (ws : List (Nat × Nat)) : Prop where
  blk : w.heap[g]? = some (.cells (bkCells fs vs wv e) 170 (0, 0))
  rows : Rows w B vs R
  words : w.ownsRow B 154 2 wv ws.length (wvs ws)
  hg : B ≤ g
  dj : ∀ n m, n < 17 → m < 17 → n ≠ m → ∀ k, (vs n).ownBlock = some k → (vs m).ownBlock ≠ some k
  ne : ∀ n, n < 17 → (vs n).ownBlock ≠ some g
  wne : wv.ownBlock ≠ some g
  wdj : ∀ n, n < 17 → ∀ k, (vs n).ownBlock = some k → wv.ownBlock ≠ some k
theorem NB.lt {w : World} {B g : Nat} {fs : Nat → Int} {vs : Nat → Value} {wv : Value} {e : Int} {R : Nat → List Nat} {ws : List (Nat × Nat)} (h : NB w B g fs vs wv e R ws) : g < w.heap.size := (Array.getElem?_eq_some_iff.1 h.blk).1
theorem NB.kept {w w' : World} {T : Nat → Prop} {B g : Nat} {fs : Nat → Int} {vs : Nat → Value} {wv : Value} {e : Int} {R : Nat → List Nat} {ws : List (Nat × Nat)} (h : NB w B g fs vs wv e R ws) (c : Ch w w' T) (h1 : ¬ T g) (h2 : ∀ k, wv.ownBlock = some k → ¬ T k) (h3 : ∀ k, Tr vs k → ¬ T k) : NB w' B g fs vs wv e R ws :=
  ⟨by rw [c.block g h.lt h1]; exact h.blk, fun n hn => c.own (h.rows n hn) (fun k hk => h3 k ⟨n, hn, hk⟩), c.own h.words h2, h.hg, h.dj, h.ne, h.wne, h.wdj⟩
theorem NB.mono {w w' : World} {B g : Nat} {fs : Nat → Int} {vs : Nat → Value} {wv : Value} {e : Int} {R : Nat → List Nat} {ws : List (Nat × Nat)} (h : NB w B g fs vs wv e R ws) (hb : Below w.heap.size w w') : NB w' B g fs vs wv e R ws :=
  h.kept (Ch.of_below (T := fun _ => False) hb) (fun h => h) (fun _ _ h => h) (fun _ _ h => h)
theorem NB.base {w : World} {B B' g : Nat} {fs : Nat → Int} {vs : Nat → Value} {wv : Value} {e : Int} {R : Nat → List Nat} {ws : List (Nat × Nat)} (h : NB w B g fs vs wv e R ws) (hB : B' ≤ B) : NB w B' g fs vs wv e R ws :=
  ⟨h.blk, fun n hn => own_base (h.rows n hn) (fun k hk => Nat.le_trans hB ((h.rows n hn).lt k hk).1), own_base h.words (fun k hk => Nat.le_trans hB (h.words.lt k hk).1), Nat.le_trans hB h.hg, h.dj, h.ne, h.wne, h.wdj⟩
theorem NB.cV {w : World} {B g : Nat} {fs : Nat → Int} {vs : Nat → Value} {wv : Value} {e : Int} {R : Nat → List Nat} {ws : List (Nat × Nat)} (h : NB w B g fs vs wv e R ws) (n : Nat) (hn : n < 17) : w.cell? ⟨g, 2 * n + 1, none⟩ = some (vs n) := by
  rw [cell_of_row _ _ _ _ _ (0, 0) h.blk]; exact ((bk_get fs vs wv e).1 n hn).2
theorem NB.cF {w : World} {B g : Nat} {fs : Nat → Int} {vs : Nat → Value} {wv : Value} {e : Int} {R : Nat → List Nat} {ws : List (Nat × Nat)} (h : NB w B g fs vs wv e R ws) (n : Nat) (hn : n < 17) : w.cell? ⟨g, 2 * n, none⟩ = some (.int .i64 (fs n)) := by
  rw [cell_of_row _ _ _ _ _ (0, 0) h.blk]; exact ((bk_get fs vs wv e).1 n hn).1
theorem NB.cW {w : World} {B g : Nat} {fs : Nat → Int} {vs : Nat → Value} {wv : Value} {e : Int} {R : Nat → List Nat} {ws : List (Nat × Nat)} (h : NB w B g fs vs wv e R ws) : w.cell? ⟨g, 34, none⟩ = some wv := by
  rw [cell_of_row _ _ _ _ _ (0, 0) h.blk]; exact (bk_get fs vs wv e).2.1
theorem NB.cE {w : World} {B g : Nat} {fs : Nat → Int} {vs : Nat → Value} {wv : Value} {e : Int} {R : Nat → List Nat} {ws : List (Nat × Nat)} (h : NB w B g fs vs wv e R ws) : w.cell? ⟨g, 35, none⟩ = some (.int .i64 e) := by
  rw [cell_of_row _ _ _ _ _ (0, 0) h.blk]; exact (bk_get fs vs wv e).2.2
theorem NB.fr {w : World} {B g : Nat} {fs : Nat → Int} {vs : Nat → Value} {wv : Value} {e : Int} {R : Nat → List Nat} {ws : List (Nat × Nat)} (h : NB w B g fs vs wv e R ws) (o : Nat) : w.frozen? ⟨g, o, none⟩ = false := frozen_of_row w g o _ _ h.blk
theorem ch_set (w : World) (g o : Nat) (v : Value) : Ch w (w.setCell ⟨g, o, none⟩ v) (fun k => k = g) := (Ch.refl w (fun k => k = g)).set (.inl rfl) _
theorem NB.setF {w : World} {B g : Nat} {fs : Nat → Int} {vs : Nat → Value} {wv : Value} {e : Int} {R : Nat → List Nat} {ws : List (Nat × Nat)} (h : NB w B g fs vs wv e R ws) (n : Nat) (hn : n < 17) (z : Int) : NB (w.setCell ⟨g, 2 * n, none⟩ (.int .i64 z)) B g (upd fs n z) vs wv e R ws := by
  have c := ch_set w g (2 * n) (.int .i64 z)
  refine ⟨?_, fun m hm => c.own (h.rows m hm) (fun k hk e => h.ne m hm (e ▸ hk)), c.own h.words (fun k hk e => h.wne (e ▸ hk)), h.hg, h.dj, h.ne, h.wne, h.wdj⟩
  rw [heap_setCell_same w g _ _ _ _ h.blk, bk_setF _ _ _ _ _ hn]
theorem NB.setE {w : World} {B g : Nat} {fs : Nat → Int} {vs : Nat → Value} {wv : Value} {e : Int} {R : Nat → List Nat} {ws : List (Nat × Nat)} (h : NB w B g fs vs wv e R ws) (z : Int) : NB (w.setCell ⟨g, 35, none⟩ (.int .i64 z)) B g fs vs wv z R ws := by
  have c := ch_set w g 35 (.int .i64 z)
  refine ⟨?_, fun m hm => c.own (h.rows m hm) (fun k hk e => h.ne m hm (e ▸ hk)), c.own h.words (fun k hk e => h.wne (e ▸ hk)), h.hg, h.dj, h.ne, h.wne, h.wdj⟩
  rw [heap_setCell_same w g _ _ _ _ h.blk, bk_setE]
/-- A symbol more in row n. -/
theorem NB.push {w w' : World} {B g : Nat} {fs : Nat → Int} {vs : Nat → Value} {wv : Value} {e : Int} {R : Nat → List Nat} {ws : List (Nat × Nat)} (h : NB w B g fs vs wv e R ws) (n : Nat) (hn : n < 17) (s : Nat) (v' : Value)
    (own : w'.ownsRow B 3 1 v' ((R n).length + 1) (ivs (sy (R n ++ [s])))) (c : Ch w w' (fun k => (vs n).ownBlock = some k)) (f : ∀ k, v'.ownBlock = some k → (vs n).ownBlock = some k ∨ w.heap.size ≤ k) :
    NB (w'.setCell ⟨g, 2 * n + 1, none⟩ v') B g fs (upd vs n v') wv e (upd R n (R n ++ [s])) ws := by
  have c2 := ch_set w' g (2 * n + 1) v'
  have hb : w'.heap[g]? = some (.cells (bkCells fs vs wv e) 170 (0, 0)) := by rw [c.block g h.lt (h.ne n hn)]; exact h.blk
  have hvg : v'.ownBlock ≠ some g := fun e => (f g e).elim (h.ne n hn) (fun e => by have := h.lt; omega)
  refine ⟨?_, fun m hm => ?_, c2.own (c.own h.words (fun k hk e => h.wdj n hn k e hk)) (fun k hk e => h.wne (e ▸ hk)), h.hg, fun a b ha hb' hab k hk => ?_, fun a ha => ?_, h.wne, fun a ha k hk => ?_⟩
  · rw [heap_setCell_same w' g _ _ _ _ hb, bk_setV _ _ _ _ _ hn]
  · by_cases hmn : m = n
    · subst hmn
      rw [upd_same, upd_same]
      have := c2.own own (fun k hk e => hvg (e ▸ hk))
      rw [List.length_append]; exact this
    · rw [upd_other _ _ _ _ hmn, upd_other _ _ _ _ hmn]
      exact c2.own (c.own (h.rows m hm) (fun k hk e => h.dj m n hm hn hmn k hk e)) (fun k hk e => h.ne m hm (e ▸ hk))
  · by_cases han : a = n
    · subst han
      rw [upd_same] at hk
      rw [upd_other _ _ _ _ (Ne.symm hab)]
      intro he
      rcases f k hk with h1 | h1
      · exact h.dj a b ha hb' hab k h1 he
      · have := ((h.rows b hb').lt k he).2; omega
    · rw [upd_other _ _ _ _ han] at hk
      by_cases hbn : b = n
      · subst hbn
        rw [upd_same]
        intro he
        rcases f k he with h1 | h1
        · exact h.dj a b ha hb' hab k hk h1
        · have := ((h.rows a ha).lt k hk).2; omega
      · rw [upd_other _ _ _ _ hbn]; exact h.dj a b ha hb' hab k hk
  · by_cases han : a = n
    · subst han; rw [upd_same]; exact hvg
    · rw [upd_other _ _ _ _ han]; exact h.ne a ha
  · by_cases han : a = n
    · subst han
      rw [upd_same] at hk
      rcases f k hk with h1 | h1
      · exact h.wdj a ha k h1
      · intro he
        have := (h.words.lt k he).2; omega
    · rw [upd_other _ _ _ _ han] at hk; exact h.wdj a ha k hk
end Bk
end Go.Proofs.YtpoilaappcjbeaaGreatDoor
end
