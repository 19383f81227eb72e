/- A book in memory. A book that is being made. A book of codes in memory. A book; (*Book).word, Length: their contracts. Books of lengths: in form, and the document's codes. -/
import Derived.Test.YtjjbgdmalefdlaaGreatDoorZ5
import Derived.Test.YtjjbgdmalefdlaaGreatDoorZ9
import Derived.Test.YtjjbgdmalefdlaaGreatDoorZ10
import Derived.Test.YtjjbgdmalefdlaaGreatDoorZ28
import Derived.Test.YtjjbgdmalefdlaaGreatDoorZ29
import Derived.Test.YtjjbgdmalefdlaaGreatDoorZ30
import Derived.OwnWalkIn
import Derived.RangeFuncFrom
set_option linter.unusedSimpArgs false
set_option linter.unusedVariables false
section
namespace Go.Proofs.YtjjbgdmalefdlaaGreatDoor
open Go.RowKit

namespace Bk
def sy (l : List Nat) : List Int := l.map fun (s : Nat) => (s : Int)
theorem sy_length (l : List Nat) : (sy l).length = l.length := by simp [sy]
theorem sy_getD (l : List Nat) (i : Nat) : (sy l).getD i 0 = ((l.getD i 0 : Nat) : Int) := by
  by_cases h : i < l.length
  · simp [sy, List.getD, List.getElem?_eq_getElem h]
  · simp [sy, List.getD, List.getElem?_eq_none (Nat.le_of_not_lt h)]
theorem sy_append (l m : List Nat) : sy (l ++ m) = sy l ++ sy m := by simp [sy]
/-- The cells of the sequences. -/
def sqs (fs : Nat → Int) (vs : Nat → Value) (m : Nat) : List Value := (List.range m).flatMap fun n => [.int .i64 (fs n), vs n]
theorem sqs_length (fs : Nat → Int) (vs : Nat → Value) (m : Nat) : (sqs fs vs m).length = 2 * m := by
  induction m with
  | zero => rfl
  | succ m ih => simp only [sqs, List.range_succ, List.flatMap_append, List.length_append] at *; rw [ih]; simp; omega
theorem sqs_succ (fs : Nat → Int) (vs : Nat → Value) (m : Nat) : sqs fs vs (m + 1) = sqs fs vs m ++ [.int .i64 (fs m), vs m] := by simp [sqs, List.range_succ]
theorem sqs_get (fs : Nat → Int) (vs : Nat → Value) (m n : Nat) (h : n < m) : (sqs fs vs m)[2 * n]? = some (.int .i64 (fs n)) ∧ (sqs fs vs m)[2 * n + 1]? = some (vs n) := by
  induction m with
  | zero => omega
  | succ m ih =>
    rw [sqs_succ]
    by_cases hm : n < m
    · rw [List.getElem?_append_left (by rw [sqs_length]; omega), List.getElem?_append_left (by rw [sqs_length]; omega)]
      exact ih hm
    · obtain rfl : n = m := by omega
      rw [List.getElem?_append_right (by rw [sqs_length]; omega), List.getElem?_append_right (by rw [sqs_length]; omega), sqs_length]
      constructor
      · rw [show 2 * n - 2 * n = 0 by omega]; rfl
      · rw [show 2 * n + 1 - 2 * n = 1 by omega]; rfl
def bkCells (fs : Nat → Int) (vs : Nat → Value) (wv : Value) (e : Int) : Array Value := (sqs fs vs 17 ++ [wv, .int .i64 e]).toArray
/-- The rows of symbols. -/
def Rows (w : World) (B : Nat) (vs : Nat → Value) (R : Nat → List Nat) : Prop := ∀ n, n < 17 → w.ownsRow B 3 1 (vs n) (R n).length (ivs (sy (R n)))
def Tr (vs : Nat → Value) (k : Nat) : Prop := ∃ n, n < 17 ∧ (vs n).ownBlock = some k
theorem Rows.kept {U : Nat → Prop} {w w' : World} {B : Nat} {vs : Nat → Value} {R : Nat → List Nat} (h : Rows w B vs R) (c : Kc U w w') (hn : ∀ k, Tr vs k → ¬ U k) : Rows w' B vs R := fun n hl => own_kc (h n hl) c (fun g hg => hn g ⟨n, hl, hg⟩)
theorem Rows.mono {w w' : World} {B : Nat} {vs : Nat → Value} {R : Nat → List Nat} (h : Rows w B vs R) (hb : Below w.heap.size w w') : Rows w' B vs R := fun n hl => own_below (h n hl) hb
theorem sqs_front (fs : Nat → Int) (vs : Nat → Value) (wv : Value) (e : Int) : ∀ (j : Nat) (v : Value), (sqs fs vs 17)[j]? = some v → (bkCells fs vs wv e)[j]? = some v := by
  intro j v h
  have hj : j < (sqs fs vs 17).length := (List.getElem?_eq_some_iff.1 h).1
  show ((sqs fs vs 17 ++ [wv, .int .i64 e]).toArray)[j]? = some v
  rw [List.getElem?_toArray, List.getElem?_append_left hj]; exact h
theorem load_sqs (w : World) (g : Nat) (fs : Nat → Int) (vs : Nat → Value) (wv : Value) (e : Int) (hg : w.heap[g]? = some (.cells (bkCells fs vs wv e) 170 (0, 0))) :
    (loadVar 167 ⟨g, 0, none⟩).run Tryz.prog w = .ok (.agg (sqs fs vs 17).toArray) w :=
  run_load_front w g _ _ _ _ _ _ hg (sqs_front fs vs wv e) Tryz.underlying167 rfl (by rw [sqs_length]; kernel_rfl)
theorem idx_sqs (w : World) (fs : Nat → Int) (vs : Nat → Value) (n : Nat) (hn : n < 17) : (Instr.index 167 (.agg (sqs fs vs 17).toArray) (.int .i64 (n : Nat))).run Tryz.prog w = .ok (.agg #[.int .i64 (fs n), vs n]) w := by
  obtain ⟨h1, h2⟩ := sqs_get fs vs 17 n hn
  have hx : List.take 2 (List.drop (n * 2) (sqs fs vs 17)) = [.int .i64 (fs n), vs n] := by
    apply List.ext_getElem?
    intro i
    rw [List.getElem?_take, List.getElem?_drop]
    match i with
    | 0 => rw [if_pos (by omega), show n * 2 + 0 = 2 * n by omega, h1]; rfl
    | 1 => rw [if_pos (by omega), show n * 2 + 1 = 2 * n + 1 by omega, h2]; rfl
    | i + 2 => rw [if_neg (by omega)]; rfl
  have hu := run_underlying Tryz.underlying167 w
  have hlt : (0 : Int) ≤ (n : Int) ∧ (n : Int) < ((17 : Nat) : Int) := by omega
  unfold Instr.index
  simp [go_sem]
  rw [if_pos hn, hx]
end Bk
end Go.Proofs.YtjjbgdmalefdlaaGreatDoor
end

section
namespace Go.Proofs.YtjjbgdmalefdlaaGreatDoor
open Go.RowKit

namespace Bk
def upd {α : Type} (f : Nat → α) (n : Nat) (x : α) : Nat → α := fun m => if m = n then x else f m
theorem upd_same {α : Type} (f : Nat → α) (n : Nat) (x : α) : upd f n x n = x := by simp [upd]
theorem upd_other {α : Type} (f : Nat → α) (n m : Nat) (x : α) (h : m ≠ n) : upd f n x m = f m := by simp [upd, h]
/-- The rows of symbols, by their lengths, in an order. -/
def rowsOf (l : List Int) (ord : List Nat) (n : Nat) : List Nat := if n = 0 then [] else ord.filter fun s => l.getD s 0 == (n : Int)
theorem rowsOf_snoc_no (l : List Int) (ord : List Nat) (s : Nat) (h : l.getD s 0 = 0) : rowsOf l (ord ++ [s]) = rowsOf l ord := by
  funext n
  unfold rowsOf
  by_cases hn : n = 0
  · simp [hn]
  · rw [if_neg hn, if_neg hn, List.filter_append, List.filter_cons_of_neg (by rw [h]; simp; omega)]; simp
theorem rowsOf_snoc (l : List Int) (ord : List Nat) (s n : Nat) (hn : 0 < n) (h : l.getD s 0 = (n : Int)) : rowsOf l (ord ++ [s]) = upd (rowsOf l ord) n (rowsOf l ord n ++ [s]) := by
  funext m
  unfold upd
  by_cases hm : m = n
  · subst hm
    rw [if_pos rfl]
    unfold rowsOf
    rw [if_neg (by omega), if_neg (by omega), List.filter_append, List.filter_cons_of_pos (by rw [h]; simp)]; rfl
  · rw [if_neg hm]
    unfold rowsOf
    by_cases h0 : m = 0
    · simp [h0]
    · rw [if_neg h0, if_neg h0, List.filter_append, List.filter_cons_of_neg (by rw [h]; simp; omega)]; simp
theorem rowsOf_mem (l : List Int) (ord : List Nat) (n s : Nat) (h : s ∈ rowsOf l ord n) : s ∈ ord ∧ l.getD s 0 = (n : Int) ∧ 0 < n := by
  unfold rowsOf at h
  by_cases hn : n = 0
  · simp [hn] at h
  · rw [if_neg hn, List.mem_filter] at h
    exact ⟨h.1, eq_of_beq h.2, by omega⟩
theorem rowsOf_le (l : List Int) (ord : List Nat) (n : Nat) : (rowsOf l ord n).length ≤ ord.length := by
  unfold rowsOf
  split
  · simp
  · exact List.length_filter_le _ _
theorem bk_get (fs : Nat → Int) (vs : Nat → Value) (wv : Value) (e : Int) :
    (∀ n, n < 17 → (bkCells fs vs wv e)[2 * n]? = some (.int .i64 (fs n)) ∧ (bkCells fs vs wv e)[2 * n + 1]? = some (vs n)) ∧ (bkCells fs vs wv e)[34]? = some wv ∧ (bkCells fs vs wv e)[35]? = some (.int .i64 e) := by
  refine ⟨fun n hn => ⟨sqs_front fs vs wv e _ _ (sqs_get fs vs 17 n hn).1, sqs_front fs vs wv e _ _ (sqs_get fs vs 17 n hn).2⟩, ?_, ?_⟩
  · show ((sqs fs vs 17 ++ [wv, .int .i64 e]).toArray)[34]? = _
    rw [List.getElem?_toArray, List.getElem?_append_right (by rw [sqs_length]; omega), sqs_length]; rfl
  · show ((sqs fs vs 17 ++ [wv, .int .i64 e]).toArray)[35]? = _
    rw [List.getElem?_toArray, List.getElem?_append_right (by rw [sqs_length]; omega), sqs_length]; rfl
theorem bk_size (fs : Nat → Int) (vs : Nat → Value) (wv : Value) (e : Int) : (bkCells fs vs wv e).size = 36 := by
  show ((sqs fs vs 17 ++ [wv, .int .i64 e]).toArray).size = 36
  rw [List.size_toArray, List.length_append, sqs_length]; rfl
theorem bk_ext (A B : Array Value) (hA : A.size = 36) (hB : B.size = 36) (h : ∀ n, n < 17 → A[2 * n]? = B[2 * n]? ∧ A[2 * n + 1]? = B[2 * n + 1]?) (h4 : A[34]? = B[34]?) (h5 : A[35]? = B[35]?) : A = B := by
  apply Array.ext_getElem?
  intro i
  by_cases hi : i < 34
  · have := h (i / 2) (by omega)
    rcases Nat.mod_two_eq_zero_or_one i with e | e
    · rw [show i = 2 * (i / 2) by omega]; exact this.1
    · rw [show i = 2 * (i / 2) + 1 by omega]; exact this.2
  · by_cases h34 : i = 34
    · subst h34; exact h4
    · by_cases h35 : i = 35
      · subst h35; exact h5
      · rw [Array.getElem?_eq_none (by omega), Array.getElem?_eq_none (by omega)]
theorem bk_setV (fs : Nat → Int) (vs : Nat → Value) (wv : Value) (e : Int) (n : Nat) (hn : n < 17) (v : Value) : (bkCells fs vs wv e).setIfInBounds (2 * n + 1) v = bkCells fs (upd vs n v) wv e := by
  obtain ⟨h1, h2, h3⟩ := bk_get fs vs wv e
  obtain ⟨k1, k2, k3⟩ := bk_get fs (upd vs n v) wv e
  have hs := bk_size fs vs wv e
  refine bk_ext _ _ (by rw [Array.size_setIfInBounds]; exact hs) (bk_size _ _ _ _) (fun m hm => ⟨?_, ?_⟩) ?_ ?_
  · rw [Array.getElem?_setIfInBounds, if_neg (by omega), (h1 m hm).1, (k1 m hm).1]
  · rw [Array.getElem?_setIfInBounds, (k1 m hm).2]
    by_cases hmn : n = m
    · subst hmn; rw [if_pos rfl, if_pos (by omega), upd_same]
    · rw [if_neg (by omega), (h1 m hm).2, upd_other _ _ _ _ (by omega)]
  · rw [Array.getElem?_setIfInBounds, if_neg (by omega), h2, k2]
  · rw [Array.getElem?_setIfInBounds, if_neg (by omega), h3, k3]
theorem bk_setF (fs : Nat → Int) (vs : Nat → Value) (wv : Value) (e : Int) (n : Nat) (hn : n < 17) (z : Int) : (bkCells fs vs wv e).setIfInBounds (2 * n) (.int .i64 z) = bkCells (upd fs n z) vs wv e := by
  obtain ⟨h1, h2, h3⟩ := bk_get fs vs wv e
  obtain ⟨k1, k2, k3⟩ := bk_get (upd fs n z) vs wv e
  have hs := bk_size fs vs wv e
  refine bk_ext _ _ (by rw [Array.size_setIfInBounds]; exact hs) (bk_size _ _ _ _) (fun m hm => ⟨?_, ?_⟩) ?_ ?_
  · rw [Array.getElem?_setIfInBounds, (k1 m hm).1]
    by_cases hmn : n = m
    · subst hmn; rw [if_pos rfl, if_pos (by omega), upd_same]
    · rw [if_neg (by omega), (h1 m hm).1, upd_other _ _ _ _ (by omega)]
  · rw [Array.getElem?_setIfInBounds, if_neg (by omega), (h1 m hm).2, (k1 m hm).2]
  · rw [Array.getElem?_setIfInBounds, if_neg (by omega), h2, k2]
  · rw [Array.getElem?_setIfInBounds, if_neg (by omega), h3, k3]
theorem bk_setE (fs : Nat → Int) (vs : Nat → Value) (wv : Value) (e z : Int) : (bkCells fs vs wv e).setIfInBounds 35 (.int .i64 z) = bkCells fs vs wv z := by
  obtain ⟨h1, h2, h3⟩ := bk_get fs vs wv e
  obtain ⟨k1, k2, k3⟩ := bk_get fs vs wv z
  have hs := bk_size fs vs wv e
  refine bk_ext _ _ (by rw [Array.size_setIfInBounds]; exact hs) (bk_size _ _ _ _) (fun m hm => ⟨?_, ?_⟩) ?_ ?_
  · rw [Array.getElem?_setIfInBounds, if_neg (by omega), (h1 m hm).1, (k1 m hm).1]
  · rw [Array.getElem?_setIfInBounds, if_neg (by omega), (h1 m hm).2, (k1 m hm).2]
  · rw [Array.getElem?_setIfInBounds, if_neg (by omega), h2, k2]
  · rw [Array.getElem?_setIfInBounds, if_pos rfl, if_pos (by omega), k3]

/-- Codes and their lengths as cells. -/
def wvs (ws : List (Nat × Nat)) : List Value := ws.flatMap fun p => [.int .i64 (p.1 : Nat), .int .i64 (p.2 : Nat)]
theorem wvs_length (ws : List (Nat × Nat)) : (wvs ws).length = ws.length * 2 := by
  induction ws with
  | nil => rfl
  | cons p ws ih => simp only [wvs, List.flatMap_cons, List.length_append, List.length_cons, List.length_nil] at *; omega
theorem made_words (n : Nat) : (madeCells #[.int .i64 0, .int .i64 0] (n * 2)).toList = wvs (List.replicate n (0, 0)) := by
  rw [made_all _ _ (.int .i64 0) (by simp) (fun i hi => by
    match i, hi with
    | 0, _ => rfl
    | 1, _ => rfl)]
  symm
  rw [List.eq_replicate_iff]
  refine ⟨by rw [wvs_length, List.length_replicate], fun b hb => ?_⟩
  simp only [wvs, List.mem_flatMap, List.mem_replicate] at hb
  obtain ⟨p, ⟨_, rfl⟩, hb⟩ := hb
  simpa using hb
theorem made_ints (n : Nat) : (madeCells #[.int .i64 0] (n * 1)).toList = ivs (List.replicate n 0) := by
  rw [made_all _ _ (.int .i64 0) (by simp) (fun i hi => by
    match i, hi with
    | 0, _ => rfl), Nat.mul_one]
  simp [ivs]
/-- A book: its box's block is g; all its blocks are apart, and lie at or above B. -/
structure NB (w : World) (B g : Nat) (fs : Nat → Int) (vs : Nat → Value) (wv : Value) (e : Int) (R : Nat → List Nat) (ws : List (Nat × Nat)) : Prop where
  blk : w.heap[g]? = some (.cells (bkCells fs vs wv e) 170 (0, 0))
  rows : Rows w B vs R
  words : w.ownsRow B 154 2 wv ws.length (wvs ws)
  hg : B ≤ g
  dj : ∀ n m, n < 17 → m < 17 → n ≠ m → ∀ k, (vs n).ownBlock = some k → (vs m).ownBlock ≠ some k
  ne : ∀ n, n < 17 → (vs n).ownBlock ≠ some g
  wne : wv.ownBlock ≠ some g
  wdj : ∀ n, n < 17 → ∀ k, (vs n).ownBlock = some k → wv.ownBlock ≠ some k
theorem NB.lt {w : World} {B g : Nat} {fs : Nat → Int} {vs : Nat → Value} {wv : Value} {e : Int} {R : Nat → List Nat} {ws : List (Nat × Nat)} (h : NB w B g fs vs wv e R ws) : g < w.heap.size := (Array.getElem?_eq_some_iff.1 h.blk).1
theorem NB.kept {w w' : World} {T : Nat → Prop} {B g : Nat} {fs : Nat → Int} {vs : Nat → Value} {wv : Value} {e : Int} {R : Nat → List Nat} {ws : List (Nat × Nat)} (h : NB w B g fs vs wv e R ws) (c : Ch w w' T) (h1 : ¬ T g) (h2 : ∀ k, wv.ownBlock = some k → ¬ T k) (h3 : ∀ k, Tr vs k → ¬ T k) : NB w' B g fs vs wv e R ws :=
  ⟨by rw [c.block g h.lt h1]; exact h.blk, fun n hn => c.own (h.rows n hn) (fun k hk => h3 k ⟨n, hn, hk⟩), c.own h.words h2, h.hg, h.dj, h.ne, h.wne, h.wdj⟩
theorem NB.mono {w w' : World} {B g : Nat} {fs : Nat → Int} {vs : Nat → Value} {wv : Value} {e : Int} {R : Nat → List Nat} {ws : List (Nat × Nat)} (h : NB w B g fs vs wv e R ws) (hb : Below w.heap.size w w') : NB w' B g fs vs wv e R ws :=
  h.kept (Ch.of_below (T := fun _ => False) hb) (fun h => h) (fun _ _ h => h) (fun _ _ h => h)
theorem NB.base {w : World} {B B' g : Nat} {fs : Nat → Int} {vs : Nat → Value} {wv : Value} {e : Int} {R : Nat → List Nat} {ws : List (Nat × Nat)} (h : NB w B g fs vs wv e R ws) (hB : B' ≤ B) : NB w B' g fs vs wv e R ws :=
  ⟨h.blk, fun n hn => own_base (h.rows n hn) (fun k hk => Nat.le_trans hB ((h.rows n hn).lt k hk).1), own_base h.words (fun k hk => Nat.le_trans hB (h.words.lt k hk).1), Nat.le_trans hB h.hg, h.dj, h.ne, h.wne, h.wdj⟩
theorem NB.cV {w : World} {B g : Nat} {fs : Nat → Int} {vs : Nat → Value} {wv : Value} {e : Int} {R : Nat → List Nat} {ws : List (Nat × Nat)} (h : NB w B g fs vs wv e R ws) (n : Nat) (hn : n < 17) : w.cell? ⟨g, 2 * n + 1, none⟩ = some (vs n) := by
  rw [cell_of_row _ _ _ _ _ (0, 0) h.blk]; exact ((bk_get fs vs wv e).1 n hn).2
theorem NB.cF {w : World} {B g : Nat} {fs : Nat → Int} {vs : Nat → Value} {wv : Value} {e : Int} {R : Nat → List Nat} {ws : List (Nat × Nat)} (h : NB w B g fs vs wv e R ws) (n : Nat) (hn : n < 17) : w.cell? ⟨g, 2 * n, none⟩ = some (.int .i64 (fs n)) := by
  rw [cell_of_row _ _ _ _ _ (0, 0) h.blk]; exact ((bk_get fs vs wv e).1 n hn).1
theorem NB.cW {w : World} {B g : Nat} {fs : Nat → Int} {vs : Nat → Value} {wv : Value} {e : Int} {R : Nat → List Nat} {ws : List (Nat × Nat)} (h : NB w B g fs vs wv e R ws) : w.cell? ⟨g, 34, none⟩ = some wv := by
  rw [cell_of_row _ _ _ _ _ (0, 0) h.blk]; exact (bk_get fs vs wv e).2.1
theorem NB.cE {w : World} {B g : Nat} {fs : Nat → Int} {vs : Nat → Value} {wv : Value} {e : Int} {R : Nat → List Nat} {ws : List (Nat × Nat)} (h : NB w B g fs vs wv e R ws) : w.cell? ⟨g, 35, none⟩ = some (.int .i64 e) := by
  rw [cell_of_row _ _ _ _ _ (0, 0) h.blk]; exact (bk_get fs vs wv e).2.2
theorem NB.fr {w : World} {B g : Nat} {fs : Nat → Int} {vs : Nat → Value} {wv : Value} {e : Int} {R : Nat → List Nat} {ws : List (Nat × Nat)} (h : NB w B g fs vs wv e R ws) (o : Nat) : w.frozen? ⟨g, o, none⟩ = false := frozen_of_row w g o _ _ h.blk
theorem ch_set (w : World) (g o : Nat) (v : Value) : Ch w (w.setCell ⟨g, o, none⟩ v) (fun k => k = g) := (Ch.refl w (fun k => k = g)).set (.inl rfl) _
theorem NB.setF {w : World} {B g : Nat} {fs : Nat → Int} {vs : Nat → Value} {wv : Value} {e : Int} {R : Nat → List Nat} {ws : List (Nat × Nat)} (h : NB w B g fs vs wv e R ws) (n : Nat) (hn : n < 17) (z : Int) : NB (w.setCell ⟨g, 2 * n, none⟩ (.int .i64 z)) B g (upd fs n z) vs wv e R ws := by
  have c := ch_set w g (2 * n) (.int .i64 z)
  refine ⟨?_, fun m hm => c.own (h.rows m hm) (fun k hk e => h.ne m hm (e ▸ hk)), c.own h.words (fun k hk e => h.wne (e ▸ hk)), h.hg, h.dj, h.ne, h.wne, h.wdj⟩
  rw [heap_setCell_same w g _ _ _ _ h.blk, bk_setF _ _ _ _ _ hn]
theorem NB.setE {w : World} {B g : Nat} {fs : Nat → Int} {vs : Nat → Value} {wv : Value} {e : Int} {R : Nat → List Nat} {ws : List (Nat × Nat)} (h : NB w B g fs vs wv e R ws) (z : Int) : NB (w.setCell ⟨g, 35, none⟩ (.int .i64 z)) B g fs vs wv z R ws := by
  have c := ch_set w g 35 (.int .i64 z)
  refine ⟨?_, fun m hm => c.own (h.rows m hm) (fun k hk e => h.ne m hm (e ▸ hk)), c.own h.words (fun k hk e => h.wne (e ▸ hk)), h.hg, h.dj, h.ne, h.wne, h.wdj⟩
  rw [heap_setCell_same w g _ _ _ _ h.blk, bk_setE]
/-- A symbol more in row n. -/
theorem NB.push {w w' : World} {B g : Nat} {fs : Nat → Int} {vs : Nat → Value} {wv : Value} {e : Int} {R : Nat → List Nat} {ws : List (Nat × Nat)} (h : NB w B g fs vs wv e R ws) (n : Nat) (hn : n < 17) (s : Nat) (v' : Value)
    (own : w'.ownsRow B 3 1 v' ((R n).length + 1) (ivs (sy (R n ++ [s])))) (c : Ch w w' (fun k => (vs n).ownBlock = some k)) (f : ∀ k, v'.ownBlock = some k → (vs n).ownBlock = some k ∨ w.heap.size ≤ k) :
    NB (w'.setCell ⟨g, 2 * n + 1, none⟩ v') B g fs (upd vs n v') wv e (upd R n (R n ++ [s])) ws := by
  have c2 := ch_set w' g (2 * n + 1) v'
  have hb : w'.heap[g]? = some (.cells (bkCells fs vs wv e) 170 (0, 0)) := by rw [c.block g h.lt (h.ne n hn)]; exact h.blk
  have hvg : v'.ownBlock ≠ some g := fun e => (f g e).elim (h.ne n hn) (fun e => by have := h.lt; omega)
  refine ⟨?_, fun m hm => ?_, c2.own (c.own h.words (fun k hk e => h.wdj n hn k e hk)) (fun k hk e => h.wne (e ▸ hk)), h.hg, fun a b ha hb' hab k hk => ?_, fun a ha => ?_, h.wne, fun a ha k hk => ?_⟩
  · rw [heap_setCell_same w' g _ _ _ _ hb, bk_setV _ _ _ _ _ hn]
  · by_cases hmn : m = n
    · subst hmn
      rw [upd_same, upd_same]
      have := c2.own own (fun k hk e => hvg (e ▸ hk))
      rw [List.length_append]; exact this
    · rw [upd_other _ _ _ _ hmn, upd_other _ _ _ _ hmn]
      exact c2.own (c.own (h.rows m hm) (fun k hk e => h.dj m n hm hn hmn k hk e)) (fun k hk e => h.ne m hm (e ▸ hk))
  · by_cases han : a = n
    · subst han
      rw [upd_same] at hk
      rw [upd_other _ _ _ _ (Ne.symm hab)]
      intro he
      rcases f k hk with h1 | h1
      · exact h.dj a b ha hb' hab k h1 he
      · have := ((h.rows b hb').lt k he).2; omega
    · rw [upd_other _ _ _ _ han] at hk
      by_cases hbn : b = n
      · subst hbn
        rw [upd_same]
        intro he
        rcases f k he with h1 | h1
        · exact h.dj a b ha hb' hab k hk h1
        · have := ((h.rows a ha).lt k hk).2; omega
      · rw [upd_other _ _ _ _ hbn]; exact h.dj a b ha hb' hab k hk
  · by_cases han : a = n
    · subst han; rw [upd_same]; exact hvg
    · rw [upd_other _ _ _ _ han]; exact h.ne a ha
  · by_cases han : a = n
    · subst han
      rw [upd_same] at hk
      rcases f k hk with h1 | h1
      · exact h.wdj a ha k h1
      · intro he
        have := (h.words.lt k he).2; omega
    · rw [upd_other _ _ _ _ han] at hk; exact h.wdj a ha k hk
end Bk
end Go.Proofs.YtjjbgdmalefdlaaGreatDoor
end

section
namespace Go.Proofs.YtjjbgdmalefdlaaGreatDoor
open Go.RowKit

namespace Bk
/-- A book that lies below S. -/
def Book (w : World) (S g : Nat) (R : Nat → List Nat) (ws : List (Nat × Nat)) : Prop :=
  ∃ (w0 : World) (B : Nat) (fs : Nat → Int) (vs : Nat → Value) (wv : Value), (∀ n, n < 17 → fs n = (fst R n : Nat)) ∧ NB w0 B g fs vs wv (nx R 17 : Nat) R ws ∧ S = w0.heap.size ∧ Below S w0 w
theorem Book.of {w : World} {B g : Nat} {fs : Nat → Int} {vs : Nat → Value} {wv : Value} {R : Nat → List Nat} {ws : List (Nat × Nat)} (h : NB w B g fs vs wv (nx R 17 : Nat) R ws) (hf : ∀ n, n < 17 → fs n = (fst R n : Nat)) : Book w w.heap.size g R ws :=
  ⟨w, B, fs, vs, wv, hf, h, rfl, Below.refl _ _⟩
theorem Book.below {w w' : World} {S g : Nat} {R : Nat → List Nat} {ws : List (Nat × Nat)} (h : Book w S g R ws) (hb : Below S w w') : Book w' S g R ws := by
  obtain ⟨w0, B, fs, vs, wv, h1, h2, h3, h4⟩ := h
  exact ⟨w0, B, fs, vs, wv, h1, h2, h3, h4.trans hb⟩
theorem Book.size {w : World} {S g : Nat} {R : Nat → List Nat} {ws : List (Nat × Nat)} (h : Book w S g R ws) : S ≤ w.heap.size := by
  obtain ⟨w0, B, fs, vs, wv, h1, h2, h3, h4⟩ := h
  rw [h3]; exact h4.size
theorem Book.mono {w w' : World} {S g : Nat} {R : Nat → List Nat} {ws : List (Nat × Nat)} (h : Book w S g R ws) (hb : Below w.heap.size w w') : Book w' S g R ws := h.below (hb.mono h.size)
theorem Book.nb {w : World} {S g : Nat} {R : Nat → List Nat} {ws : List (Nat × Nat)} (h : Book w S g R ws) : ∃ (B : Nat) (fs : Nat → Int) (vs : Nat → Value) (wv : Value), (∀ n, n < 17 → fs n = (fst R n : Nat)) ∧ NB w B g fs vs wv (nx R 17 : Nat) R ws := by
  obtain ⟨w0, B, fs, vs, wv, h1, h2, h3, h4⟩ := h
  exact ⟨B, fs, vs, wv, h1, h2.mono (by rw [← h3]; exact h4)⟩
end Bk
end Go.Proofs.YtjjbgdmalefdlaaGreatDoor
end

section
namespace Go.Proofs.YtjjbgdmalefdlaaGreatDoor
open Go.RowKit
namespace Bk
/-- The code and the length of whatever number. -/
def wAt (ws : List (Nat × Nat)) (s : Int) : Nat × Nat := if 0 ≤ s then ws.getD s.toNat (0, 0) else (0, 0)
theorem wvs_get (ws : List (Nat × Nat)) (i : Nat) (h : i < ws.length) : (wvs ws)[i * 2]? = some (.int .i64 ((ws.getD i (0, 0)).1 : Nat)) ∧ (wvs ws)[i * 2 + 1]? = some (.int .i64 ((ws.getD i (0, 0)).2 : Nat)) := by
  induction ws generalizing i with
  | nil => simp at h
  | cons p ws ih =>
    have e : wvs (p :: ws) = .int .i64 (p.1 : Nat) :: .int .i64 (p.2 : Nat) :: wvs ws := rfl
    cases i with
    | zero => rw [e]; exact ⟨rfl, rfl⟩
    | succ i =>
      rw [e, show (i + 1) * 2 = i * 2 + 2 by omega]
      have := ih i (by simpa using h)
      simpa [List.getD] using this
/-- What comes back of a cell of two numbers. -/
theorem res_word (fn : Func) (hf : fn.results = #[.cell 4 154]) (tmps : Array Value) (w : World) (g : Nat) (c n : Int) (fr : Nat × Nat) (hp : tmps.getD 4 undef = .pointer (some ⟨g, 0, none⟩)) (hg : w.heap[g]? = some (.cells #[.int .i64 c, .int .i64 n] 154 fr)) :
    (results fn tmps).run Tryz.prog w = .ok (.agg #[.int .i64 c, .int .i64 n]) w :=
  results_cell_row hf tmps w g _ _ fr _ hp hg Tryz.underlying154 rfl (by kernel_rfl)
theorem word_nil (w : World) (s : Int) : Calls Tryz.prog 108 #[.pointer none, .int .i64 s] w fun e w' => e = .returned (.agg #[.int .i64 0, .int .i64 0]) ∧ Below w.heap.size w w' := by
  go_enter Tryz.func108, Tryz.ntmps108
  go_wp2
  exact bodyPost_ret (res_word _ rfl _ _ _ 0 0 _ rfl (heap_alloc_last w _)) rfl ⟨rfl, below_alloc w _⟩
theorem word_any (w : World) (S g : Nat) (R : Nat → List Nat) (ws : List (Nat × Nat)) (h : Book w S g R ws) (hl : ws.length ≤ 1000000000) (s : Int) :
    Calls Tryz.prog 108 #[.pointer (some ⟨g, 0, none⟩), .int .i64 s] w fun e w' => e = .returned (.agg #[.int .i64 ((wAt ws s).1 : Nat), .int .i64 ((wAt ws s).2 : Nat)]) ∧ Below w.heap.size w w' := by
  obtain ⟨B, fs, vs, wv, hf, hn⟩ := h.nb
  have hcw := hn.cW
  obtain ⟨wa, wc, hwv⟩ : ∃ wa wc, wv = .slice wa ws.length wc := by
    rcases own_nil_or hn.words with ⟨h1, h2⟩ | ⟨wb, wc, h1, _⟩
    · exact ⟨none, 0, by rw [h1, h2]⟩
    · exact ⟨_, wc, h1⟩
  subst hwv
  by_cases hneg : s < 0
  · have d1 : decide (s < 0) = true := by simpa using hneg
    have e : wAt ws s = (0, 0) := by unfold wAt; rw [if_neg (by omega)]
    rw [e]
    clear hneg e hn h
    go_enter Tryz.func108, Tryz.ntmps108
    go_wp2
    exact bodyPost_ret (res_word _ rfl _ _ _ 0 0 _ rfl (heap_alloc_last w _)) rfl ⟨rfl, below_alloc w _⟩
  · obtain ⟨i, rfl⟩ := Int.eq_ofNat_of_zero_le (show 0 ≤ s by omega)
    have d0 : decide ((i : Int) < 0) = false := by simp
    have hcw2 : (w.alloc (.cells #[.int .i64 0, .int .i64 0] 154)).cell? ⟨g, 34, none⟩ = some (.slice wa ws.length wc) := by rw [(below_alloc w _).cell (p := ⟨g, 34, none⟩) hn.lt]; exact hcw
    by_cases hi : ws.length ≤ i
    · have d1 : decide (ws.length ≤ i) = true := by simpa using hi
      have e : wAt ws (i : Int) = (0, 0) := by
        unfold wAt
        rw [if_pos (by omega), Int.toNat_natCast, List.getD, List.getElem?_eq_none hi]; rfl
      rw [e]
      clear hneg e hn h hi
      go_enter Tryz.func108, Tryz.ntmps108
      go_wp2
      exact bodyPost_ret (res_word _ rfl _ _ _ 0 0 _ rfl (heap_alloc_last w _)) rfl ⟨rfl, below_alloc w _⟩
    · have d1 : decide (ws.length ≤ i) = false := by simpa using hi
      have e : wAt ws (i : Int) = ws.getD i (0, 0) := by unfold wAt; rw [if_pos (by omega), Int.toNat_natCast]
      rw [e]
      obtain ⟨wb, rfl⟩ : ∃ wb, wa = some ⟨wb, 0, none⟩ := by
        rcases own_nil_or hn.words with ⟨_, h2⟩ | ⟨wb, wc', h1, _⟩
        · omega
        · simp only [Value.slice.injEq] at h1; exact ⟨wb, h1.1⟩
      obtain ⟨g1, g2⟩ := wvs_get ws i (by omega)
      have hwc := hn.words.cells rfl
      have e0 : w.cell? ⟨wb, i * 2, none⟩ = some (.int .i64 ((ws.getD i (0, 0)).1 : Nat)) := by have := hwc _ _ g1; rwa [Addr.add_mid, Nat.zero_add] at this
      have e1 : w.cell? ⟨wb, i * 2 + 1, none⟩ = some (.int .i64 ((ws.getD i (0, 0)).2 : Nat)) := by have := hwc _ _ g2; rwa [Addr.add_mid, Nat.zero_add] at this
      have hlt := (hn.words.lt wb rfl).2
      have b0 : (w.alloc (.cells #[.int .i64 0, .int .i64 0] 154)).cell? ⟨wb, i * 2, none⟩ = some (.int .i64 ((ws.getD i (0, 0)).1 : Nat)) := by rw [(below_alloc w _).cell (p := ⟨wb, i * 2, none⟩) hlt]; exact e0
      have b1 : (w.alloc (.cells #[.int .i64 0, .int .i64 0] 154)).cell? ⟨wb, i * 2 + 1, none⟩ = some (.int .i64 ((ws.getD i (0, 0)).2 : Nat)) := by rw [(below_alloc w _).cell (p := ⟨wb, i * 2 + 1, none⟩) hlt]; exact e1
      clear hneg e hn h hwc g1 g2 hlt
      generalize (ws.getD i (0, 0)).1 = c at *
      generalize (ws.getD i (0, 0)).2 = n at *
      go_enter Tryz.func108, Tryz.ntmps108
      go_wp2
      exact bodyPost_ret (res_word _ rfl _ _ _ c n _ rfl (heap_alloc_last w _)) rfl ⟨rfl, below_alloc w _⟩
end Bk
end Go.Proofs.YtjjbgdmalefdlaaGreatDoor
end

section
namespace Go.Proofs.YtjjbgdmalefdlaaGreatDoor
open Go.RowKit

namespace Bk
def rowsL (l : List Int) : Nat → List Nat := rowsOf l (List.range l.length)
theorem rowsL_succ (l : List Int) (n : Nat) : rowsL l (n + 1) = Cn.row l n l.length := by
  unfold rowsL rowsOf Cn.row
  rw [if_neg (by omega)]
theorem rowsL_zero (l : List Int) : rowsL l 0 = [] := rfl
theorem range_flat {α : Type} (f : Nat → List α) (h : f 0 = []) (m : Nat) : (List.range (m + 1)).flatMap f = (List.range m).flatMap fun n => f (n + 1) := by
  rw [List.range_succ_eq_map, List.flatMap_cons, h, List.nil_append, List.flatMap_map]
theorem sizR_of (l : List Int) : sizR (rowsL l) 17 = Cn.sizes l := by
  unfold sizR Cn.sizes Cn.sizN
  rw [range_flat _ (by rw [rowsL_zero]; rfl)]
  congr 1
  funext n
  rw [rowsL_succ, List.map_const']
theorem good_of (l : List Int) (h : Cn.freeB l = true) : Good (rowsL l) := by
  refine ⟨rfl, ?_⟩
  have h1 := (tog_seq (rowsL l) rfl 17 (Nat.le_refl _)).2
  rw [sizR_of] at h1
  simp only [Cn.freeB, Bool.and_eq_true, decide_eq_true_eq] at h
  rw [← h1, Cn.sum_sizes l h.1]
  exact h.2
theorem syms_of (l : List Int) : Cn.syms l = (seq (rowsL l) 17).map fun x => (x.s : Int) := by
  unfold Cn.syms Cn.symN seq
  have e := range_flat (fun n => (rowS (rowsL l) n (rowsL l n).length).map fun (x : It) => (x.s : Int)) (by rw [rowsL_zero]; rfl) 16
  rw [List.map_flatMap, e]
  congr 1
  funext n
  rw [rowsL_succ]
  unfold rowS it
  rw [List.map_map]
  apply List.ext_getElem
  · simp
  · intro i h1 h2
    simp only [List.getElem_map, List.getElem_range, Function.comp, rowsL_succ]
    rw [List.length_map] at h1
    simp [List.getD, List.getElem?_eq_getElem h1]
theorem codes_of (l : List Int) (h : Cn.freeB l = true) : Cn.codes (Cn.sizes l) = (seq (rowsL l) 17).map It.bits := by rw [← sizR_of]; exact codes_seq _ (good_of l h)
theorem seq_len (l : List Int) (x : It) (hx : x ∈ seq (rowsL l) 17) : x.s < l.length ∧ l.getD x.s 0 = (x.n : Int) ∧ 0 < x.n := by
  obtain ⟨m, i, _, hi, rfl⟩ := (mem_seq _ _ _).1 hx
  have : (rowsL l m).getD i 0 ∈ rowsL l m := by simp [List.getD, List.getElem?_eq_getElem hi]
  obtain ⟨h1, h2, h3⟩ := rowsOf_mem l _ m _ this
  exact ⟨List.mem_range.1 h1, h2, h3⟩
theorem seq_has (l : List Int) (s : Nat) (hs : s < l.length) (h : 0 < l.getD s 0 ∧ l.getD s 0 ≤ 16) : ∃ x ∈ seq (rowsL l) 17, x.s = s := by
  obtain ⟨n, hn⟩ := Int.eq_ofNat_of_zero_le (show 0 ≤ l.getD s 0 by omega)
  have hm : s ∈ rowsL l n := by
    unfold rowsL rowsOf
    rw [if_neg (by omega), List.mem_filter]
    exact ⟨List.mem_range.2 hs, by rw [hn]; simp⟩
  obtain ⟨i, hi, e⟩ := List.getElem_of_mem hm
  exact ⟨it (rowsL l) n i, (mem_seq _ _ _).2 ⟨n, i, by omega, hi, rfl⟩, by simp [it, List.getD, List.getElem?_eq_getElem hi, e]⟩
theorem look_none (l : List Int) (s : Nat) (h : l.getD s 0 = 0 ∨ l.length ≤ s) : look (seq (rowsL l) 17) s = (0, 0) := by
  rcases look_mem (seq (rowsL l) 17) s with ⟨h1, _⟩ | ⟨x, hx, h1, _⟩
  · exact h1
  · obtain ⟨h2, h3, h4⟩ := seq_len l x hx
    rw [h1] at h2 h3
    rcases h with h | h <;> omega
theorem look_some (l : List Int) (s : Nat) (hs : s < l.length) (h : 0 < l.getD s 0 ∧ l.getD s 0 ≤ 16) : ∃ m i, m < 17 ∧ i < (rowsL l m).length ∧ (rowsL l m).getD i 0 = s ∧ l.getD s 0 = (m : Int) ∧ look (seq (rowsL l) 17) s = (fst (rowsL l) m + i, m) := by
  rcases look_mem (seq (rowsL l) 17) s with ⟨_, h2⟩ | ⟨x, hx, h1, h2⟩
  · obtain ⟨x, hx, h3⟩ := seq_has l s hs h
    exact absurd h3 (h2 x hx)
  · obtain ⟨_, h4, _⟩ := seq_len l x hx
    obtain ⟨m, i, hm, hi, rfl⟩ := (mem_seq _ _ _).1 hx
    refine ⟨m, i, hm, hi, h1, ?_, h2⟩
    rw [← h1]; exact h4
end Bk
end Go.Proofs.YtjjbgdmalefdlaaGreatDoor
end
