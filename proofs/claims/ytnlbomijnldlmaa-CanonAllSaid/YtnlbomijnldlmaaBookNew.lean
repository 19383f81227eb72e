/- A book that is being made. -/
import Derived.Test.YtnlbomijnldlmaaBookMem
import Derived.Test.YtnlbomijnldlmaaAppend3
import Derived.Test.YtnlbomijnldlmaaWalkIn
namespace Go.Proofs.Ytnlbomijnldlmaa
open Go.RowKit

namespace Bk
def upd {α : Type} (f : Nat → α) (n : Nat) (x : α) : Nat → α := fun m => if m = n then x else f m
theorem upd_same {α : Type} (f : Nat → α) (n : Nat) (x : α) : upd f n x n = x := by simp [upd]
theorem upd_other {α : Type} (f : Nat → α) (n m : Nat) (x : α) (h : m ≠ n) : upd f n x m = f m := by simp [upd, h]
/-- The rows of symbols, by their lengths, in an order. -/
def rowsOf (l : List Int) (ord : List Nat) (n : Nat) : List Nat := if n = 0 then [] else ord.filter fun s => l.getD s 0 == (n : Int)
theorem rowsOf_snoc_no (l : List Int) (ord : List Nat) (s : Nat) (h : l.getD s 0 = 0) : rowsOf l (ord ++ [s]) = rowsOf l ord := by
  funext n
  unfold rowsOf
  by_cases hn : n = 0
  · simp [hn]
  · rw [if_neg hn, if_neg hn, List.filter_append, List.filter_cons_of_neg (by rw [h]; simp; omega)]; simp
theorem rowsOf_snoc (l : List Int) (ord : List Nat) (s n : Nat) (hn : 0 < n) (h : l.getD s 0 = (n : Int)) : rowsOf l (ord ++ [s]) = upd (rowsOf l ord) n (rowsOf l ord n ++ [s]) := by
  funext m
  unfold upd
  by_cases hm : m = n
  · subst hm
    rw [if_pos rfl]
    unfold rowsOf
    rw [if_neg (by omega), if_neg (by omega), List.filter_append, List.filter_cons_of_pos (by rw [h]; simp)]; rfl
  · rw [if_neg hm]
    unfold rowsOf
    by_cases h0 : m = 0
    · simp [h0]
    · rw [if_neg h0, if_neg h0, List.filter_append, List.filter_cons_of_neg (by rw [h]; simp; omega)]; simp
theorem rowsOf_mem (l : List Int) (ord : List Nat) (n s : Nat) (h : s ∈ rowsOf l ord n) : s ∈ ord ∧ l.getD s 0 = (n : Int) ∧ 0 < n := by
  unfold rowsOf at h
  by_cases hn : n = 0
  · simp [hn] at h
  · rw [if_neg hn, List.mem_filter] at h
    exact ⟨h.1, eq_of_beq h.2, by omega⟩
theorem rowsOf_le (l : List Int) (ord : List Nat) (n : Nat) : (rowsOf l ord n).length ≤ ord.length := by
  unfold rowsOf
  split
  · simp
  · exact List.length_filter_le _ _
theorem bk_get (fs : Nat → Int) (vs : Nat → Value) (wv : Value) (e : Int) :
    (∀ n, n < 17 → (bkCells fs vs wv e)[2 * n]? = some (.int .i64 (fs n)) ∧ (bkCells fs vs wv e)[2 * n + 1]? = some (vs n)) ∧ (bkCells fs vs wv e)[34]? = some wv ∧ (bkCells fs vs wv e)[35]? = some (.int .i64 e) := by
  refine ⟨fun n hn => ⟨sqs_front fs vs wv e _ _ (sqs_get fs vs 17 n hn).1, sqs_front fs vs wv e _ _ (sqs_get fs vs 17 n hn).2⟩, ?_, ?_⟩
  · show ((sqs fs vs 17 ++ [wv, .int .i64 e]).toArray)[34]? = _
    rw [List.getElem?_toArray, List.getElem?_append_right (by rw [sqs_length]; omega), sqs_length]; rfl
  · show ((sqs fs vs 17 ++ [wv, .int .i64 e]).toArray)[35]? = _
    rw [List.getElem?_toArray, List.getElem?_append_right (by rw [sqs_length]; omega), sqs_length]; rfl
theorem bk_size (fs : Nat → Int) (vs : Nat → Value) (wv : Value) (e : Int) : (bkCells fs vs wv e).size = 36 := by
  show ((sqs fs vs 17 ++ [wv, .int .i64 e]).toArray).size = 36
  rw [List.size_toArray, List.length_append, sqs_length]; rfl
theorem bk_ext (A B : Array Value) (hA : A.size = 36) (hB : B.size = 36) (h : ∀ n, n < 17 → A[2 * n]? = B[2 * n]? ∧ A[2 * n + 1]? = B[2 * n + 1]?) (h4 : A[34]? = B[34]?) (h5 : A[35]? = B[35]?) : A = B := by
  apply Array.ext_getElem?
  intro i
  by_cases hi : i < 34
  · have := h (i / 2) (by omega)
    rcases Nat.mod_two_eq_zero_or_one i with e | e
    · rw [show i = 2 * (i / 2) by omega]; exact this.1
    · rw [show i = 2 * (i / 2) + 1 by omega]; exact this.2
  · by_cases h34 : i = 34
    · subst h34; exact h4
    · by_cases h35 : i = 35
      · subst h35; exact h5
      · rw [Array.getElem?_eq_none (by omega), Array.getElem?_eq_none (by omega)]
theorem bk_setV (fs : Nat → Int) (vs : Nat → Value) (wv : Value) (e : Int) (n : Nat) (hn : n < 17) (v : Value) : (bkCells fs vs wv e).setIfInBounds (2 * n + 1) v = bkCells fs (upd vs n v) wv e := by
  obtain ⟨h1, h2, h3⟩ := bk_get fs vs wv e
  obtain ⟨k1, k2, k3⟩ := bk_get fs (upd vs n v) wv e
  have hs := bk_size fs vs wv e
  refine bk_ext _ _ (by rw [Array.size_setIfInBounds]; exact hs) (bk_size _ _ _ _) (fun m hm => ⟨?_, ?_⟩) ?_ ?_
  · rw [Array.getElem?_setIfInBounds, if_neg (by omega), (h1 m hm).1, (k1 m hm).1]
  · rw [Array.getElem?_setIfInBounds, (k1 m hm).2]
    by_cases hmn : n = m
    · subst hmn; rw [if_pos rfl, if_pos (by omega), upd_same]
    · rw [if_neg (by omega), (h1 m hm).2, upd_other _ _ _ _ (by omega)]
  · rw [Array.getElem?_setIfInBounds, if_neg (by omega), h2, k2]
  · rw [Array.getElem?_setIfInBounds, if_neg (by omega), h3, k3]
theorem bk_setF (fs : Nat → Int) (vs : Nat → Value) (wv : Value) (e : Int) (n : Nat) (hn : n < 17) (z : Int) : (bkCells fs vs wv e).setIfInBounds (2 * n) (.int .i64 z) = bkCells (upd fs n z) vs wv e := by
  obtain ⟨h1, h2, h3⟩ := bk_get fs vs wv e
  obtain ⟨k1, k2, k3⟩ := bk_get (upd fs n z) vs wv e
  have hs := bk_size fs vs wv e
  refine bk_ext _ _ (by rw [Array.size_setIfInBounds]; exact hs) (bk_size _ _ _ _) (fun m hm => ⟨?_, ?_⟩) ?_ ?_
  · rw [Array.getElem?_setIfInBounds, (k1 m hm).1]
    by_cases hmn : n = m
    · subst hmn; rw [if_pos rfl, if_pos (by omega), upd_same]
    · rw [if_neg (by omega), (h1 m hm).1, upd_other _ _ _ _ (by omega)]
  · rw [Array.getElem?_setIfInBounds, if_neg (by omega), (h1 m hm).2, (k1 m hm).2]
  · rw [Array.getElem?_setIfInBounds, if_neg (by omega), h2, k2]
  · rw [Array.getElem?_setIfInBounds, if_neg (by omega), h3, k3]
theorem bk_setE (fs : Nat → Int) (vs : Nat → Value) (wv : Value) (e z : Int) : (bkCells fs vs wv e).setIfInBounds 35 (.int .i64 z) = bkCells fs vs wv z := by
  obtain ⟨h1, h2, h3⟩ := bk_get fs vs wv e
  obtain ⟨k1, k2, k3⟩ := bk_get fs vs wv z
  have hs := bk_size fs vs wv e
  refine bk_ext _ _ (by rw [Array.size_setIfInBounds]; exact hs) (bk_size _ _ _ _) (fun m hm => ⟨?_, ?_⟩) ?_ ?_
  · rw [Array.getElem?_setIfInBounds, if_neg (by omega), (h1 m hm).1, (k1 m hm).1]
  · rw [Array.getElem?_setIfInBounds, if_neg (by omega), (h1 m hm).2, (k1 m hm).2]
  · rw [Array.getElem?_setIfInBounds, if_neg (by omega), h2, k2]
  · rw [Array.getElem?_setIfInBounds, if_pos rfl, if_pos (by omega), k3]

/-- Codes and their lengths as cells. -/
def wvs (ws : List (Nat × Nat)) : List Value := ws.flatMap fun p => [.int .i64 (p.1 : Nat), .int .i64 (p.2 : Nat)]
theorem wvs_length (ws : List (Nat × Nat)) : (wvs ws).length = ws.length * 2 := by
  induction ws with
  | nil => rfl
  | cons p ws ih => simp only [wvs, List.flatMap_cons, List.length_append, List.length_cons, List.length_nil] at *; omega
theorem made_words (n : Nat) : (madeCells #[.int .i64 0, .int .i64 0] (n * 2)).toList = wvs (List.replicate n (0, 0)) := by
  rw [made_all _ _ (.int .i64 0) (by simp) (fun i hi => by
    match i, hi with
    | 0, _ => rfl
    | 1, _ => rfl)]
  symm
  rw [List.eq_replicate_iff]
  refine ⟨by rw [wvs_length, List.length_replicate], fun b hb => ?_⟩
  simp only [wvs, List.mem_flatMap, List.mem_replicate] at hb
  obtain ⟨p, ⟨_, rfl⟩, hb⟩ := hb
  simpa using hb
theorem made_ints (n : Nat) : (madeCells #[.int .i64 0] (n * 1)).toList = ivs (List.replicate n 0) := by
  rw [made_all _ _ (.int .i64 0) (by simp) (fun i hi => by
    match i, hi with
    | 0, _ => rfl), Nat.mul_one]
  simp [ivs]
/-- A book: its box's block is g; all its blocks are apart, and lie at or above B. -/
structure NB (w : World) (B g : Nat) (fs : Nat → Int) (vs : Nat → Value) (wv : Value) (e : Int) (R : Nat → List Nat) (ws : List (Nat × Nat)) : Prop where
  blk : w.heap[g]? = some (.cells (bkCells fs vs wv e) 105 (0, 0))
  rows : Rows w B vs R
  words : w.ownsRow B 81 2 wv ws.length (wvs ws)
  hg : B ≤ g
  dj : ∀ n m, n < 17 → m < 17 → n ≠ m → ∀ k, (vs n).ownBlock = some k → (vs m).ownBlock ≠ some k
  ne : ∀ n, n < 17 → (vs n).ownBlock ≠ some g
  wne : wv.ownBlock ≠ some g
  wdj : ∀ n, n < 17 → ∀ k, (vs n).ownBlock = some k → wv.ownBlock ≠ some k
theorem NB.lt {w : World} {B g : Nat} {fs : Nat → Int} {vs : Nat → Value} {wv : Value} {e : Int} {R : Nat → List Nat} {ws : List (Nat × Nat)} (h : NB w B g fs vs wv e R ws) : g < w.heap.size := (Array.getElem?_eq_some_iff.1 h.blk).1
theorem NB.kept {w w' : World} {T : Nat → Prop} {B g : Nat} {fs : Nat → Int} {vs : Nat → Value} {wv : Value} {e : Int} {R : Nat → List Nat} {ws : List (Nat × Nat)} (h : NB w B g fs vs wv e R ws) (c : Ch w w' T) (h1 : ¬ T g) (h2 : ∀ k, wv.ownBlock = some k → ¬ T k) (h3 : ∀ k, Tr vs k → ¬ T k) : NB w' B g fs vs wv e R ws :=
  ⟨by rw [c.block g h.lt h1]; exact h.blk, fun n hn => c.own (h.rows n hn) (fun k hk => h3 k ⟨n, hn, hk⟩), c.own h.words h2, h.hg, h.dj, h.ne, h.wne, h.wdj⟩
theorem NB.mono {w w' : World} {B g : Nat} {fs : Nat → Int} {vs : Nat → Value} {wv : Value} {e : Int} {R : Nat → List Nat} {ws : List (Nat × Nat)} (h : NB w B g fs vs wv e R ws) (hb : Below w.heap.size w w') : NB w' B g fs vs wv e R ws :=
  h.kept (Ch.of_below (T := fun _ => False) hb) (fun h => h) (fun _ _ h => h) (fun _ _ h => h)
theorem NB.base {w : World} {B B' g : Nat} {fs : Nat → Int} {vs : Nat → Value} {wv : Value} {e : Int} {R : Nat → List Nat} {ws : List (Nat × Nat)} (h : NB w B g fs vs wv e R ws) (hB : B' ≤ B) : NB w B' g fs vs wv e R ws :=
  ⟨h.blk, fun n hn => own_base (h.rows n hn) (fun k hk => Nat.le_trans hB ((h.rows n hn).lt k hk).1), own_base h.words (fun k hk => Nat.le_trans hB (h.words.lt k hk).1), Nat.le_trans hB h.hg, h.dj, h.ne, h.wne, h.wdj⟩
theorem NB.cV {w : World} {B g : Nat} {fs : Nat → Int} {vs : Nat → Value} {wv : Value} {e : Int} {R : Nat → List Nat} {ws : List (Nat × Nat)} (h : NB w B g fs vs wv e R ws) (n : Nat) (hn : n < 17) : w.cell? ⟨g, 2 * n + 1, none⟩ = some (vs n) := by
  rw [cell_of_row _ _ _ _ _ (0, 0) h.blk]; exact ((bk_get fs vs wv e).1 n hn).2
theorem NB.cF {w : World} {B g : Nat} {fs : Nat → Int} {vs : Nat → Value} {wv : Value} {e : Int} {R : Nat → List Nat} {ws : List (Nat × Nat)} (h : NB w B g fs vs wv e R ws) (n : Nat) (hn : n < 17) : w.cell? ⟨g, 2 * n, none⟩ = some (.int .i64 (fs n)) := by
  rw [cell_of_row _ _ _ _ _ (0, 0) h.blk]; exact ((bk_get fs vs wv e).1 n hn).1
theorem NB.cW {w : World} {B g : Nat} {fs : Nat → Int} {vs : Nat → Value} {wv : Value} {e : Int} {R : Nat → List Nat} {ws : List (Nat × Nat)} (h : NB w B g fs vs wv e R ws) : w.cell? ⟨g, 34, none⟩ = some wv := by
  rw [cell_of_row _ _ _ _ _ (0, 0) h.blk]; exact (bk_get fs vs wv e).2.1
theorem NB.cE {w : World} {B g : Nat} {fs : Nat → Int} {vs : Nat → Value} {wv : Value} {e : Int} {R : Nat → List Nat} {ws : List (Nat × Nat)} (h : NB w B g fs vs wv e R ws) : w.cell? ⟨g, 35, none⟩ = some (.int .i64 e) := by
  rw [cell_of_row _ _ _ _ _ (0, 0) h.blk]; exact (bk_get fs vs wv e).2.2
theorem NB.fr {w : World} {B g : Nat} {fs : Nat → Int} {vs : Nat → Value} {wv : Value} {e : Int} {R : Nat → List Nat} {ws : List (Nat × Nat)} (h : NB w B g fs vs wv e R ws) (o : Nat) : w.frozen? ⟨g, o, none⟩ = false := frozen_of_row w g o _ _ h.blk
theorem ch_set (w : World) (g o : Nat) (v : Value) : Ch w (w.setCell ⟨g, o, none⟩ v) (fun k => k = g) := (Ch.refl w (fun k => k = g)).set (.inl rfl) _
theorem NB.setF {w : World} {B g : Nat} {fs : Nat → Int} {vs : Nat → Value} {wv : Value} {e : Int} {R : Nat → List Nat} {ws : List (Nat × Nat)} (h : NB w B g fs vs wv e R ws) (n : Nat) (hn : n < 17) (z : Int) : NB (w.setCell ⟨g, 2 * n, none⟩ (.int .i64 z)) B g (upd fs n z) vs wv e R ws := by
  have c := ch_set w g (2 * n) (.int .i64 z)
  refine ⟨?_, fun m hm => c.own (h.rows m hm) (fun k hk e => h.ne m hm (e ▸ hk)), c.own h.words (fun k hk e => h.wne (e ▸ hk)), h.hg, h.dj, h.ne, h.wne, h.wdj⟩
  rw [heap_setCell_same w g _ _ _ _ h.blk, bk_setF _ _ _ _ _ hn]
theorem NB.setE {w : World} {B g : Nat} {fs : Nat → Int} {vs : Nat → Value} {wv : Value} {e : Int} {R : Nat → List Nat} {ws : List (Nat × Nat)} (h : NB w B g fs vs wv e R ws) (z : Int) : NB (w.setCell ⟨g, 35, none⟩ (.int .i64 z)) B g fs vs wv z R ws := by
  have c := ch_set w g 35 (.int .i64 z)
  refine ⟨?_, fun m hm => c.own (h.rows m hm) (fun k hk e => h.ne m hm (e ▸ hk)), c.own h.words (fun k hk e => h.wne (e ▸ hk)), h.hg, h.dj, h.ne, h.wne, h.wdj⟩
  rw [heap_setCell_same w g _ _ _ _ h.blk, bk_setE]
/-- A symbol more in row n. -/
theorem NB.push {w w' : World} {B g : Nat} {fs : Nat → Int} {vs : Nat → Value} {wv : Value} {e : Int} {R : Nat → List Nat} {ws : List (Nat × Nat)} (h : NB w B g fs vs wv e R ws) (n : Nat) (hn : n < 17) (s : Nat) (v' : Value)
    (own : w'.ownsRow B 3 1 v' ((R n).length + 1) (ivs (sy (R n ++ [s])))) (c : Ch w w' (fun k => (vs n).ownBlock = some k)) (f : ∀ k, v'.ownBlock = some k → (vs n).ownBlock = some k ∨ w.heap.size ≤ k) :
    NB (w'.setCell ⟨g, 2 * n + 1, none⟩ v') B g fs (upd vs n v') wv e (upd R n (R n ++ [s])) ws := by
  have c2 := ch_set w' g (2 * n + 1) v'
  have hb : w'.heap[g]? = some (.cells (bkCells fs vs wv e) 105 (0, 0)) := by rw [c.block g h.lt (h.ne n hn)]; exact h.blk
  have hvg : v'.ownBlock ≠ some g := fun e => (f g e).elim (h.ne n hn) (fun e => by have := h.lt; omega)
  refine ⟨?_, fun m hm => ?_, c2.own (c.own h.words (fun k hk e => h.wdj n hn k e hk)) (fun k hk e => h.wne (e ▸ hk)), h.hg, fun a b ha hb' hab k hk => ?_, fun a ha => ?_, h.wne, fun a ha k hk => ?_⟩
  · rw [heap_setCell_same w' g _ _ _ _ hb, bk_setV _ _ _ _ _ hn]
  · by_cases hmn : m = n
    · subst hmn
      rw [upd_same, upd_same]
      have := c2.own own (fun k hk e => hvg (e ▸ hk))
      rw [List.length_append]; exact this
    · rw [upd_other _ _ _ _ hmn, upd_other _ _ _ _ hmn]
      exact c2.own (c.own (h.rows m hm) (fun k hk e => h.dj m n hm hn hmn k hk e)) (fun k hk e => h.ne m hm (e ▸ hk))
  · by_cases han : a = n
    · subst han
      rw [upd_same] at hk
      rw [upd_other _ _ _ _ (Ne.symm hab)]
      intro he
      rcases f k hk with h1 | h1
      · exact h.dj a b ha hb' hab k h1 he
      · have := ((h.rows b hb').lt k he).2; omega
    · rw [upd_other _ _ _ _ han] at hk
      by_cases hbn : b = n
      · subst hbn
        rw [upd_same]
        intro he
        rcases f k he with h1 | h1
        · exact h.dj a b ha hb' hab k hk h1
        · have := ((h.rows a ha).lt k hk).2; omega
      · rw [upd_other _ _ _ _ hbn]; exact h.dj a b ha hb' hab k hk
  · by_cases han : a = n
    · subst han; rw [upd_same]; exact hvg
    · rw [upd_other _ _ _ _ han]; exact h.ne a ha
  · by_cases han : a = n
    · subst han
      rw [upd_same] at hk
      rcases f k hk with h1 | h1
      · exact h.wdj a ha k h1
      · intro he
        have := (h.words.lt k he).2; omega
    · rw [upd_other _ _ _ _ han] at hk; exact h.wdj a ha k hk
end Bk
end Go.Proofs.Ytnlbomijnldlmaa
