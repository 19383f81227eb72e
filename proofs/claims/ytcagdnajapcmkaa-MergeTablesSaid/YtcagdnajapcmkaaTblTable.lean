/- A JPEG's best table: its mathematics, what it lays in memory, and merge.Table's contract. -/
import Derived.Test.YtcagdnajapcmkaaLenFacts
import Derived.Test.YtcagdnajapcmkaaDpStep
import Derived.Test.YtcagdnajapcmkaaRef04f
import Derived.Test.YtcagdnajapcmkaaFront
import Derived.Test.YtcagdnajapcmkaaLeastMem
import Derived.Test.YtcagdnajapcmkaaBackInts
import Derived.Test.YtcagdnajapcmkaaAppend3
import Derived.Test.YtcagdnajapcmkaaNumInts
import Derived.Test.YtcagdnajapcmkaaMade
import Derived.Lib.AppendZeros
import Derived.Test.YtcagdnajapcmkaaCanonVal
import Derived.Test.YtcagdnajapcmkaaLeastAll
import Derived.Test.YtcagdnajapcmkaaRarest
import Derived.Test.YtcagdnajapcmkaaMergeSmall
import Derived.Laws.ResultCell

/- A JPEG's table: with one symbol more that costs nothing. -/
section
namespace Go.Proofs.Ytcagdnajapcmkaa
namespace Cn
/-- How often a length stands. -/
def occ (xs : List Int) (n : Nat) : Int := (xs.filter fun x => decide (x = ((n + 1 : Nat) : Int))).length
theorem filter_next (xs : List Int) (h : xs.Pairwise (· ≤ ·)) (m : Nat) : xs.filter (fun x => decide (x ≤ ((m + 1 : Nat) : Int))) = xs.filter (fun x => decide (x ≤ (m : Int))) ++ List.replicate (occ xs m).toNat ((m + 1 : Nat) : Int) := by
  unfold occ
  rw [Int.toNat_natCast]
  induction xs with
  | nil => rfl
  | cons x xs ih =>
    have hp := List.pairwise_cons.1 h
    have hi := ih hp.2
    rcases Int.lt_trichotomy x ((m + 1 : Nat) : Int) with h1 | h1 | h1
    · rw [List.filter_cons, if_pos (decide_eq_true (by omega)), List.filter_cons, if_pos (decide_eq_true (by omega)), List.filter_cons, if_neg (by simp; omega), hi]; rfl
    · have h0 : xs.filter (fun x => decide (x ≤ (m : Int))) = [] := by
        rw [List.filter_eq_nil_iff]
        intro y hy
        have := hp.1 y hy
        simp; omega
      rw [h0, List.nil_append] at hi
      rw [List.filter_cons, if_pos (decide_eq_true (by omega)), List.filter_cons, if_neg (by simp; omega), List.filter_cons, if_pos (decide_eq_true h1), hi, h0, List.nil_append, List.length_cons, List.replicate_succ, h1]
    · have h0 : ∀ y ∈ xs, ((m + 1 : Nat) : Int) < y := fun y hy => by have := hp.1 y hy; omega
      have e1 : xs.filter (fun x => decide (x ≤ ((m + 1 : Nat) : Int))) = [] := by
        rw [List.filter_eq_nil_iff]; intro y hy; have := h0 y hy; simp; omega
      have e2 : xs.filter (fun x => decide (x ≤ (m : Int))) = [] := by
        rw [List.filter_eq_nil_iff]; intro y hy; have := h0 y hy; simp; omega
      have e3 : xs.filter (fun x => decide (x = ((m + 1 : Nat) : Int))) = [] := by
        rw [List.filter_eq_nil_iff]; intro y hy; have := h0 y hy; simp; omega
      rw [List.filter_cons, if_neg (by simp; omega), List.filter_cons, if_neg (by simp; omega), List.filter_cons, if_neg (by simp; omega), e1, e2, e3]; rfl
theorem cnt_filter (xs : List Int) (h : xs.Pairwise (· ≤ ·)) (h1 : ∀ x ∈ xs, 1 ≤ x) : ∀ m, cnt (occ xs) m = xs.filter (fun x => decide (x ≤ (m : Int)))
  | 0 => by
    have : xs.filter (fun x => decide (x ≤ ((0 : Nat) : Int))) = [] := by
      rw [List.filter_eq_nil_iff]; intro y hy; have := h1 y hy; simp; omega
    rw [this]; rfl
  | m + 1 => by rw [cnt_succ, cnt_filter xs h h1 m, filter_next xs h m]
theorem cnt_all (xs : List Int) (h : xs.Pairwise (· ≤ ·)) (h1 : ∀ x ∈ xs, 1 ≤ x ∧ x ≤ 16) : cnt (occ xs) 16 = xs := by
  rw [cnt_filter xs h (fun x hx => (h1 x hx).1), List.filter_eq_self]
  intro x hx
  have := h1 x hx
  simp; omega
theorem occ_reverse (xs : List Int) : occ xs.reverse = occ xs := by
  funext n
  unfold occ
  rw [List.filter_reverse, List.length_reverse]
theorem occ_le (xs : List Int) (n : Nat) : 0 ≤ occ xs n ∧ occ xs n ≤ xs.length := by
  unfold occ
  have := List.length_filter_le (fun x : Int => decide (x = ((n + 1 : Nat) : Int))) xs
  omega
theorem sum_reverse (xs : List Int) : sum xs.reverse = sum xs := by
  unfold sum
  rw [List.map_reverse]
  exact (List.reverse_perm _).sum_nat
end Cn
namespace Mg
theorem S_head (f : Nat → Nat) : ∀ n, S f (n + 1) = f 0 + S (fun i => f (i + 1)) n
  | 0 => by simp [S]
  | n + 1 => by rw [S, S_head f n, S]; omega
theorem SI_head (f : Nat → Int) : ∀ n, SI f (n + 1) = f 0 + SI (fun i => f (i + 1)) n
  | 0 => by simp [SI]
  | n + 1 => by rw [SI, SI_head f n, SI]; omega
/-- The lengths without the one more. -/
def tl (l : List Int) : List Int := (lens (0 :: rise l) 16).tail
theorem tl_length (l : List Int) : (tl l).length = used l := by unfold tl; rw [List.length_tail, lens_length, List.length_cons, rise_length]; omega
theorem tl_get (l : List Int) (i : Nat) (hi : i < used l) : (tl l).getD i 0 = (lens (0 :: rise l) 16).getD (i + 1) 0 := by
  unfold tl
  cases h : lens (0 :: rise l) 16 with
  | nil => simp
  | cons x xs => simp
theorem zrise_up (l : List Int) : Up (0 :: rise l) := by
  unfold Up
  exact List.pairwise_cons.2 ⟨fun x hx => rise_Pos l x hx, rise_up l⟩
theorem zrise_Pos (l : List Int) : Pos (0 :: rise l) := fun x hx => by
  rcases List.mem_cons.1 hx with rfl | h
  · omega
  · exact rise_Pos l x h
theorem tl_range (l : List Int) (hu : used l ≤ 256) (i : Nat) (hi : i < used l) : 1 ≤ (tl l).getD i 0 ∧ (tl l).getD i 0 ≤ 16 := by
  rw [tl_get l i hi]
  have hlen : (0 :: rise l).length = used l + 1 := by rw [List.length_cons, rise_length]
  have := lens_range (L := 16) (zrise_up l) (zrise_Pos l) (by omega) (by rw [hlen]; omega) (i + 1) (by rw [hlen]; omega)
  omega
theorem tl_mem (l : List Int) (hu : used l ≤ 256) : ∀ x ∈ tl l, 1 ≤ x ∧ x ≤ 16 := fun x hx => by
  obtain ⟨i, hi, rfl⟩ := List.mem_iff_getElem.1 hx
  have := tl_range l hu i (by rw [tl_length] at hi; exact hi)
  simpa [List.getD, List.getElem?_eq_getElem hi] using this
theorem tl_anti (l : List Int) : (tl l).reverse.Pairwise (· ≤ ·) := by
  rw [List.pairwise_reverse]
  refine List.pairwise_iff_getElem.2 (fun p q hp hq hpq => ?_)
  have e : ∀ j (hj : j < (tl l).length), (tl l)[j] = (lens (0 :: rise l) 16).getD (j + 1) 0 := fun j hj => by
    rw [← tl_get l j (by rw [tl_length] at hj; exact hj)]; simp [List.getD, List.getElem?_eq_getElem hj]
  rw [e p hp, e q hq]
  rw [tl_length] at hq
  exact lens_anti (p + 1) (q + 1) (by omega) (by rw [List.length_cons, rise_length]; omega)
theorem tl_cnt (l : List Int) (hu : used l ≤ 256) : Cn.cnt (Cn.occ (tl l)) 16 = (tl l).reverse := by
  rw [← Cn.occ_reverse]
  exact Cn.cnt_all _ (tl_anti l) (fun x hx => tl_mem l hu x (List.mem_reverse.1 hx))
/-- What they leave free is the code of the one more. -/
theorem tl_sum (l : List Int) (hu : used l ≤ 256) (h1 : 1 ≤ used l) : Cn.sum (tl l) < 65536 := by
  have hlen : (0 :: rise l).length = used l + 1 := by rw [List.length_cons, rise_length]
  have hw := lens_whole (L := 16) (zrise_up l) (zrise_Pos l) (by omega) (by omega) (by rw [hlen]; omega) (by rw [hlen]; omega)
  rw [hlen, S_head] at hw
  have hp : 0 < Cn.part ((lens (0 :: rise l) 16).getD 0 0) := by
    have hr := lens_range (L := 16) (zrise_up l) (zrise_Pos l) (by omega) (by rw [hlen]; omega) 0 (by rw [hlen]; omega)
    obtain ⟨t, ht⟩ := Int.eq_ofNat_of_zero_le (show 0 ≤ (lens (0 :: rise l) 16).getD 0 0 by omega)
    rw [ht] at hr ⊢
    rw [part_nat t (by omega) (by omega)]
    exact Nat.pow_pos (by omega)
  have e : ((Cn.sum (tl l) : Nat) : Int) = ((S (fun i => Cn.part ((lens (0 :: rise l) 16).getD (i + 1) 0)) (used l) : Nat) : Int) := by
    have h2 : ((Cn.sum (tl l) : Nat) : Int) = sumg (fun _ z => ((Cn.part z : Nat) : Int)) (tl l) (tl l).length := by
      rw [sumg_take Cn.part (tl l) _ (Nat.le_refl _), List.take_length]; rfl
    rw [h2, tl_length, ← SI_nat]
    have key : ∀ k, k ≤ used l → sumg (fun _ z => ((Cn.part z : Nat) : Int)) (tl l) k = SI (fun i => ((Cn.part ((lens (0 :: rise l) 16).getD (i + 1) 0) : Nat) : Int)) k := by
      intro k
      induction k with
      | zero => intro _; rfl
      | succ k ih => intro hk; rw [sumg, SI, ih (by omega), tl_get l k (by omega)]
    exact key _ (Nat.le_refl _)
  omega
/-- The symbols, those that stand most often first. -/
def ts (l : List Int) : List UInt8 := (order l).reverse.map fun i => UInt8.ofNat i
theorem ts_length (l : List Int) : (ts l).length = used l := by unfold ts; rw [List.length_map, List.length_reverse, order_used]
theorem ts_syB (l : List Int) (hl : l.length ≤ 256) : Cn.syB (ts l) = (order l).reverse.map fun i => ((i : Nat) : Int) := by
  unfold Cn.syB ts
  rw [List.map_map]
  refine List.map_congr_left (fun i hi => ?_)
  have := order_lt l i (List.mem_reverse.1 hi)
  simp only [Function.comp, UInt8.toNat_ofNat']
  rw [Nat.mod_eq_of_lt (by omega)]
theorem ts_nodup (l : List Int) (hl : l.length ≤ 256) : (ts l).Nodup := by
  have h : (Cn.syB (ts l)).Nodup := by
    rw [ts_syB l hl]
    unfold List.Nodup
    rw [List.pairwise_map, List.pairwise_reverse]
    exact (order_nodup l).imp (fun h e => h (by omega))
  unfold Cn.syB at h
  unfold List.Nodup at h ⊢
  rw [List.pairwise_map] at h
  exact h.imp (fun h e => h (by rw [e]))
theorem tl_form (l : List Int) (hl : l.length ≤ 256) : Cn.formB (tl l).reverse = true := by
  have hu := used_le l
  refine Cn.form_good _ (by rw [List.length_reverse, tl_length]; omega) (fun k hk => ?_)
  have hm : (tl l).reverse.getD k 0 ∈ tl l := by
    rw [← List.mem_reverse]
    simp [List.getD, List.getElem?_eq_getElem hk]
  have := tl_mem l (by omega) _ hm
  omega
/-- The table is in form. -/
theorem tab_true (l : List Int) (hl : l.length ≤ 256) : Cn.tabB (Cn.occ (tl l)) (ts l) = true := by
  have hu := used_le l
  have hc := tl_cnt l (by omega)
  have hf := tl_form l hl
  have hle : Cn.sum (tl l).reverse ≤ 65536 ∧ (1 ≤ used l → Cn.sum (tl l).reverse < 65536) := by
    rw [Cn.sum_reverse]
    refine ⟨?_, tl_sum l (by omega)⟩
    rcases Nat.lt_or_ge (used l) 1 with h | h
    · have : tl l = [] := List.length_eq_zero_iff.1 (by rw [tl_length]; omega)
      rw [this]; simp [Cn.sum]
    · exact Nat.le_of_lt (tl_sum l (by omega) h)
  rw [Cn.tab_good]
  · rw [hc]
    rcases Nat.lt_or_ge (used l) 1 with h | h
    · have : ts l = [] := List.length_eq_zero_iff.1 (by rw [ts_length]; omega)
      rw [this]; rfl
    · have h2 := hle.2 h
      have : Cn.freeN (tl l).reverse ≠ 0 := by unfold Cn.freeN; rw [if_pos hf]; omega
      rw [decide_eq_true this, Bool.or_true]
  · refine Cn.ok_of _ (fun k hk => ?_)
    have := Cn.occ_le (tl l) k
    rw [tl_length] at this
    omega
  · rw [hc, List.length_reverse, tl_length, ts_length]
  · exact ts_nodup l hl
  · rw [hc]
    unfold Cn.freeB
    rw [hf, decide_eq_true hle.1]; rfl
/-- Level by level comes to what the best lengths cost. -/
theorem best_cost (R : List Int) (n m : Nat) (hr : R.length = m) (hU : Up R) (hP : Pos R) (hn : 0 < n) (hu : m ≤ 2 ^ n) (b : Int) (hz : m = 0 → b = 0) (hb : 0 < m → Bst m (fun i => pre R (m - i)) n b) : SI (fun i => R.getD i 0 * (lens R n).getD i 0) m = b := by
  by_cases h0 : m = 0
  · subst h0; rw [hz rfl]; rfl
  have hB := hb (by omega)
  by_cases h1 : m = 1
  · subst h1
    obtain ⟨f1, f2⟩ := final_one hP hr hn
    have e : SI (fun i => R.getD i 0 * (lens R n).getD i 0) 1 = pre R 1 := by
      rw [pre_SI R 1 (by omega)]
      refine SI_congr _ (fun i hi => ?_)
      rw [lens_one (by omega) i (by omega), Int.mul_one]
    rw [e]
    obtain ⟨g1, g2⟩ := hB
    have g3 := g2 _ f1
    rcases g1 with g1 | ⟨_, g1⟩
    · omega
    · have := f2 _ g1; omega
  · have f1 := final_back (L := n) hU hP hr (by omega) hn (by rw [← hr]; exact rnd_room R (by omega) n hn (by omega))
    have e := cost_back (L := n) R (by omega) hn (by omega)
    rw [hr] at e
    rw [e]
    obtain ⟨g1, g2⟩ := hB
    have g3 := g2 _ f1
    rcases g1 with g1 | ⟨_, g1⟩
    · omega
    · have := final_ge hU hP hr g1; omega
/-- What the symbols cost that stand. -/
theorem tl_cost (l : List Int) : SI (fun i => (0 :: rise l).getD i 0 * (lens (0 :: rise l) 16).getD i 0) (used l + 1) = SI (fun i => (rise l).getD i 0 * (tl l).getD i 0) (used l) := by
  rw [SI_head]
  have e0 : (0 :: rise l).getD 0 0 = 0 := rfl
  rw [e0, Int.zero_mul, Int.zero_add]
  refine SI_congr _ (fun i hi => ?_)
  rw [tl_get l i hi]; rfl
end Mg
end Go.Proofs.Ytcagdnajapcmkaa
end

/- What merge.Table lays in memory. -/
section
namespace Go.Proofs.Ytcagdnajapcmkaa
open Go.RowKit

/-- The cells of a JPEG's codes. -/
def jcv (c : Nat → Int) (v : Value) : List Value := ((List.range 16).map fun n => Value.int .i64 (c n)) ++ [v]
theorem jcv_length (c : Nat → Int) (v : Value) : (jcv c v).length = 17 := by simp [jcv]
theorem jcv_get (c : Nat → Int) (v : Value) (k : Nat) (h : k < 16) : (jcv c v)[k]? = some (.int .i64 (c k)) := by
  unfold jcv
  rw [List.getElem?_append_left (by simpa using h)]; simp [List.getElem?_range h]
theorem jcv_last (c : Nat → Int) (v : Value) : (jcv c v)[16]? = some v := by
  unfold jcv
  rw [List.getElem?_append_right (by simp)]; simp
theorem jcv_codes (c : Nat → Int) (v : Value) : Value.agg (jcv c v).toArray = codesV c v := rfl
def bump (c : Nat → Int) (k : Nat) : Nat → Int := fun n => if n = k then c k + 1 else c n
theorem jcv_bump (c : Nat → Int) (v : Value) (k : Nat) (h : k < 16) : (jcv c v).set k (.int .i64 (c k + 1)) = jcv (bump c k) v := by
  apply List.ext_getElem?
  intro i
  rw [List.getElem?_set, jcv_length]
  rcases Nat.lt_trichotomy i 16 with hi | hi | hi
  · rw [jcv_get _ _ _ hi, jcv_get _ _ _ hi]
    unfold bump
    by_cases e : k = i
    · subst e; rw [if_pos rfl, if_pos (by omega), if_pos rfl]
    · rw [if_neg e, if_neg (fun h => e h.symm)]
  · subst hi; rw [if_neg (by omega), jcv_last, jcv_last]
  · rw [if_neg (by omega), List.getElem?_eq_none (by rw [jcv_length]; omega), List.getElem?_eq_none (by rw [jcv_length]; omega)]
theorem jcv_put (c : Nat → Int) (v u : Value) : (jcv c v).set 16 u = jcv c u := by
  unfold jcv
  rw [List.set_append_right _ _ (by simp)]; simp
theorem occ_snoc (xs : List Int) (t : Int) (k : Nat) (h : t = ((k + 1 : Nat) : Int)) : Cn.occ (xs ++ [t]) = bump (Cn.occ xs) k := by
  funext n
  unfold bump Cn.occ
  rw [List.filter_append, List.length_append, h]
  by_cases e : n = k
  · subst e; rw [if_pos rfl]; simp
  · rw [if_neg e, List.filter_cons, if_neg (by simp; omega)]; simp
/-- What is counted, and laid, behind some rounds. -/
def cP (l : List Int) (pre : List Nat) : Nat → Int := Cn.occ (pre.map fun x => (Mg.tl l).getD x 0)
def sP (l : List Int) (pre : List Nat) : List UInt8 := pre.map fun x => UInt8.ofNat ((Mg.order l).getD x 0)
theorem cP_snoc (l : List Int) (pre : List Nat) (x k : Nat) (h : (Mg.tl l).getD x 0 = ((k + 1 : Nat) : Int)) : cP l (pre ++ [x]) = bump (cP l pre) k := by
  unfold cP
  rw [List.map_append]
  exact occ_snoc _ _ k h
theorem sP_snoc (l : List Int) (pre : List Nat) (x : Nat) : sP l (pre ++ [x]) = sP l pre ++ [UInt8.ofNat ((Mg.order l).getD x 0)] := by
  unfold sP; rw [List.map_append]; rfl
theorem down_all {α : Type} (f : Nat → α) (m : Nat) : (Bk.down m m).map f = ((List.range m).map f).reverse := by
  apply List.ext_getElem?
  intro i
  by_cases h : i < m
  · rw [List.getElem?_reverse (by simpa using h)]
    simp [Bk.down, List.getElem?_range h, List.getElem?_range (show m - 1 - i < m by omega)]
  · rw [List.getElem?_eq_none (by simp [Bk.down]; omega), List.getElem?_eq_none (by simp; omega)]
theorem map_range {α β : Type} (l : List α) (d : α) (g : α → β) : (List.range l.length).map (fun x => g (l.getD x d)) = l.map g := by
  apply List.ext_getElem?
  intro i
  by_cases h : i < l.length
  · simp [List.getElem?_range h, List.getD, List.getElem?_eq_getElem h]
  · rw [List.getElem?_eq_none (by simp; omega), List.getElem?_eq_none (by simp; omega)]
theorem cP_all (l : List Int) : cP l (Bk.down (Mg.used l) (Mg.used l)) = Cn.occ (Mg.tl l) := by
  unfold cP
  rw [down_all, Cn.occ_reverse, ← Mg.tl_length, map_range (Mg.tl l) 0 (fun x => x), List.map_id']
theorem sP_all (l : List Int) : sP l (Bk.down (Mg.used l) (Mg.used l)) = Mg.ts l := by
  unfold sP Mg.ts
  rw [down_all, ← Mg.order_used, map_range (Mg.order l) 0 (fun x => UInt8.ofNat x), List.map_reverse]
theorem tyY : RowTy Try.prog 27 5 (.int .u8 0) 1 1 := ⟨Try.underlying27, by kernel_rfl, rfl, by omega⟩
theorem src_y (w : World) (x : Nat) (hx : x < 256) : SrcRow (w.alloc (.cells #[Value.int .u8 (x : Nat)] 5)) (some ⟨w.heap.size, 0, none⟩) 1 1 (bvs [UInt8.ofNat x]) 1 := by
  have : bvs [UInt8.ofNat x] = [Value.int .u8 (x : Nat)] := by simp [bvs]; omega
  rw [this]
  exact src_new w #[Value.int .u8 (x : Nat)] 5 1 1 1 rfl (fun u hu => by simp only [List.mem_singleton] at hu; subst hu; rfl)

/-- While the symbols are laid, those that stand most often first. -/
structure TS (w W5 W : World) (cb lb g m lc q : Nat) (R : List Int) (c : Nat → Int) (v : Value) (s : List UInt8) : Prop where
  bx : W.heap[cb]? = some (.cells (jcv c v).toArray 29 (0, 0))
  own : W.ownsRow W5.heap.size 5 1 v s.length (bvs s)
  ln : Boxed W lb 22 (.slice (some ⟨g, q, none⟩) m lc)
  lo : W.ownsRow w.heap.size 3 1 (.slice (some ⟨g, 0, none⟩) (m + 1) (lc + 1)) (m + 1) (ivs R)
  bel : Below w.heap.size w W
  kc : Bk.Kc (fun k => k = cb ∨ W5.heap.size ≤ k) W5 W
  sz : W5.heap.size ≤ W.heap.size
section
variable {w W5 W : World} {cb lb g m lc q : Nat} {R : List Int} {c : Nat → Int} {v : Value} {s : List UInt8}
theorem TS.abide (h : TS w W5 W cb lb g m lc q R c v s) (h5 : w.heap.size ≤ W5.heap.size) {C : World} {row : Option Nat} (hg : W.grownBy C row) (hr : ∀ r, row = some r → W5.heap.size ≤ r ∧ ∃ o : Obj, W.heap[r]? = some o ∧ o.isCells = false) : TS w W5 C cb lb g m lc q R c v s := by
  have k := Bk.kc_cells hg (fun r e => (hr r e).2)
  exact ⟨k cb _ h.bx rfl (fun h => h), Bk.own_kc h.own k (fun _ _ h => h), k lb _ h.ln rfl (fun h => h), Bk.own_kc h.lo k (fun _ _ h => h), h.bel.grown hg h.bel.size (fun r e => by have := (hr r e).1; omega), h.kc.trans (fun i o hi ho _ => k i o hi ho (fun h => h)), Nat.le_trans h.sz hg.size⟩
theorem TS.alloc (h : TS w W5 W cb lb g m lc q R c v s) (x : Obj) : TS w W5 (W.alloc x) cb lb g m lc q R c v s :=
  ⟨(Below.heap_alloc W x cb (Array.getElem?_eq_some_iff.1 h.bx).1).trans h.bx, own_below h.own (below_alloc W x), h.ln.alloc x, own_below h.lo (below_alloc W x), h.bel.alloc h.bel.size x, h.kc.trans (Bk.Kc.alloc _ _ _), by have := h.sz; simp; omega⟩
theorem TS.drew (h : TS w W5 W cb lb g m lc q R c v s) : TS w W5 W.drew cb lb g m lc q R c v s :=
  ⟨h.bx, own_below h.own (drewN_is W 1), h.ln, own_below h.lo (drewN_is W 1), h.bel.trans ((drewN_is W 1).mono h.bel.size), h.kc.drew, h.sz⟩
/-- One more of a length. -/
theorem TS.bump (h : TS w W5 W cb lb g m lc q R c v s) (hcl : cb ≠ lb) (hcg : cb ≠ g) (hc5 : cb < W5.heap.size) (hwc : w.heap.size ≤ cb) (k : Nat) (hk : k < 16) (c' : Nat → Int) (hc : c' = bump c k) :
    TS w W5 (W.setCell ⟨cb, k, none⟩ (.int .i64 (c k + 1))) cb lb g m lc q R c' v s := by
  have ch : Ch W (W.setCell ⟨cb, k, none⟩ (.int .i64 (c k + 1))) (fun j => j = cb) := (Ch.refl W (fun j => j = cb)).set (.inl rfl) _
  refine ⟨?_, ch.own h.own (fun j hj e => by have := (h.own.lt j hj).1; omega), Bk.boxed_setO h.ln (fun e => hcl e.symm) k _, ch.own h.lo (fun j hj e => by simp [Value.ownBlock] at hj; omega), h.bel.setCell (p := ⟨cb, k, none⟩) hwc _, h.kc.trans (Bk.Kc.set (U := fun k => k = cb ∨ W5.heap.size ≤ k) W ⟨cb, k, none⟩ (.inl rfl) _), by simpa using h.sz⟩
  refine (heap_setCell_same W cb k _ _ _ h.bx).trans ?_
  rw [hc, ← jcv_bump c v k hk]; simp
/-- One more symbol. -/
theorem TS.put (h : TS w W5 W cb lb g m lc q R c v s) (hcl : cb ≠ lb) (hcg : cb ≠ g) (hc5 : cb < W5.heap.size) (hl5 : lb < W5.heap.size) (hg5 : g < W5.heap.size) (hwc : w.heap.size ≤ cb) (h5 : w.heap.size ≤ W5.heap.size) {W2 : World} {v' : Value} {s' : List UInt8}
    (hv : W2.ownsRow W5.heap.size 5 1 v' s'.length (bvs s')) (hgr : Ch W W2 (fun k => v.ownBlock = some k)) :
    TS w W5 (W2.setCell ⟨cb, 16, none⟩ v') cb lb g m lc q R c v' s' := by
  have hlow : ∀ j, j < W5.heap.size → W2.heap[j]? = W.heap[j]? := fun j hj => hgr.block j (by have := h.sz; omega) (fun e => by have := (h.own.lt j e).1; omega)
  have ch : Ch W2 (W2.setCell ⟨cb, 16, none⟩ v') (fun j => j = cb) := (Ch.refl W2 (fun j => j = cb)).set (.inl rfl) _
  have hbx : W2.heap[cb]? = some (.cells (jcv c v).toArray 29 (0, 0)) := (hlow cb hc5).trans h.bx
  have hln : Boxed W2 lb 22 (.slice (some ⟨g, q, none⟩) m lc) := (hlow lb hl5).trans h.ln
  have hlo := Bk.own_same h.lo (w' := W2) (fun j hj => by simp [Value.ownBlock] at hj; subst hj; exact hlow _ hg5)
  refine ⟨?_, ch.own hv (fun j hj e => by have := (hv.lt j hj).1; omega), Bk.boxed_setO hln (fun e => hcl e.symm) 16 _, ch.own hlo (fun j hj e => by simp [Value.ownBlock] at hj; omega), (h.bel.trans (hgr.below h.bel.size (fun r e => by have := (h.own.lt r e).1; omega))).setCell (p := ⟨cb, 16, none⟩) hwc _, ?_, ?_⟩
  · refine (heap_setCell_same W2 cb 16 _ _ _ hbx).trans ?_
    rw [← jcv_put c v v']; simp
  · exact (h.kc.trans (fun i o hi _ hu => (hgr.block i (Array.getElem?_eq_some_iff.1 hi).1 (fun e => hu (.inr (h.own.lt i e).1))).trans hi)).trans (Bk.Kc.set (U := fun k => k = cb ∨ W5.heap.size ≤ k) W2 ⟨cb, 16, none⟩ (.inl rfl) _)
  · have := h.sz; have := hgr.size; simp; omega
theorem TS.keeps (h : TS w W5 W cb lb g m lc q R c v s) {A W2 : World} {B : Nat} (k : KeepsFrom B A W) (hgr : Ch W W2 (fun k => v.ownBlock = some k)) : KeepsFrom B A W2 :=
  ⟨Nat.le_trans k.size hgr.size, fun i o hb hi ho => by
    have h1 := k.same i o hb hi ho
    refine (hgr.block i (Array.getElem?_eq_some_iff.1 h1).1 (fun e => ?_)).trans h1
    rcases own_nil_or h.own with ⟨e2, _⟩ | ⟨g2, c2, e2, _⟩
    · rw [e2] at e; cases e
    · have h2 := h.own.2
      rcases h2 with ⟨h3, _⟩ | ⟨g3, c3, cur, h3, _, hg, _⟩
      · rw [h3] at e; cases e
      · rw [h3] at e
        simp only [Value.ownBlock, Option.some.injEq] at e
        subst e
        rw [hg] at h1; cases h1; cases ho⟩
theorem TS.at (h : TS w W5 W cb lb g m lc q R c v s) (k : Nat) (hk : k < 16) : W.cell? ⟨cb, k, none⟩ = some (.int .i64 (c k)) ∧ W.frozen? ⟨cb, k, none⟩ = false ∧ W.cell? ⟨cb, 16, none⟩ = some v ∧ W.frozen? ⟨cb, 16, none⟩ = false := by
  refine ⟨?_, frozen_of_row _ _ _ _ _ h.bx, ?_, frozen_of_row _ _ _ _ _ h.bx⟩
  · rw [cell_of_row _ _ _ _ _ (0, 0) h.bx, List.getElem?_toArray, jcv_get _ _ _ hk]
  · rw [cell_of_row _ _ _ _ _ (0, 0) h.bx, List.getElem?_toArray, jcv_last]
theorem TS.whole (h : TS w W5 W cb lb g m lc q R c v s) : (loadVar 29 ⟨cb, 0, none⟩).run Try.prog W = .ok (codesV c v) W := by
  rw [← jcv_codes]
  exact Bk.run_load_front W cb _ 29 _ (0, 0) (jcv c v) _ h.bx (fun j v hj => by rw [List.getElem?_toArray]; exact hj) Try.underlying29 rfl (by rw [jcv_length]; kernel_rfl)
end
end Go.Proofs.Ytcagdnajapcmkaa
end

/- slices.Grow at nil, and slices.Concat of two lists: their contracts. -/
section
namespace Go.Proofs.Ytcagdnajapcmkaa
open Go.RowKit

def GrowPost (w : World) (e : Ending) (w' : World) : Prop :=
  ∃ cap, e = .returned (.slice (some ⟨w.heap.size, 0, none⟩) 0 cap) ∧ w'.ownsRow w.heap.size 3 1 (.slice (some ⟨w.heap.size, 0, none⟩) 0 cap) 0 [] ∧ Below w.heap.size w w'
set_option maxHeartbeats 2000000 in
set_option maxRecDepth 100000 in
theorem grow_any (n : Nat) (w : World) (h1 : 1 ≤ n) (hn : n ≤ 1000000) :
    Calls Try.prog 50 #[.slice none 0 0, .int .i64 (n : Nat)] w (GrowPost w) := by
  obtain ⟨i0, hi, hz0, hz1, hz2⟩ := info_parts tyI.info
  have happ := fun ty => Lib.run_append_nil_zeros (P := Try.prog) w 22 3 ty 3 i0 (.int .i64 0) .i64 .i64 tyI.ht (by kernel_rfl) hi hz0 n (by omega) (by omega) (by omega) (by rw [hz2]; omega)
  have hge := grownCap_ge w n 0 3
  have hle := grownCap_le_maxLen w n 0 3 (by unfold maxLen; omega)
  generalize grownCap w n 0 3 = c at *
  obtain ⟨cs, hcs⟩ : ∃ cs, Builtin.zeroCells (Value.int .i64 0).cells n ++ Builtin.zeroCells (Value.int .i64 0).cells (c - n) = cs := ⟨_, rfl⟩
  have hsz : cs.size = c := by
    rw [← hcs, Array.size_append, size_zeroCells, size_zeroCells]
    have : (Value.int .i64 0).cells.size = 1 := rfl
    rw [this]; omega
  rw [hcs] at happ
  clear hcs
  have d0 : decide ((n : Int) < 0) = false := by simp
  have d1 : decide (0 < (n : Int)) = true := by simp; omega
  go_enter Try.func50, Try.ntmps50
  go_wp2_with (at_builtin; refine Lib.wpList_append_run _ rfl _ _ _ _ rfl _ _ rfl rfl _ _ (happ _) ?_)
  go_wp2
  go_ret
  refine ⟨c, rfl, ⟨rfl, .inr ⟨w.heap.size, c, cs, rfl, Nat.le_refl _, heap_alloc_last w.drew _, by omega, hle, by rw [hsz, Nat.mul_one], by simp⟩⟩, ?_⟩
  exact below_then (below_alloc w (.cells cs 3)) (drewN_is _ 1)
def ConcatPost (w : World) (n : Nat) (l : List Int) (e : Ending) (w' : World) : Prop :=
  ∃ v, e = .returned v ∧ w'.ownsRow w.heap.size 3 1 v n (ivs l) ∧ Below w.heap.size w w'
set_option maxHeartbeats 2000000 in
set_option maxRecDepth 100000 in
theorem concat_any (g : Nat) (a b : Option Addr) (la ca lb cb : Nat) (x y : List Int) (w : World) (g0 : w.cell? ⟨g, 0, none⟩ = some (.slice a la ca)) (g1 : w.cell? ⟨g, 1, none⟩ = some (.slice b lb cb)) (hg : g < w.heap.size)
    (hx : Is .i64 w a la ca x) (hy : Is .i64 w b lb cb y) (h1 : 1 ≤ la) (hn : la + lb ≤ 1000000) :
    Calls Try.prog 32 #[.slice (some ⟨g, 0, none⟩) 2 2] w (ConcatPost w (la + lb) (x ++ y)) := by
  have HX := Lib.hid hx
  have HY := Lib.hid hy
  have G0 := Lib.hid g0
  have G1 := Lib.hid g1
  clear hx hy
  have da : decide ((la : Int) < 0) = false := by simp
  have db : decide (((la + lb : Nat) : Int) < 0) = false := by simp; omega
  have db2 : decide ((la : Int) + (lb : Int) < 0) = false := by simp; omega
  go_enter Try.func32, Try.ntmps32
  go_wp2
  go_loop [3, 11] (fun s i => (i = .int .i64 0 ∧ s = .int .i64 0) ∨ (i = .int .i64 1 ∧ s = .int .i64 (la : Nat)) ∨ (i = .int .i64 2 ∧ s = .int .i64 ((la + lb : Nat) : Int))) (fun _ i => (2 - intOf i).toNat)
  case atStart => exact .inl ⟨rfl, rfl⟩
  case round =>
    rcases hrel with ⟨rfl, rfl⟩ | ⟨rfl, rfl⟩ | ⟨rfl, rfl⟩
    · go_wp2
      go_round
      case rel => exact .inr (.inl ⟨rfl, by go_num⟩)
      case measure => simp [intOf]
    · go_wp2
      go_round
      case rel => exact .inr (.inr ⟨rfl, by go_num⟩)
      case measure => simp [intOf]
    · clear g0 g1
      go_wp2_with fail
      refine (grow_any (la + lb) w (by omega) hn).mono ?_
      rintro e w1 ⟨cap, rfl, own1, hb1⟩
      have O1 := Lib.hid own1
      have HB1 := Lib.hid hb1
      clear own1 hb1
      go_wp2
      go_loopw [6, 27] (fun v i wr => ∃ l : List Int, ∃ k : Nat, ∃ n : Nat, i = .int .i64 (k : Nat) ∧ ((k = 0 ∧ l = [] ∧ n = 0) ∨ (k = 1 ∧ l = x ∧ n = la) ∨ (k = 2 ∧ l = x ++ y ∧ n = la + lb)) ∧ Hid (wr.ownsRow w.heap.size 3 1 v n (ivs l) ∧ Below w.heap.size w wr)) (fun _ i _ => (2 - intOf i).toNat)
      case atStart => exact ⟨[], 0, 0, rfl, .inl ⟨rfl, rfl, rfl⟩, Lib.hid ⟨O1.out, HB1.out⟩⟩
      case round =>
        obtain ⟨l, k, n, rfl, hk, HO⟩ := hrel
        have hzr := HO.out.2.size
        rcases hk with ⟨rfl, rfl, rfl⟩ | ⟨rfl, rfl, rfl⟩ | ⟨rfl, rfl, rfl⟩
        · have c0 : wr.cell? ⟨g, 0, none⟩ = some (.slice a la ca) := (HO.out.2.cell (p := ⟨g, 0, none⟩) hg).trans G0.out
          go_wp2_with (at_builtin; refine wpl_append tyI rfl _ _ rfl HO.out.1 ((HX.out.mono HO.out.2).src) rfl rfl (by omega) (by omega) (by omega) ?_)
          intro v' w' own' hg' _
          have hb' : Below w.heap.size w w' := HO.out.2.grown hg' hzr (fun q hq => (HO.out.1.lt q hq).1)
          have HK2 : Hid (w'.ownsRow w.heap.size 3 1 v' la (ivs x) ∧ Below w.heap.size w w') := Lib.hid ⟨own', hb'⟩
          clear own' hb' hg' HO c0
          go_wp2
          go_roundw
          case rel => exact ⟨x, 1, la, rfl, .inr (.inl ⟨rfl, rfl, rfl⟩), HK2⟩
          case measure => simp [intOf]
        · have c1 : wr.cell? ⟨g, 1, none⟩ = some (.slice b lb cb) := (HO.out.2.cell (p := ⟨g, 1, none⟩) hg).trans G1.out
          go_wp2_with (at_builtin; refine wpl_append tyI rfl _ _ rfl HO.out.1 ((HY.out.mono HO.out.2).src) rfl rfl (by omega) (by omega) (by omega) ?_)
          intro v' w' own' hg' _
          have hb' : Below w.heap.size w w' := HO.out.2.grown hg' hzr (fun q hq => (HO.out.1.lt q hq).1)
          rw [← ivs_append] at own'
          have HK2 := Lib.hid (And.intro own' hb')
          clear own' hb' hg' HO c1
          go_wp2
          go_roundw
          case rel => exact ⟨_, 2, _, rfl, .inr (.inr ⟨rfl, rfl, rfl⟩), HK2⟩
          case measure => simp [intOf]
        · go_wp2
          go_ret
          exact ⟨_, rfl, HO.out.1, HO.out.2⟩
end Go.Proofs.Ytcagdnajapcmkaa
end

/- What the best JPEG's codes cost, code by code. -/
section
namespace Go.Proofs.Ytcagdnajapcmkaa
open Go.RowKit
namespace Mg
theorem SI_rev (f : Nat → Int) : ∀ n, SI f n = SI (fun i => f (n - 1 - i)) n
  | 0 => rfl
  | n + 1 => by
    rw [SI_head (fun i => f (n + 1 - 1 - i)) n, SI, SI_rev f n, Int.add_comm]
    congr 1
    exact SI_congr n (fun i _ => by show f (n - 1 - i) = f (n + 1 - 1 - (i + 1)); congr 1; omega)
/-- What the k-th code costs: the symbol, and how often it stands. -/
def sy (l : List Int) (k : Nat) : Nat := (order l).reverse.getD k 0
def ln (l : List Int) (k : Nat) : Nat := ((tl l).reverse.getD k 0).toNat
def ct (l : List Int) (k : Nat) : Int := l.getD (sy l k) 0 * (ln l k : Int)
theorem rev_getD {α : Type} (l : List α) (d : α) (i : Nat) (h : i < l.length) : l.reverse.getD (l.length - 1 - i) d = l.getD i d := by
  simp [List.getD, List.getElem?_reverse (show l.length - 1 - i < l.length by omega), show l.length - 1 - (l.length - 1 - i) = i by omega]
theorem sy_lt (l : List Int) (k : Nat) (h : k < used l) : sy l k < l.length ∧ 0 < l.getD (sy l k) 0 := by
  have hm : sy l k ∈ order l := by
    rw [← List.mem_reverse]
    have hk : k < (order l).reverse.length := by rw [List.length_reverse, order_used]; exact h
    simp [sy, List.getD, List.getElem?_eq_getElem hk]
  exact (order_mem l _).1 hm
theorem ln_range (l : List Int) (hu : used l ≤ 256) (k : Nat) (h : k < used l) : 1 ≤ ln l k ∧ ln l k ≤ 16 ∧ (tl l).reverse.getD k 0 = (ln l k : Int) := by
  have hk : k < (tl l).reverse.length := by rw [List.length_reverse, tl_length]; exact h
  have hm : (tl l).reverse.getD k 0 ∈ tl l := by
    rw [← List.mem_reverse]
    simp [List.getD, List.getElem?_eq_getElem hk]
  have := tl_mem l hu _ hm
  unfold ln
  omega
theorem ct_sum (l : List Int) (hu : used l ≤ 256) : SI (ct l) (used l) = SI (fun i => (rise l).getD i 0 * (tl l).getD i 0) (used l) := by
  rw [SI_rev]
  refine SI_congr _ (fun i hi => ?_)
  have h1 : sy l (used l - 1 - i) = (order l).getD i 0 := by
    unfold sy
    rw [← order_used l]
    exact rev_getD _ _ i (by rw [order_used]; exact hi)
  have h2 : (ln l (used l - 1 - i) : Int) = (tl l).getD i 0 := by
    rw [← (ln_range l hu (used l - 1 - i) (by omega)).2.2]
    rw [← tl_length l]
    exact rev_getD _ _ i (by rw [tl_length]; exact hi)
  have h3 : (rise l).getD i 0 = l.getD ((order l).getD i 0) 0 := by
    unfold rise
    have hi2 : i < (order l).length := by rw [order_used]; exact hi
    simp [List.getD, List.getElem?_eq_getElem hi2]
  show l.getD (sy l (used l - 1 - i)) 0 * (ln l (used l - 1 - i) : Int) = _
  rw [h1, h2, h3]
theorem ct_le (l : List Int) (hu : used l ≤ 40) (hb : ∀ k, k < l.length → l.getD k 0 ≤ 1099511627776) : ∀ k, k ≤ used l → 0 ≤ SI (ct l) k ∧ SI (ct l) k ≤ 17592186044416 * (k : Int)
  | 0, _ => by simp [SI]
  | k + 1, h => by
    have ih := ct_le l hu hb k (by omega)
    obtain ⟨s1, s2⟩ := sy_lt l k (by omega)
    have s3 := hb _ s1
    obtain ⟨l1, l2, _⟩ := ln_range l (by omega) k (by omega)
    have p1 : 0 ≤ ct l k := Int.mul_nonneg (by omega) (by omega)
    have p2 : ct l k ≤ 1099511627776 * 16 := Int.mul_le_mul s3 (by omega) (by omega) (by omega)
    rw [SI]
    omega
theorem ct_all (l : List Int) (hu : used l ≤ 40) (C : List Int) (hC : C.reverse = rise l) (b : Int) (hb : 0 < used l + 1 → Bst (used l + 1) (fun i => pre (C ++ [0]).reverse (used l + 1 - i)) 16 b) : SI (ct l) (used l) = b := by
  have e : (C ++ [0]).reverse = 0 :: rise l := by rw [List.reverse_append, hC]; rfl
  rw [e] at hb
  rw [ct_sum l (by omega), ← tl_cost]
  exact best_cost (0 :: rise l) 16 (used l + 1) (by rw [List.length_cons, rise_length]) (zrise_up l) (zrise_Pos l) (by omega) (by omega) b (fun h => by omega) hb
/-- The codes' lengths. -/
theorem tbl_codes (l : List Int) (hl : l.length ≤ 256) (k : Nat) (h : k < used l) : ((Cn.codes (tl l).reverse).getD k []).length = ln l k := by
  have hu := used_le l
  have hk : k < (tl l).reverse.length := by rw [List.length_reverse, tl_length]; exact h
  have := (Cn.codes_val (tl l).reverse (fun i hi => by
    have hi2 : i < used l := by rw [List.length_reverse, tl_length] at hi; exact hi
    have := ln_range l (by omega) i hi2
    omega) (fun i hi => by
    have h1 := List.pairwise_iff_getElem.1 (tl_anti l) i (i + 1) (by omega) hi (by omega)
    simpa [List.getD, List.getElem?_eq_getElem hi, List.getElem?_eq_getElem (show i < (tl l).reverse.length by omega)] using h1) (by
    rw [Cn.sum_reverse]
    rcases Nat.lt_or_ge (used l) 1 with h0 | h0
    · omega
    · exact Nat.le_of_lt (tl_sum l (by omega) h0)) k hk).1
  exact this
end Mg
end Go.Proofs.Ytcagdnajapcmkaa
end

/- merge.Table: its contract. -/
section
namespace Go.Proofs.Ytcagdnajapcmkaa
open Go.RowKit Go.Shelf
attribute [local go_sem] Oper.semAt_some

theorem load_jcv (c : Nat → Int) (v : Value) (W : World) (cb : Nat) (h : W.heap[cb]? = some (.cells (jcv c v).toArray 29 (0, 0))) : (loadVar 29 ⟨cb, 0, none⟩).run Try.prog W = .ok (codesV c v) W := by
  rw [← jcv_codes]
  exact Bk.run_load_front W cb _ 29 _ (0, 0) (jcv c v) _ h (fun j v hj => by rw [List.getElem?_toArray]; exact hj) Try.underlying29 rfl (by rw [jcv_length]; kernel_rfl)
theorem tbl_results (tmps : Array Value) (W : World) (cb : Nat) (c : Nat → Int) (v u : Value) (h2 : tmps.getD 2 undef = .pointer (some ⟨cb, 0, none⟩)) (h3 : tmps.getD 3 undef = u) (hl : (loadVar 29 ⟨cb, 0, none⟩).run Try.prog W = .ok (codesV c v) W) :
    (results Try.f9 tmps).run Try.prog W = .ok (.tuple #[codesV c v, u]) W := by
  refine (results_cell_tmp (p := 2) (u := 3) (ty := 29) (by kernel_rfl) tmps Try.prog W).trans ?_
  rw [h2, h3]
  simp [asAddr, hl, Result.andThen]
theorem tbl_results2 (tmps : Array Value) (W : World) (cb : Nat) (C : Array Value) (u : Value) (h2 : tmps.getD 2 undef = .pointer (some ⟨cb, 0, none⟩)) (h3 : tmps.getD 3 undef = u) (hl : (loadVar 29 ⟨cb, 0, none⟩).run Try.prog W = .ok (.agg C) W) :
    (results Try.f9 tmps).run Try.prog W = .ok (.tuple #[.agg C, u]) W := by
  refine (results_cell_tmp (p := 2) (u := 3) (ty := 29) (by kernel_rfl) tmps Try.prog W).trans ?_
  rw [h2, h3]
  simp [asAddr, hl, Result.andThen]
def TblPost (w : World) (l : List Int) (e : Ending) (w' : World) : Prop :=
  Below w.heap.size w w' ∧
  ((Mg.within l 256 1099511627776 = false ∧ e = .returned (.tuple #[codesV (fun _ => 0) (.slice none 0 0), .iface 37 (.int .i64 6)])) ∨
   (Mg.within l 256 1099511627776 = true ∧ ∃ v, e = .returned (.tuple #[codesV (Cn.occ (Mg.tl l)) v, .nilIface]) ∧ w'.ownsRow w.heap.size 5 1 v (Mg.ts l).length (bvs (Mg.ts l))))
set_option maxRecDepth 100000 in
set_option maxHeartbeats 8000000 in
theorem tblTable_any (a : Option Addr) (len cap : Nat) (l : List Int) (w : World) (h : Is .i64 w a len cap l) (hr : len ≤ 140737488355328) :
    Calls Try.prog 9 #[.slice a len cap] w (TblPost w l) := by
  have HL := Lib.hid h.hlen
  have H := Lib.hid h
  clear h
  refine (callsIn_wide (n := 3)).1 ?_
  have hro : (Fence.wide).round = none := rfl
  refine callsIn_of_wp_marks Try.func9 rfl trivial ?_ hro
  simp only [Try.ntmps9, List.size_toArray, List.length_cons, List.length_nil, Nat.reduceAdd, Nat.reduceSub, Array.replicate_succ, Array.replicate_zero, List.push_toArray, List.append_toArray, List.nil_append, List.cons_append]
  gi_wp2_with fail
  have hw0 : Below w.heap.size w (boxW w (fun _ => 0) (.slice none 0 0)) := below_alloc _ _
  have HW0 := Lib.hid hw0
  have HX0 : Hid ((boxW w (fun _ => 0) (.slice none 0 0)).heap[w.heap.size]? = some (.cells (jcv (fun _ => 0) (.slice none 0 0)).toArray 29 (0, 0))) := Lib.hid (heap_alloc_last w _)
  have hz0 := boxW_size w (fun _ => 0) (.slice none 0 0)
  unfold boxW at hw0 HW0 HX0 hz0
  refine ⟨trivial, (callsIn_wide.2 (within_any a len cap l 256 1099511627776 _ (H.out.mono hw0) hr (by omega) (by omega))).mono ?_⟩
  rintro e w' ⟨rfl, rfl⟩
  clear hw0
  cases hok : Mg.within l 256 1099511627776
  · have HP := Lib.hid (fun e => (show e = Ending.returned (.tuple #[codesV (fun _ => 0) (.slice none 0 0), .iface 37 (.int .i64 6)]) → TblPost w l e _ from fun he => ⟨HW0.out, .inl ⟨hok, he⟩⟩))
    clear hz0
    gi_wp2
    have hg := heap_alloc_last w (.cells #[.int .i64 0, .int .i64 0, .int .i64 0, .int .i64 0, .int .i64 0, .int .i64 0, .int .i64 0, .int .i64 0, .int .i64 0, .int .i64 0, .int .i64 0, .int .i64 0, .int .i64 0, .int .i64 0, .int .i64 0, .int .i64 0, .slice none 0 0] 29)
    have hl := load_jcv (fun _ => 0) (.slice none 0 0) _ _ hg
    exact ⟨_, tbl_results _ _ _ _ _ _ rfl rfl hl, HP.out _ rfl⟩
  have HOK := Lib.hid hok
  have hlen := Mg.within_len hok
  rw [HL.out] at hlen
  have hul := Mg.used_le l
  rw [HL.out] at hul
  clear hok
  revert HW0 HX0 hz0
  generalize World.alloc _ _ = w1
  intro HW0 HX0 hz0
  gi_wp2_with fail
  refine ⟨trivial, (callsIn_wide.2 (rarest_any a len cap l w1 (H.out.mono HW0.out) (by omega))).mono ?_⟩
  rintro e w2 ⟨vs, vr, rfl, os2, or2, hb2⟩
  rw [Mg.order_used] at os2 or2
  have HAT := Lib.hid (fun k hk => Mg.within_at HOK.out k hk)
  have HMO := Lib.hid (Mg.rise_le l 1099511627776 (fun k hk => (HAT.out k hk).2))
  obtain ⟨ra, rc, rfl, hir⟩ := own_is or2 (fun x hx => by
    have h1 := HMO.out x hx
    have h2 := Mg.rise_Pos l x hx
    simp only [Lit.wf, IntKind.min, IntKind.max, IntKind.signed, IntKind.bits, Bool.and_eq_true, decide_eq_true_eq, if_true]
    simp; omega)
  obtain ⟨sa, sc, rfl, his⟩ := own_is os2 (wf_small (fun x hx => by
    obtain ⟨i, hi, rfl⟩ := List.mem_map.1 hx
    have := Mg.order_lt l i hi
    rw [HL.out] at this
    omega))
  have HB2 := Lib.hid (below_then HW0.out hb2)
  have hlz := is_lit w2 [0] 1 3 #[Value.int .i64 0] rfl rfl (wf_small (by decide))
  have HLZ := Lib.hid (hlz.mono (below_alloc _ (.cells #[.slice (some ⟨w2.heap.size, 0, none⟩) 1 1, .slice ra (Mg.used l) rc] 22)))
  have HIR := Lib.hid (hir.mono (below_alloc2 w2 (.cells #[Value.int .i64 0] 3) (.cells #[.slice (some ⟨w2.heap.size, 0, none⟩) 1 1, .slice ra (Mg.used l) rc] 22)))
  have HB3 := Lib.hid (below_alloc2 w2 (.cells #[Value.int .i64 0] 3) (.cells #[.slice (some ⟨w2.heap.size, 0, none⟩) 1 1, .slice ra (Mg.used l) rc] 22))
  have HX3 := Lib.hid (heap_alloc_last (w2.alloc (.cells #[Value.int .i64 0] 3)) (.cells #[.slice (some ⟨w2.heap.size, 0, none⟩) 1 1, .slice ra (Mg.used l) rc] 22))
  have hz3 : (w2.alloc (.cells #[Value.int .i64 0] 3)).heap.size = w2.heap.size + 1 := Array.size_push _
  have OS2 := Lib.hid os2
  clear os2 or2 hir his hlz
  gi_wp2_with fail
  rw [hz3] at HX3
  revert HLZ HIR HB3 HX3
  generalize World.alloc _ _ = w3
  intro HLZ HIR HB3 HX3
  have hl3 := (Array.getElem?_eq_some_iff.1 HX3.out).1
  refine ⟨trivial, (callsIn_wide.2 (concat_any (w2.heap.size + 1) _ _ 1 1 (Mg.used l) rc [0] (Mg.rise l) w3 (by rw [cell_of_row _ _ _ _ _ (0, 0) HX3.out]; rfl) (by rw [cell_of_row _ _ _ _ _ (0, 0) HX3.out]; rfl) hl3 HLZ.out HIR.out (by omega) (by omega))).mono ?_⟩
  rintro e w4 ⟨vc, rfl, oc4, hb4⟩
  have HB4 := Lib.hid (below_then (below_then HB2.out HB3.out) hb4)
  have HB24 := Lib.hid (below_then HB3.out hb4)
  obtain ⟨ca, cc, rfl, hic⟩ := own_is oc4 (fun x hx => by
    rcases List.mem_cons.1 hx with rfl | h
    · rfl
    · have h1 := HMO.out x h
      have h2 := Mg.rise_Pos l x h
      simp only [Lit.wf, IntKind.min, IntKind.max, IntKind.signed, IntKind.bits, Bool.and_eq_true, decide_eq_true_eq, if_true]
      simp; omega)
  have HIC := Lib.hid (show Is .i64 w4 ca (1 + Mg.used l) cc (0 :: Mg.rise l) from hic)
  have HZR := Lib.hid (fun x (hx : x ∈ 0 :: Mg.rise l) => (show 0 ≤ x ∧ x ≤ 1099511627776 from by
    refine ⟨Mg.zrise_Pos l x hx, ?_⟩
    rcases List.mem_cons.1 hx with rfl | h
    · omega
    · exact HMO.out x h))
  have HB14 := Lib.hid (below_then (below_then hb2 HB3.out) hb4)
  clear oc4 hic hb4 HLZ HIR HB3 HX3 hl3 hz3 hb2 HB2
  gi_wp2_with fail
  refine ⟨trivial, (callsIn_wide.2 (least_any ca (1 + Mg.used l) cc (0 :: Mg.rise l) 16 w4 HIC.out (by omega) (by omega) (by omega) (by omega) HZR.out)).mono ?_⟩
  rintro e w5 ⟨vt, rfl, ot5, hb5⟩
  have hlen5 : (0 :: Mg.rise l).length = 1 + Mg.used l := by rw [List.length_cons, Mg.rise_length]; omega
  rw [hlen5] at ot5
  have HB5 := Lib.hid (below_then HB4.out hb5)
  have HB15 := Lib.hid (below_then HB14.out hb5)
  have HB25 := Lib.hid (below_then HB24.out hb5)
  obtain ⟨g, vc, rfl, hgv, hgw, hg5⟩ : ∃ g vc, vt = .slice (some ⟨g, 0, none⟩) (1 + Mg.used l) (vc + 1) ∧ Mg.used l ≤ vc ∧ w4.heap.size ≤ g ∧ g < w5.heap.size := by
    rcases own_nil_or ot5 with ⟨_, h⟩ | ⟨g, c, h1, h2, h3, h4, _⟩
    · omega
    · exact ⟨g, c - 1, by rw [h1, Nat.sub_add_cancel (by omega)], by omega, h3, h4⟩
  have OT5 := Lib.hid ot5
  have OS5 := Lib.hid (own_below OS2.out HB25.out)
  have HLT := Lib.hid (Mg.lens_length (0 :: Mg.rise l) 16)
  clear ot5 hb5 hlen5 HIC HZR OS2
  have hs25 := HB25.out.size
  have hs02 := HB4.out.size
  by_cases hvc : vc = 0
  · have hu0 := Lib.hid (show Mg.used l = 0 by omega)
    subst hvc
    gi_wp2_with fail
    refine ⟨trivial, (Bk.backI_in Fence.wide 2 trivial rfl _ _ _ _ rfl _).mono ?_⟩
    rintro e w' ⟨rfl, rfl⟩
    have hz : ((w5.alloc (.cells #[.slice (some ⟨g, 0, none⟩) (Mg.used l) 0] 22)).alloc (.cells #[.int .i64 0, .int .i64 0, .int .i64 0, .int .i64 0, .int .i64 0, .int .i64 0, .int .i64 0, .int .i64 0, .int .i64 0, .int .i64 0, .int .i64 0, .int .i64 0, .int .i64 0, .int .i64 0, .int .i64 0, .int .i64 0, .slice none 0 0] 29)).heap.size = w5.heap.size + 2 := by simp
    have h1 : Boxed (((w5.alloc (.cells #[.slice (some ⟨g, 0, none⟩) (Mg.used l) 0] 22)).alloc (.cells #[.int .i64 0, .int .i64 0, .int .i64 0, .int .i64 0, .int .i64 0, .int .i64 0, .int .i64 0, .int .i64 0, .int .i64 0, .int .i64 0, .int .i64 0, .int .i64 0, .int .i64 0, .int .i64 0, .int .i64 0, .int .i64 0, .slice none 0 0] 29)).alloc (.cells #[.slice sa (Mg.used l) sc] 22)) w5.heap.size 22 (.slice (some ⟨g, 0, none⟩) (Mg.used l) 0) := Boxed.alloc (Boxed.alloc (World.alloc_heap_new w5 _) _) _
    have h2 : (((w5.alloc (.cells #[.slice (some ⟨g, 0, none⟩) (Mg.used l) 0] 22)).alloc (.cells #[.int .i64 0, .int .i64 0, .int .i64 0, .int .i64 0, .int .i64 0, .int .i64 0, .int .i64 0, .int .i64 0, .int .i64 0, .int .i64 0, .int .i64 0, .int .i64 0, .int .i64 0, .int .i64 0, .int .i64 0, .int .i64 0, .slice none 0 0] 29)).alloc (.cells #[.slice sa (Mg.used l) sc] 22)).heap[w5.heap.size + 1]? = some (.cells (jcv (fun _ => 0) (.slice none 0 0)).toArray 29 (0, 0)) := by
      refine (Below.heap_alloc _ _ _ (by rw [hz]; omega)).trans ?_
      exact heap_alloc2_new _ _ _
    have h3 : Boxed (((w5.alloc (.cells #[.slice (some ⟨g, 0, none⟩) (Mg.used l) 0] 22)).alloc (.cells #[.int .i64 0, .int .i64 0, .int .i64 0, .int .i64 0, .int .i64 0, .int .i64 0, .int .i64 0, .int .i64 0, .int .i64 0, .int .i64 0, .int .i64 0, .int .i64 0, .int .i64 0, .int .i64 0, .int .i64 0, .int .i64 0, .slice none 0 0] 29)).alloc (.cells #[.slice sa (Mg.used l) sc] 22)) (w5.heap.size + 2) 22 (.slice sa (Mg.used l) sc) := by rw [← hz]; exact World.alloc_heap_new _ _
    have hb6 : Below w5.heap.size w5 (((w5.alloc (.cells #[.slice (some ⟨g, 0, none⟩) (Mg.used l) 0] 22)).alloc (.cells #[.int .i64 0, .int .i64 0, .int .i64 0, .int .i64 0, .int .i64 0, .int .i64 0, .int .i64 0, .int .i64 0, .int .i64 0, .int .i64 0, .int .i64 0, .int .i64 0, .int .i64 0, .int .i64 0, .int .i64 0, .int .i64 0, .slice none 0 0] 29)).alloc (.cells #[.slice sa (Mg.used l) sc] 22)) := (below_alloc2 w5 _ _).alloc (by simp; omega) _
    rw [hz]
    have hz6 : (((w5.alloc (.cells #[.slice (some ⟨g, 0, none⟩) (Mg.used l) 0] 22)).alloc (.cells #[.int .i64 0, .int .i64 0, .int .i64 0, .int .i64 0, .int .i64 0, .int .i64 0, .int .i64 0, .int .i64 0, .int .i64 0, .int .i64 0, .int .i64 0, .int .i64 0, .int .i64 0, .int .i64 0, .int .i64 0, .int .i64 0, .slice none 0 0] 29)).alloc (.cells #[.slice sa (Mg.used l) sc] 22)).heap.size = w5.heap.size + 3 := by simp
    revert h1 h2 h3 hb6 hz6
    generalize World.alloc _ _ = W5
    intro h1 h2 h3 hb6 hz6
    clear hz
    gi_wp2
    have hw5 : w.heap.size ≤ W5.heap.size := by omega
    have hOS := own_below OS5.out hb6
    have hsrc : Bk.Src W5 (fun k => k = w5.heap.size + 1 ∨ W5.heap.size ≤ k) sa (Mg.used l) (fun x => .int .i64 ((Mg.order l).getD x 0 : Nat)) := by
      rcases own_nil_or hOS with ⟨_, h0⟩ | ⟨sg, sc2, e1, _, e2, e3, _⟩
      · exact fun i hi => by omega
      · simp only [Value.slice.injEq] at e1
        obtain ⟨rfl, _, rfl⟩ := e1
        have e4 := (OS5.out.lt sg rfl).2
        exact own_src hOS _ (fun i hi => by
          have hi2 : i < (Mg.order l).length := by rw [Mg.order_used]; exact hi
          rw [ivs_get _ _ (by rw [List.length_map]; exact hi2)]
          simp [List.getD, List.getElem?_map, List.getElem?_eq_getElem hi2]) _ (fun h => by omega)
    have hit := Bk.backI_iter Fence.wide 2 trivial rfl (by omega) (w5.heap.size + 2) sa (Mg.used l) sc (fun k => k = w5.heap.size + 1 ∨ W5.heap.size ≤ k) (fun x => .int .i64 ((Mg.order l).getD x 0 : Nat)) 22 (by omega) W5 (fun h => by omega) h3 hsrc
    have HTS : Hid (TS w W5 W5 (w5.heap.size + 1) w5.heap.size g (Mg.used l) 0 0 (Mg.lens (0 :: Mg.rise l) 16) (cP l []) (.slice none 0 0) (sP l [])) := Lib.hid ⟨h2, World.ownsRow_nil _ _ _ _, h1, by
      have e := own_base (own_below OT5.out hb6) (base' := w.heap.size) (fun j hj => by have := (OT5.out.lt j hj).1; omega)
      rwa [Nat.add_comm 1 (Mg.used l)] at e, below_then HB5.out hb6, Bk.Kc.refl _ _, Nat.le_refl _⟩
    have HX6 : Hid (W5.heap[w.heap.size]? = some (.cells (jcv (fun _ => 0) (.slice none 0 0)).toArray 29 (0, 0))) := Lib.hid (((below_then HB15.out hb6).block _ (by omega)).trans HX0.out)
    have hq1 := HB15.out.size
    clear h1 h2 h3 hb6 hsrc hOS
    generalize w5.heap.size = qb at *
    apply range_iterN (F := Fence.wide) (n := 3) (P := Try.prog) (gf := 51) (lb := #[.pointer (some ⟨qb + 2, 0, none⟩)]) (encs := fun x : Nat => #[.int .i64 (x : Nat), .int .i64 ((Mg.order l).getD x 0 : Nat)]) (hseq := hit)
      (I := fun pre W => pre = Bk.down (Mg.used l) pre.length ∧ ∃ v, TS w W5 W (qb + 1) qb g (Mg.used l) 0 0 (Mg.lens (0 :: Mg.rise l) 16) (cP l pre) v (sP l pre)) (Ix := fun _ _ _ => False)
    case has =>
      intro k x A K hK
      gi_wp2
      exact hK
    case hro => exact hro
    case h1 => omega
    case hg => rfl
    case hF => trivial
    case eg => exact enters_of Try.func51 (by kernel_rfl) rfl
    case hKt => exact fun h1 h2 => h1.trans h2
    case hKb => exact fun W l o o' hl hc => Bk.Kc.put W l o o' hl hc
    case hps => exact fun _ => rfl
    case hI =>
      rintro s A C row ⟨h1, v, h2⟩ hg hr
      exact ⟨h1, v, h2.abide hw5 hg hr⟩
    case hX => exact fun c s A C row hs _ _ => hs
    case h0 => exact ⟨rfl, _, HTS.out⟩
    case hout =>
      rintro c pre A _ h _
      exact h.elim
    case hend =>
      rintro xs A hS ⟨_, v, h2⟩ hK
      subst hS
      rw [cP_all, sP_all] at h2
      have hxA : A.heap[w.heap.size]? = some (.cells (jcv (fun _ => 0) (.slice none 0 0)).toArray 29 (0, 0)) := h2.kc _ _ HX6.out rfl (fun h => by omega)
      have hld := Lib.hid h2.whole
      have hK2 : (A.setRow w.heap.size (jcv (Cn.occ (Mg.tl l)) v).toArray).heap[W5.heap.size]? = some (.deferred (some [])) := (setRow_other A w.heap.size W5.heap.size _ (by omega)).trans hK
      have HL2 := Lib.hid (load_jcv (Cn.occ (Mg.tl l)) v ((A.setRow w.heap.size (jcv (Cn.occ (Mg.tl l)) v).toArray).putObj W5.heap.size (.deferred none)) w.heap.size ((World.putObj_heap_other (by omega)).trans (setRow_heap A w.heap.size _ _ _ _ hxA)))
      have HP : Hid (TblPost w l (.returned (.tuple #[codesV (Cn.occ (Mg.tl l)) v, .nilIface])) ((A.setRow w.heap.size (jcv (Cn.occ (Mg.tl l)) v).toArray).putObj W5.heap.size (.deferred none))) := Lib.hid (by
        have hbl : Below w.heap.size w (A.setRow w.heap.size (jcv (Cn.occ (Mg.tl l)) v).toArray) := below_setRow h2.bel (Nat.le_refl _) _
        refine ⟨hbl.grown (grownBy_putObj' _ W5.heap.size (.deferred none)) hbl.size (fun r e => by cases e; exact hw5), .inr ⟨HOK.out, v, rfl, ?_⟩⟩
        have c1 : Bk.Kc (fun k => k = w.heap.size) A (A.setRow w.heap.size (jcv (Cn.occ (Mg.tl l)) v).toArray) := fun i o hi _ hu => (setRow_other A w.heap.size i _ hu).trans hi
        have c2 := Bk.Kc.put (U := fun k => k = w.heap.size) (A.setRow w.heap.size (jcv (Cn.occ (Mg.tl l)) v).toArray) W5.heap.size _ (.deferred none) hK2 rfl
        exact own_base (Bk.own_kc h2.own (c1.trans c2) (fun j hj e => by have := (h2.own.lt j hj).1; omega)) (fun j hj => by have := (Bk.own_kc h2.own (c1.trans c2) (fun j hj e => by have := (h2.own.lt j hj).1; omega)).lt j hj; omega))
      have HXA := Lib.hid hxA
      have HK2 := Lib.hid hK2
      have hown1 := h2.own
      clear h2 hit hxA hK hK2
      have hcv : codesV (Cn.occ (Mg.tl l)) v = .agg (jcv (Cn.occ (Mg.tl l)) v).toArray := rfl
      rw [hcv] at hld HP HL2
      clear hcv
      have hjs : (jcv (fun _ => 0) (.slice none 0 0)).toArray.size = (jcv (Cn.occ (Mg.tl l)) v).toArray.size := by simp [jcv_length]
      have hj1 : (jcv (Cn.occ (Mg.tl l)) v).toArray.all (·.oneCell') = true := by
        rw [Array.all_eq_true_iff_forall_mem]
        intro u hu
        simp only [jcv, List.mem_toArray, List.mem_append, List.mem_map, List.mem_singleton] at hu
        rcases hu with ⟨n, _, rfl⟩ | rfl
        · rfl
        · rcases own_nil_or hown1 with ⟨e, _⟩ | ⟨g, c, e, _⟩ <;> (rw [e]; rfl)
      have hji : (Try.prog.info? 29).map (·.size) = some (jcv (Cn.occ (Mg.tl l)) v).toArray.size := by
        rw [List.size_toArray, jcv_length]; kernel_rfl
      clear hown1
      have HJS := Lib.hid hjs
      have HJ1 := Lib.hid hj1
      have HJI := Lib.hid hji
      clear hjs hj1 hji
      generalize (jcv (Cn.occ (Mg.tl l)) v).toArray = C at *
      gi_wp2_with (first | (refine Bk.wplIn_load rfl 29 _ rfl ⟨qb + 1, 0, none⟩ rfl _ hld.out ?_) | (refine Bk.wplIn_store_row rfl 29 _ _ rfl w.heap.size C rfl rfl _ _ HXA.out HJI.out HJS.out HJ1.out ?_))
      rw [hz6] at HK2 HL2 HP
      refine ⟨by simp, .inl ⟨_, _, rfl, run_takeDeferred HK2.out, ?_⟩⟩
      exact ⟨_, tbl_results2 _ _ _ _ _ rfl rfl HL2.out, by exact HP.out⟩
    case hbo =>
      rintro k pre x A ⟨h1, v, h2⟩ ⟨n1, n3, n2⟩
      exact absurd n1 (by omega)
  gi_wp2_with fail
  refine ⟨trivial, (Bk.backI_in Fence.wide 2 trivial rfl _ _ _ _ rfl _).mono ?_⟩
  rintro e w' ⟨rfl, rfl⟩
  have hz : ((w5.alloc (.cells #[.slice (some ⟨g, 1, none⟩) (Mg.used l) vc] 22)).alloc (.cells #[.int .i64 0, .int .i64 0, .int .i64 0, .int .i64 0, .int .i64 0, .int .i64 0, .int .i64 0, .int .i64 0, .int .i64 0, .int .i64 0, .int .i64 0, .int .i64 0, .int .i64 0, .int .i64 0, .int .i64 0, .int .i64 0, .slice none 0 0] 29)).heap.size = w5.heap.size + 2 := by simp
  have h1 : Boxed (((w5.alloc (.cells #[.slice (some ⟨g, 1, none⟩) (Mg.used l) vc] 22)).alloc (.cells #[.int .i64 0, .int .i64 0, .int .i64 0, .int .i64 0, .int .i64 0, .int .i64 0, .int .i64 0, .int .i64 0, .int .i64 0, .int .i64 0, .int .i64 0, .int .i64 0, .int .i64 0, .int .i64 0, .int .i64 0, .int .i64 0, .slice none 0 0] 29)).alloc (.cells #[.slice sa (Mg.used l) sc] 22)) w5.heap.size 22 (.slice (some ⟨g, 1, none⟩) (Mg.used l) vc) := Boxed.alloc (Boxed.alloc (World.alloc_heap_new w5 _) _) _
  have h2 : (((w5.alloc (.cells #[.slice (some ⟨g, 1, none⟩) (Mg.used l) vc] 22)).alloc (.cells #[.int .i64 0, .int .i64 0, .int .i64 0, .int .i64 0, .int .i64 0, .int .i64 0, .int .i64 0, .int .i64 0, .int .i64 0, .int .i64 0, .int .i64 0, .int .i64 0, .int .i64 0, .int .i64 0, .int .i64 0, .int .i64 0, .slice none 0 0] 29)).alloc (.cells #[.slice sa (Mg.used l) sc] 22)).heap[w5.heap.size + 1]? = some (.cells (jcv (fun _ => 0) (.slice none 0 0)).toArray 29 (0, 0)) := by
    refine (Below.heap_alloc _ _ _ (by rw [hz]; omega)).trans ?_
    exact heap_alloc2_new _ _ _
  have h3 : Boxed (((w5.alloc (.cells #[.slice (some ⟨g, 1, none⟩) (Mg.used l) vc] 22)).alloc (.cells #[.int .i64 0, .int .i64 0, .int .i64 0, .int .i64 0, .int .i64 0, .int .i64 0, .int .i64 0, .int .i64 0, .int .i64 0, .int .i64 0, .int .i64 0, .int .i64 0, .int .i64 0, .int .i64 0, .int .i64 0, .int .i64 0, .slice none 0 0] 29)).alloc (.cells #[.slice sa (Mg.used l) sc] 22)) (w5.heap.size + 2) 22 (.slice sa (Mg.used l) sc) := by rw [← hz]; exact World.alloc_heap_new _ _
  have hb6 : Below w5.heap.size w5 (((w5.alloc (.cells #[.slice (some ⟨g, 1, none⟩) (Mg.used l) vc] 22)).alloc (.cells #[.int .i64 0, .int .i64 0, .int .i64 0, .int .i64 0, .int .i64 0, .int .i64 0, .int .i64 0, .int .i64 0, .int .i64 0, .int .i64 0, .int .i64 0, .int .i64 0, .int .i64 0, .int .i64 0, .int .i64 0, .int .i64 0, .slice none 0 0] 29)).alloc (.cells #[.slice sa (Mg.used l) sc] 22)) := (below_alloc2 w5 _ _).alloc (by simp; omega) _
  rw [hz]
  have hz6 : (((w5.alloc (.cells #[.slice (some ⟨g, 1, none⟩) (Mg.used l) vc] 22)).alloc (.cells #[.int .i64 0, .int .i64 0, .int .i64 0, .int .i64 0, .int .i64 0, .int .i64 0, .int .i64 0, .int .i64 0, .int .i64 0, .int .i64 0, .int .i64 0, .int .i64 0, .int .i64 0, .int .i64 0, .int .i64 0, .int .i64 0, .slice none 0 0] 29)).alloc (.cells #[.slice sa (Mg.used l) sc] 22)).heap.size = w5.heap.size + 3 := by simp
  revert h1 h2 h3 hb6 hz6
  generalize World.alloc _ _ = W5
  intro h1 h2 h3 hb6 hz6
  clear hz
  gi_wp2
  have hw5 : w.heap.size ≤ W5.heap.size := by omega
  have hOS := own_below OS5.out hb6
  have hsrc : Bk.Src W5 (fun k => k = w5.heap.size + 1 ∨ W5.heap.size ≤ k) sa (Mg.used l) (fun x => .int .i64 ((Mg.order l).getD x 0 : Nat)) := by
    rcases own_nil_or hOS with ⟨_, h0⟩ | ⟨sg, sc2, e1, _, e2, e3, _⟩
    · exact fun i hi => by omega
    · simp only [Value.slice.injEq] at e1
      obtain ⟨rfl, _, rfl⟩ := e1
      have e4 := (OS5.out.lt sg rfl).2
      exact own_src hOS _ (fun i hi => by
        have hi2 : i < (Mg.order l).length := by rw [Mg.order_used]; exact hi
        rw [ivs_get _ _ (by rw [List.length_map]; exact hi2)]
        simp [List.getD, List.getElem?_map, List.getElem?_eq_getElem hi2]) _ (fun h => by omega)
  have hit := Bk.backI_iter Fence.wide 2 trivial rfl (by omega) (w5.heap.size + 2) sa (Mg.used l) sc (fun k => k = w5.heap.size + 1 ∨ W5.heap.size ≤ k) (fun x => .int .i64 ((Mg.order l).getD x 0 : Nat)) 22 (by omega) W5 (fun h => by omega) h3 hsrc
  have HTS : Hid (TS w W5 W5 (w5.heap.size + 1) w5.heap.size g (Mg.used l) vc 1 (Mg.lens (0 :: Mg.rise l) 16) (cP l []) (.slice none 0 0) (sP l [])) := Lib.hid ⟨h2, World.ownsRow_nil _ _ _ _, h1, by
    have e := own_base (own_below OT5.out hb6) (base' := w.heap.size) (fun j hj => by have := (OT5.out.lt j hj).1; omega)
    rwa [Nat.add_comm 1 (Mg.used l)] at e, below_then HB5.out hb6, Bk.Kc.refl _ _, Nat.le_refl _⟩
  have HX6 : Hid (W5.heap[w.heap.size]? = some (.cells (jcv (fun _ => 0) (.slice none 0 0)).toArray 29 (0, 0))) := Lib.hid (((below_then HB15.out hb6).block _ (by omega)).trans HX0.out)
  have hq1 := HB15.out.size
  clear h1 h2 h3 hb6 hsrc hOS
  generalize w5.heap.size = qb at *
  apply range_iterN (F := Fence.wide) (n := 3) (P := Try.prog) (gf := 51) (lb := #[.pointer (some ⟨qb + 2, 0, none⟩)]) (encs := fun x : Nat => #[.int .i64 (x : Nat), .int .i64 ((Mg.order l).getD x 0 : Nat)]) (hseq := hit)
    (I := fun pre W => pre = Bk.down (Mg.used l) pre.length ∧ ∃ v, TS w W5 W (qb + 1) qb g (Mg.used l) vc 1 (Mg.lens (0 :: Mg.rise l) 16) (cP l pre) v (sP l pre)) (Ix := fun _ _ _ => False)
  case has =>
    intro k x A K hK
    gi_wp2
    exact hK
  case hro => exact hro
  case h1 => omega
  case hg => rfl
  case hF => trivial
  case eg => exact enters_of Try.func51 (by kernel_rfl) rfl
  case hKt => exact fun h1 h2 => h1.trans h2
  case hKb => exact fun W l o o' hl hc => Bk.Kc.put W l o o' hl hc
  case hps => exact fun _ => rfl
  case hI =>
    rintro s A C row ⟨h1, v, h2⟩ hg hr
    exact ⟨h1, v, h2.abide hw5 hg hr⟩
  case hX => exact fun c s A C row hs _ _ => hs
  case h0 => exact ⟨rfl, _, HTS.out⟩
  case hout =>
    rintro c pre A _ h _
    exact h.elim
  case hend =>
    rintro xs A hS ⟨_, v, h2⟩ hK
    subst hS
    rw [cP_all, sP_all] at h2
    have hxA : A.heap[w.heap.size]? = some (.cells (jcv (fun _ => 0) (.slice none 0 0)).toArray 29 (0, 0)) := h2.kc _ _ HX6.out rfl (fun h => by omega)
    have hld := Lib.hid h2.whole
    have hK2 : (A.setRow w.heap.size (jcv (Cn.occ (Mg.tl l)) v).toArray).heap[W5.heap.size]? = some (.deferred (some [])) := (setRow_other A w.heap.size W5.heap.size _ (by omega)).trans hK
    have HL2 := Lib.hid (load_jcv (Cn.occ (Mg.tl l)) v ((A.setRow w.heap.size (jcv (Cn.occ (Mg.tl l)) v).toArray).putObj W5.heap.size (.deferred none)) w.heap.size ((World.putObj_heap_other (by omega)).trans (setRow_heap A w.heap.size _ _ _ _ hxA)))
    have HP : Hid (TblPost w l (.returned (.tuple #[codesV (Cn.occ (Mg.tl l)) v, .nilIface])) ((A.setRow w.heap.size (jcv (Cn.occ (Mg.tl l)) v).toArray).putObj W5.heap.size (.deferred none))) := Lib.hid (by
      have hbl : Below w.heap.size w (A.setRow w.heap.size (jcv (Cn.occ (Mg.tl l)) v).toArray) := below_setRow h2.bel (Nat.le_refl _) _
      refine ⟨hbl.grown (grownBy_putObj' _ W5.heap.size (.deferred none)) hbl.size (fun r e => by cases e; exact hw5), .inr ⟨HOK.out, v, rfl, ?_⟩⟩
      have c1 : Bk.Kc (fun k => k = w.heap.size) A (A.setRow w.heap.size (jcv (Cn.occ (Mg.tl l)) v).toArray) := fun i o hi _ hu => (setRow_other A w.heap.size i _ hu).trans hi
      have c2 := Bk.Kc.put (U := fun k => k = w.heap.size) (A.setRow w.heap.size (jcv (Cn.occ (Mg.tl l)) v).toArray) W5.heap.size _ (.deferred none) hK2 rfl
      exact own_base (Bk.own_kc h2.own (c1.trans c2) (fun j hj e => by have := (h2.own.lt j hj).1; omega)) (fun j hj => by have := (Bk.own_kc h2.own (c1.trans c2) (fun j hj e => by have := (h2.own.lt j hj).1; omega)).lt j hj; omega))
    have HXA := Lib.hid hxA
    have HK2 := Lib.hid hK2
    have hown1 := h2.own
    clear h2 hit hxA hK hK2
    have hcv : codesV (Cn.occ (Mg.tl l)) v = .agg (jcv (Cn.occ (Mg.tl l)) v).toArray := rfl
    rw [hcv] at hld HP HL2
    clear hcv
    have hjs : (jcv (fun _ => 0) (.slice none 0 0)).toArray.size = (jcv (Cn.occ (Mg.tl l)) v).toArray.size := by simp [jcv_length]
    have hj1 : (jcv (Cn.occ (Mg.tl l)) v).toArray.all (·.oneCell') = true := by
      rw [Array.all_eq_true_iff_forall_mem]
      intro u hu
      simp only [jcv, List.mem_toArray, List.mem_append, List.mem_map, List.mem_singleton] at hu
      rcases hu with ⟨n, _, rfl⟩ | rfl
      · rfl
      · rcases own_nil_or hown1 with ⟨e, _⟩ | ⟨g, c, e, _⟩ <;> (rw [e]; rfl)
    have hji : (Try.prog.info? 29).map (·.size) = some (jcv (Cn.occ (Mg.tl l)) v).toArray.size := by
      rw [List.size_toArray, jcv_length]; kernel_rfl
    clear hown1
    have HJS := Lib.hid hjs
    have HJ1 := Lib.hid hj1
    have HJI := Lib.hid hji
    clear hjs hj1 hji
    generalize (jcv (Cn.occ (Mg.tl l)) v).toArray = C at *
    gi_wp2_with (first | (refine Bk.wplIn_load rfl 29 _ rfl ⟨qb + 1, 0, none⟩ rfl _ hld.out ?_) | (refine Bk.wplIn_store_row rfl 29 _ _ rfl w.heap.size C rfl rfl _ _ HXA.out HJI.out HJS.out HJ1.out ?_))
    rw [hz6] at HK2 HL2 HP
    refine ⟨by simp, .inl ⟨_, _, rfl, run_takeDeferred HK2.out, ?_⟩⟩
    exact ⟨_, tbl_results2 _ _ _ _ _ rfl rfl HL2.out, by exact HP.out⟩
  case hbo =>
    rintro k pre x A ⟨h1, v, h2⟩ ⟨n1, n3, n2⟩
    have hx : x < Mg.used l := by omega
    have hr1 := Mg.tl_range l (by omega) x hx
    obtain ⟨t, ht⟩ : ∃ t : Nat, (Mg.tl l).getD x 0 = ((t + 1 : Nat) : Int) := ⟨((Mg.tl l).getD x 0).toNat - 1, by omega⟩
    have ht16 : t < 16 := by omega
    have hcP := Lib.hid (cP_snoc l pre x t ht)
    have c1 : A.cell? ⟨g, 1 + x, none⟩ = some (.int .i64 ((t : Int) + 1)) := by
      have e := h2.lo.cellAt (1 + x) (by omega)
      rw [ivs_get _ _ (by rw [HLT.out, List.length_cons, Mg.rise_length]; omega), Nat.add_comm 1 x, ← Mg.tl_get l x hx, ht] at e
      rw [Nat.add_comm 1 x]
      exact e
    obtain ⟨c2, f2, c3, f3⟩ := h2.at t ht16
    have hb := Cn.occ_le (pre.map fun x => (Mg.tl l).getD x 0) t
    rw [List.length_map] at hb
    have hcz : 0 ≤ cP l pre t ∧ cP l pre t ≤ 256 := by unfold cP; omega
    have hbx := h2.ln.cell
    have H2 := Lib.hid h2
    have hs := Mg.order_lt l ((Mg.order l).getD x 0) (by
      have hx2 : x < (Mg.order l).length := by rw [Mg.order_used]; exact hx
      simp [List.getD, List.getElem?_eq_getElem hx2])
    rw [HL.out] at hs
    have hsP := Lib.hid (sP_snoc l pre x)
    have H3 := Lib.hid (h2.bump (c' := cP l (pre ++ [x])) (by omega) (by omega) (by omega) (by omega) t ht16 hcP.out)
    clear h2 hb hr1 ht
    rw [show (Mg.order l)[x]?.getD 0 = (Mg.order l).getD x 0 by simp [List.getD]]
    generalize hz : cP l pre t = z at *
    have HZ := Lib.hid hz
    clear hz
    generalize (Mg.order l).getD x 0 = s at *
    have e256 : (s : Int) % 256 = (s : Int) := by omega
    have H4 := Lib.hid (H3.out.alloc (.cells #[.int .u8 (s : Nat)] 5))
    have hzA := H4.out.sz
    have hsl : (sP l pre).length ≤ 256 := by unfold sP; rw [List.length_map]; omega
    have hsr : SrcRow ((A.setCell ⟨qb + 1, t, none⟩ (.int .i64 (z + 1))).alloc (.cells #[.int .u8 (s : Nat)] 5)) (some ⟨A.heap.size, 0, none⟩) 1 1 (bvs [UInt8.ofNat s]) 1 := by
      have e := src_y (A.setCell ⟨qb + 1, t, none⟩ (.int .i64 (z + 1))) s (by omega)
      rwa [show (A.setCell ⟨qb + 1, t, none⟩ (.int .i64 (z + 1))).heap.size = A.heap.size by simp] at e
    have HSR := Lib.hid hsr
    clear hsr
    have HNX : Hid (pre ++ [x] = Bk.down (Mg.used l) (pre ++ [x]).length) := Lib.hid (by
      rw [List.length_append, List.length_singleton, Bk.down_succ, ← h1]
      congr 2; omega)
    have HPS := Lib.hid hsP.out
    clear h1 n1 n2 n3 hit
    gi_wp2_with (gi_at_builtin; refine wplIn_app tyY rfl _ _ rfl H4.out.own HSR.out rfl rfl (by omega) (by omega) (by omega) hzA ?_; intro v4 w4 own4 c4 f4; rw [← bvs_append, ← hsP.out] at own4; obtain ⟨a4, k4, rfl, _⟩ := own_bs own4 (by omega); have hrow : w4.heap[qb + 1]? = some (.cells (jcv (cP l (pre ++ [x])) v).toArray 29 (0, 0)) := (c4.block (qb + 1) (by omega) (fun e => by have := (H4.out.own.lt _ e).1; omega)).trans H4.out.bx; have c6 : w4.cell? ⟨qb + 1, 16, none⟩ = some v := (by rw [cell_of_row _ _ _ _ _ (0, 0) hrow, List.getElem?_toArray, jcv_last]); have f6 : w4.frozen? ⟨qb + 1, 16, none⟩ = false := frozen_of_row _ _ _ _ _ hrow; have O4 := Lib.hid own4; have C4 := Lib.hid c4; clear own4 c4 f4 hrow)
    have own4 := O4.out
    have eL : (sP l pre).length + 1 = (sP l (pre ++ [x])).length := by rw [hsP.out]; simp
    rw [eL] at own4
    have HP := H4.out.put (by omega) (by omega) (by omega) (by omega) (by omega) (by omega) hw5 own4 C4.out
    have HKF := kf_set (H4.out.keeps (kf_alloc (kf_set (kf_refl W5.heap.size A) ⟨qb + 1, t, none⟩ (.int .i64 (z + 1))) (.cells #[.int .u8 (s : Nat)] 5)) C4.out) ⟨qb + 1, 16, none⟩ (.slice a4 (sP l (pre ++ [x])).length k4)
    rw [eL]
    refine ⟨HKF, ?_, HNX.out, _, HP⟩
    exact (((Bk.Kc.set (U := fun k => k = qb + 1 ∨ W5.heap.size ≤ k) A ⟨qb + 1, t, none⟩ (.inl rfl) _).trans (Bk.Kc.alloc _ _ _)).trans (fun i o hi _ hu => (C4.out.block i (Array.getElem?_eq_some_iff.1 hi).1 (fun e => hu (.inr (H4.out.own.lt i e).1))).trans hi)).trans (Bk.Kc.set (U := fun k => k = qb + 1 ∨ W5.heap.size ≤ k) w4 ⟨qb + 1, 16, none⟩ (.inl rfl) _)
end Go.Proofs.Ytcagdnajapcmkaa
end
