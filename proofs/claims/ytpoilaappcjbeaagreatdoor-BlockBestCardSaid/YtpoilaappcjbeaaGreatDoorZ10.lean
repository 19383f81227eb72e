/- What the laws ask of the best lengths. The document's codes as numbers: where each begins among 65536. Best lengths that are completed; lengths of kind 1. parse.Count: its contract. A slice of numbers behind changes elsewhere. -/
import Derived.Test.YtpoilaappcjbeaaGreatDoorZ9
set_option linter.unusedSimpArgs false
set_option linter.unusedVariables false
section
namespace Go.Proofs.YtpoilaappcjbeaaGreatDoor

namespace Mg
theorem rise_Pos (l : List Int) : Pos (rise l) := fun x hx => Int.le_of_lt (rise_pos l x hx)
theorem rise_get (l : List Int) (i : Nat) (hi : i < (order l).length) : (rise l).getD i 0 = l.getD ((order l).getD i 0) 0 := by
  simp [rise, List.getD, List.getElem?_eq_getElem hi]
section
variable {l : List Int} {L : Nat}
/-- Each length, by the symbol. -/
theorem lensOf_range (h0 : ∀ k, k < l.length → 0 ≤ l.getD k 0) (hL : 0 < L) (hu : used l ≤ 2 ^ L) (j : Nat) (hj : j < l.length) :
    0 ≤ (lensOf l L).getD j 0 ∧ (lensOf l L).getD j 0 ≤ L ∧ ((lensOf l L).getD j 0 = 0 ↔ l.getD j 0 = 0) ∧ (used l = 1 → (lensOf l L).getD j 0 ≤ 1) := by
  by_cases hp : 0 < l.getD j 0
  · obtain ⟨i, hi, rfl⟩ := order_at l j hj hp
    rw [lensOf_at l L i hi]
    have hr : i < (rise l).length := by rw [rise_length, ← order_used]; exact hi
    have h := lens_range (rise_up l) (rise_Pos l) hL (by rw [rise_length]; exact hu) i hr
    rw [rise_length] at h
    refine ⟨by omega, h.2.1, ⟨fun e => by omega, fun e => by omega⟩, fun e => by have := h.2.2 e; omega⟩
  · have := h0 j hj
    rw [lensOf_none l L j (fun h => hp h.2)]
    exact ⟨by omega, by omega, ⟨fun _ => by omega, fun _ => rfl⟩, fun _ => by omega⟩
/-- What stands more often has no greater length. -/
theorem lensOf_order (i k : Nat) (hi : i < l.length) (hk : k < l.length) (h : l.getD k 0 < l.getD i 0) (h0 : 0 < l.getD k 0) : (lensOf l L).getD i 0 ≤ (lensOf l L).getD k 0 := by
  obtain ⟨p, hp, rfl⟩ := order_at l i hi (by omega)
  obtain ⟨q, hq, rfl⟩ := order_at l k hk h0
  rw [lensOf_at l L p hp, lensOf_at l L q hq]
  have hpq : q ≤ p := by
    rcases Nat.lt_or_ge p q with hlt | hge
    · exfalso
      have ep : (order l).getD p 0 = (order l)[p] := by simp [List.getD, List.getElem?_eq_getElem hp]
      have eq : (order l).getD q 0 = (order l)[q] := by simp [List.getD, List.getElem?_eq_getElem hq]
      have hs := (List.pairwise_iff_getElem.1 (order_sort l)) p q hp hq hlt
      rw [leO_iff, ← ep, ← eq] at hs
      omega
    · exact hge
  exact lens_anti q p hpq (by rw [rise_length, ← order_used]; exact hp)
theorem lensOf_form (h0 : ∀ k, k < l.length → 0 ≤ l.getD k 0) (hL : 0 < L) (hL16 : L ≤ 16) (hl : l.length ≤ 512) (hu : used l ≤ 2 ^ L) : Cn.formB (lensOf l L) = true :=
  Cn.form_good _ (by rw [lensOf_length]; exact hl) (fun k hk => by
    rw [lensOf_length] at hk
    have := lensOf_range h0 hL hu k hk
    omega)
theorem sumg_take (g : Int → Nat) (l : List Int) : ∀ k, k ≤ l.length → sumg (fun _ z => ((g z : Nat) : Int)) l k = (((l.take k).map g).sum : Nat)
  | 0, _ => by simp [sumg]
  | k + 1, h => by
    rw [sumg, sumg_take g l k (by omega), List.take_succ_eq_append_getElem (by omega), List.map_append, List.sum_append]
    simp [List.getD, List.getElem?_eq_getElem (show k < l.length by omega)]
theorem part_zero : Cn.part 0 = 0 := rfl
/-- What the lengths leave free. -/
theorem lensOf_sum : ((Cn.sum (lensOf l L) : Nat) : Int) = SI (fun i => ((Cn.part ((lens (rise l) L).getD i 0) : Nat) : Int)) (used l) := by
  have h1 := sumg_take Cn.part (lensOf l L) l.length (by rw [lensOf_length]; exact Nat.le_refl _)
  rw [List.take_of_length_le (by rw [lensOf_length]; exact Nat.le_refl _)] at h1
  have h2 := scat_sum l.length (order l) (lens (rise l) L) (fun _ z => ((Cn.part z : Nat) : Int)) (fun _ => rfl) (order_nodup l) (order_lt l) _ (Nat.le_refl _)
  have e : ((Cn.sum (lensOf l L) : Nat) : Int) = sumg (fun _ z => ((Cn.part z : Nat) : Int)) (lensOf l L) l.length := by rw [h1]; rfl
  rw [e]
  refine h2.trans ?_
  rw [range_sum, order_used]
theorem lensOf_whole (hL : 0 < L) (hL16 : L ≤ 16) (hu : used l ≤ 2 ^ L) : (1 < used l → Cn.sum (lensOf l L) = 65536) ∧ (used l ≤ 1 → Cn.sum (lensOf l L) ≤ 32768) := by
  have h := lensOf_sum (l := l) (L := L)
  refine ⟨fun hn => ?_, fun hn => ?_⟩
  · rw [SI_nat] at h
    have h2 := lens_whole (rise_up l) (rise_Pos l) hL hL16 (by rw [rise_length]; exact hu) (by rw [rise_length]; exact hn)
    rw [rise_length] at h2
    rw [h2] at h
    exact_mod_cast h
  · rw [SI_nat] at h
    have : S (fun i => Cn.part ((lens (rise l) L).getD i 0)) (used l) ≤ 32768 := by
      match hm : used l, hn with
      | 0, _ => simp [S]
      | 1, _ =>
        have e := lens_one (R := rise l) (L := L) (by rw [rise_length]; omega) 0 (by rw [rise_length]; omega)
        simp only [S, e]
        decide
    omega
theorem lensOf_free (h0 : ∀ k, k < l.length → 0 ≤ l.getD k 0) (hL : 0 < L) (hL16 : L ≤ 16) (hl : l.length ≤ 512) (hu : used l ≤ 2 ^ L) : Cn.freeB (lensOf l L) = true ∧ (Cn.freeN (lensOf l L) = 0 ↔ 1 < used l) := by
  have hf := lensOf_form h0 hL hL16 hl hu
  obtain ⟨h1, h2⟩ := lensOf_whole (l := l) hL hL16 hu
  unfold Cn.freeB Cn.freeN
  rw [hf]
  simp only [Bool.true_and, if_true, decide_eq_true_eq]
  by_cases h : 1 < used l
  · have := h1 h
    exact ⟨by omega, ⟨fun _ => h, fun _ => by omega⟩⟩
  · have := h2 (by omega)
    exact ⟨by omega, ⟨fun _ => by omega, fun e => absurd e h⟩⟩
/-- What the lengths cost. -/
theorem dot_sumg (m : List Int) : ∀ k, dot l m k = sumg (fun j z => l.getD j 0 * z) m k
  | 0 => rfl
  | k + 1 => by rw [dot, sumg, dot_sumg m k]
theorem lensOf_cost : dot l (lensOf l L) l.length = SI (fun i => (rise l).getD i 0 * (lens (rise l) L).getD i 0) (used l) := by
  rw [dot_sumg]
  have h2 := scat_sum l.length (order l) (lens (rise l) L) (fun j z => l.getD j 0 * z) (fun _ => Int.mul_zero _) (order_nodup l) (order_lt l) _ (Nat.le_refl _)
  refine h2.trans ?_
  rw [range_sum, ← order_used]
  refine SI_congr _ (fun i hi => ?_)
  rw [rise_get l i hi]
/-- .. and that is what is taken of the last round. -/
theorem cost_back (R : List Int) (hn : 2 ≤ R.length) (hL : 0 < L) (hL2 : R.length ≤ 2 ^ L) : SI (fun i => R.getD i 0 * (lens R L).getD i 0) R.length = pre (wts (rnd R L)) (2 * R.length - 2) := by
  have hr := rnd_room R (by omega) L hL hL2
  rw [← back_val R L _ hr, val_cnt R _ (back_le R L _ hr)]
  refine SI_congr _ (fun i hi => ?_)
  rw [lens_big hn i hi]
end
end Mg
end Go.Proofs.YtpoilaappcjbeaaGreatDoor
end

section
namespace Go.Proofs.YtpoilaappcjbeaaGreatDoor
open Go.RowKit

namespace Cn
theorem numH_pad (b : List Bool) (k : Nat) : Bt.numH (b ++ List.replicate k false) = Bt.numH b * 2 ^ k := by
  induction k with
  | zero => simp
  | succ k ih => rw [List.replicate_succ', ← List.append_assoc, Bt.numH_snoc, ih, Nat.pow_succ]; simp; rw [Nat.mul_comm, Nat.mul_assoc]
theorem numH_incR (r : List Bool) (h : Bt.numH r.reverse + 1 < 2 ^ r.length) : Bt.numH (incR r).reverse = Bt.numH r.reverse + 1 := by
  induction r with
  | nil => simp [Bt.numH] at h
  | cons x r ih =>
    rw [List.reverse_cons, Bt.numH_snoc, List.length_cons, Nat.pow_succ] at h
    cases x
    · have e : incR (false :: r) = true :: r := rfl
      rw [e, List.reverse_cons, List.reverse_cons, Bt.numH_snoc, Bt.numH_snoc]; simp
    · have e : incR (true :: r) = false :: incR r := rfl
      simp only [Bool.toNat_true] at h
      rw [e, List.reverse_cons, List.reverse_cons, Bt.numH_snoc, Bt.numH_snoc, ih (by omega)]; simp; omega
theorem numH_plus (b : List Bool) (h : Bt.numH b + 1 < 2 ^ b.length) : Bt.numH (plus b) = Bt.numH b + 1 := by
  have := numH_incR b.reverse (by simpa using h)
  simpa [plus] using this
theorem fold_pre (m : List Int) : ∀ acc : List (List Bool), ∃ t, m.foldl (fun acc n => acc ++ [nxt acc n]) acc = acc ++ t := by
  induction m with
  | nil => exact fun acc => ⟨[], by simp⟩
  | cons n m ih =>
    intro acc
    obtain ⟨t, ht⟩ := ih (acc ++ [nxt acc n])
    exact ⟨nxt acc n :: t, by rw [List.foldl_cons, ht, List.append_assoc]; rfl⟩
theorem codes_pre (l m : List Int) : ∃ t, codes (l ++ m) = codes l ++ t := by
  obtain ⟨t, ht⟩ := fold_pre m (codes l)
  exact ⟨t, by rw [← ht]; simp [codes]⟩
theorem codes_at (zs : List Int) (k : Nat) (hk : k < zs.length) : (codes zs).getD k [] = nxt (codes (zs.take k)) (zs.getD k 0) := by
  obtain ⟨t, ht⟩ := codes_pre (zs.take (k + 1)) (zs.drop (k + 1))
  rw [List.take_append_drop] at ht
  have hl : (codes (zs.take k)).length = k := by rw [codes_length, List.length_take]; omega
  rw [ht, codes_take zs k hk]
  simp [List.getD, hl]
theorem part_eq (n : Int) (h : 1 ≤ n ∧ n ≤ 16) : part n = 2 ^ (16 - n.toNat) := by
  unfold part
  rw [if_neg (by omega)]
  have e : (65536 : Nat) = 2 ^ (16 - n.toNat) * 2 ^ n.toNat := by rw [← Nat.pow_add, show 16 - n.toNat + n.toNat = 16 by omega]
  rw [e, Nat.mul_div_cancel _ (Nat.pow_pos (by omega))]
theorem sum_take_le (zs : List Int) (k : Nat) : sum (zs.take k) ≤ sum zs := by
  have : sum zs = sum (zs.take k) + sum (zs.drop k) := by
    unfold sum
    rw [← List.sum_append, ← List.map_append, List.take_append_drop]
  omega
theorem sum_take_succ (zs : List Int) (k : Nat) (hk : k < zs.length) : sum (zs.take (k + 1)) = sum (zs.take k) + part (zs.getD k 0) := by
  rw [List.take_succ_eq_append_getElem hk, sum_snoc]; simp [List.getD, List.getElem?_eq_getElem hk]
/-- A code's length is the one asked for, and its number, in 65536ths, is where the ones ahead of it end. -/
theorem codes_val (zs : List Int) (hz : ∀ i, i < zs.length → 1 ≤ zs.getD i 0 ∧ zs.getD i 0 ≤ 16) (hs : ∀ i, i + 1 < zs.length → zs.getD i 0 ≤ zs.getD (i + 1) 0) (hk : sum zs ≤ 65536) :
    ∀ i, i < zs.length → ((codes zs).getD i []).length = (zs.getD i 0).toNat ∧ Bt.numH ((codes zs).getD i []) * 2 ^ (16 - (zs.getD i 0).toNat) = sum (zs.take i) := by
  intro i
  induction i with
  | zero =>
    intro hi
    rw [codes_at zs 0 hi]
    have e : nxt (codes (zs.take 0)) (zs.getD 0 0) = [] ++ List.replicate (zs.getD 0 0).toNat false := by simp [codes, nxt, pad]
    rw [e]
    refine ⟨by simp, ?_⟩
    rw [numH_pad]; simp [Bt.numH, sum]
  | succ i ih =>
    intro hi
    obtain ⟨h1, h2⟩ := ih (by omega)
    have hb := hz i (by omega)
    have hc := hz (i + 1) hi
    have ho := hs i hi
    have hl : (codes (zs.take (i + 1))).length = i + 1 := by rw [codes_length, List.length_take]; omega
    have hp : (codes (zs.take (i + 1))).getD i [] = (codes zs).getD i [] := by
      obtain ⟨t, ht⟩ := codes_pre (zs.take (i + 1)) (zs.drop (i + 1))
      rw [List.take_append_drop] at ht
      rw [ht]; simp only [List.getD]; rw [List.getElem?_append_left (by omega)]
    rw [codes_at zs (i + 1) hi, nxt_eq, from_succ _ i hl, hp]
    have s1 := sum_take_succ zs i (by omega)
    have s2 := sum_take_succ zs (i + 1) hi
    have s3 := sum_take_le zs (i + 1 + 1)
    rw [part_eq _ hb] at s1
    rw [part_eq _ hc] at s2
    generalize (codes zs).getD i [] = b at *
    obtain ⟨x, hx⟩ := Int.eq_ofNat_of_zero_le (show 0 ≤ zs.getD i 0 by omega)
    obtain ⟨y, hy⟩ := Int.eq_ofNat_of_zero_le (show 0 ≤ zs.getD (i + 1) 0 by omega)
    rw [hx] at h1 h2 s1 hb ho
    rw [hy] at s2 hc ho ⊢
    simp only [Int.toNat_natCast] at h1 h2 s1 s2 ⊢
    have hxy : x ≤ y := by omega
    have hy16 : y ≤ 16 := by omega
    have p1 : 2 ^ (16 - x) * 2 ^ x = 65536 := by rw [← Nat.pow_add, show 16 - x + x = 16 by omega]
    have p2 : 2 ^ (y - x) * 2 ^ (16 - y) = 2 ^ (16 - x) := by rw [← Nat.pow_add, show y - x + (16 - y) = 16 - x by omega]
    have p3 : 0 < 2 ^ (16 - y) := Nat.pow_pos (by omega)
    have hn : Bt.numH b + 1 < 2 ^ b.length := by
      rw [h1]
      refine Nat.lt_of_mul_lt_mul_left (a := 2 ^ (16 - x)) ?_
      rw [p1, Nat.mul_comm, Nat.add_mul, h2]
      omega
    refine ⟨by rw [List.length_append, plus_length, List.length_replicate, h1]; omega, ?_⟩
    rw [numH_pad, numH_plus b hn, plus_length, h1, Nat.mul_assoc, p2, Nat.add_mul, h2, s1]
    omega
end Cn
end Go.Proofs.YtpoilaappcjbeaaGreatDoor
end

section
namespace Go.Proofs.YtpoilaappcjbeaaGreatDoor

namespace Cn
theorem sum_cons (x : Int) (l : List Int) : sum (x :: l) = part x + sum l := by simp [sum]
theorem sum_set (n : Int) : ∀ (l : List Int) (j : Nat), j < l.length → l.getD j 0 = 0 → sum (l.set j n) = sum l + part n
  | [], j, hj, _ => by simp at hj
  | x :: l, 0, _, h => by
    have hx : x = 0 := by simpa using h
    subst hx
    have e : part 0 = 0 := rfl
    rw [List.set_cons_zero, sum_cons, sum_cons, e]; omega
  | x :: l, j + 1, hj, h => by
    rw [List.set_cons_succ, sum_cons, sum_cons, sum_set n l j (by simpa using hj) (by simpa using h)]; omega
end Cn
namespace Bc
/-- Lengths of kind 1. -/
def litL : List Int := List.replicate 144 8 ++ List.replicate 112 9 ++ List.replicate 24 7 ++ List.replicate 8 8
def dstL : List Int := List.replicate 32 5
theorem litL_length : litL.length = 288 := by simp only [litL, List.length_append, List.length_replicate]
theorem dstL_length : dstL.length = 32 := by simp only [dstL, List.length_replicate]
theorem free_litL : Cn.freeB litL = true := by decide +kernel
theorem free_dstL : Cn.freeB dstL = true := by decide +kernel
/-- Where the first 0 stands. -/
def fz (l : List Int) : Nat := l.findIdx fun x => x == 0
theorem fz_lt {l : List Int} {j : Nat} (hj : j < l.length) (h : l.getD j 0 = 0) : fz l < l.length :=
  List.findIdx_lt_length_of_exists ⟨l[j], List.getElem_mem hj, by
    have : l.getD j 0 = l[j] := by simp [List.getD, List.getElem?_eq_getElem hj]
    rw [this] at h; simp [h]⟩
theorem fz_is {l : List Int} (h : fz l < l.length) : l.getD (fz l) 0 = 0 := by
  have h1 := List.findIdx_getElem (p := fun x : Int => x == 0) (xs := l) (w := h)
  have e : l.getD (fz l) 0 = l[fz l] := by simp [List.getD, List.getElem?_eq_getElem h]
  rw [e]; exact eq_of_beq h1
theorem fz_of {l : List Int} {k : Nat} (hk : k < l.length) (h0 : l.getD k 0 = 0) (h : ∀ j, j < k → l.getD j 0 ≠ 0) : fz l = k := by
  have hl := fz_lt hk h0
  have hi := fz_is hl
  rcases Nat.lt_trichotomy (fz l) k with h1 | h1 | h1
  · exact absurd hi (h _ h1)
  · exact h1
  · have := List.not_of_lt_findIdx (p := fun x : Int => x == 0) (xs := l) (i := k) h1
    have e : l.getD k 0 = l[k] := by simp [List.getD, List.getElem?_eq_getElem hk]
    rw [e] at h0; simp [h0] at this
/-- The best lengths, completed. -/
def cmpl (C : List Int) (L : Nat) : List Int := if 1 < Mg.used C then Mg.lensOf C L else (Mg.lensOf C L).set (fz (Mg.lensOf C L)) 1
theorem cmpl_length (C : List Int) (L : Nat) : (cmpl C L).length = C.length := by
  unfold cmpl; split <;> simp [Mg.lensOf_length]
/-- Counts for which there are best lengths. -/
structure Co (C : List Int) (L : Nat) : Prop where
  h0 : ∀ k, k < C.length → 0 ≤ C.getD k 0
  hup : ∀ k, k < C.length → C.getD k 0 ≤ 1000000000
  hL : 0 < L
  h15 : L ≤ 15
  h2 : 2 ≤ C.length
  h300 : C.length ≤ 300
  hu : Mg.used C ≤ 2 ^ L
theorem used_all : ∀ (C : List Int), (∀ k, k < C.length → 0 < C.getD k 0) → Mg.used C = C.length
  | [], _ => rfl
  | x :: C, h => by
    have ih := used_all C (fun k hk => by have := h (k + 1) (by simpa using hk); simpa using this)
    have hx : 0 < x := by have := h 0 (by simp); simpa using this
    unfold Mg.used at ih ⊢
    rw [List.filter_cons_of_pos (by simpa using hx), List.length_cons, ih, List.length_cons]
theorem used_pos : ∀ (C : List Int) (k : Nat), k < C.length → 0 < C.getD k 0 → 0 < Mg.used C
  | [], k, h, _ => by simp at h
  | x :: C, 0, _, h => by
    unfold Mg.used
    rw [List.filter_cons_of_pos (by simpa using h)]; simp
  | x :: C, k + 1, hk, h => by
    have ih := used_pos C k (by simpa using hk) (by simpa using h)
    unfold Mg.used at ih ⊢
    by_cases hx : 0 < x
    · rw [List.filter_cons_of_pos (by simpa using hx)]; simp
    · rw [List.filter_cons_of_neg (by simpa using hx)]; exact ih
section
variable {C : List Int} {L : Nat}
theorem Co.lens (h : Co C L) (j : Nat) (hj : j < C.length) : 0 ≤ (Mg.lensOf C L).getD j 0 ∧ (Mg.lensOf C L).getD j 0 ≤ L ∧ ((Mg.lensOf C L).getD j 0 = 0 ↔ C.getD j 0 = 0) :=
  have := Mg.lensOf_range h.h0 h.hL h.hu j hj
  ⟨this.1, this.2.1, this.2.2.1⟩
theorem Co.zero (h : Co C L) (hu : ¬ 1 < Mg.used C) : fz (Mg.lensOf C L) < C.length := by
  by_cases hx : ∃ k, k < C.length ∧ C.getD k 0 = 0
  · obtain ⟨k, hk, e⟩ := hx
    have := fz_lt (l := Mg.lensOf C L) (j := k) (by rw [Mg.lensOf_length]; exact hk) ((h.lens k hk).2.2.2 e)
    rwa [Mg.lensOf_length] at this
  · have := used_all C (fun k hk => by
      have h1 := h.h0 k hk
      have h2 : C.getD k 0 ≠ 0 := fun e => hx ⟨k, hk, e⟩
      omega)
    have := h.h2
    omega
theorem getD_set (l : List Int) (k j : Nat) (n : Int) (hk : k < l.length) : (l.set k n).getD j 0 = if k = j then n else l.getD j 0 := by
  by_cases h : k = j
  · subst h; simp [List.getD, List.getElem?_set, hk]
  · simp [List.getD, List.getElem?_set, h]
theorem Co.range (h : Co C L) (j : Nat) (hj : j < C.length) : 0 ≤ (cmpl C L).getD j 0 ∧ (cmpl C L).getD j 0 ≤ L ∧ (0 < C.getD j 0 → 0 < (cmpl C L).getD j 0) := by
  have h1 := h.lens j hj
  have h0 := h.h0 j hj
  have hL := h.hL
  unfold cmpl
  split
  · exact ⟨h1.1, h1.2.1, fun hp => by
      have : (Mg.lensOf C L).getD j 0 ≠ 0 := fun e => by have := h1.2.2.1 e; omega
      omega⟩
  · rename_i hu
    have hz := h.zero hu
    rw [getD_set _ _ _ _ (by rw [Mg.lensOf_length]; exact hz)]
    split
    · exact ⟨by omega, by omega, fun _ => by omega⟩
    · exact ⟨h1.1, h1.2.1, fun hp => by
        have : (Mg.lensOf C L).getD j 0 ≠ 0 := fun e => by have := h1.2.2.1 e; omega
        omega⟩
theorem Co.free (h : Co C L) : Cn.freeB (Mg.lensOf C L) = true ∧ (Cn.freeN (Mg.lensOf C L) = 0 ↔ 1 < Mg.used C) :=
  Mg.lensOf_free h.h0 h.hL (by have := h.h15; omega) (by have := h.h300; omega) h.hu
theorem form_of {l : List Int} (h5 : l.length ≤ 512) (h : ∀ k, k < l.length → 0 ≤ l.getD k 0 ∧ l.getD k 0 ≤ 16) : Cn.formB l = true := Cn.form_good l h5 h
theorem Co.cfree (h : Co C L) : Cn.freeB (cmpl C L) = true := by
  have h1 := h.free
  have hw := Mg.lensOf_whole (l := C) (L := L) h.hL (by have := h.h15; omega) h.hu
  by_cases hu : 1 < Mg.used C
  · unfold cmpl; rw [if_pos hu]; exact h1.1
  · have hr := h.range
    have hf : Cn.formB (cmpl C L) = true := Cn.form_good _ (by rw [cmpl_length]; have := h.h300; omega) (fun k hk => by
      rw [cmpl_length] at hk
      have := hr k hk
      have := h.h15
      omega)
    unfold Cn.freeB
    rw [hf, Bool.true_and]
    apply decide_eq_true
    have hz := h.zero hu
    unfold cmpl
    rw [if_neg hu, Cn.sum_set 1 _ _ (by rw [Mg.lensOf_length]; exact hz) (fz_is (by rw [Mg.lensOf_length]; exact hz))]
    have := hw.2 (by omega)
    have e : Cn.part 1 = 32768 := rfl
    rw [e]; omega
/-- Completed, they are whole. -/
theorem Co.whole (h : Co C L) (hp : 0 < Mg.used C) : Cn.freeN (cmpl C L) = 0 := by
  have hc := h.cfree
  have hw := Mg.lensOf_whole (l := C) (L := L) h.hL (by have := h.h15; omega) h.hu
  have hf : Cn.formB (cmpl C L) = true := by
    unfold Cn.freeB at hc
    rw [Bool.and_eq_true] at hc; exact hc.1
  unfold Cn.freeN
  rw [if_pos hf]
  by_cases hu : 1 < Mg.used C
  · unfold cmpl; rw [if_pos hu, hw.1 hu]; rfl
  · have hz := h.zero hu
    have h1 : Mg.used C = 1 := by omega
    have hs := Mg.lensOf_sum (l := C) (L := L)
    rw [Mg.SI_nat, h1] at hs
    have e := Mg.lens_one (R := Mg.rise C) (L := L) (by rw [Mg.rise_length]; omega) 0 (by rw [Mg.rise_length]; omega)
    simp only [Mg.S, e] at hs
    have e1 : Cn.part 1 = 32768 := rfl
    rw [e1] at hs
    unfold cmpl
    rw [if_neg hu, Cn.sum_set 1 _ _ (by rw [Mg.lensOf_length]; exact hz) (fz_is (by rw [Mg.lensOf_length]; exact hz)), e1]
    omega
end
end Bc
end Go.Proofs.YtpoilaappcjbeaaGreatDoor
end

section
namespace Go.Proofs.YtpoilaappcjbeaaGreatDoor
open Go.RowKit
namespace Pa
/-- One more of a symbol. -/
def bmp (l : List Int) (i : Nat) : List Int := l.set i (l.getD i 0 + 1)
/-- A token, counted. -/
def stC (p : List Int × List Int) (t : Tok) : List Int × List Int := if Tk.isTok t = true then (if t.1 = 0 then (bmp p.1 t.2.toNat, p.2) else (bmp p.1 (257 + Sy.lsy t.1.toNat), bmp p.2 (Sy.dsy t.2.toNat))) else p
def c0 : List Int × List Int := ((List.replicate 286 0).set 256 1, List.replicate 30 0)
def cts (ts : List Tok) (k : Nat) : List Int × List Int := (ts.take k).foldl stC c0
theorem cts_next (ts : List Tok) (k : Nat) (h : k < ts.length) : cts ts (k + 1) = stC (cts ts k) (ts.getD k (0, 0)) := by
  unfold cts
  rw [List.take_succ_eq_append_getElem h, List.foldl_append]
  simp [List.getD, List.getElem?_eq_getElem h]
/-- In range. -/
def In (m : Nat) (l : List Int) (n : Nat) : Prop := l.length = m ∧ ∀ i, 0 ≤ l.getD i 0 ∧ l.getD i 0 ≤ n
theorem In.bmp {m n i : Nat} {l : List Int} (h : In m l n) : In m (bmp l i) (n + 1) := by
  refine ⟨by simp [Pa.bmp, h.1], fun j => ?_⟩
  have h1 := h.2 j
  unfold Pa.bmp
  by_cases e : i = j
  · subst e
    by_cases hl : i < l.length
    · have : (l.set i (l.getD i 0 + 1)).getD i 0 = l.getD i 0 + 1 := by simp [List.getD, hl]
      rw [this]; omega
    · have : (l.set i (l.getD i 0 + 1)).getD i 0 = 0 := by simp [List.getD, List.getElem?_eq_none (by simpa using Nat.le_of_not_lt hl : (l.set i (l[i]?.getD 0 + 1)).length ≤ i)]
      rw [this]; omega
  · have : (l.set i (l.getD i 0 + 1)).getD j 0 = l.getD j 0 := by simp [List.getD, List.getElem?_set_ne e]
    rw [this]; omega
theorem In.up {m n : Nat} {l : List Int} (h : In m l n) : In m l (n + 1) := ⟨h.1, fun i => by have := h.2 i; omega⟩
theorem zs_get (n i : Nat) : (List.replicate n (0 : Int)).getD i 0 = 0 := by
  by_cases h : i < n <;> simp [List.getD, List.getElem?_replicate, h]
theorem one_get (n k i : Nat) : 0 ≤ ((List.replicate n (0 : Int)).set k 1).getD i 0 ∧ ((List.replicate n (0 : Int)).set k 1).getD i 0 ≤ (1 : Nat) := by
  by_cases e : k = i
  · subst e
    by_cases h : k < n
    · have : ((List.replicate n (0 : Int)).set k 1).getD k 0 = 1 := by simp [List.getD, h]
      rw [this]; omega
    · have : ((List.replicate n (0 : Int)).set k 1).getD k 0 = 0 := by simp [List.getD, List.getElem?_eq_none (by simpa using Nat.le_of_not_lt h : ((List.replicate n (0 : Int)).set k 1).length ≤ k)]
      rw [this]; omega
  · have : ((List.replicate n (0 : Int)).set k 1).getD i 0 = (List.replicate n (0 : Int)).getD i 0 := by simp [List.getD, List.getElem?_set_ne e]
    rw [this, zs_get]; omega
theorem in_one (n k : Nat) : In n ((List.replicate n (0 : Int)).set k 1) 1 := ⟨by rw [List.length_set, List.length_replicate], one_get n k⟩
theorem in_zs (n : Nat) : In n (List.replicate n (0 : Int)) 1 := ⟨List.length_replicate .., fun i => by rw [zs_get]; omega⟩
theorem in_c0 : In 286 c0.1 1 ∧ In 30 c0.2 1 := ⟨in_one 286 256, in_zs 30⟩
theorem in_step {p : List Int × List Int} {n : Nat} (t : Tok) (h : In 286 p.1 n ∧ In 30 p.2 n) : In 286 (stC p t).1 (n + 1) ∧ In 30 (stC p t).2 (n + 1) := by
  unfold stC
  split
  · split
    · exact ⟨h.1.bmp, h.2.up⟩
    · exact ⟨h.1.bmp, h.2.bmp⟩
  · exact ⟨h.1.up, h.2.up⟩
theorem in_cts (ts : List Tok) : ∀ k, k ≤ ts.length → In 286 (cts ts k).1 (k + 1) ∧ In 30 (cts ts k).2 (k + 1)
  | 0, _ => in_c0
  | k + 1, h => by rw [cts_next ts k (by omega)]; exact in_step _ (in_cts ts k (by omega))
theorem In.wf {m n : Nat} {l : List Int} (h : In m l n) (hn : n ≤ 1000000000) : Wf l := by
  intro x hx
  obtain ⟨i, hi, rfl⟩ := List.getElem_of_mem hx
  have := h.2 i
  rw [List.getD, List.getElem?_eq_getElem hi] at this
  simp only [Option.getD_some] at this
  simp only [Lit.wf, IntKind.min, IntKind.max, IntKind.signed, IntKind.bits, Bool.and_eq_true, decide_eq_true_eq, if_true]
  simp; omega
/-- Two rows of counts in memory. -/
structure Cn (w0 w : World) (g1 g2 : Nat) (L D : List Int) : Prop where
  own1 : w.ownsRow w0.heap.size 3 1 (.slice (some ⟨g1, 0, none⟩) 286 286) 286 (ivs L)
  own2 : w.ownsRow w0.heap.size 3 1 (.slice (some ⟨g2, 0, none⟩) 30 30) 30 (ivs D)
  ne : g1 ≠ g2
  bel : Below w0.heap.size w0 w
theorem own_fz {w : World} {base : Nat} {e : TypeId} {size n cap g : Nat} {xs : List Value} (h : w.ownsRow base e size (.slice (some ⟨g, 0, none⟩) n cap) n xs) (o : Nat) : w.frozen? ⟨g, o, none⟩ = false := by
  rcases h.2 with ⟨h', _⟩ | ⟨g', cap', cur, h', hb, hg, _⟩
  · simp at h'
  · simp only [Value.slice.injEq, Option.some.injEq, Addr.mk.injEq, and_true, true_and] at h'
    obtain ⟨rfl, rfl⟩ := h'
    exact frozen_of_row w g o _ _ hg
theorem Cn.mono {w0 w w' : World} {g1 g2 : Nat} {L D : List Int} (h : Cn w0 w g1 g2 L D) (hb : Below w.heap.size w w') : Cn w0 w' g1 g2 L D :=
  ⟨own_below h.own1 hb, own_below h.own2 hb, h.ne, h.bel.trans (hb.mono h.bel.size)⟩
theorem own_ot {w : World} {base : Nat} {e : TypeId} {size : Nat} {v : Value} {n : Nat} {xs : List Value} {g j : Nat} {z : Value} (h : w.ownsRow base e size v n xs) (hv : ∀ b, v.ownBlock = some b → b ≠ g) : (w.setCell ⟨g, j, none⟩ z).ownsRow base e size v n xs :=
  ((Ch.refl w (fun k => k = g)).set (p := ⟨g, j, none⟩) (.inl rfl) z).own h hv
theorem Cn.set1 {w0 w : World} {g1 g2 : Nat} {L D : List Int} (h : Cn w0 w g1 g2 L D) (j : Nat) (z : Int) : Cn w0 (w.setCell ⟨g1, j, none⟩ (.int .i64 z)) g1 g2 (L.set j z) D :=
  ⟨own_set h.own1 j z, own_ot h.own2 (fun b hb => by simp [Value.ownBlock] at hb; rw [← hb]; exact fun e => h.ne e.symm), h.ne, h.bel.setCell (p := ⟨g1, j, none⟩) (h.own1.lt g1 rfl).1 _⟩
theorem Cn.set2 {w0 w : World} {g1 g2 : Nat} {L D : List Int} (h : Cn w0 w g1 g2 L D) (j : Nat) (z : Int) : Cn w0 (w.setCell ⟨g2, j, none⟩ (.int .i64 z)) g1 g2 L (D.set j z) :=
  ⟨own_ot h.own1 (fun b hb => by simp [Value.ownBlock] at hb; rw [← hb]; exact h.ne), own_set h.own2 j z, h.ne, h.bel.setCell (p := ⟨g2, j, none⟩) (h.own2.lt g2 rfl).1 _⟩
theorem Cn.c1 {w0 w : World} {g1 g2 : Nat} {L D : List Int} (h : Cn w0 w g1 g2 L D) (j : Nat) (hj : j < 286) : w.cell? ⟨g1, j, none⟩ = some (.int .i64 (L.getD j 0)) := by
  have hl : L.length = 286 := by have := h.own1.1; rw [ivs_length] at this; omega
  rw [h.own1.cellAt j (by omega), ivs_get L j (by omega)]
theorem Cn.c2 {w0 w : World} {g1 g2 : Nat} {L D : List Int} (h : Cn w0 w g1 g2 L D) (j : Nat) (hj : j < 30) : w.cell? ⟨g2, j, none⟩ = some (.int .i64 (D.getD j 0)) := by
  have hl : D.length = 30 := by have := h.own2.1; rw [ivs_length] at this; omega
  rw [h.own2.cellAt j (by omega), ivs_get D j (by omega)]
end Pa
theorem mk_ints (W : World) (base n : Nat) (hb : base ≤ W.heap.size) (hn : n ≤ 1000) :
    ∃ W', (Instr.makeSlice 53 (.int .i64 (n : Int)) (.int .i64 (n : Int))).run Tryz.prog W = .ok (.slice (some ⟨W.heap.size, 0, none⟩) n n) W' ∧ W'.ownsRow base 3 1 (.slice (some ⟨W.heap.size, 0, none⟩) n n) n (ivs (List.replicate n 0)) ∧ W.grownBy W' none := by
  obtain ⟨i0, hi, hz0, hz1, hz2⟩ := info_parts tyI.info
  obtain ⟨W', h1, h2, h3⟩ := run_makeSlice_full (P := Tryz.prog) (w := W) base 53 3 i0 (.int .i64 0) 1 tyI.ht hi hz0 hz1 .i64 .i64 n (by omega) (by rw [hz2]; omega) (by unfold maxLen; omega) hb
  have e := made_ints1 n
  exact ⟨W', h1, by rw [← e]; exact h2, h3⟩
set_option maxRecDepth 100000 in
set_option maxHeartbeats 4000000 in
theorem count_any (a : Option Addr) (len cap : Nat) (ts : List Tok) (w : World) (h : Ts2 w a len cap ts) (hlen : len ≤ 1000000) :
    Calls Tryz.prog 73 #[.slice a len cap] w fun e w' => ∃ g1 g2, e = .returned (.tuple #[.slice (some ⟨g1, 0, none⟩) 286 286, .slice (some ⟨g2, 0, none⟩) 30 30]) ∧ Pa.Cn w w' g1 g2 (Pa.cts ts len).1 (Pa.cts ts len).2 := by
  have H := Lib.hid h
  have HLN := Lib.hid h.hlen
  clear h
  go_enter Tryz.func73, Tryz.ntmps73
  obtain ⟨w1, m1, o1, g1⟩ := mk_ints w.drew w.heap.size 286 (Nat.le_refl _) (by omega)
  have b1 : Below w.heap.size w w1 := (Below.drew (Below.refl w.heap.size w)).grown g1 (Nat.le_refl _) (by simp)
  obtain ⟨w2, m2, o2, g2⟩ := mk_ints w1 w.heap.size 30 b1.size (by omega)
  have b2 : Below w1.heap.size w1 w2 := (Below.refl _ _).grown g2 (Nat.le_refl _) (by simp)
  have n1 : (Instr.makeSlice 53 (.int .i64 286) (.int .i64 286)).run Tryz.prog w.drew = .ok (.slice (some ⟨w.heap.size, 0, none⟩) 286 286) w1 := m1
  have n2 : (Instr.makeSlice 53 (.int .i64 30) (.int .i64 30)).run Tryz.prog w1 = .ok (.slice (some ⟨w1.heap.size, 0, none⟩) 30 30) w2 := m2
  have hC : Pa.Cn w w2 w.heap.size w1.heap.size (List.replicate 286 0) (List.replicate 30 0) := ⟨own_below o1 b2, o2, by have := (o1.lt w.heap.size rfl).2; omega, below_then b1 b2⟩
  have HCA := Lib.hid hC
  clear m1 m2 o1 o2 g1 g2 b1 b2 hC
  obtain ⟨w3, m1, o1, g1⟩ := mk_ints w.drew w.heap.size 30 (Nat.le_refl _) (by omega)
  have b1 : Below w.heap.size w w3 := (Below.drew (Below.refl w.heap.size w)).grown g1 (Nat.le_refl _) (by simp)
  obtain ⟨w4, m2, o2, g2⟩ := mk_ints w3 w.heap.size 286 b1.size (by omega)
  have b2 : Below w3.heap.size w3 w4 := (Below.refl _ _).grown g2 (Nat.le_refl _) (by simp)
  have n3 : (Instr.makeSlice 53 (.int .i64 30) (.int .i64 30)).run Tryz.prog w.drew = .ok (.slice (some ⟨w.heap.size, 0, none⟩) 30 30) w3 := m1
  have n4 : (Instr.makeSlice 53 (.int .i64 286) (.int .i64 286)).run Tryz.prog w3 = .ok (.slice (some ⟨w3.heap.size, 0, none⟩) 286 286) w4 := m2
  have hC : Pa.Cn w w4 w3.heap.size w.heap.size (List.replicate 286 0) (List.replicate 30 0) := ⟨o2, own_below o1 b2, by have := (o1.lt w.heap.size rfl).2; omega, below_then b1 b2⟩
  have HCB := Lib.hid hC
  clear m1 m2 o1 o2 g1 g2 b1 b2 hC
  go_wp2
  go_region
  · clear n1 n2 n3 n4 HCB
    revert HCA
    generalize w1.heap.size = g2
    generalize w.heap.size = g1
    generalize w2 = W
    intro HC
    have hc0 := HC.out.c1 256 (by omega)
    have hf0 := Pa.own_fz HC.out.own1 256
    have HC0 : Hid (Pa.Cn w (W.setCell ⟨g1, 256, none⟩ (.int .i64 1)) g1 g2 (Pa.cts ts 0).1 (Pa.cts ts 0).2) := Lib.hid (HC.out.set1 256 1)
    clear HC
    go_wp2_with fail
    clear hc0 hf0
    revert HC0
    generalize W.setCell ⟨g1, 256, none⟩ (.int .i64 1) = W1
    intro HC0
    go_loopw [17] (fun i wr => ∃ k : Nat, k ≤ len ∧ i = .int .i64 ((k : Nat) : Int) ∧ Hid (Pa.Cn w wr g1 g2 (Pa.cts ts k).1 (Pa.cts ts k).2)) (fun i _ => len - (intOf i).toNat)
    case atStart => exact ⟨0, by omega, rfl, HC0⟩
    case round =>
      clear HC0
      obtain ⟨k, hk, rfl, HC⟩ := hrel
      by_cases hlt : k < len
      · obtain ⟨b, off, rfl, hbl, t0, t1⟩ := (H.out.mono HC.out.bel).at' k hlt
        have hwf := H.out.wf k hlt
        have hnx := Pa.cts_next ts k (by rw [HLN.out]; exact hlt)
        have hin := Pa.in_cts ts k (by rw [HLN.out]; exact hk)
        generalize ts.getD k (0, 0) = t at *
        obtain ⟨x, y⟩ := t
        simp only at t0 t1 hwf
        have hb5 := below_alloc wr (.cells #[.int .i64 x, .int .i64 y] 59)
        have hr5 : (wr.alloc (.cells #[.int .i64 x, .int .i64 y] 59)).heap[wr.heap.size]? = some (.cells #[.int .i64 x, .int .i64 y] 59 (0, 0)) := heap_alloc_last wr _
        have HS := Lib.hid (symbols_any09 (x, y) (wr.alloc (.cells #[.int .i64 x, .int .i64 y] 59)) hwf)
        have HNX := Lib.hid hnx
        have HIN := Lib.hid hin
        have HC5 := Lib.hid (HC.out.mono hb5)
        have HG := Lib.hid (And.intro (HC.out.own1.lt g1 rfl).2 (HC.out.own2.lt g2 rfl).2)
        clear hnx hin hwf hb5 HC hbl
        simp only at HS
        go_wp2_with fail
        refine HS.out.mono ?_
        rintro e w6 ⟨⟨v, ⟨sv, dv, rfl, hsd⟩, rfl⟩, hb6⟩
        have hr6 := (hb6.block wr.heap.size (by simp)).trans hr5
        have HC6 := Lib.hid (HC5.out.mono hb6)
        have x0 : w6.cell? ⟨wr.heap.size, 0, none⟩ = some (.int .i64 x) := by rw [cell_of_row _ _ _ _ _ (0, 0) hr6]; rfl
        clear hb6 hr6 hr5 HS HC5 t0 t1
        by_cases htok : Tk.isTok (x, y) = true
        · have htr := Tk.tok_range htok
          simp only at htr
          obtain ⟨hs0, hs1⟩ := hsd htok
          have HST : Hid (Pa.cts ts (k + 1) = if x = 0 then (Pa.bmp (Pa.cts ts k).1 y.toNat, (Pa.cts ts k).2) else (Pa.bmp (Pa.cts ts k).1 (257 + Sy.lsy x.toNat), Pa.bmp (Pa.cts ts k).2 (Sy.dsy y.toNat))) := Lib.hid (by rw [HNX.out]; unfold Pa.stC; rw [if_pos htok])
          rw [htok]
          clear hsd htok HNX
          by_cases hx : x = 0
          · obtain ⟨rfl, rfl⟩ := hs0 hx
            subst hx
            obtain ⟨j, rfl⟩ : ∃ j : Nat, sv = (j : Int) := ⟨sv.toNat, by omega⟩
            have hj : j < 286 := by omega
            have hcj := HC6.out.c1 j hj
            have hfj := Pa.own_fz HC6.out.own1 j
            have hvr := HIN.out.1.2 j
            have x1 : (w6.setCell ⟨g1, j, none⟩ (.int .i64 ((Pa.cts ts k).1.getD j 0 + 1))).cell? ⟨wr.heap.size, 0, none⟩ = some (.int .i64 0) := by rw [cell_set_other (by have := HG.out.1; omega)]; exact x0
            have HC7 := Lib.hid (HC6.out.set1 j ((Pa.cts ts k).1.getD j 0 + 1))
            have HE : Hid (Pa.cts ts (k + 1) = ((Pa.cts ts k).1.set j ((Pa.cts ts k).1.getD j 0 + 1), (Pa.cts ts k).2)) := Lib.hid (by rw [HST.out, if_pos rfl, Int.toNat_natCast]; rfl)
            have dj : decide (j < 286) = true := by simp; omega
            clear HST HC6 HIN hs0 hs1
            generalize (Pa.cts ts k).1.getD j 0 = z at *
            go_wp2
            go_roundw
            case rel => exact ⟨k + 1, by omega, by go_num, by rw [HE.out]; exact HC7⟩
            case measure => simp [intOf]; omega
          · obtain ⟨rfl, rfl⟩ := hs1 hx
            have hx3 : decide (0 < x) = true := by simp; omega
            have hj : 257 + Sy.lsy x.toNat < 286 := by have := Sy.cnt_le Sy.lb 28 x.toNat; unfold Sy.lsy; omega
            have hd29 : Sy.dsy y.toNat ≤ 29 := Sy.cnt_le _ _ _
            have HST2 : Hid (Pa.cts ts (k + 1) = (Pa.bmp (Pa.cts ts k).1 (257 + Sy.lsy x.toNat), Pa.bmp (Pa.cts ts k).2 (Sy.dsy y.toNat))) := Lib.hid (by rw [HST.out, if_neg hx])
            clear hs0 hs1 HST
            generalize 257 + Sy.lsy x.toNat = j at *
            generalize Sy.dsy y.toNat = q at *
            have hq : q < 30 := by omega
            have hcj := HC6.out.c1 j hj
            have hfj := Pa.own_fz HC6.out.own1 j
            have hvr := HIN.out.1.2 j
            have hvq := HIN.out.2.2 q
            have HC7 := Lib.hid (HC6.out.set1 j ((Pa.cts ts k).1.getD j 0 + 1))
            have HC8 := Lib.hid (HC7.out.set2 q ((Pa.cts ts k).2.getD q 0 + 1))
            have x1 : (w6.setCell ⟨g1, j, none⟩ (.int .i64 ((Pa.cts ts k).1.getD j 0 + 1))).cell? ⟨wr.heap.size, 0, none⟩ = some (.int .i64 x) := by rw [cell_set_other (by have := HG.out.1; omega)]; exact x0
            have hcq := HC7.out.c2 q hq
            have hfq := Pa.own_fz HC7.out.own2 q
            have HE : Hid (Pa.cts ts (k + 1) = ((Pa.cts ts k).1.set j ((Pa.cts ts k).1.getD j 0 + 1), (Pa.cts ts k).2.set q ((Pa.cts ts k).2.getD q 0 + 1))) := Lib.hid (by rw [HST2.out]; rfl)
            have dj : decide (j < 286) = true := by simp; omega
            have dq : decide (q < 30) = true := by simp; omega
            clear HST2 HC6 HIN HC7
            generalize (Pa.cts ts k).1.getD j 0 = z at *
            generalize (Pa.cts ts k).2.getD q 0 = z2 at *
            go_wp2
            go_roundw
            case rel => exact ⟨k + 1, by omega, by go_num, by rw [HE.out]; exact HC8⟩
            case measure => simp [intOf]; omega
        · have hf : Tk.isTok (x, y) = false := by simpa using htok
          rw [hf]
          have HE : Hid (Pa.cts ts (k + 1) = Pa.cts ts k) := Lib.hid (by rw [HNX.out]; unfold Pa.stC; rw [if_neg htok])
          clear hsd htok hf HNX HIN x0
          go_wp2
          go_roundw
          case rel => exact ⟨k + 1, by omega, by go_num, by rw [HE.out]; exact HC6⟩
          case measure => simp [intOf]; omega
      · obtain rfl : len = k := by omega
        go_wp2
        go_ret2
        exact ⟨g1, g2, rfl, HC.out⟩
  · clear n1 n2 n3 n4 HCA
    revert HCB
    generalize w3.heap.size = g1
    generalize w.heap.size = g2
    generalize w4 = W
    intro HC
    have hc0 := HC.out.c1 256 (by omega)
    have hf0 := Pa.own_fz HC.out.own1 256
    have HC0 : Hid (Pa.Cn w (W.setCell ⟨g1, 256, none⟩ (.int .i64 1)) g1 g2 (Pa.cts ts 0).1 (Pa.cts ts 0).2) := Lib.hid (HC.out.set1 256 1)
    clear HC
    go_wp2_with fail
    clear hc0 hf0
    revert HC0
    generalize W.setCell ⟨g1, 256, none⟩ (.int .i64 1) = W1
    intro HC0
    go_loopw [17] (fun i wr => ∃ k : Nat, k ≤ len ∧ i = .int .i64 ((k : Nat) : Int) ∧ Hid (Pa.Cn w wr g1 g2 (Pa.cts ts k).1 (Pa.cts ts k).2)) (fun i _ => len - (intOf i).toNat)
    case atStart => exact ⟨0, by omega, rfl, HC0⟩
    case round =>
      clear HC0
      obtain ⟨k, hk, rfl, HC⟩ := hrel
      by_cases hlt : k < len
      · obtain ⟨b, off, rfl, hbl, t0, t1⟩ := (H.out.mono HC.out.bel).at' k hlt
        have hwf := H.out.wf k hlt
        have hnx := Pa.cts_next ts k (by rw [HLN.out]; exact hlt)
        have hin := Pa.in_cts ts k (by rw [HLN.out]; exact hk)
        generalize ts.getD k (0, 0) = t at *
        obtain ⟨x, y⟩ := t
        simp only at t0 t1 hwf
        have hb5 := below_alloc wr (.cells #[.int .i64 x, .int .i64 y] 59)
        have hr5 : (wr.alloc (.cells #[.int .i64 x, .int .i64 y] 59)).heap[wr.heap.size]? = some (.cells #[.int .i64 x, .int .i64 y] 59 (0, 0)) := heap_alloc_last wr _
        have HS := Lib.hid (symbols_any09 (x, y) (wr.alloc (.cells #[.int .i64 x, .int .i64 y] 59)) hwf)
        have HNX := Lib.hid hnx
        have HIN := Lib.hid hin
        have HC5 := Lib.hid (HC.out.mono hb5)
        have HG := Lib.hid (And.intro (HC.out.own1.lt g1 rfl).2 (HC.out.own2.lt g2 rfl).2)
        clear hnx hin hwf hb5 HC hbl
        simp only at HS
        go_wp2_with fail
        refine HS.out.mono ?_
        rintro e w6 ⟨⟨v, ⟨sv, dv, rfl, hsd⟩, rfl⟩, hb6⟩
        have hr6 := (hb6.block wr.heap.size (by simp)).trans hr5
        have HC6 := Lib.hid (HC5.out.mono hb6)
        have x0 : w6.cell? ⟨wr.heap.size, 0, none⟩ = some (.int .i64 x) := by rw [cell_of_row _ _ _ _ _ (0, 0) hr6]; rfl
        clear hb6 hr6 hr5 HS HC5 t0 t1
        by_cases htok : Tk.isTok (x, y) = true
        · have htr := Tk.tok_range htok
          simp only at htr
          obtain ⟨hs0, hs1⟩ := hsd htok
          have HST : Hid (Pa.cts ts (k + 1) = if x = 0 then (Pa.bmp (Pa.cts ts k).1 y.toNat, (Pa.cts ts k).2) else (Pa.bmp (Pa.cts ts k).1 (257 + Sy.lsy x.toNat), Pa.bmp (Pa.cts ts k).2 (Sy.dsy y.toNat))) := Lib.hid (by rw [HNX.out]; unfold Pa.stC; rw [if_pos htok])
          rw [htok]
          clear hsd htok HNX
          by_cases hx : x = 0
          · obtain ⟨rfl, rfl⟩ := hs0 hx
            subst hx
            obtain ⟨j, rfl⟩ : ∃ j : Nat, sv = (j : Int) := ⟨sv.toNat, by omega⟩
            have hj : j < 286 := by omega
            have hcj := HC6.out.c1 j hj
            have hfj := Pa.own_fz HC6.out.own1 j
            have hvr := HIN.out.1.2 j
            have x1 : (w6.setCell ⟨g1, j, none⟩ (.int .i64 ((Pa.cts ts k).1.getD j 0 + 1))).cell? ⟨wr.heap.size, 0, none⟩ = some (.int .i64 0) := by rw [cell_set_other (by have := HG.out.1; omega)]; exact x0
            have HC7 := Lib.hid (HC6.out.set1 j ((Pa.cts ts k).1.getD j 0 + 1))
            have HE : Hid (Pa.cts ts (k + 1) = ((Pa.cts ts k).1.set j ((Pa.cts ts k).1.getD j 0 + 1), (Pa.cts ts k).2)) := Lib.hid (by rw [HST.out, if_pos rfl, Int.toNat_natCast]; rfl)
            have dj : decide (j < 286) = true := by simp; omega
            clear HST HC6 HIN hs0 hs1
            generalize (Pa.cts ts k).1.getD j 0 = z at *
            go_wp2
            go_roundw
            case rel => exact ⟨k + 1, by omega, by go_num, by rw [HE.out]; exact HC7⟩
            case measure => simp [intOf]; omega
          · obtain ⟨rfl, rfl⟩ := hs1 hx
            have hx3 : decide (0 < x) = true := by simp; omega
            have hj : 257 + Sy.lsy x.toNat < 286 := by have := Sy.cnt_le Sy.lb 28 x.toNat; unfold Sy.lsy; omega
            have hd29 : Sy.dsy y.toNat ≤ 29 := Sy.cnt_le _ _ _
            have HST2 : Hid (Pa.cts ts (k + 1) = (Pa.bmp (Pa.cts ts k).1 (257 + Sy.lsy x.toNat), Pa.bmp (Pa.cts ts k).2 (Sy.dsy y.toNat))) := Lib.hid (by rw [HST.out, if_neg hx])
            clear hs0 hs1 HST
            generalize 257 + Sy.lsy x.toNat = j at *
            generalize Sy.dsy y.toNat = q at *
            have hq : q < 30 := by omega
            have hcj := HC6.out.c1 j hj
            have hfj := Pa.own_fz HC6.out.own1 j
            have hvr := HIN.out.1.2 j
            have hvq := HIN.out.2.2 q
            have HC7 := Lib.hid (HC6.out.set1 j ((Pa.cts ts k).1.getD j 0 + 1))
            have HC8 := Lib.hid (HC7.out.set2 q ((Pa.cts ts k).2.getD q 0 + 1))
            have x1 : (w6.setCell ⟨g1, j, none⟩ (.int .i64 ((Pa.cts ts k).1.getD j 0 + 1))).cell? ⟨wr.heap.size, 0, none⟩ = some (.int .i64 x) := by rw [cell_set_other (by have := HG.out.1; omega)]; exact x0
            have hcq := HC7.out.c2 q hq
            have hfq := Pa.own_fz HC7.out.own2 q
            have HE : Hid (Pa.cts ts (k + 1) = ((Pa.cts ts k).1.set j ((Pa.cts ts k).1.getD j 0 + 1), (Pa.cts ts k).2.set q ((Pa.cts ts k).2.getD q 0 + 1))) := Lib.hid (by rw [HST2.out]; rfl)
            have dj : decide (j < 286) = true := by simp; omega
            have dq : decide (q < 30) = true := by simp; omega
            clear HST2 HC6 HIN HC7
            generalize (Pa.cts ts k).1.getD j 0 = z at *
            generalize (Pa.cts ts k).2.getD q 0 = z2 at *
            go_wp2
            go_roundw
            case rel => exact ⟨k + 1, by omega, by go_num, by rw [HE.out]; exact HC8⟩
            case measure => simp [intOf]; omega
        · have hf : Tk.isTok (x, y) = false := by simpa using htok
          rw [hf]
          have HE : Hid (Pa.cts ts (k + 1) = Pa.cts ts k) := Lib.hid (by rw [HNX.out]; unfold Pa.stC; rw [if_neg htok])
          clear hsd htok hf HNX HIN x0
          go_wp2
          go_roundw
          case rel => exact ⟨k + 1, by omega, by go_num, by rw [HE.out]; exact HC6⟩
          case measure => simp [intOf]; omega
      · obtain rfl : len = k := by omega
        go_wp2
        go_ret2
        exact ⟨g1, g2, rfl, HC.out⟩
end Go.Proofs.YtpoilaappcjbeaaGreatDoor
end

section
namespace Go.Proofs.YtpoilaappcjbeaaGreatDoor
open Go.RowKit

theorem Is.kept {w w' : World} {T : Nat → Prop} {a : Option Addr} {len cap : Nat} {l : List Int} (h : Is .i64 w a len cap l) (c : Ch w w' T) (hn : ∀ ad, a = some ad → ¬ T ad.block) : Is .i64 w' a len cap l :=
  ⟨h.hlen, h.hle, h.hnil, fun i hi => by
    obtain ⟨b, off, e, hlt, hc⟩ := h.at' i hi
    exact ⟨b, off, e, Nat.lt_of_lt_of_le hlt c.size, by rw [World.cell?_of_block (w := w) (c.block b hlt (hn _ e))]; exact hc⟩, h.wf⟩
theorem Is.blk {w : World} {a : Option Addr} {len cap : Nat} {l : List Int} (h : Is .i64 w a len cap l) (hp : 0 < len) : ∀ ad, a = some ad → ad.block < w.heap.size := by
  intro ad e
  obtain ⟨b, off, e2, hlt, _⟩ := h.at' 0 hp
  rw [e] at e2; cases e2; exact hlt
end Go.Proofs.YtpoilaappcjbeaaGreatDoor
end
