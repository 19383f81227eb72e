/- The best lengths of what stands equally often. -/
import Derived.Test.YtobmghppnlgjlaaLenFacts
namespace Go.Proofs.Ytobmghppnlgjlaa

namespace Mg
theorem S_le {f g : Nat → Nat} : ∀ n, (∀ i, i < n → f i ≤ g i) → S f n ≤ S g n
  | 0, _ => Nat.le_refl _
  | n + 1, h => by
    have h1 := S_le n (fun i hi => h i (by omega))
    have h2 := h n (by omega)
    rw [S, S]; omega
theorem S_eq {f g : Nat → Nat} : ∀ n, (∀ i, i < n → f i ≤ g i) → S g n ≤ S f n → ∀ i, i < n → f i = g i
  | 0, _, _, i, hi => by omega
  | n + 1, h, hs, i, hi => by
    have h1 := S_le n (fun i hi => h i (by omega))
    have h2 := h n (by omega)
    rw [S, S] at hs
    by_cases e : i = n
    · subst e; omega
    · exact S_eq n (fun i hi => h i (by omega)) (by omega) i (by omega)
theorem S_pos {f : Nat → Nat} : ∀ n, 0 < S f n → ∃ i, i < n ∧ 0 < f i
  | 0, h => by simp [S] at h
  | n + 1, h => by
    rw [S] at h
    by_cases hn : 0 < f n
    · exact ⟨n, by omega, hn⟩
    · obtain ⟨i, hi, hf⟩ := S_pos (f := f) n (by omega)
      exact ⟨i, by omega, hf⟩
/-- Lengths that are whole, and no greater than even ones, are two neighbours. -/
theorem runs_core (k0 P q n : Nat) (t : Nat → Nat) (hid : P * (n * k0 + 2 * (n - q)) + 65536 = n * (P * k0 + 2 * P)) (h1 : ∀ x, 1 ≤ x → x ≤ 16 → P * k0 + 2 * P ≤ 2 ^ (16 - x) + P * x) (h2 : ∀ x, 1 ≤ x → x ≤ 16 → P * k0 + 2 * P = 2 ^ (16 - x) + P * x → x = k0 ∨ x = k0 + 1)
    (ht : ∀ i, i < n → 1 ≤ t i ∧ t i ≤ 16) (hw : S (fun i => 2 ^ (16 - t i)) n = 65536) (hs : S t n ≤ n * k0 + 2 * (n - q)) : ∀ i, i < n → t i = k0 ∨ t i = k0 + 1 := by
  have he := S_eq (f := fun _ => P * k0 + 2 * P) (g := fun i => 2 ^ (16 - t i) + P * t i) n (fun i hi => h1 _ (ht i hi).1 (ht i hi).2) (by
    rw [S_const, S_add, hw, S_mul, ← hid]
    have := Nat.mul_le_mul_left P hs
    omega)
  exact fun i hi => h2 _ (ht i hi).1 (ht i hi).2 (he i hi)
set_option maxRecDepth 100000 in
theorem runs_two (k0 n : Nat) (hk : 1 ≤ k0 ∧ k0 ≤ 7) (hq : 2 ^ k0 ≤ n ∧ n < 2 ^ (k0 + 1)) (t : Nat → Nat) (ht : ∀ i, i < n → 1 ≤ t i ∧ t i ≤ 16) (hw : S (fun i => 2 ^ (16 - t i)) n = 65536) (hs : S t n ≤ n * k0 + 2 * (n - 2 ^ k0)) :
    (∀ i, i < n → t i = k0 ∨ t i = k0 + 1) ∧ (∃ i, i < n ∧ t i = k0) ∧ (n = 2 ^ k0 → ∀ i, i < n → t i = k0) ∧ (n ≠ 2 ^ k0 → ∃ i, i < n ∧ t i = k0 + 1) := by
  have hall : ∀ i, i < n → t i = k0 ∨ t i = k0 + 1 := by
    refine runs_core k0 (2 ^ (15 - k0)) (2 ^ k0) n t ?_ ?_ ?_ ht hw hs
    · obtain ⟨h1, h2⟩ := hk
      match k0, h1, h2, hq with
      | 1, _, _, hq => simp only [Nat.reducePow, Nat.reduceSub, Nat.reduceMul, Nat.reduceAdd] at hq ⊢; omega
      | 2, _, _, hq => simp only [Nat.reducePow, Nat.reduceSub, Nat.reduceMul, Nat.reduceAdd] at hq ⊢; omega
      | 3, _, _, hq => simp only [Nat.reducePow, Nat.reduceSub, Nat.reduceMul, Nat.reduceAdd] at hq ⊢; omega
      | 4, _, _, hq => simp only [Nat.reducePow, Nat.reduceSub, Nat.reduceMul, Nat.reduceAdd] at hq ⊢; omega
      | 5, _, _, hq => simp only [Nat.reducePow, Nat.reduceSub, Nat.reduceMul, Nat.reduceAdd] at hq ⊢; omega
      | 6, _, _, hq => simp only [Nat.reducePow, Nat.reduceSub, Nat.reduceMul, Nat.reduceAdd] at hq ⊢; omega
      | 7, _, _, hq => simp only [Nat.reducePow, Nat.reduceSub, Nat.reduceMul, Nat.reduceAdd] at hq ⊢; omega
    · have key : ∀ k : Fin 8, ∀ x : Fin 17, 1 ≤ k.val → 1 ≤ x.val → 2 ^ (15 - k.val) * k.val + 2 * 2 ^ (15 - k.val) ≤ 2 ^ (16 - x.val) + 2 ^ (15 - k.val) * x.val := by decide +kernel
      exact fun x h1 h2 => key ⟨k0, by omega⟩ ⟨x, by omega⟩ hk.1 h1
    · have key : ∀ k : Fin 8, ∀ x : Fin 17, 1 ≤ k.val → 1 ≤ x.val → 2 ^ (15 - k.val) * k.val + 2 * 2 ^ (15 - k.val) = 2 ^ (16 - x.val) + 2 ^ (15 - k.val) * x.val → x.val = k.val ∨ x.val = k.val + 1 := by decide +kernel
      exact fun x h1 h2 h3 => key ⟨k0, by omega⟩ ⟨x, by omega⟩ hk.1 h1 h3
  -- how many have the lesser length
  have hp : 2 ^ (16 - k0) = 2 ^ (15 - k0) + 2 ^ (15 - k0) ∧ 2 ^ (15 - k0) * 2 ^ (k0 + 1) = 65536 ∧ 0 < 2 ^ (15 - k0) := by
    refine ⟨?_, ?_, Nat.pow_pos (by omega)⟩
    · rw [show 16 - k0 = 15 - k0 + 1 by omega, Nat.pow_succ]; omega
    · rw [← Nat.pow_add, show 15 - k0 + (k0 + 1) = 16 by omega]
  have hA : 2 ^ (15 - k0) * (n + S (fun i => if t i = k0 then 1 else 0) n) = 65536 := by
    rw [Nat.mul_add, ← S_mul, Nat.mul_comm _ n, ← S_const (2 ^ (15 - k0)) n, ← S_add, ← hw]
    refine S_congr n (fun i hi => ?_)
    rcases hall i hi with h | h
    · rw [h, if_pos rfl, hp.1]; omega
    · rw [h, if_neg (by omega), show 16 - (k0 + 1) = 15 - k0 by omega]; omega
  have hA2 : n + S (fun i => if t i = k0 then 1 else 0) n = 2 ^ (k0 + 1) := Nat.eq_of_mul_eq_mul_left hp.2.2 (hA.trans hp.2.1.symm)
  rw [Nat.pow_succ] at hA2 hq
  have hle : S (fun i => if t i = k0 then 1 else 0) n ≤ S (fun _ => 1) n := S_le n (fun i _ => by split <;> omega)
  rw [S_const] at hle
  refine ⟨hall, ?_, fun e i hi => ?_, fun hne => ?_⟩
  · obtain ⟨i, hi, hf⟩ := S_pos (f := fun i => if t i = k0 then 1 else 0) n (by omega)
    refine ⟨i, hi, ?_⟩
    by_cases h : t i = k0
    · exact h
    · simp [h] at hf
  · have := S_eq (f := fun i => if t i = k0 then 1 else 0) (g := fun _ => 1) n (fun i _ => by split <;> omega) (by rw [S_const]; omega) i hi
    by_cases h : t i = k0
    · exact h
    · simp [h] at this
  · have hB : S (fun i => if t i = k0 then 0 else 1) n + S (fun i => if t i = k0 then 1 else 0) n = n * 1 := by
      rw [← S_add, ← S_const]
      exact S_congr n (fun i _ => by split <;> rfl)
    obtain ⟨i, hi, hf⟩ := S_pos (f := fun i => if t i = k0 then 0 else 1) n (by omega)
    refine ⟨i, hi, ?_⟩
    by_cases h : t i = k0
    · simp [h] at hf
    · exact (hall i hi).resolve_left h
/-- Even choices. -/
def flat (k0 n L : Nat) : List Nat := List.replicate k0 n ++ (2 * (n - 2 ^ k0)) :: List.replicate (L - k0 - 1) 0
theorem flat_length (k0 n L : Nat) (h : k0 + 1 ≤ L) : (flat k0 n L).length = L := by simp [flat]; omega
theorem T_zeros (z : Nat) : T (List.replicate z 0) = 0 := by
  induction z with
  | zero => rfl
  | succ z ih => rw [List.replicate_succ, T, ih]
theorem flat_T (k0 n L : Nat) (hq : 2 ^ k0 ≤ n) (h1 : 1 ≤ k0) : T (flat k0 n L) = 2 * n - 2 := by
  have key : ∀ j, j ≤ k0 → T (List.replicate j n ++ (2 * (n - 2 ^ k0)) :: List.replicate (L - k0 - 1) 0) + 2 ^ (k0 + 1 - j) = 2 * n := by
    intro j
    induction j with
    | zero => intro _; rw [List.replicate_zero, List.nil_append, T, T_zeros, Nat.sub_zero, Nat.pow_succ]; omega
    | succ j ih =>
      intro hj
      have := ih (by omega)
      rw [List.replicate_succ, List.cons_append, T]
      rw [show k0 + 1 - j = (k0 + 1 - (j + 1)) + 1 by omega, Nat.pow_succ] at this
      omega
  have := key k0 (Nat.le_refl _)
  rw [show k0 + 1 - k0 = 1 by omega] at this
  unfold flat; omega
theorem pre_same (c : Int) (n : Nat) : ∀ k, k ≤ n → pre (List.replicate n c) k = c * (k : Int)
  | 0, _ => by rw [pre_zero]; simp
  | k + 1, h => by
    rw [pre_succ _ k (by rw [List.length_replicate]; omega), pre_same c n k (by omega)]
    rw [List.getElem_replicate, Int.natCast_add, Int.mul_add]; simp
theorem val_same (c : Int) (n : Nat) : ∀ ks : List Nat, (∀ k ∈ ks, k ≤ n) → val (List.replicate n c) ks = c * ((ks.sum : Nat) : Int)
  | [], _ => by simp [val]
  | k :: ks, h => by
    have e : val (List.replicate n c) (k :: ks) = pre (List.replicate n c) k + val (List.replicate n c) ks := by simp [val]
    rw [e, val_same c n ks (fun x hx => h x (by simp [hx])), pre_same c n k (h k (by simp)), List.sum_cons, Int.natCast_add, Int.mul_add]
theorem sum_cnt (n : Nat) : ∀ ks : List Nat, (∀ k ∈ ks, k ≤ n) → ks.sum = S (cnt ks) n
  | [], _ => by
    have : S (cnt []) n = n * 0 := by rw [← S_const]; exact S_congr n (fun i _ => rfl)
    rw [this]; simp
  | k :: ks, h => by
    rw [List.sum_cons, sum_cnt n ks (fun x hx => h x (by simp [hx]))]
    have e : S (cnt (k :: ks)) n = S (fun i => (if i < k then 1 else 0) + cnt ks i) n := S_congr n (fun i _ => cnt_cons k ks i)
    rw [e, S_add]
    have hk := h k (by simp)
    have e2 : S (fun i => if i < k then 1 else 0) n + S (fun i => if i < k then 0 else 1) n = n * 1 := by
      rw [← S_add, ← S_const]
      exact S_congr n (fun i _ => by split <;> rfl)
    rw [S_from] at e2
    omega
/-- The best lengths of n symbols that stand equally often. -/
theorem runs_lens (c : Int) (hc : 0 < c) (n L k0 : Nat) (hn : 2 ≤ n) (hL : 8 ≤ L ∧ L ≤ 16) (hk : 1 ≤ k0 ∧ k0 ≤ 7) (hq : 2 ^ k0 ≤ n ∧ n < 2 ^ (k0 + 1)) :
    (∀ i, i < n → cnt (back (List.replicate n c) L (2 * n - 2)) i = k0 ∨ cnt (back (List.replicate n c) L (2 * n - 2)) i = k0 + 1) ∧ (∃ i, i < n ∧ cnt (back (List.replicate n c) L (2 * n - 2)) i = k0) ∧
    (n = 2 ^ k0 → ∀ i, i < n → cnt (back (List.replicate n c) L (2 * n - 2)) i = k0) ∧ (n ≠ 2 ^ k0 → ∃ i, i < n ∧ cnt (back (List.replicate n c) L (2 * n - 2)) i = k0 + 1) := by
  have hlen : (List.replicate n c).length = n := List.length_replicate
  have hU : Up (List.replicate n c) := by
    unfold Up
    rw [List.pairwise_replicate]; exact .inr (Int.le_refl _)
  have hP : Pos (List.replicate n c) := fun x hx => by rw [List.eq_of_mem_replicate hx]; omega
  have hp8 : 2 ^ (k0 + 1) ≤ 2 ^ L := Nat.pow_le_pow_right (by omega) (by omega)
  have hr := rnd_room (List.replicate n c) (by rw [hlen]; omega) L (by omega) (by rw [hlen]; omega)
  have hwh := lens_whole hU hP (L := L) (by omega) hL.2 (by rw [hlen]; omega) (by rw [hlen]; exact hn)
  have hrg := fun i hi => lens_range hU hP (L := L) (by omega) (by rw [hlen]; omega) i hi
  have hbl := back_le (List.replicate n c) L _ hr
  have hfl := flat_T k0 n L hq.1 hk.1
  have hfk : ∀ k ∈ flat k0 n L, k ≤ n := by
    intro k hk'
    unfold flat at hk'
    rw [Nat.pow_succ] at hq
    rcases List.mem_append.1 hk' with h | h
    · rw [List.eq_of_mem_replicate h]; exact Nat.le_refl _
    · rcases List.mem_cons.1 h with rfl | h
      · omega
      · rw [List.eq_of_mem_replicate h]; omega
  have hop := (back_opt hU hP (flat k0 n L) (by rw [hlen]; exact hfk)).2
  rw [hfl, flat_length k0 n L (by omega), val_same c n _ hfk] at hop
  have hbv := back_val (List.replicate n c) L _ hr
  rw [hlen] at hbv hbl hr hwh
  rw [val_same c n _ hbl, sum_cnt n _ hbl] at hbv
  rw [← hbv] at hop
  have hsum : S (cnt (back (List.replicate n c) L (2 * n - 2))) n ≤ (flat k0 n L).sum := by
    have := Int.le_of_mul_le_mul_left hop hc
    omega
  have hfs : (flat k0 n L).sum = n * k0 + 2 * (n - 2 ^ k0) := by
    simp [flat, List.sum_append, Nat.mul_comm]
  rw [hfs] at hsum
  refine runs_two k0 n hk hq _ (fun i hi => ?_) ?_ hsum
  · have h1 := hrg i (by rw [hlen]; exact hi)
    rw [lens_big (by rw [hlen]; exact hn) i (by rw [hlen]; exact hi), hlen] at h1
    omega
  · rw [← hwh]
    refine S_congr n (fun i hi => ?_)
    have h1 := hrg i (by rw [hlen]; exact hi)
    rw [lens_big (by rw [hlen]; exact hn) i (by rw [hlen]; exact hi), hlen] at h1 ⊢
    rw [part_nat _ (by omega) (by omega)]
end Mg
end Go.Proofs.Ytobmghppnlgjlaa
