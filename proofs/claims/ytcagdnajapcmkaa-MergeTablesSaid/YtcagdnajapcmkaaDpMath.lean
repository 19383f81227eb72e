/- The document's search, level by level, and that it finds what merging finds. -/
import Derived.Test.YtcagdnajapcmkaaFormMath
namespace Go.Proofs.Ytcagdnajapcmkaa

namespace Mg
/-- With i symbols placed, and o nodes open on level d, it has cost c so far. -/
inductive Path (m : Nat) (rest : Nat → Int) : Nat → Nat → Nat → Int → Prop
  | start : Path m rest 1 0 (min 2 m) (rest 0)
  | step {d i o : Nat} {c : Int} (k : Nat) : Path m rest d i o c → k ≤ o → i + k < m → min (2 * (o - k)) (m - i - k) ≠ 0 → Path m rest (d + 1) (i + k) (min (2 * (o - k)) (m - i - k)) (c + rest (i + k))
/-- All symbols are placed on one of L levels. -/
def Final (m : Nat) (rest : Nat → Int) (L : Nat) (c : Int) : Prop := ∃ d i o k, d ≤ L ∧ Path m rest d i o c ∧ k ≤ o ∧ i + k = m
theorem Final.mono {m : Nat} {rest : Nat → Int} {L L' : Nat} {c : Int} (h : Final m rest L c) (hL : L ≤ L') : Final m rest L' c := by
  obtain ⟨d, i, o, k, h1, h2⟩ := h
  exact ⟨d, i, o, k, by omega, h2⟩
theorem Path.pos {m : Nat} {rest : Nat → Int} {d i o : Nat} {c : Int} (h : Path m rest d i o c) : 1 ≤ d := by
  cases h <;> omega
theorem Path.le {m : Nat} {rest : Nat → Int} {d i o : Nat} {c : Int} (h : Path m rest d i o c) : i ≤ m ∧ o ≤ m := by
  cases h with
  | start => omega
  | step k h1 h2 h3 h4 => omega
theorem Path.cost {m : Nat} {rest : Nat → Int} (b : Int) (hr : ∀ i, 0 ≤ rest i ∧ rest i ≤ b) {d i o : Nat} {c : Int} (h : Path m rest d i o c) : rest 0 ≤ c ∧ c ≤ b * (d : Int) := by
  induction h with
  | start => exact ⟨Int.le_refl _, by simpa using (hr 0).2⟩
  | step k h1 h2 h3 h4 ih =>
    rename_i d i o c
    have := hr (i + k)
    rw [Int.natCast_add, Int.mul_add]
    simp only [Int.natCast_one, Int.mul_one]
    omega
section
variable {R : List Int} {m : Nat}
theorem path_list (hm : R.length = m) {d i o : Nat} {c : Int} (h : Path m (fun i => pre R (m - i)) d i o c) : ∃ p : List Nat, p.length + 1 = d ∧ (∀ k ∈ p, k ≤ m) ∧ c = val R p + pre R (m - i) ∧ (∀ tail, 2 * (m - i) ≤ T ((m - i) :: tail) + o → 2 * m ≤ T (p ++ (m - i) :: tail) + 2) := by
  induction h with
  | start => exact ⟨[], rfl, by simp, by simp [val], fun tail ht => by rw [List.nil_append]; simp only [Nat.sub_zero] at ht ⊢; omega⟩
  | step k h1 h2 h3 h4 ih =>
    rename_i d i o c
    obtain ⟨p, e1, e2, e3, e4⟩ := ih
    refine ⟨p ++ [m - i], by simp; omega, fun x hx => ?_, ?_, fun tail ht => ?_⟩
    · rcases List.mem_append.1 hx with h | h
      · exact e2 x h
      · simp at h; omega
    · have : val R (p ++ [m - i]) = val R p + pre R (m - i) := by simp [val, List.sum_append]
      rw [this, e3]
    · rw [List.append_assoc]
      refine e4 _ ?_
      show 2 * (m - i) ≤ (m - i) + T ((m - (i + k)) :: tail) / 2 + o
      generalize T ((m - (i + k)) :: tail) = t at *
      omega
theorem val_zeros (z : Nat) : val R (List.replicate z 0) = 0 := by
  induction z with
  | zero => rfl
  | succ z ih =>
    have : val R (List.replicate (z + 1) 0) = pre R 0 + val R (List.replicate z 0) := by simp [val, List.replicate_succ]
    rw [this, ih, pre_zero]; rfl
theorem T_zero (z : Nat) : T (List.replicate z 0) = 0 := by
  induction z with
  | zero => rfl
  | succ z ih => rw [List.replicate_succ, T, ih]
/-- Nothing that is found costs less than merging. -/
theorem final_ge (hU : Up R) (hP : Pos R) (hm : R.length = m) {L : Nat} {c : Int} (h : Final m (fun i => pre R (m - i)) L c) : pre (wts (rnd R L)) (2 * m - 2) ≤ c := by
  obtain ⟨d, i, o, k, hd, hp, hk, hi⟩ := h
  obtain ⟨p, e1, e2, e3, e4⟩ := path_list hm hp
  have hki : m - i = k := by omega
  rw [hki] at e3 e4
  have hT := e4 (List.replicate (L - d) 0) (by rw [T, T_zero]; omega)
  have hl : (p ++ k :: List.replicate (L - d) 0).length = L := by simp; omega
  have ho := back_opt hU hP (p ++ k :: List.replicate (L - d) 0) (fun x hx => by
    rw [hm]
    rcases List.mem_append.1 hx with h | h
    · exact e2 x h
    · rcases List.mem_cons.1 h with rfl | h
      · omega
      · rw [List.eq_of_mem_replicate h]; omega)
  rw [hl] at ho
  have hv : val R (p ++ k :: List.replicate (L - d) 0) = c := by
    have : val R (p ++ k :: List.replicate (L - d) 0) = val R p + (pre R k + val R (List.replicate (L - d) 0)) := by simp [val, List.sum_append]
    rw [this, val_zeros, e3]; omega
  rw [hv] at ho
  exact Int.le_trans (pre_mono (rnd_pos hP L) (by omega)) ho.2
theorem T_lt : ∀ (k : Nat) (ks : List Nat), (k :: ks).Pairwise (fun a b => b ≤ a) → (k = 0 → T (k :: ks) = 0) ∧ (0 < k → T (k :: ks) < 2 * k)
  | k, [], _ => by simp [T]; omega
  | k, k' :: ks, h => by
    have h1 := List.pairwise_cons.1 h
    have hk := h1.1 k' (by simp)
    obtain ⟨a1, a2⟩ := T_lt k' ks h1.2
    rw [T]
    rcases Nat.eq_zero_or_pos k' with e | e
    · rw [a1 e]; omega
    · have := a2 e; omega
theorem val_low (ks : List Nat) (h : ∀ x ∈ ks, x = 0) : val R ks = 0 := by
  induction ks with
  | nil => rfl
  | cons k ks ih =>
    have : val R (k :: ks) = pre R k + val R ks := by simp [val]
    rw [this, ih (fun x hx => h x (by simp [hx])), h k (by simp), pre_zero]; rfl
/-- What merging takes is found. -/
theorem path_final (hm : R.length = m) : ∀ (ks : List Nat) (k d o : Nat) (c : Int), (k :: ks).Pairwise (fun a b => b ≤ a) → Ev (k :: ks) → k ≤ m → 0 < k → Path m (fun i => pre R (m - i)) d (m - k) o c → min (2 * k - T (k :: ks)) k ≤ o → Final m (fun i => pre R (m - i)) (d + ks.length) (c + val R ks)
  | [], k, d, o, c, hA, hE, hk, hk0, hp, ho => by
    refine ⟨d, m - k, o, k, by simp, by simpa [val] using hp, ?_, by omega⟩
    simp only [T] at ho; omega
  | k' :: ks, k, d, o, c, hA, hE, hk, hk0, hp, ho => by
    have hA1 := List.pairwise_cons.1 hA
    have hkk := hA1.1 k' (by simp)
    have hTl := T_lt k' ks hA1.2
    have hev : T (k' :: ks) % 2 = 0 := hE.1
    rcases Nat.eq_zero_or_pos k' with e | e
    · have hz : ∀ x ∈ k' :: ks, x = 0 := fun x hx => by
        rcases List.mem_cons.1 hx with rfl | hx
        · exact e
        · have := (List.pairwise_cons.1 hA1.2).1 x hx; omega
      have hT0 := hTl.1 e
      refine ⟨d, m - k, o, k, by omega, by rw [val_low _ hz]; simpa using hp, ?_, by omega⟩
      rw [T, hT0] at ho; omega
    · have hlt := hTl.2 e
      have hT : T (k :: k' :: ks) = k + T (k' :: ks) / 2 := rfl
      rw [hT] at ho
      obtain ⟨t, ht⟩ : ∃ t, T (k' :: ks) = t := ⟨_, rfl⟩
      rw [ht] at ho hlt hev
      have hst : Path m (fun i => pre R (m - i)) (d + 1) (m - k + (k - k')) (min (2 * (o - (k - k'))) (m - (m - k) - (k - k'))) (c + pre R (m - (m - k + (k - k')))) := Path.step (k - k') hp (by omega) (by omega) (by omega)
      have e1 : m - k + (k - k') = m - k' := by omega
      have e2 : m - (m - k) - (k - k') = k' := by omega
      have e3 : m - (m - k') = k' := by omega
      rw [e1, e2, e3] at hst
      have ih := path_final hm ks k' (d + 1) _ _ hA1.2 hE.2 (by omega) e hst (by rw [ht]; omega)
      have ev : c + val R (k' :: ks) = c + pre R k' + val R ks := by
        have : val R (k' :: ks) = pre R k' + val R ks := by simp [val]
        rw [this]; omega
      rw [ev, List.length_cons, show d + (ks.length + 1) = d + 1 + ks.length by omega]
      exact ih
/-- So the search finds what merging finds, and nothing less. -/
theorem final_back (hU : Up R) (hP : Pos R) (hm : R.length = m) (h2 : 2 ≤ m) {L : Nat} (hL : 0 < L) (hr : 2 * m - 2 ≤ (rnd R L).length) : Final m (fun i => pre R (m - i)) L (pre (wts (rnd R L)) (2 * m - 2)) := by
  subst hm
  obtain ⟨ks, hk⟩ := back_head hU hP h2 hL hr
  have hA := back_anti hU hP L _ hr
  have hE := back_ev R L _ hr
  have hT := back_T R L _ hr
  have hV := back_val R L _ hr
  have hl := back_length R L (2 * R.length - 2)
  rw [hk] at hA hE hT hV hl
  have hs := Path.start (m := R.length) (rest := fun i => pre R (R.length - i))
  have h := path_final rfl ks R.length 1 (min 2 R.length) (pre R (R.length - 0)) hA hE (Nat.le_refl _) (by omega) (by rw [Nat.sub_self]; exact hs) (by rw [hT]; omega)
  rw [Nat.sub_zero] at h
  have e : pre R R.length + val R ks = val R (R.length :: ks) := by simp [val]
  rw [e, hV] at h
  rw [List.length_cons] at hl
  rw [show 1 + ks.length = L by omega] at h
  exact h
/-- One symbol. -/
theorem final_one (hP : Pos R) (hm : R.length = 1) {L : Nat} (hL : 0 < L) : Final 1 (fun i => pre R (1 - i)) L (pre R 1) ∧ ∀ c, Final 1 (fun i => pre R (1 - i)) L c → pre R 1 ≤ c := by
  refine ⟨⟨1, 0, min 2 1, 1, hL, Path.start, by omega, rfl⟩, fun c h => ?_⟩
  obtain ⟨d, i, o, k, _, hp, _, _⟩ := h
  have h1 : ∀ i, 0 ≤ pre R (1 - i) ∧ pre R (1 - i) ≤ pre R 1 := fun i => ⟨by rw [← pre_zero R]; exact pre_mono hP (by omega), pre_mono hP (by omega)⟩
  exact (hp.cost _ h1).1
end
end Mg
end Go.Proofs.Ytcagdnajapcmkaa
