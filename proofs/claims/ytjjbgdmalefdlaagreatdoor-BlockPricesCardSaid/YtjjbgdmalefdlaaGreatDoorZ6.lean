/- The best lengths are in form: whole, in order, and what they cost. What the laws ask of the best lengths. Best lengths that are completed; lengths of kind 1. The document's search, level by level, and that it finds what merging finds. The document's tables, step by step. -/
import Derived.Test.YtjjbgdmalefdlaaGreatDoorZ3
import Derived.Test.YtjjbgdmalefdlaaGreatDoorZ5
set_option linter.unusedSimpArgs false
set_option linter.unusedVariables false
section
namespace Go.Proofs.YtjjbgdmalefdlaaGreatDoor

namespace Mg
def S (f : Nat → Nat) : Nat → Nat
  | 0 => 0
  | n + 1 => S f n + f n
theorem S_congr {f g : Nat → Nat} : ∀ n, (∀ i, i < n → f i = g i) → S f n = S g n
  | 0, _ => rfl
  | n + 1, h => by rw [S, S, S_congr n (fun i hi => h i (by omega)), h n (by omega)]
theorem S_add (f g : Nat → Nat) : ∀ n, S (fun i => f i + g i) n = S f n + S g n
  | 0 => rfl
  | n + 1 => by rw [S, S, S, S_add f g n]; omega
theorem S_const (c : Nat) : ∀ n, S (fun _ => c) n = n * c
  | 0 => by simp [S]
  | n + 1 => by rw [S, S_const c n, Nat.succ_mul]
theorem S_mul (c : Nat) (f : Nat → Nat) : ∀ n, S (fun i => c * f i) n = c * S f n
  | 0 => by simp [S]
  | n + 1 => by rw [S, S, S_mul c f n, Nat.mul_add]
theorem S_from (k c : Nat) : ∀ n, S (fun i => if i < k then 0 else c) n = (n - k) * c
  | 0 => by simp [S]
  | n + 1 => by
    rw [S, S_from k c n]
    by_cases h : n < k
    · rw [if_pos h, show n + 1 - k = 0 by omega, show n - k = 0 by omega]; omega
    · rw [if_neg h, show n + 1 - k = n - k + 1 by omega, Nat.succ_mul]
def SI (f : Nat → Int) : Nat → Int
  | 0 => 0
  | n + 1 => SI f n + f n
theorem SI_congr {f g : Nat → Int} : ∀ n, (∀ i, i < n → f i = g i) → SI f n = SI g n
  | 0, _ => rfl
  | n + 1, h => by rw [SI, SI, SI_congr n (fun i hi => h i (by omega)), h n (by omega)]
theorem SI_add (f g : Nat → Int) : ∀ n, SI (fun i => f i + g i) n = SI f n + SI g n
  | 0 => rfl
  | n + 1 => by rw [SI, SI, SI, SI_add f g n]; omega
theorem SI_zero : ∀ n, SI (fun _ => 0) n = 0
  | 0 => rfl
  | n + 1 => by rw [SI, SI_zero n]; rfl
theorem range_sum (f : Nat → Int) : ∀ n, ((List.range n).map f).sum = SI f n
  | 0 => rfl
  | n + 1 => by rw [List.range_succ, List.map_append, List.sum_append, range_sum f n, SI]; simp
theorem SI_nat (f : Nat → Nat) : ∀ n, SI (fun i => ((f i : Nat) : Int)) n = ((S f n : Nat) : Int)
  | 0 => rfl
  | n + 1 => by rw [SI, S, SI_nat f n]; omega
/-- How often place i is taken. -/
def cnt (ks : List Nat) (i : Nat) : Nat := (ks.filter fun c => decide (i < c)).length
theorem cnt_cons (k : Nat) (ks : List Nat) (i : Nat) : cnt (k :: ks) i = (if i < k then 1 else 0) + cnt ks i := by
  unfold cnt
  rw [List.filter_cons]
  by_cases h : i < k
  · rw [if_pos (decide_eq_true h), if_pos h, List.length_cons]; omega
  · rw [if_neg (by rw [decide_eq_false h]; simp), if_neg h]; omega
theorem cnt_le (ks : List Nat) (i : Nat) : cnt ks i ≤ ks.length := List.length_filter_le _ _
theorem cnt_zero (ks : List Nat) (i : Nat) (h : ∀ c ∈ ks, c ≤ i) : cnt ks i = 0 := by
  unfold cnt
  rw [List.filter_eq_nil_iff.2 (fun c hc => by have := h c hc; simp; omega)]; rfl
theorem cnt_anti (ks : List Nat) {i j : Nat} (h : i ≤ j) : cnt ks j ≤ cnt ks i := by
  induction ks with
  | nil => exact Nat.le_refl _
  | cons k ks ih =>
    rw [cnt_cons, cnt_cons]
    by_cases h1 : j < k
    · rw [if_pos h1, if_pos (by omega)]; omega
    · rw [if_neg h1]; omega
theorem tim_cnt (R : List Int) (L t i : Nat) : tim R L t L i = cnt (back R L t) i := by
  unfold tim cnt; rw [← back_eq]
def Ev : List Nat → Prop
  | [] => True
  | _ :: ks => T ks % 2 = 0 ∧ Ev ks
theorem back_ev (R : List Int) : ∀ (r t : Nat), t ≤ (rnd R r).length → Ev (back R r t)
  | 0, _, _ => trivial
  | r + 1, t, h => by
    obtain ⟨_, h2, _⟩ := rnd_split R r t h
    exact ⟨by rw [back_T R r _ h2]; omega, back_ev R r _ h2⟩
def K (ks : List Nat) (n : Nat) : Nat := S (fun i => 2 ^ (ks.length - cnt ks i)) n
theorem kraft (n : Nat) : ∀ ks : List Nat, ks.Pairwise (fun a b => b ≤ a) → (∀ k ∈ ks, k ≤ n) → Ev ks → 2 * K ks n + 2 ^ ks.length * T ks = 2 * (n * 2 ^ ks.length)
  | [], _, _, _ => by
    have : K [] n = n * 1 := by unfold K; rw [← S_const 1 n]; exact S_congr n (fun i _ => rfl)
    rw [this]; simp [T]
  | k :: ks, hp, hk, he => by
    have hp1 := List.pairwise_cons.1 hp
    have ih := kraft n ks hp1.2 (fun c hc => hk c (by simp [hc])) he.2
    have hkn := hk k (by simp)
    have e : K (k :: ks) n = K ks n + (n - k) * 2 ^ ks.length := by
      unfold K
      rw [← S_from k (2 ^ ks.length) n, ← S_add]
      refine S_congr n (fun i _ => ?_)
      rw [cnt_cons, List.length_cons]
      by_cases h : i < k
      · rw [if_pos h, if_pos h, show ks.length + 1 - (1 + cnt ks i) = ks.length - cnt ks i by omega]; omega
      · rw [if_neg h, if_neg h, cnt_zero ks i (fun c hc => by have := hp1.1 c hc; omega)]
        rw [show ks.length + 1 - (0 + 0) = ks.length + 1 by omega, show ks.length - 0 = ks.length by omega, Nat.pow_succ]; omega
    obtain ⟨u, hu⟩ : ∃ u, T ks = 2 * u := ⟨T ks / 2, by have := he.1; omega⟩
    obtain ⟨d, hd⟩ : ∃ d, n = k + d := ⟨n - k, by omega⟩
    rw [e, List.length_cons, Nat.pow_succ, T, hu, show 2 * u / 2 = u by omega]
    rw [hu] at ih
    rw [show n - k = d by omega]
    generalize 2 ^ ks.length = p at *
    generalize K ks n = q at *
    have e1 : n * p = k * p + d * p := by rw [hd, Nat.add_mul]
    have e2 : p * 2 * (k + u) = 2 * (k * p) + 2 * (u * p) := by
      rw [Nat.mul_add, Nat.mul_comm p 2, Nat.mul_assoc, Nat.mul_assoc, Nat.mul_comm p k, Nat.mul_comm p u]
    have e3 : p * (2 * u) = 2 * (u * p) := by rw [← Nat.mul_assoc, Nat.mul_comm p 2, Nat.mul_assoc, Nat.mul_comm p u]
    have e4 : n * (p * 2) = 2 * (n * p) := by rw [← Nat.mul_assoc, Nat.mul_comm]
    rw [e2, e4, e1]
    rw [e3, e1] at ih
    omega
theorem pre_SI (R : List Int) : ∀ k, k ≤ R.length → pre R k = SI (fun i => R.getD i 0) k
  | 0, _ => pre_zero R
  | k + 1, h => by
    rw [pre_succ R k (by omega), pre_SI R k (by omega), SI]
    simp [List.getD, List.getElem?_eq_getElem (show k < R.length by omega)]
theorem SI_cut (f : Nat → Int) (k : Nat) : ∀ n, k ≤ n → SI (fun i => if i < k then f i else 0) n = SI f k
  | 0, h => by obtain rfl : k = 0 := by omega
               rfl
  | n + 1, h => by
    by_cases hk : k = n + 1
    · subst hk; exact SI_congr _ (fun i hi => if_pos hi)
    · rw [SI, SI_cut f k n (by omega), if_neg (by omega)]; omega
/-- What is taken costs what the symbols cost. -/
theorem val_cnt (R : List Int) : ∀ ks : List Nat, (∀ k ∈ ks, k ≤ R.length) → val R ks = SI (fun i => R.getD i 0 * ((cnt ks i : Nat) : Int)) R.length
  | [], _ => by
    have : SI (fun i => R.getD i 0 * ((cnt [] i : Nat) : Int)) R.length = SI (fun _ => 0) R.length := SI_congr _ (fun i _ => by simp [cnt])
    rw [this, SI_zero]; rfl
  | k :: ks, h => by
    have e : val R (k :: ks) = pre R k + val R ks := by simp [val]
    rw [e, val_cnt R ks (fun c hc => h c (by simp [hc])), pre_SI R k (h k (by simp)), ← SI_cut _ k R.length (h k (by simp)), ← SI_add]
    refine SI_congr _ (fun i _ => ?_)
    rw [cnt_cons]
    by_cases hi : i < k
    · rw [if_pos hi, if_pos hi, Int.natCast_add, Int.mul_add]; simp
    · rw [if_neg hi, if_neg hi]; simp
section
variable {R : List Int} {L : Nat}
theorem lens_big (hn : 2 ≤ R.length) (i : Nat) (hi : i < R.length) : (lens R L).getD i 0 = ((cnt (back R L (2 * R.length - 2)) i : Nat) : Int) := by
  unfold lens
  rw [if_neg (by omega)]
  rw [← tim_cnt]
  simp [List.getD, List.getElem?_range hi]
theorem lens_one (hn : R.length < 2) (i : Nat) (hi : i < R.length) : (lens R L).getD i 0 = 1 := by
  unfold lens
  rw [if_pos hn]
  simp [List.getD, List.getElem?_replicate, hi]
theorem back_head (hU : Up R) (hP : Pos R) (hn : 2 ≤ R.length) (hL : 0 < L) (hr : 2 * R.length - 2 ≤ (rnd R L).length) : ∃ ks, back R L (2 * R.length - 2) = R.length :: ks := by
  obtain ⟨r, rfl⟩ : ∃ r, L = r + 1 := ⟨L - 1, by omega⟩
  exact ⟨_, by rw [back, rnd_all hU hP hn _ hr]⟩
theorem lens_range (hU : Up R) (hP : Pos R) (hL : 0 < L) (hL2 : R.length ≤ 2 ^ L) (i : Nat) (hi : i < R.length) : 1 ≤ (lens R L).getD i 0 ∧ (lens R L).getD i 0 ≤ L ∧ (R.length = 1 → (lens R L).getD i 0 = 1) := by
  by_cases hn : 2 ≤ R.length
  · rw [lens_big hn i hi]
    obtain ⟨ks, hk⟩ := back_head hU hP hn hL (rnd_room R (by omega) L hL hL2)
    have h1 := cnt_le (back R L (2 * R.length - 2)) i
    rw [back_length] at h1
    have h2 : 1 ≤ cnt (back R L (2 * R.length - 2)) i := by rw [hk, cnt_cons, if_pos hi]; omega
    omega
  · rw [lens_one (by omega) i hi]; omega
theorem lens_anti (i j : Nat) (h : i ≤ j) (hj : j < R.length) : (lens R L).getD j 0 ≤ (lens R L).getD i 0 := by
  by_cases hn : 2 ≤ R.length
  · rw [lens_big hn i (by omega), lens_big hn j hj]
    have := cnt_anti (back R L (2 * R.length - 2)) h
    omega
  · rw [lens_one (by omega) i (by omega), lens_one (by omega) j hj]; omega
theorem part_nat (t : Nat) (h1 : 1 ≤ t) (h2 : t ≤ 16) : Cn.part (t : Int) = 2 ^ (16 - t) := by
  unfold Cn.part
  rw [if_neg (by omega), Int.toNat_natCast, show (65536 : Nat) = 2 ^ 16 from rfl, Nat.pow_div h2 (by omega)]
/-- The lengths are whole. -/
theorem lens_whole (hU : Up R) (hP : Pos R) (hL : 0 < L) (hL16 : L ≤ 16) (hL2 : R.length ≤ 2 ^ L) (hn : 2 ≤ R.length) : S (fun i => Cn.part ((lens R L).getD i 0)) R.length = 65536 := by
  have hr := rnd_room R (by omega) L hL hL2
  have e : S (fun i => Cn.part ((lens R L).getD i 0)) R.length = S (fun i => 2 ^ (16 - L) * 2 ^ (L - cnt (back R L (2 * R.length - 2)) i)) R.length := by
    refine S_congr _ (fun i hi => ?_)
    have h1 := (lens_range hU hP hL hL2 i hi)
    rw [lens_big hn i hi] at h1 ⊢
    rw [part_nat _ (by omega) (by omega), ← Nat.pow_add, show 16 - L + (L - cnt (back R L (2 * R.length - 2)) i) = 16 - cnt (back R L (2 * R.length - 2)) i by omega]
  rw [e, S_mul]
  have hk := kraft R.length (back R L (2 * R.length - 2)) (back_anti hU hP L _ hr) (back_le R L _ hr) (back_ev R L _ hr)
  rw [back_length, back_T R L _ hr] at hk
  have e2 : K (back R L (2 * R.length - 2)) R.length = S (fun i => 2 ^ (L - cnt (back R L (2 * R.length - 2)) i)) R.length := by unfold K; rw [back_length]
  rw [e2] at hk
  generalize S (fun i => 2 ^ (L - cnt (back R L (2 * R.length - 2)) i)) R.length = q at *
  have hq : q = 2 ^ L := by
    obtain ⟨m, hm⟩ : ∃ m, R.length = m + 1 := ⟨R.length - 1, by omega⟩
    rw [hm, show 2 * (m + 1) - 2 = 2 * m by omega] at hk
    generalize 2 ^ L = p at *
    have e1 : p * (2 * m) = 2 * (m * p) := by rw [← Nat.mul_assoc, Nat.mul_comm p 2, Nat.mul_assoc, Nat.mul_comm p m]
    have e3 : (m + 1) * p = m * p + p := Nat.succ_mul m p
    rw [e1, e3] at hk
    omega
  rw [hq, ← Nat.pow_add, show 16 - L + L = 16 by omega]
end
end Mg
end Go.Proofs.YtjjbgdmalefdlaaGreatDoor
end

section
namespace Go.Proofs.YtjjbgdmalefdlaaGreatDoor

namespace Mg
theorem rise_Pos (l : List Int) : Pos (rise l) := fun x hx => Int.le_of_lt (rise_pos l x hx)
theorem rise_get (l : List Int) (i : Nat) (hi : i < (order l).length) : (rise l).getD i 0 = l.getD ((order l).getD i 0) 0 := by
  simp [rise, List.getD, List.getElem?_eq_getElem hi]
section
variable {l : List Int} {L : Nat}
/-- Each length, by the symbol. -/
theorem lensOf_range (h0 : ∀ k, k < l.length → 0 ≤ l.getD k 0) (hL : 0 < L) (hu : used l ≤ 2 ^ L) (j : Nat) (hj : j < l.length) :
    0 ≤ (lensOf l L).getD j 0 ∧ (lensOf l L).getD j 0 ≤ L ∧ ((lensOf l L).getD j 0 = 0 ↔ l.getD j 0 = 0) ∧ (used l = 1 → (lensOf l L).getD j 0 ≤ 1) := by
  by_cases hp : 0 < l.getD j 0
  · obtain ⟨i, hi, rfl⟩ := order_at l j hj hp
    rw [lensOf_at l L i hi]
    have hr : i < (rise l).length := by rw [rise_length, ← order_used]; exact hi
    have h := lens_range (rise_up l) (rise_Pos l) hL (by rw [rise_length]; exact hu) i hr
    rw [rise_length] at h
    refine ⟨by omega, h.2.1, ⟨fun e => by omega, fun e => by omega⟩, fun e => by have := h.2.2 e; omega⟩
  · have := h0 j hj
    rw [lensOf_none l L j (fun h => hp h.2)]
    exact ⟨by omega, by omega, ⟨fun _ => by omega, fun _ => rfl⟩, fun _ => by omega⟩
/-- What stands more often has no greater length. -/
theorem lensOf_order (i k : Nat) (hi : i < l.length) (hk : k < l.length) (h : l.getD k 0 < l.getD i 0) (h0 : 0 < l.getD k 0) : (lensOf l L).getD i 0 ≤ (lensOf l L).getD k 0 := by
  obtain ⟨p, hp, rfl⟩ := order_at l i hi (by omega)
  obtain ⟨q, hq, rfl⟩ := order_at l k hk h0
  rw [lensOf_at l L p hp, lensOf_at l L q hq]
  have hpq : q ≤ p := by
    rcases Nat.lt_or_ge p q with hlt | hge
    · exfalso
      have ep : (order l).getD p 0 = (order l)[p] := by simp [List.getD, List.getElem?_eq_getElem hp]
      have eq : (order l).getD q 0 = (order l)[q] := by simp [List.getD, List.getElem?_eq_getElem hq]
      have hs := (List.pairwise_iff_getElem.1 (order_sort l)) p q hp hq hlt
      rw [leO_iff, ← ep, ← eq] at hs
      omega
    · exact hge
  exact lens_anti q p hpq (by rw [rise_length, ← order_used]; exact hp)
theorem lensOf_form (h0 : ∀ k, k < l.length → 0 ≤ l.getD k 0) (hL : 0 < L) (hL16 : L ≤ 16) (hl : l.length ≤ 512) (hu : used l ≤ 2 ^ L) : Cn.formB (lensOf l L) = true :=
  Cn.form_good _ (by rw [lensOf_length]; exact hl) (fun k hk => by
    rw [lensOf_length] at hk
    have := lensOf_range h0 hL hu k hk
    omega)
theorem sumg_take (g : Int → Nat) (l : List Int) : ∀ k, k ≤ l.length → sumg (fun _ z => ((g z : Nat) : Int)) l k = (((l.take k).map g).sum : Nat)
  | 0, _ => by simp [sumg]
  | k + 1, h => by
    rw [sumg, sumg_take g l k (by omega), List.take_succ_eq_append_getElem (by omega), List.map_append, List.sum_append]
    simp [List.getD, List.getElem?_eq_getElem (show k < l.length by omega)]
theorem part_zero : Cn.part 0 = 0 := rfl
/-- What the lengths leave free. -/
theorem lensOf_sum : ((Cn.sum (lensOf l L) : Nat) : Int) = SI (fun i => ((Cn.part ((lens (rise l) L).getD i 0) : Nat) : Int)) (used l) := by
  have h1 := sumg_take Cn.part (lensOf l L) l.length (by rw [lensOf_length]; exact Nat.le_refl _)
  rw [List.take_of_length_le (by rw [lensOf_length]; exact Nat.le_refl _)] at h1
  have h2 := scat_sum l.length (order l) (lens (rise l) L) (fun _ z => ((Cn.part z : Nat) : Int)) (fun _ => rfl) (order_nodup l) (order_lt l) _ (Nat.le_refl _)
  have e : ((Cn.sum (lensOf l L) : Nat) : Int) = sumg (fun _ z => ((Cn.part z : Nat) : Int)) (lensOf l L) l.length := by rw [h1]; rfl
  rw [e]
  refine h2.trans ?_
  rw [range_sum, order_used]
theorem lensOf_whole (hL : 0 < L) (hL16 : L ≤ 16) (hu : used l ≤ 2 ^ L) : (1 < used l → Cn.sum (lensOf l L) = 65536) ∧ (used l ≤ 1 → Cn.sum (lensOf l L) ≤ 32768) := by
  have h := lensOf_sum (l := l) (L := L)
  refine ⟨fun hn => ?_, fun hn => ?_⟩
  · rw [SI_nat] at h
    have h2 := lens_whole (rise_up l) (rise_Pos l) hL hL16 (by rw [rise_length]; exact hu) (by rw [rise_length]; exact hn)
    rw [rise_length] at h2
    rw [h2] at h
    exact_mod_cast h
  · rw [SI_nat] at h
    have : S (fun i => Cn.part ((lens (rise l) L).getD i 0)) (used l) ≤ 32768 := by
      match hm : used l, hn with
      | 0, _ => simp [S]
      | 1, _ =>
        have e := lens_one (R := rise l) (L := L) (by rw [rise_length]; omega) 0 (by rw [rise_length]; omega)
        simp only [S, e]
        decide
    omega
theorem lensOf_free (h0 : ∀ k, k < l.length → 0 ≤ l.getD k 0) (hL : 0 < L) (hL16 : L ≤ 16) (hl : l.length ≤ 512) (hu : used l ≤ 2 ^ L) : Cn.freeB (lensOf l L) = true ∧ (Cn.freeN (lensOf l L) = 0 ↔ 1 < used l) := by
  have hf := lensOf_form h0 hL hL16 hl hu
  obtain ⟨h1, h2⟩ := lensOf_whole (l := l) hL hL16 hu
  unfold Cn.freeB Cn.freeN
  rw [hf]
  simp only [Bool.true_and, if_true, decide_eq_true_eq]
  by_cases h : 1 < used l
  · have := h1 h
    exact ⟨by omega, ⟨fun _ => h, fun _ => by omega⟩⟩
  · have := h2 (by omega)
    exact ⟨by omega, ⟨fun _ => by omega, fun e => absurd e h⟩⟩
/-- What the lengths cost. -/
theorem dot_sumg (m : List Int) : ∀ k, dot l m k = sumg (fun j z => l.getD j 0 * z) m k
  | 0 => rfl
  | k + 1 => by rw [dot, sumg, dot_sumg m k]
theorem lensOf_cost : dot l (lensOf l L) l.length = SI (fun i => (rise l).getD i 0 * (lens (rise l) L).getD i 0) (used l) := by
  rw [dot_sumg]
  have h2 := scat_sum l.length (order l) (lens (rise l) L) (fun j z => l.getD j 0 * z) (fun _ => Int.mul_zero _) (order_nodup l) (order_lt l) _ (Nat.le_refl _)
  refine h2.trans ?_
  rw [range_sum, ← order_used]
  refine SI_congr _ (fun i hi => ?_)
  rw [rise_get l i hi]
/-- .. and that is what is taken of the last round. -/
theorem cost_back (R : List Int) (hn : 2 ≤ R.length) (hL : 0 < L) (hL2 : R.length ≤ 2 ^ L) : SI (fun i => R.getD i 0 * (lens R L).getD i 0) R.length = pre (wts (rnd R L)) (2 * R.length - 2) := by
  have hr := rnd_room R (by omega) L hL hL2
  rw [← back_val R L _ hr, val_cnt R _ (back_le R L _ hr)]
  refine SI_congr _ (fun i hi => ?_)
  rw [lens_big hn i hi]
end
end Mg
end Go.Proofs.YtjjbgdmalefdlaaGreatDoor
end

section
namespace Go.Proofs.YtjjbgdmalefdlaaGreatDoor

namespace Cn
theorem sum_cons (x : Int) (l : List Int) : sum (x :: l) = part x + sum l := by simp [sum]
theorem sum_set (n : Int) : ∀ (l : List Int) (j : Nat), j < l.length → l.getD j 0 = 0 → sum (l.set j n) = sum l + part n
  | [], j, hj, _ => by simp at hj
  | x :: l, 0, _, h => by
    have hx : x = 0 := by simpa using h
    subst hx
    have e : part 0 = 0 := rfl
    rw [List.set_cons_zero, sum_cons, sum_cons, e]; omega
  | x :: l, j + 1, hj, h => by
    rw [List.set_cons_succ, sum_cons, sum_cons, sum_set n l j (by simpa using hj) (by simpa using h)]; omega
end Cn
namespace Bc
/-- Lengths of kind 1. -/
def litL : List Int := List.replicate 144 8 ++ List.replicate 112 9 ++ List.replicate 24 7 ++ List.replicate 8 8
def dstL : List Int := List.replicate 32 5
theorem litL_length : litL.length = 288 := by simp only [litL, List.length_append, List.length_replicate]
theorem dstL_length : dstL.length = 32 := by simp only [dstL, List.length_replicate]
theorem free_litL : Cn.freeB litL = true := by decide +kernel
theorem free_dstL : Cn.freeB dstL = true := by decide +kernel
/-- Where the first 0 stands. -/
def fz (l : List Int) : Nat := l.findIdx fun x => x == 0
theorem fz_lt {l : List Int} {j : Nat} (hj : j < l.length) (h : l.getD j 0 = 0) : fz l < l.length :=
  List.findIdx_lt_length_of_exists ⟨l[j], List.getElem_mem hj, by
    have : l.getD j 0 = l[j] := by simp [List.getD, List.getElem?_eq_getElem hj]
    rw [this] at h; simp [h]⟩
theorem fz_is {l : List Int} (h : fz l < l.length) : l.getD (fz l) 0 = 0 := by
  have h1 := List.findIdx_getElem (p := fun x : Int => x == 0) (xs := l) (w := h)
  have e : l.getD (fz l) 0 = l[fz l] := by simp [List.getD, List.getElem?_eq_getElem h]
  rw [e]; exact eq_of_beq h1
theorem fz_of {l : List Int} {k : Nat} (hk : k < l.length) (h0 : l.getD k 0 = 0) (h : ∀ j, j < k → l.getD j 0 ≠ 0) : fz l = k := by
  have hl := fz_lt hk h0
  have hi := fz_is hl
  rcases Nat.lt_trichotomy (fz l) k with h1 | h1 | h1
  · exact absurd hi (h _ h1)
  · exact h1
  · have := List.not_of_lt_findIdx (p := fun x : Int => x == 0) (xs := l) (i := k) h1
    have e : l.getD k 0 = l[k] := by simp [List.getD, List.getElem?_eq_getElem hk]
    rw [e] at h0; simp [h0] at this
/-- The best lengths, completed. -/
def cmpl (C : List Int) (L : Nat) : List Int := if 1 < Mg.used C then Mg.lensOf C L else (Mg.lensOf C L).set (fz (Mg.lensOf C L)) 1
theorem cmpl_length (C : List Int) (L : Nat) : (cmpl C L).length = C.length := by
  unfold cmpl; split <;> simp [Mg.lensOf_length]
/-- Counts for which there are best lengths. -/
structure Co (C : List Int) (L : Nat) : Prop where
  h0 : ∀ k, k < C.length → 0 ≤ C.getD k 0
  hup : ∀ k, k < C.length → C.getD k 0 ≤ 1000000000
  hL : 0 < L
  h15 : L ≤ 15
  h2 : 2 ≤ C.length
  h300 : C.length ≤ 300
  hu : Mg.used C ≤ 2 ^ L
theorem used_all : ∀ (C : List Int), (∀ k, k < C.length → 0 < C.getD k 0) → Mg.used C = C.length
  | [], _ => rfl
  | x :: C, h => by
    have ih := used_all C (fun k hk => by have := h (k + 1) (by simpa using hk); simpa using this)
    have hx : 0 < x := by have := h 0 (by simp); simpa using this
    unfold Mg.used at ih ⊢
    rw [List.filter_cons_of_pos (by simpa using hx), List.length_cons, ih, List.length_cons]
theorem used_pos : ∀ (C : List Int) (k : Nat), k < C.length → 0 < C.getD k 0 → 0 < Mg.used C
  | [], k, h, _ => by simp at h
  | x :: C, 0, _, h => by
    unfold Mg.used
    rw [List.filter_cons_of_pos (by simpa using h)]; simp
  | x :: C, k + 1, hk, h => by
    have ih := used_pos C k (by simpa using hk) (by simpa using h)
    unfold Mg.used at ih ⊢
    by_cases hx : 0 < x
    · rw [List.filter_cons_of_pos (by simpa using hx)]; simp
    · rw [List.filter_cons_of_neg (by simpa using hx)]; exact ih
section
variable {C : List Int} {L : Nat}
theorem Co.lens (h : Co C L) (j : Nat) (hj : j < C.length) : 0 ≤ (Mg.lensOf C L).getD j 0 ∧ (Mg.lensOf C L).getD j 0 ≤ L ∧ ((Mg.lensOf C L).getD j 0 = 0 ↔ C.getD j 0 = 0) :=
  have := Mg.lensOf_range h.h0 h.hL h.hu j hj
  ⟨this.1, this.2.1, this.2.2.1⟩
theorem Co.zero (h : Co C L) (hu : ¬ 1 < Mg.used C) : fz (Mg.lensOf C L) < C.length := by
  by_cases hx : ∃ k, k < C.length ∧ C.getD k 0 = 0
  · obtain ⟨k, hk, e⟩ := hx
    have := fz_lt (l := Mg.lensOf C L) (j := k) (by rw [Mg.lensOf_length]; exact hk) ((h.lens k hk).2.2.2 e)
    rwa [Mg.lensOf_length] at this
  · have := used_all C (fun k hk => by
      have h1 := h.h0 k hk
      have h2 : C.getD k 0 ≠ 0 := fun e => hx ⟨k, hk, e⟩
      omega)
    have := h.h2
    omega
theorem getD_set (l : List Int) (k j : Nat) (n : Int) (hk : k < l.length) : (l.set k n).getD j 0 = if k = j then n else l.getD j 0 := by
  by_cases h : k = j
  · subst h; simp [List.getD, List.getElem?_set, hk]
  · simp [List.getD, List.getElem?_set, h]
theorem Co.range (h : Co C L) (j : Nat) (hj : j < C.length) : 0 ≤ (cmpl C L).getD j 0 ∧ (cmpl C L).getD j 0 ≤ L ∧ (0 < C.getD j 0 → 0 < (cmpl C L).getD j 0) := by
  have h1 := h.lens j hj
  have h0 := h.h0 j hj
  have hL := h.hL
  unfold cmpl
  split
  · exact ⟨h1.1, h1.2.1, fun hp => by
      have : (Mg.lensOf C L).getD j 0 ≠ 0 := fun e => by have := h1.2.2.1 e; omega
      omega⟩
  · rename_i hu
    have hz := h.zero hu
    rw [getD_set _ _ _ _ (by rw [Mg.lensOf_length]; exact hz)]
    split
    · exact ⟨by omega, by omega, fun _ => by omega⟩
    · exact ⟨h1.1, h1.2.1, fun hp => by
        have : (Mg.lensOf C L).getD j 0 ≠ 0 := fun e => by have := h1.2.2.1 e; omega
        omega⟩
theorem Co.free (h : Co C L) : Cn.freeB (Mg.lensOf C L) = true ∧ (Cn.freeN (Mg.lensOf C L) = 0 ↔ 1 < Mg.used C) :=
  Mg.lensOf_free h.h0 h.hL (by have := h.h15; omega) (by have := h.h300; omega) h.hu
theorem form_of {l : List Int} (h5 : l.length ≤ 512) (h : ∀ k, k < l.length → 0 ≤ l.getD k 0 ∧ l.getD k 0 ≤ 16) : Cn.formB l = true := Cn.form_good l h5 h
theorem Co.cfree (h : Co C L) : Cn.freeB (cmpl C L) = true := by
  have h1 := h.free
  have hw := Mg.lensOf_whole (l := C) (L := L) h.hL (by have := h.h15; omega) h.hu
  by_cases hu : 1 < Mg.used C
  · unfold cmpl; rw [if_pos hu]; exact h1.1
  · have hr := h.range
    have hf : Cn.formB (cmpl C L) = true := Cn.form_good _ (by rw [cmpl_length]; have := h.h300; omega) (fun k hk => by
      rw [cmpl_length] at hk
      have := hr k hk
      have := h.h15
      omega)
    unfold Cn.freeB
    rw [hf, Bool.true_and]
    apply decide_eq_true
    have hz := h.zero hu
    unfold cmpl
    rw [if_neg hu, Cn.sum_set 1 _ _ (by rw [Mg.lensOf_length]; exact hz) (fz_is (by rw [Mg.lensOf_length]; exact hz))]
    have := hw.2 (by omega)
    have e : Cn.part 1 = 32768 := rfl
    rw [e]; omega
/-- Completed, they are whole. -/
theorem Co.whole (h : Co C L) (hp : 0 < Mg.used C) : Cn.freeN (cmpl C L) = 0 := by
  have hc := h.cfree
  have hw := Mg.lensOf_whole (l := C) (L := L) h.hL (by have := h.h15; omega) h.hu
  have hf : Cn.formB (cmpl C L) = true := by
    unfold Cn.freeB at hc
    rw [Bool.and_eq_true] at hc; exact hc.1
  unfold Cn.freeN
  rw [if_pos hf]
  by_cases hu : 1 < Mg.used C
  · unfold cmpl; rw [if_pos hu, hw.1 hu]; rfl
  · have hz := h.zero hu
    have h1 : Mg.used C = 1 := by omega
    have hs := Mg.lensOf_sum (l := C) (L := L)
    rw [Mg.SI_nat, h1] at hs
    have e := Mg.lens_one (R := Mg.rise C) (L := L) (by rw [Mg.rise_length]; omega) 0 (by rw [Mg.rise_length]; omega)
    simp only [Mg.S, e] at hs
    have e1 : Cn.part 1 = 32768 := rfl
    rw [e1] at hs
    unfold cmpl
    rw [if_neg hu, Cn.sum_set 1 _ _ (by rw [Mg.lensOf_length]; exact hz) (fz_is (by rw [Mg.lensOf_length]; exact hz)), e1]
    omega
end
end Bc
end Go.Proofs.YtjjbgdmalefdlaaGreatDoor
end

section
namespace Go.Proofs.YtjjbgdmalefdlaaGreatDoor

namespace Mg
/-- With i symbols placed, and o nodes open on level d, it has cost c so far. -/
inductive Path (m : Nat) (rest : Nat → Int) : Nat → Nat → Nat → Int → Prop
  | start : Path m rest 1 0 (min 2 m) (rest 0)
  | step {d i o : Nat} {c : Int} (k : Nat) : Path m rest d i o c → k ≤ o → i + k < m → min (2 * (o - k)) (m - i - k) ≠ 0 → Path m rest (d + 1) (i + k) (min (2 * (o - k)) (m - i - k)) (c + rest (i + k))
/-- All symbols are placed on one of L levels. -/
def Final (m : Nat) (rest : Nat → Int) (L : Nat) (c : Int) : Prop := ∃ d i o k, d ≤ L ∧ Path m rest d i o c ∧ k ≤ o ∧ i + k = m
theorem Final.mono {m : Nat} {rest : Nat → Int} {L L' : Nat} {c : Int} (h : Final m rest L c) (hL : L ≤ L') : Final m rest L' c := by
  obtain ⟨d, i, o, k, h1, h2⟩ := h
  exact ⟨d, i, o, k, by omega, h2⟩
theorem Path.pos {m : Nat} {rest : Nat → Int} {d i o : Nat} {c : Int} (h : Path m rest d i o c) : 1 ≤ d := by
  cases h <;> omega
theorem Path.le {m : Nat} {rest : Nat → Int} {d i o : Nat} {c : Int} (h : Path m rest d i o c) : i ≤ m ∧ o ≤ m := by
  cases h with
  | start => omega
  | step k h1 h2 h3 h4 => omega
theorem Path.cost {m : Nat} {rest : Nat → Int} (b : Int) (hr : ∀ i, 0 ≤ rest i ∧ rest i ≤ b) {d i o : Nat} {c : Int} (h : Path m rest d i o c) : rest 0 ≤ c ∧ c ≤ b * (d : Int) := by
  induction h with
  | start => exact ⟨Int.le_refl _, by simpa using (hr 0).2⟩
  | step k h1 h2 h3 h4 ih =>
    rename_i d i o c
    have := hr (i + k)
    rw [Int.natCast_add, Int.mul_add]
    simp only [Int.natCast_one, Int.mul_one]
    omega
section
variable {R : List Int} {m : Nat}
theorem path_list (hm : R.length = m) {d i o : Nat} {c : Int} (h : Path m (fun i => pre R (m - i)) d i o c) : ∃ p : List Nat, p.length + 1 = d ∧ (∀ k ∈ p, k ≤ m) ∧ c = val R p + pre R (m - i) ∧ (∀ tail, 2 * (m - i) ≤ T ((m - i) :: tail) + o → 2 * m ≤ T (p ++ (m - i) :: tail) + 2) := by
  induction h with
  | start => exact ⟨[], rfl, by simp, by simp [val], fun tail ht => by rw [List.nil_append]; simp only [Nat.sub_zero] at ht ⊢; omega⟩
  | step k h1 h2 h3 h4 ih =>
    rename_i d i o c
    obtain ⟨p, e1, e2, e3, e4⟩ := ih
    refine ⟨p ++ [m - i], by simp; omega, fun x hx => ?_, ?_, fun tail ht => ?_⟩
    · rcases List.mem_append.1 hx with h | h
      · exact e2 x h
      · simp at h; omega
    · have : val R (p ++ [m - i]) = val R p + pre R (m - i) := by simp [val, List.sum_append]
      rw [this, e3]
    · rw [List.append_assoc]
      refine e4 _ ?_
      show 2 * (m - i) ≤ (m - i) + T ((m - (i + k)) :: tail) / 2 + o
      generalize T ((m - (i + k)) :: tail) = t at *
      omega
theorem val_zeros (z : Nat) : val R (List.replicate z 0) = 0 := by
  induction z with
  | zero => rfl
  | succ z ih =>
    have : val R (List.replicate (z + 1) 0) = pre R 0 + val R (List.replicate z 0) := by simp [val, List.replicate_succ]
    rw [this, ih, pre_zero]; rfl
theorem T_zero (z : Nat) : T (List.replicate z 0) = 0 := by
  induction z with
  | zero => rfl
  | succ z ih => rw [List.replicate_succ, T, ih]
/-- Nothing that is found costs less than merging. -/
theorem final_ge (hU : Up R) (hP : Pos R) (hm : R.length = m) {L : Nat} {c : Int} (h : Final m (fun i => pre R (m - i)) L c) : pre (wts (rnd R L)) (2 * m - 2) ≤ c := by
  obtain ⟨d, i, o, k, hd, hp, hk, hi⟩ := h
  obtain ⟨p, e1, e2, e3, e4⟩ := path_list hm hp
  have hki : m - i = k := by omega
  rw [hki] at e3 e4
  have hT := e4 (List.replicate (L - d) 0) (by rw [T, T_zero]; omega)
  have hl : (p ++ k :: List.replicate (L - d) 0).length = L := by simp; omega
  have ho := back_opt hU hP (p ++ k :: List.replicate (L - d) 0) (fun x hx => by
    rw [hm]
    rcases List.mem_append.1 hx with h | h
    · exact e2 x h
    · rcases List.mem_cons.1 h with rfl | h
      · omega
      · rw [List.eq_of_mem_replicate h]; omega)
  rw [hl] at ho
  have hv : val R (p ++ k :: List.replicate (L - d) 0) = c := by
    have : val R (p ++ k :: List.replicate (L - d) 0) = val R p + (pre R k + val R (List.replicate (L - d) 0)) := by simp [val, List.sum_append]
    rw [this, val_zeros, e3]; omega
  rw [hv] at ho
  exact Int.le_trans (pre_mono (rnd_pos hP L) (by omega)) ho.2
theorem T_lt : ∀ (k : Nat) (ks : List Nat), (k :: ks).Pairwise (fun a b => b ≤ a) → (k = 0 → T (k :: ks) = 0) ∧ (0 < k → T (k :: ks) < 2 * k)
  | k, [], _ => by simp [T]; omega
  | k, k' :: ks, h => by
    have h1 := List.pairwise_cons.1 h
    have hk := h1.1 k' (by simp)
    obtain ⟨a1, a2⟩ := T_lt k' ks h1.2
    rw [T]
    rcases Nat.eq_zero_or_pos k' with e | e
    · rw [a1 e]; omega
    · have := a2 e; omega
theorem val_low (ks : List Nat) (h : ∀ x ∈ ks, x = 0) : val R ks = 0 := by
  induction ks with
  | nil => rfl
  | cons k ks ih =>
    have : val R (k :: ks) = pre R k + val R ks := by simp [val]
    rw [this, ih (fun x hx => h x (by simp [hx])), h k (by simp), pre_zero]; rfl
/-- What merging takes is found. -/
theorem path_final (hm : R.length = m) : ∀ (ks : List Nat) (k d o : Nat) (c : Int), (k :: ks).Pairwise (fun a b => b ≤ a) → Ev (k :: ks) → k ≤ m → 0 < k → Path m (fun i => pre R (m - i)) d (m - k) o c → min (2 * k - T (k :: ks)) k ≤ o → Final m (fun i => pre R (m - i)) (d + ks.length) (c + val R ks)
  | [], k, d, o, c, hA, hE, hk, hk0, hp, ho => by
    refine ⟨d, m - k, o, k, by simp, by simpa [val] using hp, ?_, by omega⟩
    simp only [T] at ho; omega
  | k' :: ks, k, d, o, c, hA, hE, hk, hk0, hp, ho => by
    have hA1 := List.pairwise_cons.1 hA
    have hkk := hA1.1 k' (by simp)
    have hTl := T_lt k' ks hA1.2
    have hev : T (k' :: ks) % 2 = 0 := hE.1
    rcases Nat.eq_zero_or_pos k' with e | e
    · have hz : ∀ x ∈ k' :: ks, x = 0 := fun x hx => by
        rcases List.mem_cons.1 hx with rfl | hx
        · exact e
        · have := (List.pairwise_cons.1 hA1.2).1 x hx; omega
      have hT0 := hTl.1 e
      refine ⟨d, m - k, o, k, by omega, by rw [val_low _ hz]; simpa using hp, ?_, by omega⟩
      rw [T, hT0] at ho; omega
    · have hlt := hTl.2 e
      have hT : T (k :: k' :: ks) = k + T (k' :: ks) / 2 := rfl
      rw [hT] at ho
      obtain ⟨t, ht⟩ : ∃ t, T (k' :: ks) = t := ⟨_, rfl⟩
      rw [ht] at ho hlt hev
      have hst : Path m (fun i => pre R (m - i)) (d + 1) (m - k + (k - k')) (min (2 * (o - (k - k'))) (m - (m - k) - (k - k'))) (c + pre R (m - (m - k + (k - k')))) := Path.step (k - k') hp (by omega) (by omega) (by omega)
      have e1 : m - k + (k - k') = m - k' := by omega
      have e2 : m - (m - k) - (k - k') = k' := by omega
      have e3 : m - (m - k') = k' := by omega
      rw [e1, e2, e3] at hst
      have ih := path_final hm ks k' (d + 1) _ _ hA1.2 hE.2 (by omega) e hst (by rw [ht]; omega)
      have ev : c + val R (k' :: ks) = c + pre R k' + val R ks := by
        have : val R (k' :: ks) = pre R k' + val R ks := by simp [val]
        rw [this]; omega
      rw [ev, List.length_cons, show d + (ks.length + 1) = d + 1 + ks.length by omega]
      exact ih
/-- So the search finds what merging finds, and nothing less. -/
theorem final_back (hU : Up R) (hP : Pos R) (hm : R.length = m) (h2 : 2 ≤ m) {L : Nat} (hL : 0 < L) (hr : 2 * m - 2 ≤ (rnd R L).length) : Final m (fun i => pre R (m - i)) L (pre (wts (rnd R L)) (2 * m - 2)) := by
  subst hm
  obtain ⟨ks, hk⟩ := back_head hU hP h2 hL hr
  have hA := back_anti hU hP L _ hr
  have hE := back_ev R L _ hr
  have hT := back_T R L _ hr
  have hV := back_val R L _ hr
  have hl := back_length R L (2 * R.length - 2)
  rw [hk] at hA hE hT hV hl
  have hs := Path.start (m := R.length) (rest := fun i => pre R (R.length - i))
  have h := path_final rfl ks R.length 1 (min 2 R.length) (pre R (R.length - 0)) hA hE (Nat.le_refl _) (by omega) (by rw [Nat.sub_self]; exact hs) (by rw [hT]; omega)
  rw [Nat.sub_zero] at h
  have e : pre R R.length + val R ks = val R (R.length :: ks) := by simp [val]
  rw [e, hV] at h
  rw [List.length_cons] at hl
  rw [show 1 + ks.length = L by omega] at h
  exact h
/-- One symbol. -/
theorem final_one (hP : Pos R) (hm : R.length = 1) {L : Nat} (hL : 0 < L) : Final 1 (fun i => pre R (1 - i)) L (pre R 1) ∧ ∀ c, Final 1 (fun i => pre R (1 - i)) L c → pre R 1 ≤ c := by
  refine ⟨⟨1, 0, min 2 1, 1, hL, Path.start, by omega, rfl⟩, fun c h => ?_⟩
  obtain ⟨d, i, o, k, _, hp, _, _⟩ := h
  have h1 : ∀ i, 0 ≤ pre R (1 - i) ∧ pre R (1 - i) ≤ pre R 1 := fun i => ⟨by rw [← pre_zero R]; exact pre_mono hP (by omega), pre_mono hP (by omega)⟩
  exact (hp.cost _ h1).1
end
end Mg
end Go.Proofs.YtjjbgdmalefdlaaGreatDoor
end

section
namespace Go.Proofs.YtjjbgdmalefdlaaGreatDoor

namespace Mg
def Tab (m : Nat) (rest : Nat → Int) (d : Nat) (f : Nat → Nat → Int) : Prop :=
  (∀ i n, i ≤ m → n ≤ m → f i n = -1 ∨ (0 ≤ f i n ∧ Path m rest d i n (f i n))) ∧ (∀ i n c, Path m rest d i n c → 0 ≤ f i n ∧ f i n ≤ c)
def Bst (m : Nat) (rest : Nat → Int) (d : Nat) (b : Int) : Prop := (b = -1 ∨ (0 ≤ b ∧ Final m rest d b)) ∧ ∀ c, Final m rest d c → 0 ≤ b ∧ b ≤ c
def opn (m i n k : Nat) : Nat := min (2 * (n - k)) (m - i - k)
structure Lvl (m : Nat) (rest : Nat → Int) (d : Nat) (f g : Nat → Nat → Int) (b : Int) (P : Nat → Nat → Nat → Prop) : Prop where
  tab : Tab m rest d f
  gs : ∀ i n, i ≤ m → n ≤ m → g i n = -1 ∨ (0 ≤ g i n ∧ Path m rest (d + 1) i n (g i n))
  gc : ∀ i n k, P i n k → 0 ≤ f i n → i ≤ m → n ≤ m → k ≤ n → i + k < m → opn m i n k ≠ 0 → 0 ≤ g (i + k) (opn m i n k) ∧ g (i + k) (opn m i n k) ≤ f i n + rest (i + k)
  bs : b = -1 ∨ (0 ≤ b ∧ Final m rest d b)
  b0 : ∀ c, Final m rest (d - 1) c → 0 ≤ b ∧ b ≤ c
  bc : ∀ i n k, P i n k → 0 ≤ f i n → i ≤ m → n ≤ m → k ≤ n → i + k = m → 0 ≤ b ∧ b ≤ f i n
def Dn (i n k : Nat) : Nat → Nat → Nat → Prop := fun i' n' k' => i' < i ∨ (i' = i ∧ (n' < n ∨ (n' = n ∧ k' < k)))
section
variable {m : Nat} {rest : Nat → Int} {d : Nat} {f g : Nat → Nat → Int} {b : Int} {P Q : Nat → Nat → Nat → Prop}
theorem Lvl.start (ht : Tab m rest d f) (hb : Bst m rest (d - 1) b) : Lvl m rest d f (fun _ _ => -1) b (Dn 0 0 0) :=
  ⟨ht, fun i n _ _ => .inl rfl, fun i n k h => by unfold Dn at h; omega, hb.1.imp id (fun h => ⟨h.1, h.2.mono (by omega)⟩), hb.2, fun i n k h => by unfold Dn at h; omega⟩
theorem Lvl.imp (h : Lvl m rest d f g b P) (hq : ∀ i n k, Q i n k → P i n k ∨ f i n < 0 ∨ ¬ (i ≤ m ∧ n ≤ m ∧ k ≤ n ∧ i + k ≤ m)) : Lvl m rest d f g b Q :=
  ⟨h.tab, h.gs, fun i n k hk h0 h1 h2 h3 h4 h5 => by
    rcases hq i n k hk with q | q | q
    · exact h.gc i n k q h0 h1 h2 h3 h4 h5
    · omega
    · omega, h.bs, h.b0, fun i n k hk h0 h1 h2 h3 h4 => by
    rcases hq i n k hk with q | q | q
    · exact h.bc i n k q h0 h1 h2 h3 h4
    · omega
    · omega⟩
theorem dn_succ {i n k i' n' k' : Nat} (h : Dn i n (k + 1) i' n' k') : Dn i n k i' n' k' ∨ (i' = i ∧ n' = n ∧ k' = k) := by
  unfold Dn at *; omega
/-- All are placed. -/
theorem Lvl.best {i n k : Nat} (h : Lvl m rest d f g b (Dn i n k)) (hi : i ≤ m) (hn : n ≤ m) (hk : k ≤ n) (he : i + k = m) (h0 : 0 ≤ f i n) (b' : Int) (hb' : (b' = f i n ∧ (b < 0 ∨ f i n < b)) ∨ (b' = b ∧ 0 ≤ b ∧ b ≤ f i n)) : Lvl m rest d f g b' (Dn i n (k + 1)) := by
  have hp : Final m rest d (f i n) := by
    rcases h.tab.1 i n hi hn with e | ⟨_, e⟩
    · omega
    · exact ⟨d, i, n, k, Nat.le_refl _, e, hk, he⟩
  have hle : 0 ≤ b' ∧ b' ≤ f i n ∧ (0 ≤ b → b' ≤ b) := by omega
  have hbs := h.bs
  refine ⟨h.tab, h.gs, fun i' n' k' hd q0 q1 q2 q3 q4 q5 => ?_, ?_, fun c hc => ?_, fun i' n' k' hd q0 q1 q2 q3 q4 => ?_⟩
  · rcases dn_succ hd with hd | ⟨rfl, rfl, rfl⟩
    · exact h.gc i' n' k' hd q0 q1 q2 q3 q4 q5
    · omega
  · right
    refine ⟨hle.1, ?_⟩
    rcases hb' with ⟨rfl, _⟩ | ⟨rfl, h1, _⟩
    · exact hp
    · rcases hbs with e | ⟨_, e⟩
      · omega
      · exact e
  · have := h.b0 c hc
    exact ⟨hle.1, by have := hle.2.2 this.1; omega⟩
  · rcases dn_succ hd with hd | ⟨rfl, rfl, rfl⟩
    · have := h.bc i' n' k' hd q0 q1 q2 q3 q4
      exact ⟨hle.1, by have := hle.2.2 this.1; omega⟩
    · exact ⟨hle.1, hle.2.1⟩
/-- Nothing is open. -/
theorem Lvl.none {i n k : Nat} (h : Lvl m rest d f g b (Dn i n k)) (he : i + k < m) (ho : opn m i n k = 0) : Lvl m rest d f g b (Dn i n (k + 1)) :=
  ⟨h.tab, h.gs, fun i' n' k' hd q0 q1 q2 q3 q4 q5 => by
    rcases dn_succ hd with hd | ⟨rfl, rfl, rfl⟩
    · exact h.gc i' n' k' hd q0 q1 q2 q3 q4 q5
    · exact absurd ho q5, h.bs, h.b0, fun i' n' k' hd q0 q1 q2 q3 q4 => by
    rcases dn_succ hd with hd | ⟨rfl, rfl, rfl⟩
    · exact h.bc i' n' k' hd q0 q1 q2 q3 q4
    · omega⟩
def upd (g : Nat → Nat → Int) (a o : Nat) (c : Int) : Nat → Nat → Int := fun i n => if i = a ∧ n = o then c else g i n
/-- Nodes are open, with a cost. -/
theorem Lvl.put {i n k : Nat} (h : Lvl m rest d f g b (Dn i n k)) (hr : ∀ i, 0 ≤ rest i) (hi : i ≤ m) (hn : n ≤ m) (hk : k ≤ n) (he : i + k < m) (h0 : 0 ≤ f i n) (ho : opn m i n k ≠ 0) (g' : Nat → Nat → Int)
    (hg' : (g' = upd g (i + k) (opn m i n k) (f i n + rest (i + k)) ∧ (g (i + k) (opn m i n k) < 0 ∨ f i n + rest (i + k) < g (i + k) (opn m i n k))) ∨ (g' = g ∧ 0 ≤ g (i + k) (opn m i n k) ∧ g (i + k) (opn m i n k) ≤ f i n + rest (i + k))) :
    Lvl m rest d f g' b (Dn i n (k + 1)) := by
  have hp : Path m rest (d + 1) (i + k) (opn m i n k) (f i n + rest (i + k)) := by
    rcases h.tab.1 i n hi hn with e | ⟨_, e⟩
    · omega
    · exact Path.step k e hk he ho
  have hr1 := hr (i + k)
  have hmono : ∀ a o, a ≤ m → o ≤ m → 0 ≤ g a o → 0 ≤ g' a o ∧ g' a o ≤ g a o := fun a o _ _ hg => by
    rcases hg' with ⟨rfl, hc⟩ | ⟨rfl, _⟩
    · unfold upd
      by_cases e : a = i + k ∧ o = opn m i n k
      · rw [if_pos e]
        obtain ⟨rfl, rfl⟩ := e
        omega
      · rw [if_neg e]; omega
    · omega
  have hown : 0 ≤ g' (i + k) (opn m i n k) ∧ g' (i + k) (opn m i n k) ≤ f i n + rest (i + k) := by
    rcases hg' with ⟨rfl, _⟩ | ⟨rfl, h1, h2⟩
    · unfold upd; rw [if_pos ⟨rfl, rfl⟩]; omega
    · exact ⟨h1, h2⟩
  refine ⟨h.tab, fun a o ha hoo => ?_, fun i' n' k' hd q0 q1 q2 q3 q4 q5 => ?_, h.bs, h.b0, fun i' n' k' hd q0 q1 q2 q3 q4 => ?_⟩
  · rcases hg' with ⟨rfl, _⟩ | ⟨rfl, _⟩
    · unfold upd
      by_cases e : a = i + k ∧ o = opn m i n k
      · rw [if_pos e]
        obtain ⟨rfl, rfl⟩ := e
        exact .inr ⟨by omega, hp⟩
      · rw [if_neg e]; exact h.gs a o ha hoo
    · exact h.gs a o ha hoo
  · rcases dn_succ hd with hd | ⟨rfl, rfl, rfl⟩
    · have h1 := h.gc i' n' k' hd q0 q1 q2 q3 q4 q5
      have h2 := hmono (i' + k') (opn m i' n' k') (by omega) (by unfold opn; omega) h1.1
      exact ⟨h2.1, by omega⟩
    · exact hown
  · rcases dn_succ hd with hd | ⟨rfl, rfl, rfl⟩
    · exact h.bc i' n' k' hd q0 q1 q2 q3 q4
    · omega
/-- A level is done. -/
theorem Lvl.done (h : Lvl m rest d f g b (Dn (m + 1) 0 0)) (hd : 1 ≤ d) : Tab m rest (d + 1) g ∧ Bst m rest d b := by
  have hall : ∀ i n k, i ≤ m → Dn (m + 1) 0 0 i n k := fun i n k hi => .inl (by omega)
  refine ⟨⟨h.gs, fun i n c hp => ?_⟩, h.bs, fun c hc => ?_⟩
  · cases hp with
    | start => omega
    | step k hp h1 h2 h3 =>
      have hle := hp.le
      have ht := h.tab.2 _ _ _ hp
      have := h.gc _ _ k (hall _ _ _ hle.1) ht.1 hle.1 hle.2 h1 h2 h3
      exact ⟨this.1, by have := this.2; show g _ (opn m _ _ _) ≤ _; omega⟩
  · obtain ⟨e, i, o, k, he, hp, h1, h2⟩ := hc
    by_cases hlt : e ≤ d - 1
    · exact h.b0 c ⟨e, i, o, k, hlt, hp, h1, h2⟩
    · obtain rfl : e = d := by omega
      have hle := hp.le
      have ht := h.tab.2 _ _ _ hp
      have := h.bc _ _ k (hall _ _ _ hle.1) ht.1 hle.1 hle.2 h1 h2
      exact ⟨this.1, by omega⟩
theorem tab_start (hr : 0 ≤ rest 0) : Tab m rest 1 (upd (fun _ _ => -1) 0 (min 2 m) (rest 0)) := by
  refine ⟨fun i n _ _ => ?_, fun i n c hp => ?_⟩
  · unfold upd
    by_cases e : i = 0 ∧ n = min 2 m
    · rw [if_pos e]
      obtain ⟨rfl, rfl⟩ := e
      exact .inr ⟨hr, Path.start⟩
    · rw [if_neg e]; exact .inl rfl
  · cases hp with
    | start => unfold upd; rw [if_pos ⟨rfl, rfl⟩]; omega
    | step k hp => have := hp.pos; omega
theorem bst_start : Bst m rest 0 (-1) := ⟨.inl rfl, fun c hc => by
  obtain ⟨d, i, o, k, hd, hp, _⟩ := hc
  have := hp.pos; omega⟩
end
end Mg
end Go.Proofs.YtjjbgdmalefdlaaGreatDoor
end
