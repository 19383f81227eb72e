/- The best lengths are in form: whole, in order, and what they cost. -/
import Derived.Test.YtcagdnajapcmkaaScat
import Derived.Test.YtcagdnajapcmkaaCanonMath
namespace Go.Proofs.Ytcagdnajapcmkaa

namespace Mg
def S (f : Nat → Nat) : Nat → Nat
  | 0 => 0
  | n + 1 => S f n + f n
theorem S_congr {f g : Nat → Nat} : ∀ n, (∀ i, i < n → f i = g i) → S f n = S g n
  | 0, _ => rfl
  | n + 1, h => by rw [S, S, S_congr n (fun i hi => h i (by omega)), h n (by omega)]
theorem S_add (f g : Nat → Nat) : ∀ n, S (fun i => f i + g i) n = S f n + S g n
  | 0 => rfl
  | n + 1 => by rw [S, S, S, S_add f g n]; omega
theorem S_const (c : Nat) : ∀ n, S (fun _ => c) n = n * c
  | 0 => by simp [S]
  | n + 1 => by rw [S, S_const c n, Nat.succ_mul]
theorem S_mul (c : Nat) (f : Nat → Nat) : ∀ n, S (fun i => c * f i) n = c * S f n
  | 0 => by simp [S]
  | n + 1 => by rw [S, S, S_mul c f n, Nat.mul_add]
theorem S_from (k c : Nat) : ∀ n, S (fun i => if i < k then 0 else c) n = (n - k) * c
  | 0 => by simp [S]
  | n + 1 => by
    rw [S, S_from k c n]
    by_cases h : n < k
    · rw [if_pos h, show n + 1 - k = 0 by omega, show n - k = 0 by omega]; omega
    · rw [if_neg h, show n + 1 - k = n - k + 1 by omega, Nat.succ_mul]
def SI (f : Nat → Int) : Nat → Int
  | 0 => 0
  | n + 1 => SI f n + f n
theorem SI_congr {f g : Nat → Int} : ∀ n, (∀ i, i < n → f i = g i) → SI f n = SI g n
  | 0, _ => rfl
  | n + 1, h => by rw [SI, SI, SI_congr n (fun i hi => h i (by omega)), h n (by omega)]
theorem SI_add (f g : Nat → Int) : ∀ n, SI (fun i => f i + g i) n = SI f n + SI g n
  | 0 => rfl
  | n + 1 => by rw [SI, SI, SI, SI_add f g n]; omega
theorem SI_zero : ∀ n, SI (fun _ => 0) n = 0
  | 0 => rfl
  | n + 1 => by rw [SI, SI_zero n]; rfl
theorem range_sum (f : Nat → Int) : ∀ n, ((List.range n).map f).sum = SI f n
  | 0 => rfl
  | n + 1 => by rw [List.range_succ, List.map_append, List.sum_append, range_sum f n, SI]; simp
theorem SI_nat (f : Nat → Nat) : ∀ n, SI (fun i => ((f i : Nat) : Int)) n = ((S f n : Nat) : Int)
  | 0 => rfl
  | n + 1 => by rw [SI, S, SI_nat f n]; omega
/-- How often place i is taken. -/
def cnt (ks : List Nat) (i : Nat) : Nat := (ks.filter fun c => decide (i < c)).length
theorem cnt_cons (k : Nat) (ks : List Nat) (i : Nat) : cnt (k :: ks) i = (if i < k then 1 else 0) + cnt ks i := by
  unfold cnt
  rw [List.filter_cons]
  by_cases h : i < k
  · rw [if_pos (decide_eq_true h), if_pos h, List.length_cons]; omega
  · rw [if_neg (by rw [decide_eq_false h]; simp), if_neg h]; omega
theorem cnt_le (ks : List Nat) (i : Nat) : cnt ks i ≤ ks.length := List.length_filter_le _ _
theorem cnt_zero (ks : List Nat) (i : Nat) (h : ∀ c ∈ ks, c ≤ i) : cnt ks i = 0 := by
  unfold cnt
  rw [List.filter_eq_nil_iff.2 (fun c hc => by have := h c hc; simp; omega)]; rfl
theorem cnt_anti (ks : List Nat) {i j : Nat} (h : i ≤ j) : cnt ks j ≤ cnt ks i := by
  induction ks with
  | nil => exact Nat.le_refl _
  | cons k ks ih =>
    rw [cnt_cons, cnt_cons]
    by_cases h1 : j < k
    · rw [if_pos h1, if_pos (by omega)]; omega
    · rw [if_neg h1]; omega
theorem tim_cnt (R : List Int) (L t i : Nat) : tim R L t L i = cnt (back R L t) i := by
  unfold tim cnt; rw [← back_eq]
def Ev : List Nat → Prop
  | [] => True
  | _ :: ks => T ks % 2 = 0 ∧ Ev ks
theorem back_ev (R : List Int) : ∀ (r t : Nat), t ≤ (rnd R r).length → Ev (back R r t)
  | 0, _, _ => trivial
  | r + 1, t, h => by
    obtain ⟨_, h2, _⟩ := rnd_split R r t h
    exact ⟨by rw [back_T R r _ h2]; omega, back_ev R r _ h2⟩
def K (ks : List Nat) (n : Nat) : Nat := S (fun i => 2 ^ (ks.length - cnt ks i)) n
theorem kraft (n : Nat) : ∀ ks : List Nat, ks.Pairwise (fun a b => b ≤ a) → (∀ k ∈ ks, k ≤ n) → Ev ks → 2 * K ks n + 2 ^ ks.length * T ks = 2 * (n * 2 ^ ks.length)
  | [], _, _, _ => by
    have : K [] n = n * 1 := by unfold K; rw [← S_const 1 n]; exact S_congr n (fun i _ => rfl)
    rw [this]; simp [T]
  | k :: ks, hp, hk, he => by
    have hp1 := List.pairwise_cons.1 hp
    have ih := kraft n ks hp1.2 (fun c hc => hk c (by simp [hc])) he.2
    have hkn := hk k (by simp)
    have e : K (k :: ks) n = K ks n + (n - k) * 2 ^ ks.length := by
      unfold K
      rw [← S_from k (2 ^ ks.length) n, ← S_add]
      refine S_congr n (fun i _ => ?_)
      rw [cnt_cons, List.length_cons]
      by_cases h : i < k
      · rw [if_pos h, if_pos h, show ks.length + 1 - (1 + cnt ks i) = ks.length - cnt ks i by omega]; omega
      · rw [if_neg h, if_neg h, cnt_zero ks i (fun c hc => by have := hp1.1 c hc; omega)]
        rw [show ks.length + 1 - (0 + 0) = ks.length + 1 by omega, show ks.length - 0 = ks.length by omega, Nat.pow_succ]; omega
    obtain ⟨u, hu⟩ : ∃ u, T ks = 2 * u := ⟨T ks / 2, by have := he.1; omega⟩
    obtain ⟨d, hd⟩ : ∃ d, n = k + d := ⟨n - k, by omega⟩
    rw [e, List.length_cons, Nat.pow_succ, T, hu, show 2 * u / 2 = u by omega]
    rw [hu] at ih
    rw [show n - k = d by omega]
    generalize 2 ^ ks.length = p at *
    generalize K ks n = q at *
    have e1 : n * p = k * p + d * p := by rw [hd, Nat.add_mul]
    have e2 : p * 2 * (k + u) = 2 * (k * p) + 2 * (u * p) := by
      rw [Nat.mul_add, Nat.mul_comm p 2, Nat.mul_assoc, Nat.mul_assoc, Nat.mul_comm p k, Nat.mul_comm p u]
    have e3 : p * (2 * u) = 2 * (u * p) := by rw [← Nat.mul_assoc, Nat.mul_comm p 2, Nat.mul_assoc, Nat.mul_comm p u]
    have e4 : n * (p * 2) = 2 * (n * p) := by rw [← Nat.mul_assoc, Nat.mul_comm]
    rw [e2, e4, e1]
    rw [e3, e1] at ih
    omega
theorem pre_SI (R : List Int) : ∀ k, k ≤ R.length → pre R k = SI (fun i => R.getD i 0) k
  | 0, _ => pre_zero R
  | k + 1, h => by
    rw [pre_succ R k (by omega), pre_SI R k (by omega), SI]
    simp [List.getD, List.getElem?_eq_getElem (show k < R.length by omega)]
theorem SI_cut (f : Nat → Int) (k : Nat) : ∀ n, k ≤ n → SI (fun i => if i < k then f i else 0) n = SI f k
  | 0, h => by obtain rfl : k = 0 := by omega
               rfl
  | n + 1, h => by
    by_cases hk : k = n + 1
    · subst hk; exact SI_congr _ (fun i hi => if_pos hi)
    · rw [SI, SI_cut f k n (by omega), if_neg (by omega)]; omega
/-- What is taken costs what the symbols cost. -/
theorem val_cnt (R : List Int) : ∀ ks : List Nat, (∀ k ∈ ks, k ≤ R.length) → val R ks = SI (fun i => R.getD i 0 * ((cnt ks i : Nat) : Int)) R.length
  | [], _ => by
    have : SI (fun i => R.getD i 0 * ((cnt [] i : Nat) : Int)) R.length = SI (fun _ => 0) R.length := SI_congr _ (fun i _ => by simp [cnt])
    rw [this, SI_zero]; rfl
  | k :: ks, h => by
    have e : val R (k :: ks) = pre R k + val R ks := by simp [val]
    rw [e, val_cnt R ks (fun c hc => h c (by simp [hc])), pre_SI R k (h k (by simp)), ← SI_cut _ k R.length (h k (by simp)), ← SI_add]
    refine SI_congr _ (fun i _ => ?_)
    rw [cnt_cons]
    by_cases hi : i < k
    · rw [if_pos hi, if_pos hi, Int.natCast_add, Int.mul_add]; simp
    · rw [if_neg hi, if_neg hi]; simp
section
variable {R : List Int} {L : Nat}
theorem lens_big (hn : 2 ≤ R.length) (i : Nat) (hi : i < R.length) : (lens R L).getD i 0 = ((cnt (back R L (2 * R.length - 2)) i : Nat) : Int) := by
  unfold lens
  rw [if_neg (by omega)]
  rw [← tim_cnt]
  simp [List.getD, List.getElem?_range hi]
theorem lens_one (hn : R.length < 2) (i : Nat) (hi : i < R.length) : (lens R L).getD i 0 = 1 := by
  unfold lens
  rw [if_pos hn]
  simp [List.getD, List.getElem?_replicate, hi]
theorem back_head (hU : Up R) (hP : Pos R) (hn : 2 ≤ R.length) (hL : 0 < L) (hr : 2 * R.length - 2 ≤ (rnd R L).length) : ∃ ks, back R L (2 * R.length - 2) = R.length :: ks := by
  obtain ⟨r, rfl⟩ : ∃ r, L = r + 1 := ⟨L - 1, by omega⟩
  exact ⟨_, by rw [back, rnd_all hU hP hn _ hr]⟩
theorem lens_range (hU : Up R) (hP : Pos R) (hL : 0 < L) (hL2 : R.length ≤ 2 ^ L) (i : Nat) (hi : i < R.length) : 1 ≤ (lens R L).getD i 0 ∧ (lens R L).getD i 0 ≤ L ∧ (R.length = 1 → (lens R L).getD i 0 = 1) := by
  by_cases hn : 2 ≤ R.length
  · rw [lens_big hn i hi]
    obtain ⟨ks, hk⟩ := back_head hU hP hn hL (rnd_room R (by omega) L hL hL2)
    have h1 := cnt_le (back R L (2 * R.length - 2)) i
    rw [back_length] at h1
    have h2 : 1 ≤ cnt (back R L (2 * R.length - 2)) i := by rw [hk, cnt_cons, if_pos hi]; omega
    omega
  · rw [lens_one (by omega) i hi]; omega
theorem lens_anti (i j : Nat) (h : i ≤ j) (hj : j < R.length) : (lens R L).getD j 0 ≤ (lens R L).getD i 0 := by
  by_cases hn : 2 ≤ R.length
  · rw [lens_big hn i (by omega), lens_big hn j hj]
    have := cnt_anti (back R L (2 * R.length - 2)) h
    omega
  · rw [lens_one (by omega) i (by omega), lens_one (by omega) j hj]; omega
theorem part_nat (t : Nat) (h1 : 1 ≤ t) (h2 : t ≤ 16) : Cn.part (t : Int) = 2 ^ (16 - t) := by
  unfold Cn.part
  rw [if_neg (by omega), Int.toNat_natCast, show (65536 : Nat) = 2 ^ 16 from rfl, Nat.pow_div h2 (by omega)]
/-- The lengths are whole. -/
theorem lens_whole (hU : Up R) (hP : Pos R) (hL : 0 < L) (hL16 : L ≤ 16) (hL2 : R.length ≤ 2 ^ L) (hn : 2 ≤ R.length) : S (fun i => Cn.part ((lens R L).getD i 0)) R.length = 65536 := by
  have hr := rnd_room R (by omega) L hL hL2
  have e : S (fun i => Cn.part ((lens R L).getD i 0)) R.length = S (fun i => 2 ^ (16 - L) * 2 ^ (L - cnt (back R L (2 * R.length - 2)) i)) R.length := by
    refine S_congr _ (fun i hi => ?_)
    have h1 := (lens_range hU hP hL hL2 i hi)
    rw [lens_big hn i hi] at h1 ⊢
    rw [part_nat _ (by omega) (by omega), ← Nat.pow_add, show 16 - L + (L - cnt (back R L (2 * R.length - 2)) i) = 16 - cnt (back R L (2 * R.length - 2)) i by omega]
  rw [e, S_mul]
  have hk := kraft R.length (back R L (2 * R.length - 2)) (back_anti hU hP L _ hr) (back_le R L _ hr) (back_ev R L _ hr)
  rw [back_length, back_T R L _ hr] at hk
  have e2 : K (back R L (2 * R.length - 2)) R.length = S (fun i => 2 ^ (L - cnt (back R L (2 * R.length - 2)) i)) R.length := by unfold K; rw [back_length]
  rw [e2] at hk
  generalize S (fun i => 2 ^ (L - cnt (back R L (2 * R.length - 2)) i)) R.length = q at *
  have hq : q = 2 ^ L := by
    obtain ⟨m, hm⟩ : ∃ m, R.length = m + 1 := ⟨R.length - 1, by omega⟩
    rw [hm, show 2 * (m + 1) - 2 = 2 * m by omega] at hk
    generalize 2 ^ L = p at *
    have e1 : p * (2 * m) = 2 * (m * p) := by rw [← Nat.mul_assoc, Nat.mul_comm p 2, Nat.mul_assoc, Nat.mul_comm p m]
    have e3 : (m + 1) * p = m * p + p := Nat.succ_mul m p
    rw [e1, e3] at hk
    omega
  rw [hq, ← Nat.pow_add, show 16 - L + L = 16 by omega]
end
end Mg
end Go.Proofs.Ytcagdnajapcmkaa
