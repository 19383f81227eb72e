/- The passes as mathematics. -/
import Derived.Test.YtfdnjblbhbkndaaDoorBase
namespace Go.Proofs.YtfdnjblbhbkndaaDoor
namespace Lc
def px (p : Nat) : Nat := [0, 4, 0, 2, 0, 1, 0].getD p 0
def pdx (p : Nat) : Nat := [8, 8, 4, 4, 2, 2, 1].getD p 1
def py (p : Nat) : Nat := [0, 0, 4, 0, 2, 0, 1].getD p 0
def pdy (p : Nat) : Nat := [8, 8, 8, 4, 4, 2, 2].getD p 1
/-- The reference's table. -/
def tab : List (List Nat) := [[0, 5, 3, 5, 1, 5, 3, 5], [6, 6, 6, 6, 6, 6, 6, 6], [4, 5, 4, 5, 4, 5, 4, 5], [6, 6, 6, 6, 6, 6, 6, 6], [2, 5, 3, 5, 2, 5, 3, 5], [6, 6, 6, 6, 6, 6, 6, 6], [4, 5, 4, 5, 4, 5, 4, 5], [6, 6, 6, 6, 6, 6, 6, 6]]
def pt (x y : Nat) : Nat := (tab.getD (y % 8) []).getD (x % 8) 0
theorem tab_iff : ∀ a, a < 8 → ∀ b, b < 8 → ∀ p, p < 7 → ((tab.getD b []).getD a 0 = p ↔ a % pdx p = px p ∧ b % pdy p = py p) := by decide
theorem dx_dvd : ∀ p, p < 7 → pdx p ∣ 8 ∧ pdy p ∣ 8 ∧ 0 < pdx p ∧ 0 < pdy p ∧ px p < pdx p ∧ py p < pdy p := by decide
theorem pt_lt (x y : Nat) : pt x y < 7 := by
  have : ∀ a, a < 8 → ∀ b, b < 8 → (tab.getD b []).getD a 0 < 7 := by decide
  exact this _ (Nat.mod_lt _ (by omega)) _ (Nat.mod_lt _ (by omega))
theorem pt_iff (x y p : Nat) (h : p < 7) : pt x y = p ↔ x % pdx p = px p ∧ y % pdy p = py p := by
  have k := tab_iff (x % 8) (Nat.mod_lt _ (by omega)) (y % 8) (Nat.mod_lt _ (by omega)) p h
  obtain ⟨d1, d2, _⟩ := dx_dvd p h
  rw [Nat.mod_mod_of_dvd _ d1, Nat.mod_mod_of_dvd _ d2] at k
  exact k
/-- How many there are below n, from a on by steps of d. -/
def stp (a d n : Nat) : Nat := if a < n then (n - a - 1) / d + 1 else 0
theorem stp_eq (a d n : Nat) (hd : 0 < d) (ha : a < d) : stp a d n = n / d + (if a < n % d then 1 else 0) := by
  have e := Nat.div_add_mod n d
  have l := Nat.mod_lt n hd
  generalize n / d = q at *
  generalize n % d = r at *
  subst e
  unfold stp
  by_cases h : a < r
  · rw [if_pos (by omega), if_pos h, show d * q + r - a - 1 = (r - a - 1) + d * q by omega, Nat.add_mul_div_left _ _ hd, Nat.div_eq_of_lt (by omega)]
    omega
  · rw [if_neg h]
    cases q with
    | zero => rw [if_neg (by omega)]
    | succ q =>
      have e2 : d * (q + 1) = d * q + d := Nat.mul_succ d q
      rw [if_pos (by omega), show d * (q + 1) + r - a - 1 = (d + r - a - 1) + d * q by omega, Nat.add_mul_div_left _ _ hd, Nat.div_eq_of_lt (by omega)]
      omega
theorem stp_succ (a d n : Nat) (hd : 0 < d) (ha : a < d) : stp a d (n + 1) = stp a d n + (if n % d = a then 1 else 0) := by
  rw [stp_eq a d _ hd ha, stp_eq a d _ hd ha]
  have e := Nat.div_add_mod n d
  have l := Nat.mod_lt n hd
  by_cases h : n % d + 1 = d
  · have h1 : (n + 1) % d = 0 := by
      have : n + 1 = d * (n / d + 1) := by rw [Nat.mul_succ]; omega
      rw [this, Nat.mul_mod_right]
    have h2 : (n + 1) / d = n / d + 1 := by
      have : n + 1 = d * (n / d + 1) := by rw [Nat.mul_succ]; omega
      rw [this, Nat.mul_div_cancel_left _ hd]
    rw [h1, h2]
    split <;> split <;> split <;> omega
  · have h1 : (n + 1) % d = n % d + 1 := by
      have : n + 1 = (n % d + 1) + d * (n / d) := by omega
      rw [this, Nat.add_mul_mod_self_left, Nat.mod_eq_of_lt (by omega)]
    have h2 : (n + 1) / d = n / d := by
      have : n + 1 = (n % d + 1) + d * (n / d) := by omega
      rw [this, Nat.add_mul_div_left _ _ hd, Nat.div_eq_of_lt (by omega)]
      omega
    rw [h1, h2]
    split <;> split <;> split <;> omega
theorem stp_zero (a d : Nat) : stp a d 0 = 0 := by unfold stp; simp
theorem stp_mod (a d n : Nat) (hd : 0 < d) (ha : a < d) (h : n % d = a) : a + stp a d n * d = n := by
  rw [stp_eq a d n hd ha, if_neg (by omega)]
  have := Nat.div_add_mod n d
  rw [Nat.mul_comm] at this
  simp only [Nat.add_zero]
  omega
/-- The numbers below n that stand in a pass. -/
theorem filt (a d : Nat) (hd : 0 < d) (ha : a < d) : ∀ n, (List.range n).filter (fun x => x % d == a) = (List.range (stp a d n)).map (fun k => a + k * d)
  | 0 => by rw [stp_zero]; rfl
  | n + 1 => by
    rw [List.range_succ, List.filter_append, filt a d hd ha n, stp_succ a d n hd ha]
    by_cases h : n % d = a
    · rw [if_pos h, List.range_succ, List.map_append]
      simp [h, stp_mod a d n hd ha h]
    · rw [if_neg h]
      simp [h]
theorem stp_len (a d n : Nat) (hd : 0 < d) (ha : a < d) : ((List.range n).filter (fun x => x % d == a)).length = stp a d n := by rw [filt a d hd ha]; simp
theorem stp_lt (a d n k : Nat) (hd : 0 < d) (ha : a < d) (h : k < stp a d n) : a + k * d < n := by
  have : a + k * d ∈ (List.range n).filter (fun x => x % d == a) := by rw [filt a d hd ha]; exact List.mem_map.2 ⟨k, by simpa using h, rfl⟩
  simpa using (List.mem_filter.1 this).1
theorem stp_le (a d n : Nat) (hd : 0 < d) (ha : a < d) : stp a d n ≤ n := by
  rw [← stp_len a d n hd ha]
  exact Nat.le_trans (List.length_filter_le _ _) (by simp)
/-- A part: the first column, their step, the first row, their step, so many columns, so many rows. -/
structure Pa where
  x : Nat
  dx : Nat
  y : Nat
  dy : Nat
  c : Nat
  r : Nat
/-- What a picture has of a pass. -/
def of (p w h : Nat) : Pa := if stp (px p) (pdx p) w = 0 ∨ stp (py p) (pdy p) h = 0 then ⟨px p, pdx p, py p, pdy p, 0, 0⟩ else ⟨px p, pdx p, py p, pdy p, stp (px p) (pdx p) w, stp (py p) (pdy p) h⟩
/-- The pass's parts from p on. -/
def from' (w h p : Nat) : Nat → List (Nat × Pa)
  | 0 => []
  | n + 1 => (if 0 < (of p w h).c then [(p, of p w h)] else []) ++ from' w h (p + 1) n
def parts (w h : Nat) (l : Int) : List (Nat × Pa) := if l = 0 then [(0, ⟨0, 1, 0, 1, w, h⟩)] else from' w h 0 7
/-- A row of a part. -/
def Pa.row (a : Pa) (w r : Nat) : List Nat := (List.range a.c).map fun c => (a.y + r * a.dy) * w + (a.x + c * a.dx)
def Pa.lst (a : Pa) (w : Nat) : List Nat := (List.range a.r).flatMap (a.row w)
def all (ps : List (Nat × Pa)) (w : Nat) : List Nat := ps.flatMap fun q => q.2.lst w
/-- The reference's. -/
def rrow (w : Nat) (g : Nat → Nat → Bool) (y n : Nat) : List Nat := (List.range n).flatMap fun x => if g x y then [y * w + x] else []
def rlst (w : Nat) (g : Nat → Nat → Bool) (n : Nat) : List Nat := (List.range n).flatMap fun y => rrow w g y w
theorem rrow_eq (w : Nat) (g : Nat → Nat → Bool) (y n : Nat) : rrow w g y n = ((List.range n).filter (g · y)).map (y * w + ·) := by
  unfold rrow
  induction List.range n with
  | nil => rfl
  | cons x s ih => rw [List.flatMap_cons, ih, List.filter_cons]; cases g x y <;> simp
theorem flat_filter {α β : Type} (f : α → List β) (q : α → Bool) (s : List α) : (s.flatMap fun y => if q y then f y else []) = (s.filter q).flatMap f := by
  induction s with
  | nil => rfl
  | cons x s ih => rw [List.flatMap_cons, ih, List.filter_cons]; cases q x <;> simp
theorem lst_pass (p w h : Nat) (hp : p < 7) : rlst w (fun x y => pt x y == p) h = (of p w h).lst w := by
  obtain ⟨_, _, d1, d2, l1, l2⟩ := dx_dvd p hp
  have e : rlst w (fun x y => pt x y == p) h = (List.range h).flatMap fun y => if y % pdy p == py p then ((List.range (stp (px p) (pdx p) w)).map fun k => px p + k * pdx p).map (y * w + ·) else [] := by
    unfold rlst
    congr 1
    funext y
    rw [rrow_eq]
    by_cases hy : y % pdy p = py p
    · rw [if_pos (by simpa using hy), ← filt _ _ d1 l1]
      congr 2
      funext x
      have := pt_iff x y p hp
      by_cases hx : x % pdx p = px p
      · simp [this.2 ⟨hx, hy⟩, hx]
      · have : pt x y ≠ p := fun e => hx (this.1 e).1
        rw [beq_eq_false_iff_ne.2 this, beq_eq_false_iff_ne.2 hx]
    · rw [if_neg (by simpa using hy)]
      have : (List.range w).filter (fun x => pt x y == p) = [] := List.filter_eq_nil_iff.2 (fun x _ e => hy ((pt_iff x y p hp).1 (by simpa using e)).2)
      rw [this]; rfl
  rw [e, flat_filter, filt _ _ d2 l2, List.flatMap_map]
  unfold of Pa.lst Pa.row
  by_cases h1 : stp (px p) (pdx p) w = 0
  · rw [if_pos (.inl h1)]; simp [h1]
  by_cases h2 : stp (py p) (pdy p) h = 0
  · rw [if_pos (.inr h2)]; simp [h2]
  rw [if_neg (by omega)]
  simp only [List.map_map]
  rfl
theorem of_zero {p w h : Nat} (e : (of p w h).c = 0) : (of p w h).r = 0 := by
  unfold of at e ⊢
  split at e
  · rename_i k; rw [if_pos k]
  · rename_i k; exact absurd (Or.inl e) k
theorem all_cons (q : Nat × Pa) (s : List (Nat × Pa)) (w : Nat) : all (q :: s) w = q.2.lst w ++ all s w := rfl
theorem all_from (w h : Nat) : ∀ n p, p + n = 7 → all (from' w h p n) w = (List.range' p n).flatMap fun p => rlst w (fun x y => pt x y == p) h
  | 0, p, _ => rfl
  | n + 1, p, e => by
    have ih := all_from w h n (p + 1) (by omega)
    rw [List.range'_succ, List.flatMap_cons, ← ih, lst_pass p w h (by omega)]
    show all ((if 0 < (of p w h).c then [(p, of p w h)] else []) ++ from' w h (p + 1) n) w = _
    split
    · rfl
    · rename_i k
      have := of_zero (p := p) (w := w) (h := h) (by omega)
      simp [Pa.lst, this]
theorem all_laced (w h : Nat) (l : Int) (hl : l ≠ 0) : all (parts w h l) w = (List.range 7).flatMap fun p => rlst w (fun x y => pt x y == p) h := by
  unfold parts
  rw [if_neg hl, all_from w h 7 0 rfl]
  rfl
theorem all_plain (w h : Nat) : all (parts w h 0) w = rlst w (fun _ _ => true) h := by
  unfold parts rlst
  rw [if_pos rfl]
  simp only [all, Pa.lst, List.flatMap_cons, List.flatMap_nil, List.append_nil]
  congr 1
  funext y
  rw [rrow_eq]
  rw [List.filter_eq_self.2 (by simp)]
  simp [Pa.row]
theorem count_flat {α : Type} (f : α → List Nat) (v : Nat) (s : List α) : (s.flatMap f).count v = (s.map fun y => (f y).count v).sum := by
  induction s with
  | nil => rfl
  | cons x s ih => simp [List.flatMap_cons, List.count_append, ih]
theorem sum_one (g : Nat → Nat) (k : Nat) : ∀ n, (∀ i, i < n → i ≠ k → g i = 0) → ((List.range n).map g).sum = if k < n then g k else 0
  | 0, _ => by simp
  | n + 1, hg => by
    rw [List.range_succ, List.map_append, List.sum_append, sum_one g k n (fun i hi => hg i (by omega))]
    by_cases h : k = n
    · subst h; simp
    · have := hg n (by omega) (fun e => h e.symm)
      by_cases h2 : k < n
      · rw [if_pos h2, if_pos (by omega)]; simp [this]
      · rw [if_neg h2, if_neg (by omega)]; simp [this]
theorem split_place {w x y x' y' : Nat} (h : x < w) (h' : x' < w) : y * w + x = y' * w + x' ↔ y = y' ∧ x = x' := by
  constructor
  · intro e
    have a : (y * w + x) / w = y := by rw [Nat.mul_comm, Nat.mul_add_div (by omega), Nat.div_eq_of_lt h]; rfl
    have b : (y' * w + x') / w = y' := by rw [Nat.mul_comm, Nat.mul_add_div (by omega), Nat.div_eq_of_lt h']; rfl
    have : y = y' := by rw [← a, e, b]
    subst this
    exact ⟨rfl, by omega⟩
  · rintro ⟨rfl, rfl⟩; rfl
theorem count_rrow (w : Nat) (g : Nat → Nat → Bool) (y x0 y0 : Nat) (h : x0 < w) : (rrow w g y w).count (y0 * w + x0) = if y = y0 ∧ g x0 y0 = true then 1 else 0 := by
  unfold rrow
  rw [count_flat, sum_one _ x0, if_pos h]
  · by_cases hy : y = y0
    · subst hy
      cases g x0 y <;> simp
    · have : y * w + x0 ≠ y0 * w + x0 := fun e => hy ((split_place h h).1 e).1
      rw [if_neg (show ¬ (y = y0 ∧ g x0 y0 = true) from fun e => hy e.1)]
      cases g x0 y
      · rfl
      · rw [List.count_eq_zero]; simp; omega
  · intro i hi hne
    have : y * w + i ≠ y0 * w + x0 := fun e => hne ((split_place hi h).1 e).2
    split
    · rw [List.count_eq_zero]; simp; omega
    · rfl
theorem count_rlst (w : Nat) (g : Nat → Nat → Bool) (h x0 y0 : Nat) (hx : x0 < w) (hy : y0 < h) : (rlst w g h).count (y0 * w + x0) = if g x0 y0 = true then 1 else 0 := by
  unfold rlst
  rw [count_flat, sum_one _ y0, if_pos hy, count_rrow w g y0 x0 y0 hx]
  · simp
  · intro i _ hne
    rw [count_rrow w g i x0 y0 hx, if_neg (fun e => hne e.1)]
theorem count_laced (w h x0 y0 : Nat) (l : Int) (hl : l ≠ 0) (hx : x0 < w) (hy : y0 < h) : (all (parts w h l) w).count (y0 * w + x0) = 1 := by
  rw [all_laced w h l hl, count_flat, sum_one _ (pt x0 y0), if_pos (pt_lt _ _), count_rlst w _ h x0 y0 hx hy]
  · simp
  · intro i _ hne
    rw [count_rlst w _ h x0 y0 hx hy, if_neg (by simpa using fun e => hne e.symm)]
theorem once (w h v : Nat) (l : Int) (hl : l ≠ 0) (hv : v < w * h) : (all (parts w h l) w).count v = 1 := by
  have hw : 0 < w := by rcases Nat.eq_zero_or_pos w with e | e; · subst e; omega
                        · exact e
  have := count_laced w h (v % w) (v / w) l hl (Nat.mod_lt _ hw) (Nat.div_lt_of_lt_mul hv)
  rwa [Nat.mul_comm, Nat.div_add_mod] at this
theorem rlst_lt (w : Nat) (g : Nat → Nat → Bool) (h v : Nat) (hv : v ∈ rlst w g h) : v < w * h := by
  obtain ⟨y, hy, hv⟩ := List.mem_flatMap.1 hv
  obtain ⟨x, hx, hv⟩ := List.mem_flatMap.1 hv
  have hy := List.mem_range.1 hy
  have hx := List.mem_range.1 hx
  split at hv
  · have e : v = y * w + x := by simpa using hv
    have : y * w + w ≤ h * w := by rw [← Nat.succ_mul]; exact Nat.mul_le_mul_right _ hy
    rw [Nat.mul_comm w h]
    omega
  · simp at hv
theorem laced_lt (w h v : Nat) (l : Int) (hl : l ≠ 0) (hv : v ∈ all (parts w h l) w) : v < w * h := by
  rw [all_laced w h l hl] at hv
  obtain ⟨p, _, hv⟩ := List.mem_flatMap.1 hv
  exact rlst_lt _ _ _ _ hv
theorem count_range (v : Nat) : ∀ n, (List.range n).count v = if v < n then 1 else 0
  | 0 => by simp
  | n + 1 => by
    rw [List.range_succ, List.count_append, count_range v n]
    by_cases h : n = v
    · subst h; simp
    · have : [n].count v = 0 := List.count_eq_zero.2 (by simpa using fun e => h e.symm)
      rw [this]
      split <;> split <;> omega
theorem laced_len (w h : Nat) (l : Int) (hl : l ≠ 0) : (all (parts w h l) w).length = w * h := by
  have : List.Perm (all (parts w h l) w) (List.range (w * h)) := List.perm_iff_count.2 fun v => by
    by_cases hv : v < w * h
    · rw [once w h v l hl hv]
      rw [count_range, if_pos hv]
    · rw [List.count_eq_zero.2 (fun k => hv (laced_lt w h v l hl k)), List.count_eq_zero.2 (by simpa using hv)]
  rw [this.length_eq, List.length_range]
end Lc
end Go.Proofs.YtfdnjblbhbkndaaDoor
