/- Merging by packages: rounds, what is taken of them, and that nothing costs less. Bits in bytes, as lists. -/
import Derived.Test.YtpoilaappcjbeaaGreatDoorZ1
set_option linter.unusedSimpArgs false
set_option linter.unusedVariables false
section
namespace Go.Proofs.YtpoilaappcjbeaaGreatDoor

namespace Mg
abbrev Itm := Int × Bool
def go (r : Int) (f : List Int → List Itm) : List Int → List Itm
  | [] => (r, true) :: f []
  | p :: P => if r ≤ p then (r, true) :: f (p :: P) else (p, false) :: go r f P
/-- Symbols and packages, merged; a symbol comes first. -/
def mrg : List Int → List Int → List Itm
  | [] => fun P => P.map fun p => (p, false)
  | r :: R => go r (mrg R)
theorem mrg_nil (P : List Int) : mrg [] P = P.map fun p => (p, false) := rfl
theorem mrg_cons_nil (r : Int) (R : List Int) : mrg (r :: R) [] = (r, true) :: mrg R [] := rfl
theorem mrg_cons (r : Int) (R : List Int) (p : Int) (P : List Int) : mrg (r :: R) (p :: P) = if r ≤ p then (r, true) :: mrg R (p :: P) else (p, false) :: mrg (r :: R) P := rfl
theorem mrg_end (R : List Int) : mrg R [] = R.map fun x => (x, true) := by
  induction R with
  | nil => rfl
  | cons r R ih => rw [mrg_cons_nil, ih]; rfl
def wts (A : List Itm) : List Int := A.map Prod.fst
def pre (l : List Int) (t : Nat) : Int := (l.take t).sum
def syN (A : List Itm) (t : Nat) : Nat := ((A.take t).filter Prod.snd).length
theorem pre_zero (l : List Int) : pre l 0 = 0 := by simp [pre]
theorem pre_nil (t : Nat) : pre [] t = 0 := by simp [pre]
theorem pre_cons (x : Int) (l : List Int) (t : Nat) : pre (x :: l) (t + 1) = x + pre l t := by simp [pre]
theorem pre_succ (l : List Int) (t : Nat) (h : t < l.length) : pre l (t + 1) = pre l t + l[t] := by
  unfold pre; rw [List.take_succ_eq_append_getElem h, List.sum_append]; simp
theorem syN_zero (A : List Itm) : syN A 0 = 0 := by simp [syN]
theorem syN_nil (t : Nat) : syN [] t = 0 := by simp [syN]
theorem syN_sym (x : Int) (A : List Itm) (t : Nat) : syN ((x, true) :: A) (t + 1) = syN A t + 1 := by simp [syN]
theorem syN_pkg (x : Int) (A : List Itm) (t : Nat) : syN ((x, false) :: A) (t + 1) = syN A t := by simp [syN]
theorem wts_cons (x : Itm) (A : List Itm) : wts (x :: A) = x.1 :: wts A := rfl
theorem wts_length (A : List Itm) : (wts A).length = A.length := by simp [wts]
theorem syN_le (A : List Itm) (t : Nat) : syN A t ≤ t := by
  unfold syN
  refine Nat.le_trans (List.length_filter_le _ _) ?_
  rw [List.length_take]; omega
theorem wts_pkgs (P : List Int) : wts (P.map fun p => (p, false)) = P := by simp [wts, Function.comp_def]
theorem syN_pkgs (P : List Int) (t : Nat) : syN (P.map fun p => (p, false)) t = 0 := by simp [syN, ← List.map_take, List.filter_map, Function.comp_def]
theorem wts_syms (P : List Int) : wts (P.map fun p => (p, true)) = P := by simp [wts, Function.comp_def]
theorem syN_syms (P : List Int) (t : Nat) : syN (P.map fun p => (p, true)) t = min t P.length := by
  unfold syN
  have e : List.filter (Prod.snd ∘ fun (p : Int) => (p, true)) (List.take t P) = List.take t P := List.filter_eq_self.2 (fun _ _ => rfl)
  rw [← List.map_take, List.filter_map, List.length_map, e, List.length_take]
theorem mrg_length (R P : List Int) : (mrg R P).length = R.length + P.length := by
  induction R generalizing P with
  | nil => simp [mrg_nil]
  | cons r R ih =>
    induction P with
    | nil => rw [mrg_cons_nil, List.length_cons, ih]; simp
    | cons p P ihp =>
      rw [mrg_cons]
      split
      · rw [List.length_cons, ih]; simp only [List.length_cons]; omega
      · rw [List.length_cons, ihp]; simp only [List.length_cons]; omega
theorem mrg_mem (R P : List Int) (x : Int) : x ∈ wts (mrg R P) ↔ x ∈ R ∨ x ∈ P := by
  induction R generalizing P with
  | nil => rw [mrg_nil, wts_pkgs]; simp
  | cons r R ih =>
    induction P with
    | nil => rw [mrg_cons_nil, wts_cons, List.mem_cons, ih]; simp
    | cons p P ihp =>
      rw [mrg_cons]
      split
      · rw [wts_cons, List.mem_cons, ih]; simp only [List.mem_cons]; exact ⟨fun h => by rcases h with h | h | h | h <;> simp [h], fun h => by rcases h with (h | h) | h | h <;> simp [h]⟩
      · rw [wts_cons, List.mem_cons, ihp]; simp only [List.mem_cons]; exact ⟨fun h => by rcases h with h | (h | h) | h <;> simp [h], fun h => by rcases h with (h | h) | h | h <;> simp [h]⟩
def Up (l : List Int) : Prop := l.Pairwise (· ≤ ·)
theorem mrg_up (R P : List Int) (hR : Up R) (hP : Up P) : Up (wts (mrg R P)) := by
  unfold Up at *
  induction R generalizing P with
  | nil => rw [mrg_nil, wts_pkgs]; exact hP
  | cons r R ih =>
    have hR1 := List.pairwise_cons.1 hR
    induction P with
    | nil =>
      rw [mrg_cons_nil, wts_cons, List.pairwise_cons]
      exact ⟨fun x hx => by rcases (mrg_mem R [] x).1 hx with h | h; exact hR1.1 x h; simp at h, ih _ hR1.2 List.Pairwise.nil⟩
    | cons p P ihp =>
      have hP1 := List.pairwise_cons.1 hP
      rw [mrg_cons]
      split
      · rename_i hle
        rw [wts_cons, List.pairwise_cons]
        refine ⟨fun x hx => ?_, ih _ hR1.2 hP⟩
        rcases (mrg_mem R _ x).1 hx with h | h
        · exact hR1.1 x h
        · rcases List.mem_cons.1 h with rfl | h
          · exact hle
          · exact Int.le_trans hle (hP1.1 x h)
      · rename_i hle
        rw [wts_cons, List.pairwise_cons]
        refine ⟨fun x hx => ?_, ihp hP1.2⟩
        rcases (mrg_mem _ P x).1 hx with h | h
        · rcases List.mem_cons.1 h with rfl | h
          · show p ≤ x; omega
          · have := hR1.1 x h; show p ≤ x; omega
        · exact hP1.1 x h
/-- What stands ahead: so many symbols, so many packages. -/
theorem mrg_split : ∀ (t : Nat) (R P : List Int), t ≤ R.length + P.length → ∃ c d, c + d = t ∧ syN (mrg R P) t = c ∧ c ≤ R.length ∧ d ≤ P.length ∧ pre (wts (mrg R P)) t = pre R c + pre P d
  | 0, R, P, _ => ⟨0, 0, rfl, syN_zero _, Nat.zero_le _, Nat.zero_le _, by simp [pre_zero]⟩
  | t + 1, [], P, h => ⟨0, t + 1, by omega, by rw [mrg_nil, syN_pkgs], Nat.le_refl _, by simpa using h, by rw [mrg_nil, wts_pkgs, pre_nil]; simp⟩
  | t + 1, r :: R, [], h => by
    obtain ⟨c, d, h1, h2, h3, h4, h5⟩ := mrg_split t R [] (by simp at h ⊢; omega)
    exact ⟨c + 1, d, by omega, by rw [mrg_cons_nil, syN_sym, h2], by simp; omega, h4, by rw [mrg_cons_nil, wts_cons, pre_cons, pre_cons, h5, Int.add_assoc]⟩
  | t + 1, r :: R, p :: P, h => by
    rw [mrg_cons]
    split
    · obtain ⟨c, d, h1, h2, h3, h4, h5⟩ := mrg_split t R (p :: P) (by simp at h ⊢; omega)
      exact ⟨c + 1, d, by omega, by rw [syN_sym, h2], by simp; omega, h4, by rw [wts_cons, pre_cons, pre_cons, h5, Int.add_assoc]⟩
    · obtain ⟨c, d, h1, h2, h3, h4, h5⟩ := mrg_split t (r :: R) P (by simp at h ⊢; omega)
      exact ⟨c, d + 1, by omega, by rw [syN_pkg, h2], h3, by simp; omega, by rw [wts_cons, pre_cons, pre_cons, h5]; show p + _ = _; omega⟩
theorem up_head_le {x : Int} {l : List Int} (h : Up (x :: l)) (i : Nat) (hi : i < (x :: l).length) : x ≤ (x :: l)[i] := by
  cases i with
  | zero => exact Int.le_refl _
  | succ i => exact (List.pairwise_cons.1 h).1 _ (List.getElem_mem _)
/-- Nothing of as many weighs less. -/
theorem mrg_min : ∀ (t : Nat) (R P : List Int) (a b : Nat), Up R → Up P → a + b = t → a ≤ R.length → b ≤ P.length → pre (wts (mrg R P)) t ≤ pre R a + pre P b
  | 0, R, P, a, b, _, _, h, _, _ => by
    obtain ⟨rfl, rfl⟩ : a = 0 ∧ b = 0 := by omega
    simp [pre_zero]
  | t + 1, [], P, a, b, _, _, h, ha, hb => by
    obtain rfl : a = 0 := by simpa using ha
    obtain rfl : b = t + 1 := by omega
    rw [mrg_nil, wts_pkgs, pre_nil, Int.zero_add]; exact Int.le_refl _
  | t + 1, r :: R, [], a, b, hR, hP, h, ha, hb => by
    obtain rfl : b = 0 := by simpa using hb
    obtain rfl : a = t + 1 := by omega
    rw [mrg_cons_nil, wts_cons, pre_cons, pre_cons]
    have := mrg_min t R [] t 0 (List.pairwise_cons.1 hR).2 hP rfl (by simpa using ha) (Nat.le_refl _)
    show r + _ ≤ _
    omega
  | t + 1, r :: R, p :: P, a, b, hR, hP, h, ha, hb => by
    rw [mrg_cons]
    split
    · rename_i hle
      rw [wts_cons, pre_cons]
      show r + _ ≤ _
      cases a with
      | succ a =>
        have := mrg_min t R (p :: P) a b (List.pairwise_cons.1 hR).2 hP (by omega) (by simpa using ha) hb
        rw [pre_cons]; omega
      | zero =>
        obtain rfl : b = t + 1 := by omega
        have := mrg_min t R (p :: P) 0 t (List.pairwise_cons.1 hR).2 hP (by omega) (Nat.zero_le _) (by omega)
        have h2 := up_head_le hP t hb
        rw [pre_succ (p :: P) t hb, pre_zero]; rw [pre_zero] at this; omega
    · rename_i hle
      rw [wts_cons, pre_cons]
      show p + _ ≤ _
      cases b with
      | succ b =>
        have := mrg_min t (r :: R) P a b hR (List.pairwise_cons.1 hP).2 (by omega) ha (by simpa using hb)
        rw [pre_cons]; omega
      | zero =>
        obtain rfl : a = t + 1 := by omega
        have := mrg_min t (r :: R) P t 0 hR (List.pairwise_cons.1 hP).2 (by omega) (by omega) (Nat.zero_le _)
        have h2 := up_head_le hR t ha
        rw [pre_succ (r :: R) t ha, pre_zero]; rw [pre_zero] at this; omega
/-- Ahead of a package stand all symbols that weigh no more. -/
theorem mrg_ahead : ∀ (t : Nat) (R P : List Int) (c d : Nat) (w : Int), (∀ x ∈ R.take c, x ≤ w) → c ≤ R.length → P[d]? = some w → d + 1 + syN (mrg R P) t ≤ t → c ≤ syN (mrg R P) t
  | 0, R, P, c, d, w, _, _, _, h => by omega
  | t + 1, [], P, c, d, w, _, hc, _, _ => by simp at hc; omega
  | t + 1, r :: R, [], c, d, w, _, _, hd, _ => by simp at hd
  | t + 1, r :: R, p :: P, c, d, w, hw, hc, hd, h => by
    rw [mrg_cons] at h ⊢
    split at h
    · rename_i hle
      rw [if_pos hle]
      rw [syN_sym] at h ⊢
      cases c with
      | zero => omega
      | succ c =>
        have := mrg_ahead t R (p :: P) c d w (fun x hx => hw x (by rw [List.take_succ_cons]; exact List.mem_cons_of_mem _ hx)) (by simpa using hc) hd (by omega)
        omega
    · rename_i hle
      rw [if_neg hle]
      rw [syN_pkg] at h ⊢
      cases d with
      | zero =>
        cases c with
        | zero => omega
        | succ c =>
          have h1 := hw r (by rw [List.take_succ_cons]; exact List.mem_cons_self)
          simp at hd
          omega
      | succ d =>
        exact mrg_ahead t (r :: R) P c d w hw hc (by simpa using hd) (by omega)
def pairs : List Int → List Int
  | x :: y :: l => (x + y) :: pairs l
  | _ => []
theorem pairs_length : ∀ l : List Int, (pairs l).length = l.length / 2
  | [] => rfl
  | [_] => by simp [pairs]
  | x :: y :: l => by simp only [pairs, List.length_cons]; rw [pairs_length l]; omega
theorem pairs_pre : ∀ (l : List Int) (d : Nat), d ≤ l.length / 2 → pre (pairs l) d = pre l (2 * d)
  | [], d, h => by simp [pairs, pre_nil]
  | [_], d, h => by obtain rfl : d = 0 := by simpa using h
                    simp [pre_zero]
  | x :: y :: l, 0, _ => by simp [pre_zero]
  | x :: y :: l, d + 1, h => by
    have := pairs_pre l d (by simp at h; omega)
    rw [pairs, pre_cons, this, show 2 * (d + 1) = 2 * d + 1 + 1 by omega, pre_cons, pre_cons]; omega
theorem pairs_get : ∀ (l : List Int) (d : Nat) (h : 2 * d + 1 < l.length), (pairs l)[d]? = some (l[2 * d] + l[2 * d + 1])
  | [], d, h => by simp at h
  | [_], d, h => by simp at h
  | x :: y :: l, 0, _ => by simp [pairs]
  | x :: y :: l, d + 1, h => by
    have := pairs_get l d (by simp at h; omega)
    rw [pairs, List.getElem?_cons_succ, this]
    simp [show 2 * (d + 1) = 2 * d + 1 + 1 by omega]
theorem pairs_mem_ge : ∀ (l : List Int) (b : Int), (∀ x ∈ l, b ≤ x) → 0 ≤ b → ∀ z ∈ pairs l, b + b ≤ z
  | [], b, _, _ => by simp [pairs]
  | [_], b, _, _ => by simp [pairs]
  | x :: y :: l, b, h, h0 => by
    intro z hz
    rw [pairs, List.mem_cons] at hz
    rcases hz with rfl | hz
    · have := h x (by simp); have := h y (by simp); omega
    · exact pairs_mem_ge l b (fun x hx => h x (by simp [hx])) h0 z hz
theorem pairs_up : ∀ (l : List Int), Up l → Up (pairs l)
  | [], _ => List.Pairwise.nil
  | [_], _ => List.Pairwise.nil
  | x :: y :: l, h => by
    have h1 := List.pairwise_cons.1 h
    have h2 := List.pairwise_cons.1 h1.2
    rw [pairs]
    refine List.pairwise_cons.2 ⟨fun z hz => ?_, pairs_up l h2.2⟩
    clear h
    have key : ∀ (l : List Int), (∀ u ∈ l, x ≤ u ∧ y ≤ u) → ∀ z ∈ pairs l, x + y ≤ z := by
      intro l
      induction l using pairs.induct with
      | case1 a b l ih =>
        intro hl z hz
        rw [pairs, List.mem_cons] at hz
        rcases hz with rfl | hz
        · have := hl a (by simp); have := hl b (by simp); omega
        · exact ih (fun u hu => hl u (by simp [hu])) z hz
      | case2 l hl => 
        intro _ z hz
        rw [pairs] at hz
        · simp at hz
        · exact hl
    exact key l (fun u hu => ⟨h1.1 u (by simp [hu]), h2.1 u hu⟩) z hz
/-- The rounds. -/
def rnd (R : List Int) : Nat → List Itm
  | 0 => []
  | r + 1 => mrg R (pairs (wts (rnd R r)))
/-- How many symbols are taken of each round, the last one first. -/
def back (R : List Int) : Nat → Nat → List Nat
  | 0, _ => []
  | r + 1, t => syN (rnd R (r + 1)) t :: back R r (2 * (t - syN (rnd R (r + 1)) t))
def T : List Nat → Nat
  | [] => 0
  | k :: ks => k + T ks / 2
def val (R : List Int) (ks : List Nat) : Int := (ks.map (pre R)).sum
def Pos (l : List Int) : Prop := ∀ x ∈ l, 0 ≤ x
theorem pre_mono {l : List Int} (h : Pos l) {s t : Nat} (hst : s ≤ t) : pre l s ≤ pre l t := by
  induction t with
  | zero => obtain rfl : s = 0 := by omega
            exact Int.le_refl _
  | succ t ih =>
    by_cases hs : s ≤ t
    · refine Int.le_trans (ih hs) ?_
      by_cases ht : t < l.length
      · rw [pre_succ l t ht]; have := h _ (List.getElem_mem ht); omega
      · unfold pre; rw [List.take_of_length_le (by omega), List.take_of_length_le (by omega)]; exact Int.le_refl _
    · obtain rfl : s = t + 1 := by omega
      exact Int.le_refl _
theorem rnd_pos {R : List Int} (h : Pos R) (r : Nat) : Pos (wts (rnd R r)) := by
  induction r with
  | zero => intro x hx; simp [rnd, wts] at hx
  | succ r ih =>
    intro x hx
    rcases (mrg_mem _ _ _).1 hx with hx | hx
    · exact h x hx
    · have := pairs_mem_ge _ 0 ih (Int.le_refl _) x hx; omega
theorem rnd_up {R : List Int} (h : Up R) (r : Nat) : Up (wts (rnd R r)) := by
  induction r with
  | zero => exact List.Pairwise.nil
  | succ r ih => exact mrg_up _ _ h (pairs_up _ ih)
theorem rnd_length (R : List Int) (r : Nat) : (rnd R (r + 1)).length = R.length + (rnd R r).length / 2 := by
  rw [rnd, mrg_length, pairs_length, wts_length]
/-- What is taken of a round. -/
theorem rnd_split (R : List Int) (r t : Nat) (ht : t ≤ (rnd R (r + 1)).length) :
    syN (rnd R (r + 1)) t ≤ R.length ∧ 2 * (t - syN (rnd R (r + 1)) t) ≤ (rnd R r).length ∧ pre (wts (rnd R (r + 1))) t = pre R (syN (rnd R (r + 1)) t) + pre (wts (rnd R r)) (2 * (t - syN (rnd R (r + 1)) t)) := by
  have hl : t ≤ R.length + (pairs (wts (rnd R r))).length := by rw [rnd, mrg_length] at ht; exact ht
  obtain ⟨c, d, h1, h2, h3, h4, h5⟩ := mrg_split t R (pairs (wts (rnd R r))) hl
  rw [pairs_length, wts_length] at h4
  rw [rnd, h2]
  refine ⟨h3, by omega, ?_⟩
  rw [h5, pairs_pre _ d (by rw [wts_length]; exact h4), show t - c = d by omega]
theorem back_val (R : List Int) : ∀ (r t : Nat), t ≤ (rnd R r).length → val R (back R r t) = pre (wts (rnd R r)) t
  | 0, t, h => by obtain rfl : t = 0 := by simpa [rnd] using h
                  simp [back, val, pre_zero]
  | r + 1, t, h => by
    obtain ⟨_, h2, h3⟩ := rnd_split R r t h
    have := back_val R r _ h2
    rw [h3, ← this, back]
    simp [val]
theorem back_T (R : List Int) : ∀ (r t : Nat), t ≤ (rnd R r).length → T (back R r t) = t
  | 0, t, h => by obtain rfl : t = 0 := by simpa [rnd] using h
                  rfl
  | r + 1, t, h => by
    obtain ⟨_, h2, _⟩ := rnd_split R r t h
    have := back_T R r _ h2
    have := syN_le (rnd R (r + 1)) t
    rw [back, T]; omega
theorem back_length (R : List Int) : ∀ (r t : Nat), (back R r t).length = r
  | 0, _ => rfl
  | r + 1, t => by rw [back, List.length_cons, back_length]
theorem back_le (R : List Int) : ∀ (r t : Nat), t ≤ (rnd R r).length → ∀ k ∈ back R r t, k ≤ R.length
  | 0, _, _ => by simp [back]
  | r + 1, t, h => by
    obtain ⟨h1, h2, _⟩ := rnd_split R r t h
    intro k hk
    rw [back, List.mem_cons] at hk
    rcases hk with rfl | hk
    · exact h1
    · exact back_le R r _ h2 k hk
/-- The symbols among what is taken of a round stand in the next one ahead of the last package. -/
theorem rnd_nest {R : List Int} (hU : Up R) (hP : Pos R) (r t d : Nat) (hd : 0 < d) (hdl : 2 * d ≤ (rnd R r).length) (h : d + syN (rnd R (r + 1)) t ≤ t) : syN (rnd R r) (2 * d) ≤ syN (rnd R (r + 1)) t := by
  cases r with
  | zero => simp [rnd] at hdl; omega
  | succ r =>
    have hl : 2 * d ≤ R.length + (pairs (wts (rnd R r))).length := by rw [rnd, mrg_length] at hdl; exact hdl
    have hg : 2 * (d - 1) + 1 < (wts (rnd R (r + 1))).length := by rw [wts_length]; omega
    have hp := pairs_get (wts (rnd R (r + 1))) (d - 1) hg
    refine mrg_ahead t R _ _ (d - 1) _ (fun x hx => ?_) (rnd_split R r (2 * d) hdl).1 hp (by show d - 1 + 1 + syN (rnd R (r + 1 + 1)) t ≤ t; omega)
    -- a symbol that is taken weighs no more than the last item
    have hU2 := rnd_up hU (r + 1)
    have hm : ∀ (t : Nat) (R P : List Int), ∀ x ∈ R.take (syN (mrg R P) t), x ∈ (wts (mrg R P)).take t := by
      intro t
      induction t with
      | zero => intro R P x hx; rw [syN_zero] at hx; simp at hx
      | succ t ih =>
        intro R P x hx
        match R, P with
        | [], P => simp at hx
        | r :: R, [] =>
          rw [mrg_cons_nil, syN_sym, List.take_succ_cons, List.mem_cons] at hx
          rw [mrg_cons_nil, wts_cons, List.take_succ_cons, List.mem_cons]
          exact hx.elim (fun h => .inl h) (fun h => .inr (ih R [] x h))
        | r :: R, p :: P =>
          rw [mrg_cons] at hx ⊢
          split at hx
          · rename_i hle
            rw [if_pos hle, wts_cons, List.take_succ_cons, List.mem_cons]
            rw [syN_sym, List.take_succ_cons, List.mem_cons] at hx
            exact hx.elim (fun h => .inl h) (fun h => .inr (ih R (p :: P) x h))
          · rename_i hle
            rw [if_neg hle, wts_cons, List.take_succ_cons, List.mem_cons]
            rw [syN_pkg] at hx
            exact .inr (ih (r :: R) P x hx)
    have hx2 := hm (2 * d) R _ x hx
    change x ∈ (wts (rnd R (r + 1))).take (2 * d) at hx2
    obtain ⟨i, hi, rfl⟩ := List.mem_iff_getElem.1 hx2
    rw [List.getElem_take]
    simp only [List.length_take] at hi
    have h0 : 0 ≤ (wts (rnd R (r + 1)))[2 * (d - 1)]'(by omega) := rnd_pos hP (r + 1) _ (List.getElem_mem _)
    have h1 : (wts (rnd R (r + 1)))[i]'(by omega) ≤ (wts (rnd R (r + 1)))[2 * (d - 1) + 1] := by
      by_cases he : i = 2 * (d - 1) + 1
      · subst he; exact Int.le_refl _
      · exact (List.pairwise_iff_getElem.1 hU2) i (2 * (d - 1) + 1) (by omega) hg (by omega)
    omega
theorem back_anti {R : List Int} (hU : Up R) (hP : Pos R) : ∀ (r t : Nat), t ≤ (rnd R r).length → (back R r t).Pairwise (fun a b => b ≤ a)
  | 0, _, _ => List.Pairwise.nil
  | r + 1, t, h => by
    obtain ⟨_, h2, _⟩ := rnd_split R r t h
    have ih := back_anti hU hP r _ h2
    rw [back]
    refine List.pairwise_cons.2 ⟨?_, ih⟩
    intro k hk
    cases r with
    | zero => simp [back] at hk
    | succ r =>
      by_cases hd : t - syN (rnd R (r + 1 + 1)) t = 0
      · -- nothing is taken further on
        have : ∀ (r : Nat), ∀ k ∈ back R r 0, k = 0 := by
          intro r
          induction r with
          | zero => simp [back]
          | succ r ih => intro k hk; rw [back, syN_zero, List.mem_cons] at hk; rcases hk with rfl | hk; rfl; exact ih k hk
        rw [hd] at hk
        have := this _ k hk
        omega
      · have hn := rnd_nest hU hP (r + 1) t (t - syN (rnd R (r + 1 + 1)) t) (by omega) h2 (by have := syN_le (rnd R (r + 1 + 1)) t; omega)
        rw [back, List.mem_cons] at hk
        rcases hk with rfl | hk
        · exact hn
        · rw [back] at ih
          exact Nat.le_trans ((List.pairwise_cons.1 ih).1 k hk) hn
/-- All symbols are taken of the last round. -/
theorem rnd_all {R : List Int} (hU : Up R) (hP : Pos R) (hn : 2 ≤ R.length) : ∀ (r : Nat), 2 * R.length - 2 ≤ (rnd R r).length → syN (rnd R r) (2 * R.length - 2) = R.length
  | 0, h => by simp [rnd] at h; omega
  | r + 1, h => by
    obtain ⟨h1, h2, _⟩ := rnd_split R r _ h
    have h3 := syN_le (rnd R (r + 1)) (2 * R.length - 2)
    by_cases hc : syN (rnd R (r + 1)) (2 * R.length - 2) < R.length
    · have h4 : 2 * R.length - 2 ≤ (rnd R r).length := by omega
      have h5 := rnd_all hU hP hn r h4
      have h6 := rnd_nest hU hP r (2 * R.length - 2) (R.length - 1) (by omega) (by omega) (by omega)
      rw [show 2 * (R.length - 1) = 2 * R.length - 2 by omega, h5] at h6
      omega
    · omega
/-- No choice costs less. -/
theorem back_opt {R : List Int} (hU : Up R) (hP : Pos R) : ∀ (ks : List Nat), (∀ k ∈ ks, k ≤ R.length) → T ks ≤ (rnd R ks.length).length ∧ pre (wts (rnd R ks.length)) (T ks) ≤ val R ks
  | [], _ => ⟨Nat.le_refl _, by simp [T, val, pre_zero]⟩
  | k :: ks, h => by
    obtain ⟨h1, h2⟩ := back_opt hU hP ks (fun x hx => h x (by simp [hx]))
    have hk := h k (by simp)
    refine ⟨?_, ?_⟩
    · rw [List.length_cons, rnd_length, T]; omega
    · have h3 := mrg_min (T (k :: ks)) R (pairs (wts (rnd R ks.length))) k (T ks / 2) hU (pairs_up _ (rnd_up hU _)) rfl hk (by rw [pairs_length, wts_length]; omega)
      rw [pairs_pre _ _ (by rw [wts_length]; omega)] at h3
      have h4 := pre_mono (rnd_pos hP ks.length) (show 2 * (T ks / 2) ≤ T ks by omega)
      have e : val R (k :: ks) = pre R k + val R ks := by simp [val]
      rw [List.length_cons, e]
      show pre (wts (mrg R _)) _ ≤ _
      omega
/-- There are items enough. -/
theorem rnd_enough (R : List Int) (hn : 1 ≤ R.length) (r : Nat) : ∃ e, (rnd R (r + 1)).length + e = 2 * R.length ∧ e ≤ (R.length + 2 ^ r - 1) / 2 ^ r := by
  induction r with
  | zero => exact ⟨R.length, by rw [rnd_length]; simp [rnd]; omega, by simp⟩
  | succ r ih =>
    obtain ⟨e, h1, h2⟩ := ih
    refine ⟨(e + 1) / 2, by rw [rnd_length]; omega, ?_⟩
    have hp : 0 < 2 ^ r := Nat.pow_pos (by omega)
    rw [Nat.pow_succ, ← Nat.div_div_eq_div_mul]
    have h3 : (R.length + 2 ^ r * 2 - 1) / 2 ^ r = (R.length + 2 ^ r - 1) / 2 ^ r + 1 := by
      rw [show R.length + 2 ^ r * 2 - 1 = (R.length + 2 ^ r - 1) + 2 ^ r by omega, Nat.add_div_right _ hp]
    rw [h3]
    omega
theorem rnd_room (R : List Int) (hn : 1 ≤ R.length) (r : Nat) (hr : 0 < r) (h : R.length ≤ 2 ^ r) : 2 * R.length - 2 ≤ (rnd R r).length := by
  obtain ⟨s, rfl⟩ : ∃ s, r = s + 1 := ⟨r - 1, by omega⟩
  obtain ⟨e, h1, h2⟩ := rnd_enough R hn s
  have hp : 0 < 2 ^ s := Nat.pow_pos (by omega)
  have h3 : (R.length + 2 ^ s - 1) / 2 ^ s ≤ 2 := by
    rw [Nat.pow_succ] at h
    have : (R.length + 2 ^ s - 1) / 2 ^ s < 3 := (Nat.div_lt_iff_lt_mul hp).2 (by omega)
    omega
  omega
end Mg
end Go.Proofs.YtpoilaappcjbeaaGreatDoor
end

section
namespace Go.Proofs.YtpoilaappcjbeaaGreatDoor
open Go.RowKit

theorem i64_wrap_small (n : Nat) (h : n < 9223372036854775808) : IntKind.i64.wrap (n : Int) = n := IntWalk.i64_in _ ⟨by omega, by omega⟩
theorem ofInt_64 (a : Nat) (ha : a < 9223372036854775808) : (BitVec.ofInt 64 (a : Int)).toNat = a := by
  rw [BitVec.ofInt_natCast, BitVec.toNat_ofNat]; exact Nat.mod_eq_of_lt (by omega)
theorem i64_and_nat (a b : Nat) (ha : a < 9223372036854775808) (hb : b < 9223372036854775808) : bits .and .i64 (a : Int) (b : Int) = ((a &&& b : Nat) : Int) := by
  have hx : a &&& b < 2 ^ 63 := Nat.and_lt_two_pow _ (by omega)
  show IntKind.i64.wrap ((BitVec.ofInt 64 (a : Int) &&& BitVec.ofInt 64 (b : Int)).toNat : Int) = _
  rw [BitVec.toNat_and, ofInt_64 a ha, ofInt_64 b hb, i64_wrap_small _ (by omega)]
theorem i64_or_nat (a b : Nat) (ha : a < 9223372036854775808) (hb : b < 9223372036854775808) : bits .or .i64 (a : Int) (b : Int) = ((a ||| b : Nat) : Int) := by
  have hx : a ||| b < 2 ^ 63 := Nat.or_lt_two_pow (by omega) (by omega)
  show IntKind.i64.wrap ((BitVec.ofInt 64 (a : Int) ||| BitVec.ofInt 64 (b : Int)).toNat : Int) = _
  rw [BitVec.toNat_or, ofInt_64 a ha, ofInt_64 b hb, i64_wrap_small _ (by omega)]
theorem i64_and_neg7 (n : Nat) (h : n < 9223372036854775808) : bits .and .i64 (-(n : Int)) 7 = (((8 - n % 8) % 8 : Nat) : Int) := by
  show IntKind.i64.wrap ((BitVec.ofInt 64 (-(n : Int)) &&& BitVec.ofInt 64 ((7 : Nat) : Int)).toNat : Int) = _
  rw [BitVec.toNat_and, ofInt_64 7 (by omega)]
  have e : (BitVec.ofInt 64 (-(n : Int))).toNat % 8 = (8 - n % 8) % 8 := by
    rw [BitVec.toNat_ofInt]; omega
  have e2 := Nat.and_two_pow_sub_one_eq_mod ((BitVec.ofInt 64 (-(n : Int))).toNat) 3
  simp only [Nat.reducePow, Nat.reduceSub] at e2
  rw [e2, e, i64_wrap_small _ (by omega)]

namespace Bt
theorem pow_cast (n : Nat) : (2 : Int) ^ n = ((2 ^ n : Nat) : Int) := by simp
theorem pow_le (n m : Nat) (h : n ≤ m) : 2 ^ n ≤ 2 ^ m := Nat.pow_le_pow_right (by omega) h
theorem mask_wrap (n : Nat) (h : n ≤ 32) : wrap64 (wrap64 (2 ^ n) - 1) = ((2 ^ n - 1 : Nat) : Int) := by
  have h1 := pow_le n 32 h
  have h2 : 0 < 2 ^ n := Nat.pow_pos (by omega)
  rw [pow_cast]
  generalize 2 ^ n = x at *
  simp only [Nat.reducePow] at h1
  unfold wrap64
  omega
theorem wrapEq (x : Int) : IntKind.i64.wrap x = wrap64 x := by unfold wrap64; exact IntKind.wrap_i64 x
theorem part_val (n sh s : Nat) (hn : n < 4294967296) (hsh : sh ≤ 64) (hs : s ≤ 32) :
    bits .and .i64 ((n : Int) / 2 ^ min sh 64) (IntKind.i64.wrap (IntKind.i64.wrap (2 ^ s) - 1)) = ((n >>> sh &&& (2 ^ s - 1) : Nat) : Int) := by
  rw [wrapEq, wrapEq, mask_wrap s hs, show min sh 64 = sh by omega]
  have e : (n : Int) / 2 ^ sh = ((n >>> sh : Nat) : Int) := by
    rw [Nat.shiftRight_eq_div_pow, pow_cast]; omega
  have h1 : n >>> sh ≤ n := by rw [Nat.shiftRight_eq_div_pow]; exact Nat.div_le_self _ _
  have h2 := pow_le s 32 hs
  rw [e]
  generalize 2 ^ s = x at *
  simp only [Nat.reducePow] at h2
  exact i64_and_nat _ _ (by omega) (by omega)
theorem shl_lt (p s sh m : Nat) (hp : p < 2 ^ s) (hs : sh + s ≤ m) : p <<< sh < 2 ^ m := by
  rw [Nat.shiftLeft_eq]
  have h1 : p * 2 ^ sh < 2 ^ s * 2 ^ sh := Nat.mul_lt_mul_of_pos_right hp (Nat.pow_pos (by omega))
  rw [← Nat.pow_add] at h1
  exact Nat.lt_of_lt_of_le h1 (pow_le _ _ (by omega))
theorem or_val (x p s sh : Nat) (hx : x < 256) (hp : p < 2 ^ s) (hs : sh + s ≤ 8) :
    bits .or .u8 (x : Int) (IntKind.u8.wrap (IntKind.i64.wrap ((p : Int) * 2 ^ min sh 64))) = ((x ||| p <<< sh : Nat) : Int) ∧ x ||| p <<< sh < 256 := by
  have h1 := shl_lt p s sh 8 hp hs
  rw [show min sh 64 = sh by omega, pow_cast, show (p : Int) * ((2 ^ sh : Nat) : Int) = ((p <<< sh : Nat) : Int) by rw [Nat.shiftLeft_eq]; simp]
  generalize p <<< sh = y at *
  simp only [Nat.reducePow] at h1
  rw [IntWalk.i64_in _ ⟨by omega, by omega⟩, IntWalk.u8_in _ ⟨by omega, by omega⟩]
  exact ⟨u8_or_nat x y hx h1, Nat.or_lt_two_pow (n := 8) hx h1⟩
/-- A number's bits in an order. -/
def dg (h : Bool) (n c : Nat) : List Bool := (List.range c).map fun i => n.testBit (if h then c - 1 - i else i)
/-- The number of bits, the first one the highest. -/
def numH (l : List Bool) : Nat := l.foldl (fun a b => 2 * a + b.toNat) 0
/-- The number of bits in an order. -/
def num (h : Bool) (l : List Bool) : Nat := numH (if h then l else l.reverse)
/-- Byte k of bits, what is left filled. -/
def pk (h f : Bool) (l : List Bool) (k : Nat) : Nat := num h ((List.range 8).map fun i => l.getD (8 * k + i) f)
/-- Bits as bytes, what is left filled. -/
def packs (h f : Bool) (l : List Bool) : List UInt8 := (List.range ((l.length + 7) / 8)).map fun k => UInt8.ofNat (pk h f l k)
/-- Bytes as bits. -/
def rbits (h : Bool) (l : List UInt8) : List Bool := l.flatMap fun x => dg h x.toNat 8

theorem dg_length (h : Bool) (n c : Nat) : (dg h n c).length = c := by simp [dg]
theorem dg_getD (h : Bool) (n c i : Nat) (f : Bool) (hi : i < c) : (dg h n c).getD i f = n.testBit (if h then c - 1 - i else i) := by
  simp [dg, List.getD, List.getElem?_range hi]
theorem numH_snoc (l : List Bool) (b : Bool) : numH (l ++ [b]) = 2 * numH l + b.toNat := by simp [numH]
theorem testBit_double (a : Nat) (b : Bool) (i : Nat) : (2 * a + b.toNat).testBit i = if i = 0 then b else a.testBit (i - 1) := by
  cases i with
  | zero => cases b <;> simp [Nat.testBit_zero] <;> omega
  | succ i =>
    rw [Nat.testBit_succ]
    have : (2 * a + b.toNat) / 2 = a := by cases b <;> simp <;> omega
    rw [this]; simp
theorem numH_testBit (l : List Bool) : ∀ i, (numH l).testBit i = (decide (i < l.length) && l.getD (l.length - 1 - i) false) := by
  suffices ∀ (r : List Bool) (i : Nat), (numH r.reverse).testBit i = (decide (i < r.reverse.length) && r.reverse.getD (r.reverse.length - 1 - i) false) by
    intro i
    have := this l.reverse i
    rwa [List.reverse_reverse] at this
  intro r
  induction r with
  | nil => intro i; simp [numH]
  | cons b r ih =>
    intro i
    rw [List.reverse_cons, numH_snoc, testBit_double]
    cases i with
    | zero => simp [List.getD]
    | succ i =>
      rw [if_neg (by omega), Nat.add_sub_cancel, ih i]
      simp only [List.length_append, List.length_reverse, List.length_cons, List.length_nil]
      by_cases hi : i < r.length
      · have e : r.length + (0 + 1) - 1 - (i + 1) = r.length - 1 - i := by omega
        rw [e]
        simp only [List.getD]
        rw [List.getElem?_append_left (by simp; omega)]
        simp [hi]
      · simp [hi]
theorem num_testBit (h : Bool) (l : List Bool) (i : Nat) : (num h l).testBit i = (decide (i < l.length) && l.getD (if h then l.length - 1 - i else i) false) := by
  cases h
  · simp only [num]
    rw [numH_testBit]
    by_cases hi : i < l.length
    · simp only [Bool.false_eq_true, if_false, List.length_reverse, hi, decide_true, Bool.true_and, List.getD]
      rw [List.getElem?_reverse (by omega)]
      congr 2
      omega
    · simp [hi]
  · simp only [num]
    rw [numH_testBit]
    simp
theorem num_lt (h : Bool) (l : List Bool) : num h l < 2 ^ l.length := by
  apply Nat.lt_pow_two_of_testBit
  intro i hi
  rw [num_testBit]
  simp; omega
theorem num_dg (h : Bool) (n c : Nat) (hn : n < 2 ^ c) : num h (dg h n c) = n := by
  apply Nat.eq_of_testBit_eq
  intro i
  rw [num_testBit, dg_length]
  by_cases hi : i < c
  · have e : (dg h n c).getD (if h then c - 1 - i else i) false = n.testBit i := by
      cases h
      · simp only [Bool.false_eq_true, if_false]; rw [dg_getD _ _ _ _ _ hi]; simp
      · simp only [if_true]; rw [dg_getD _ _ _ _ _ (by omega)]; simp only [if_true]; congr 1; omega
    rw [e]; simp [hi]
  · rw [Nat.testBit_lt_two_pow (Nat.lt_of_lt_of_le hn (Nat.pow_le_pow_right (by omega) (by omega)))]
    simp [hi]
theorem pk_lt (h f : Bool) (l : List Bool) (k : Nat) : pk h f l k < 256 := by
  have := num_lt h ((List.range 8).map fun i => l.getD (8 * k + i) f)
  simpa [pk] using this
theorem pk_testBit (h f : Bool) (l : List Bool) (k j : Nat) : (pk h f l k).testBit j = (decide (j < 8) && l.getD (8 * k + (if h then 7 - j else j)) f) := by
  unfold pk
  rw [num_testBit]
  simp only [List.length_map, List.length_range]
  by_cases hj : j < 8
  · have e : (if h = true then 8 - 1 - j else j) < 8 := by split <;> omega
    simp only [hj, decide_true, Bool.true_and, List.getD]
    rw [List.getElem?_map, List.getElem?_range e]
    simp
  · simp [hj]
theorem packs_length (h f : Bool) (l : List Bool) : (packs h f l).length = (l.length + 7) / 8 := by simp [packs]
theorem packs_get (h f : Bool) (l : List Bool) (k : Nat) (hk : k < (l.length + 7) / 8) : (packs h f l)[k]? = some (UInt8.ofNat (pk h f l k)) := by
  simp [packs, List.getElem?_range hk]
theorem gb_packs (h f : Bool) (l : List Bool) (k : Nat) (hk : k < (l.length + 7) / 8) : gb (packs h f l) k = pk h f l k := by
  have := pk_lt h f l k
  simp only [gb, List.getD, packs_get h f l k hk, Option.getD_some]
  simp; omega
theorem getD_app_left (l m : List Bool) (i : Nat) (f : Bool) (h : i < l.length) : (l ++ m).getD i f = l.getD i f := by
  simp only [List.getD]; rw [List.getElem?_append_left h]
theorem getD_app_right (l m : List Bool) (i : Nat) (f : Bool) (h : l.length ≤ i) : (l ++ m).getD i f = m.getD (i - l.length) f := by
  simp only [List.getD]; rw [List.getElem?_append_right h]
theorem getD_out (l : List Bool) (i : Nat) (f : Bool) (h : l.length ≤ i) : l.getD i f = f := by
  simp only [List.getD]; rw [List.getElem?_eq_none h]; rfl
/-- What a byte is added to. -/
def base (h : Bool) (m : List Bool) : List UInt8 := if m.length % 8 = 0 then packs h false m ++ [0] else packs h false m
theorem base_length (h : Bool) (m : List Bool) : (base h m).length = m.length / 8 + 1 := by
  unfold base; split <;> simp [packs_length] <;> omega
def shf (h : Bool) (size fro some : Nat) : Nat := if h then size - fro - some else fro
theorem pk_same (h : Bool) (m cs : List Bool) (k : Nat) (hk : 8 * k + 8 ≤ m.length) : pk h false (m ++ cs) k = pk h false m k := by
  apply Nat.eq_of_testBit_eq
  intro j
  rw [pk_testBit, pk_testBit]
  by_cases hj : j < 8
  · rw [getD_app_left _ _ _ _ (by split <;> omega)]
  · simp [hj]
theorem gb_base_last (h : Bool) (m : List Bool) : gb (base h m) (m.length / 8) = pk h false m (m.length / 8) := by
  unfold base
  split
  · rename_i h0
    have e : pk h false m (m.length / 8) = 0 := by
      apply Nat.eq_of_testBit_eq
      intro j
      rw [pk_testBit, getD_out _ _ _ (by omega)]; simp
    rw [e]
    simp only [gb, List.getD]
    rw [List.getElem?_append_right (by simp [packs_length]; omega)]
    have : m.length / 8 - (packs h false m).length = 0 := by simp [packs_length]; omega
    rw [this]; rfl
  · rw [gb_packs _ _ _ _ (by omega)]
theorem packs_step (h : Bool) (m cs : List Bool) (s : Nat) (hs : cs.length = s) (h1 : 1 ≤ s) (h8 : m.length % 8 + s ≤ 8) :
    packs h false (m ++ cs) = (base h m).set (m.length / 8) (UInt8.ofNat (gb (base h m) (m.length / 8) ||| num h cs <<< shf h 8 (m.length % 8) s)) := by
  have hlen : (m ++ cs).length = m.length + s := by simp [hs]
  apply List.ext_getElem?
  intro k
  rw [List.getElem?_set]
  by_cases hk : k < m.length / 8 + 1
  · rw [packs_get _ _ _ _ (by rw [hlen]; omega)]
    by_cases he : m.length / 8 = k
    · subst he
      rw [if_pos rfl, if_pos (by rw [base_length]; omega), gb_base_last]
      congr 2
      apply Nat.eq_of_testBit_eq
      intro j
      rw [Nat.testBit_or, pk_testBit, pk_testBit, Nat.testBit_shiftLeft, num_testBit, hs]
      by_cases hj : j < 8
      · cases h
        · simp only [Bool.false_eq_true, if_false, shf, hj, decide_true, Bool.true_and]
          by_cases ha : j < m.length % 8
          · rw [getD_app_left _ _ _ _ (by omega)]
            have : ¬ m.length % 8 ≤ j := by omega
            simp [this]
          · rw [getD_app_right _ _ _ _ (by omega), getD_out m _ _ (by omega)]
            have e : 8 * (m.length / 8) + j - m.length = j - m.length % 8 := by omega
            have : m.length % 8 ≤ j := by omega
            rw [e]
            by_cases hb : j - m.length % 8 < s
            · simp [this, hb]
            · rw [getD_out cs _ _ (by omega)]; simp
        · simp only [if_true, shf, hj, decide_true, Bool.true_and]
          by_cases ha : 7 - j < m.length % 8
          · rw [getD_app_left _ _ _ _ (by omega)]
            have : ¬ j - (8 - m.length % 8 - s) < s := by omega
            simp [this]
          · rw [getD_app_right _ _ _ _ (by omega), getD_out m _ _ (by omega)]
            have e : 8 * (m.length / 8) + (7 - j) - m.length = 7 - j - m.length % 8 := by omega
            rw [e]
            by_cases hb : 8 - m.length % 8 - s ≤ j
            · have hb2 : j - (8 - m.length % 8 - s) < s := by omega
              have e2 : s - 1 - (j - (8 - m.length % 8 - s)) = 7 - j - m.length % 8 := by omega
              rw [e2]; simp [hb, hb2]
            · rw [getD_out cs _ _ (by omega)]; simp [hb]
      · have e3 : ¬ (j - shf h 8 (m.length % 8) s < s) := by cases h <;> simp [shf] <;> omega
        simp [hj, e3]
    · rw [if_neg he]
      unfold base
      split
      · rw [List.getElem?_append_left (by rw [packs_length]; omega), packs_get _ _ _ _ (by omega), pk_same _ _ _ _ (by omega)]
      · rw [packs_get _ _ _ _ (by omega), pk_same _ _ _ _ (by omega)]
  · rw [if_neg (by omega), List.getElem?_eq_none (by rw [packs_length, hlen]; omega), List.getElem?_eq_none (by rw [base_length]; omega)]
/-- Some bits of a number. -/
theorem part_num (h : Bool) (n c d s : Nat) (hd : d + s ≤ c) : (n >>> shf h c d s) &&& (2 ^ s - 1) = num h (((dg h n c).drop d).take s) := by
  apply Nat.eq_of_testBit_eq
  intro i
  rw [Nat.testBit_and, Nat.testBit_shiftRight, Nat.testBit_two_pow_sub_one, num_testBit]
  have hl : (((dg h n c).drop d).take s).length = s := by simp [dg_length]; omega
  rw [hl]
  by_cases hi : i < s
  · have e : (((dg h n c).drop d).take s).getD (if h then s - 1 - i else i) false = n.testBit (shf h c d s + i) := by
      have hx : (if h then s - 1 - i else i) < s := by split <;> omega
      simp only [List.getD]
      rw [List.getElem?_take, if_pos hx, List.getElem?_drop]
      have := dg_getD h n c (d + (if h then s - 1 - i else i)) false (by omega)
      simp only [List.getD] at this
      rw [this]
      congr 1
      cases h <;> simp [shf] <;> omega
    rw [e]; simp [hi]
  · simp [hi]
theorem take_add (l : List Bool) (d s : Nat) : l.take (d + s) = l.take d ++ (l.drop d).take s := List.take_add
theorem fi_dg (h : Bool) (c : Nat) : dg h (if h then 2 ^ c - 1 else 0) c = List.replicate c h := by
  apply List.ext_getElem?
  intro i
  by_cases hi : i < c
  · have := dg_getD h (if h then 2 ^ c - 1 else 0) c i false hi
    simp only [dg, List.getElem?_map, List.getElem?_range hi, List.getElem?_replicate, hi, if_true, Option.map_some]
    cases h
    · simp
    · simp only [if_true]; rw [Nat.testBit_two_pow_sub_one]; simp; omega
  · rw [List.getElem?_eq_none (by rw [dg_length]; omega), List.getElem?_eq_none (by simp; omega)]
/-- The last byte is completed. -/
theorem packs_fill (h : Bool) (l : List Bool) (hl : 0 < l.length) :
    packs h h l = (packs h false l).set ((packs h false l).length - 1) (UInt8.ofNat (gb (packs h false l) ((packs h false l).length - 1) ||| (if h then 2 ^ ((8 - l.length % 8) % 8) - 1 else 0))) := by
  rw [packs_length]
  apply List.ext_getElem?
  intro k
  rw [List.getElem?_set, packs_length]
  by_cases hk : k < (l.length + 7) / 8
  · rw [packs_get _ _ _ _ hk, packs_get _ _ _ _ hk]
    by_cases he : (l.length + 7) / 8 - 1 = k
    · rw [if_pos he, if_pos (by omega), gb_packs _ _ _ _ (by omega), he]
      congr 2
      apply Nat.eq_of_testBit_eq
      intro j
      rw [Nat.testBit_or, pk_testBit, pk_testBit]
      cases h
      · simp
      · simp only [if_true, Nat.testBit_two_pow_sub_one]
        by_cases hj : j < 8
        · simp only [hj, decide_true, Bool.true_and]
          by_cases ha : 8 * k + (7 - j) < l.length
          · have e : ¬ j < (8 - l.length % 8) % 8 := by omega
            simp only [e, decide_false, Bool.or_false, List.getD]
            rw [List.getElem?_eq_getElem ha]; rfl
          · rw [getD_out _ _ _ (by omega)]
            have e : j < (8 - l.length % 8) % 8 := by omega
            simp [e]
        · have e : ¬ j < (8 - l.length % 8) % 8 := by omega
          simp [hj, e]
    · rw [if_neg he]
      congr 2
      apply Nat.eq_of_testBit_eq
      intro j
      rw [pk_testBit, pk_testBit]
      by_cases hj : j < 8
      · have ha : 8 * k + (if h then 7 - j else j) < l.length := by split <;> omega
        simp only [List.getD]
        rw [List.getElem?_eq_getElem ha]; rfl
      · simp [hj]
  · rw [List.getElem?_eq_none (by rw [packs_length]; omega)]
    split
    · rw [if_neg (by omega)]
    · rw [List.getElem?_eq_none (by rw [packs_length]; omega)]

theorem rbits_length (h : Bool) (l : List UInt8) : (rbits h l).length = 8 * l.length := by
  induction l with
  | nil => rfl
  | cons x l ih => simp only [rbits, List.flatMap_cons, List.length_append, dg_length, List.length_cons] at *; omega
theorem rbits_getD (h f : Bool) (l : List UInt8) : ∀ i, i < 8 * l.length → (rbits h l).getD i f = (gb l (i / 8)).testBit (if h then 7 - i % 8 else i % 8) := by
  induction l with
  | nil => intro i hi; simp at hi
  | cons x l ih =>
    intro i hi
    have e : rbits h (x :: l) = dg h x.toNat 8 ++ rbits h l := rfl
    rw [e]
    by_cases h8 : i < 8
    · rw [getD_app_left _ _ _ _ (by rw [dg_length]; omega), dg_getD _ _ _ _ _ h8]
      have e1 : i / 8 = 0 := by omega
      have e2 : i % 8 = i := by omega
      rw [e1, e2]; rfl
    · rw [getD_app_right _ _ _ _ (by rw [dg_length]; omega), dg_length, ih (i - 8) (by simp at hi; omega)]
      have e1 : i / 8 = (i - 8) / 8 + 1 := by omega
      have e2 : (i - 8) % 8 = i % 8 := by omega
      rw [e1, e2]; rfl
/-- Some bits of a byte. -/
theorem part_byte (h : Bool) (l : List UInt8) (p s : Nat) (hp : p % 8 + s ≤ 8) (hl : p + s ≤ 8 * l.length) (h1 : 1 ≤ s) :
    (gb l (p / 8) >>> shf h 8 (p % 8) s) &&& (2 ^ s - 1) = num h (((rbits h l).drop p).take s) := by
  apply Nat.eq_of_testBit_eq
  intro i
  rw [Nat.testBit_and, Nat.testBit_shiftRight, Nat.testBit_two_pow_sub_one, num_testBit]
  have hlen : (((rbits h l).drop p).take s).length = s := by simp [rbits_length]; omega
  rw [hlen]
  by_cases hi : i < s
  · have hx : (if h then s - 1 - i else i) < s := by split <;> omega
    have e : (((rbits h l).drop p).take s).getD (if h then s - 1 - i else i) false = (gb l (p / 8)).testBit (shf h 8 (p % 8) s + i) := by
      simp only [List.getD]
      rw [List.getElem?_take, if_pos hx, List.getElem?_drop]
      have := rbits_getD h false l (p + (if h then s - 1 - i else i)) (by omega)
      simp only [List.getD] at this
      rw [this]
      have e1 : (p + (if h then s - 1 - i else i)) / 8 = p / 8 := by omega
      have e2 : (p + (if h then s - 1 - i else i)) % 8 = p % 8 + (if h then s - 1 - i else i) := by omega
      rw [e1, e2]
      congr 1
      cases h <;> simp [shf] <;> omega
    rw [e]; simp [hi]
  · simp [hi]
/-- What is read of c bits behind d of them. -/
def tk (h : Bool) (l : List Bool) (c d : Nat) : Nat := num h (l.take d ++ List.replicate (c - d) false)
theorem tk_zero (h : Bool) (l : List Bool) (c : Nat) : tk h l c 0 = 0 := by
  apply Nat.eq_of_testBit_eq
  intro i
  rw [tk, num_testBit]
  have rep : ∀ k j, (List.replicate k false).getD j false = false := by
    intro k j; simp [List.getD, List.getElem?_replicate]; split <;> rfl
  simp only [List.take_zero, List.nil_append, rep]; simp
theorem tk_full (h : Bool) (l : List Bool) (c : Nat) : tk h l c c = num h (l.take c) := by simp [tk]
theorem tk_lt (h : Bool) (l : List Bool) (c d : Nat) (hd : d ≤ c) : tk h l c d < 2 ^ c := by
  refine Nat.lt_of_lt_of_le (num_lt h _) (Nat.pow_le_pow_right (by omega) ?_)
  simp; omega
theorem tk_step (h : Bool) (l : List Bool) (c d s : Nat) (hd : d + s ≤ c) (hl : c ≤ l.length) (h1 : 1 ≤ s) :
    tk h l c (d + s) = tk h l c d ||| num h ((l.drop d).take s) <<< shf h c d s := by
  apply Nat.eq_of_testBit_eq
  intro i
  rw [Nat.testBit_or, Nat.testBit_shiftLeft, tk, tk, num_testBit, num_testBit, num_testBit]
  have e1 : (l.take (d + s) ++ List.replicate (c - (d + s)) false).length = c := by simp; omega
  have e2 : (l.take d ++ List.replicate (c - d) false).length = c := by simp; omega
  have e3 : ((l.drop d).take s).length = s := by simp; omega
  have rep : ∀ k j, (List.replicate k false).getD j false = false := by
    intro k j; simp [List.getD, List.getElem?_replicate]; split <;> rfl
  have tg : ∀ m j, m ≤ l.length → (l.take m ++ List.replicate (c - m) false).getD j false = (decide (j < m) && l.getD j false) := by
    intro m j hm
    by_cases hj : j < m
    · rw [getD_app_left _ _ _ _ (by simp; omega)]
      simp [List.getD, List.getElem?_take, hj]
    · rw [getD_app_right _ _ _ _ (by simp; omega), rep]; simp [hj]
  have cg : ∀ j, ((l.drop d).take s).getD j false = (decide (j < s) && l.getD (d + j) false) := by
    intro j
    by_cases hj : j < s
    · simp [List.getD, List.getElem?_take, hj, List.getElem?_drop]
    · rw [getD_out _ _ _ (by simp; omega)]; simp [hj]
  rw [e1, e2, e3, tg _ _ (by omega), tg _ _ (by omega), cg]
  by_cases hi : i < c
  · cases h
    · simp only [Bool.false_eq_true, if_false, shf, hi, decide_true, Bool.true_and]
      by_cases a : i < d
      · have : ¬ d ≤ i := by omega
        have a2 : i < d + s := by omega
        simp [a, a2, this]
      · have a3 : d ≤ i := by omega
        by_cases b : i < d + s
        · have : i - d < s := by omega
          have e : d + (i - d) = i := by omega
          simp [a, b, a3, this, e]
        · have : ¬ i - d < s := by omega
          simp [a, b, this]
    · simp only [if_true, shf, hi, decide_true, Bool.true_and]
      by_cases a : c - 1 - i < d
      · have : ¬ i - (c - d - s) < s := by omega
        have a2 : c - 1 - i < d + s := by omega
        simp [a, a2, this]
      · by_cases b : c - 1 - i < d + s
        · have a3 : c - d - s ≤ i := by omega
          have a4 : i - (c - d - s) < s := by omega
          have a5 : s - 1 - (i - (c - d - s)) < s := by omega
          have e : d + (s - 1 - (i - (c - d - s))) = c - 1 - i := by omega
          simp [a, b, a3, a4, a5, e]
        · have : ¬ c - d - s ≤ i := by omega
          simp [a, b, this]
  · have e4 : ¬ (i - shf h c d s < s) := by cases h <;> simp [shf] <;> omega
    simp [hi, e4]
/-- What was written is there to be read, the last byte completed. -/
theorem rbits_packs (h f : Bool) (l : List Bool) : rbits h (packs h f l) = l ++ List.replicate ((8 - l.length % 8) % 8) f := by
  have hlen : (rbits h (packs h f l)).length = (l ++ List.replicate ((8 - l.length % 8) % 8) f).length := by
    rw [rbits_length, packs_length]; simp; omega
  apply List.ext_getElem?
  intro i
  by_cases hi : i < (rbits h (packs h f l)).length
  · have h1 : (rbits h (packs h f l)).getD i f = (l ++ List.replicate ((8 - l.length % 8) % 8) f).getD i f := by
      rw [rbits_length] at hi
      rw [rbits_getD _ _ _ _ hi]
      rw [packs_length] at hi
      rw [gb_packs _ _ _ _ (by omega), pk_testBit]
      have e : (if h then 7 - i % 8 else i % 8) < 8 := by split <;> omega
      have e2 : 8 * (i / 8) + (if h then 7 - (if h then 7 - i % 8 else i % 8) else (if h then 7 - i % 8 else i % 8)) = i := by cases h <;> simp <;> omega
      rw [e2]
      simp only [e, decide_true, Bool.true_and]
      by_cases hil : i < l.length
      · rw [getD_app_left _ _ _ _ hil]
      · rw [getD_app_right _ _ _ _ (by omega), getD_out _ _ _ (by omega)]
        simp only [List.getD, List.getElem?_replicate]
        split <;> rfl
    simp only [List.getD] at h1
    rw [List.getElem?_eq_getElem hi, List.getElem?_eq_getElem (by omega)] at h1 ⊢
    simpa using h1
  · rw [List.getElem?_eq_none (by omega), List.getElem?_eq_none (by omega)]
end Bt
end Go.Proofs.YtpoilaappcjbeaaGreatDoor
end
