/- A JPEG's table: lengths by the symbol, and the rows of its symbols. -/
import Derived.Test.YtnlbomijnldlmaaBookGood
import Derived.Test.YtnlbomijnldlmaaRef04f
namespace Go.Proofs.Ytnlbomijnldlmaa
open Go.RowKit

namespace Bk
def zeros : List Int := List.replicate 256 0
/-- Symbols with their lengths, as lengths by the symbol. -/
def tl (ps : List (Nat × Int)) : List Int := ps.foldl (fun L p => L.set p.1 p.2) zeros
theorem tl_snoc (ps : List (Nat × Int)) (p : Nat × Int) : tl (ps ++ [p]) = (tl ps).set p.1 p.2 := by simp [tl]
theorem tl_length (ps : List (Nat × Int)) : (tl ps).length = 256 := by
  suffices ∀ r : List (Nat × Int), (tl r.reverse).length = 256 by simpa using this ps.reverse
  intro r
  induction r with
  | nil => exact List.length_replicate
  | cons p r ih => rw [List.reverse_cons, tl_snoc, List.length_set, ih]
theorem tl_get (ps : List (Nat × Int)) (x : Nat) (hx : x < 256) (hn : (ps.map (·.1)).Nodup) : (∀ n, (x, n) ∈ ps → (tl ps).getD x 0 = n) ∧ (x ∉ ps.map (·.1) → (tl ps).getD x 0 = 0) := by
  suffices ∀ r : List (Nat × Int), (r.reverse.map (·.1)).Nodup → (∀ n, (x, n) ∈ r.reverse → (tl r.reverse).getD x 0 = n) ∧ (x ∉ r.reverse.map (·.1) → (tl r.reverse).getD x 0 = 0) by
    have := this ps.reverse (by simpa using hn)
    simpa using this
  intro r
  induction r with
  | nil => intro _; exact ⟨fun n h => by simp at h, fun _ => by show zeros.getD x 0 = 0; unfold zeros; rw [List.getD, List.getElem?_replicate, if_pos hx]; rfl⟩
  | cons p r ih =>
    intro hnd
    rw [List.reverse_cons, List.map_append, List.nodup_append] at hnd
    obtain ⟨h1, _, h3⟩ := hnd
    obtain ⟨i1, i2⟩ := ih h1
    rw [List.reverse_cons, tl_snoc]
    have hset : ((tl r.reverse).set p.1 p.2).getD x 0 = if p.1 = x then p.2 else (tl r.reverse).getD x 0 := by
      simp only [List.getD]
      rw [List.getElem?_set, tl_length]
      by_cases h : p.1 = x
      · rw [if_pos h, if_pos (by omega), if_pos h]; rfl
      · rw [if_neg h, if_neg h]
    rw [hset]
    constructor
    · intro n hm
      rcases List.mem_append.1 hm with hm | hm
      · have hne : p.1 ≠ x := fun e => h3 x (List.mem_map.2 ⟨(x, n), hm, rfl⟩) p.1 (by simp) e.symm
        rw [if_neg hne]; exact i1 n hm
      · simp only [List.mem_singleton] at hm
        subst hm; rw [if_pos rfl]
    · intro hm
      rw [List.map_append, List.mem_append] at hm
      have h5 : p.1 ≠ x := fun e => hm (.inr (by simp [e]))
      rw [if_neg h5]; exact i2 (fun h => hm (.inl h))
theorem cnt_low (c : Nat → Int) (m : Nat) : ∀ x ∈ Cn.cnt c m, 1 ≤ x ∧ x ≤ m := by
  intro x hx
  simp only [Cn.cnt, List.mem_flatMap, List.mem_range, List.mem_replicate] at hx
  obtain ⟨n, hn, _, rfl⟩ := hx
  omega
/-- Pairs in the order of their lengths, length by length. -/
theorem split_pairs (c : Nat → Int) : ∀ (m : Nat) (ps : List (Nat × Int)), ps.map (·.2) = Cn.cnt c m → ∀ k, k ≤ m → ((List.range k).flatMap fun n => ps.filter fun p => p.2 == ((n + 1 : Nat) : Int)) = ps.take (Cn.cnt c k).length := by
  intro m
  induction m with
  | zero =>
    intro ps h k hk
    obtain rfl : k = 0 := by omega
    have : ps = [] := by simpa [Cn.cnt] using h
    subst this; rfl
  | succ m ih =>
    intro ps h k hk
    have hlen := Cn.cnt_succ c m
    rw [hlen] at h
    have hl : (Cn.cnt c m).length ≤ ps.length := by have := congrArg List.length h; rw [List.length_map, List.length_append] at this; omega
    have h1 : (ps.take (Cn.cnt c m).length).map (·.2) = Cn.cnt c m := by rw [List.map_take, h, List.take_left]
    have h2 : (ps.drop (Cn.cnt c m).length).map (·.2) = List.replicate (c m).toNat ((m + 1 : Nat) : Int) := by rw [List.map_drop, h, List.drop_left]
    have hps : ps = ps.take (Cn.cnt c m).length ++ ps.drop (Cn.cnt c m).length := (List.take_append_drop _ _).symm
    generalize hA : ps.take (Cn.cnt c m).length = A at *
    generalize hB : ps.drop (Cn.cnt c m).length = B at *
    have hAl : A.length = (Cn.cnt c m).length := by have := congrArg List.length h1; simpa using this
    have fB : ∀ n, n < m → B.filter (fun p => p.2 == ((n + 1 : Nat) : Int)) = [] := fun n hn => by
      rw [List.filter_eq_nil_iff]
      intro p hp hh
      have : p.2 ∈ B.map (·.2) := List.mem_map.2 ⟨p, hp, rfl⟩
      rw [h2, List.mem_replicate] at this
      have := eq_of_beq hh
      omega
    have fA : A.filter (fun p => p.2 == ((m + 1 : Nat) : Int)) = [] := by
      rw [List.filter_eq_nil_iff]
      intro p hp hh
      have : p.2 ∈ A.map (·.2) := List.mem_map.2 ⟨p, hp, rfl⟩
      rw [h1] at this
      have h3 := cnt_low c m _ this
      have := eq_of_beq hh
      omega
    have fB2 : B.filter (fun p => p.2 == ((m + 1 : Nat) : Int)) = B := by
      rw [List.filter_eq_self]
      intro p hp
      have : p.2 ∈ B.map (·.2) := List.mem_map.2 ⟨p, hp, rfl⟩
      rw [h2, List.mem_replicate] at this
      rw [this.2]; simp
    have low : ∀ k, k ≤ m → ((List.range k).flatMap fun n => ps.filter fun p => p.2 == ((n + 1 : Nat) : Int)) = ps.take (Cn.cnt c k).length := fun k hk => by
      have hk1 := ih A h1 k hk
      have e : ((List.range k).flatMap fun n => ps.filter fun p => p.2 == ((n + 1 : Nat) : Int)) = ((List.range k).flatMap fun n => A.filter fun p => p.2 == ((n + 1 : Nat) : Int)) := by
        have : ∀ n ∈ List.range k, ps.filter (fun p => p.2 == ((n + 1 : Nat) : Int)) = A.filter (fun p => p.2 == ((n + 1 : Nat) : Int)) := fun n hn => by
          rw [hps, List.filter_append, fB n (by have := List.mem_range.1 hn; omega), List.append_nil]
        simp only [List.flatMap]
        rw [List.map_congr_left this]
      rw [e, hk1, hps, List.take_append_of_le_length (by rw [hAl]; exact Cn.cnt_le c k m hk)]
    by_cases hkm : k ≤ m
    · exact low k hkm
    · obtain rfl : k = m + 1 := by omega
      rw [List.range_succ, List.flatMap_append, low m (Nat.le_refl _)]
      simp only [List.flatMap_cons, List.flatMap_nil, List.append_nil]
      have e1 : ps.filter (fun p => p.2 == ((m + 1 : Nat) : Int)) = B := by rw [hps, List.filter_append, fA, fB2, List.nil_append]
      rw [e1]
      have e2 : (Cn.cnt c (m + 1)).length = ps.length := by rw [hlen, ← h, List.length_map]
      rw [e2, List.take_length, hA]
      exact hps.symm
theorem sum_set (L : List Int) (x : Nat) (n : Int) (hx : x < L.length) (h0 : L.getD x 0 = 0) : Cn.sum (L.set x n) = Cn.sum L + Cn.part n := by
  induction L generalizing x with
  | nil => simp at hx
  | cons a L ih =>
    cases x with
    | zero =>
      have ha : a = 0 := by simpa using h0
      subst ha
      have : Cn.part 0 = 0 := rfl
      simp only [Cn.sum, List.set_cons_zero, List.map_cons, List.sum_cons, this]; omega
    | succ x =>
      have := ih x (by simpa using hx) (by simpa [List.getD] using h0)
      simp only [Cn.sum, List.set_cons_succ, List.map_cons, List.sum_cons] at *
      omega
theorem sum_zeros (n : Nat) : Cn.sum (List.replicate n 0) = 0 := by
  induction n with
  | zero => rfl
  | succ n ih =>
    have h0 : Cn.part 0 = 0 := rfl
    simp only [Cn.sum, List.replicate_succ, List.map_cons, List.sum_cons, h0] at *
    omega
theorem sum_tl (ps : List (Nat × Int)) (hn : (ps.map (·.1)).Nodup) (hl : ∀ p ∈ ps, p.1 < 256) : Cn.sum (tl ps) = Cn.sum (ps.map (·.2)) := by
  suffices ∀ r : List (Nat × Int), (r.reverse.map (·.1)).Nodup → (∀ p ∈ r.reverse, p.1 < 256) → Cn.sum (tl r.reverse) = Cn.sum (r.reverse.map (·.2)) by
    have := this ps.reverse (by simpa using hn) (fun p hp => hl p (by simpa using hp))
    simpa using this
  intro r
  induction r with
  | nil =>
    intro _ _
    exact sum_zeros 256
  | cons p r ih =>
    intro hnd hl
    rw [List.reverse_cons] at hl
    rw [List.reverse_cons, List.map_append, List.nodup_append] at hnd
    obtain ⟨h1, _, h3⟩ := hnd
    have hp := hl p (by simp)
    have h0 := (tl_get r.reverse p.1 hp h1).2 (fun hm => h3 p.1 hm p.1 (by simp) rfl)
    rw [List.reverse_cons, tl_snoc, sum_set _ _ _ (by rw [tl_length]; exact hp) h0, ih h1 (fun q hq => hl q (List.mem_append_left _ hq)), List.map_append]
    simp [Cn.sum]
theorem nodup_le (n : Nat) : ∀ l : List Nat, l.Nodup → (∀ x ∈ l, x < n) → l.length ≤ n := by
  induction n with
  | zero =>
    intro l _ h
    cases l with
    | nil => exact Nat.le_refl _
    | cons a l => have := h a (by simp); omega
  | succ n ih =>
    intro l hn h
    have h1 := ih (l.erase n) (hn.erase n) (fun x hx => by
      have h2 := (List.Nodup.mem_erase_iff hn).1 hx
      have := h x h2.2
      have := h2.1
      omega)
    by_cases hm : n ∈ l
    · have := List.length_erase_of_mem hm; omega
    · rw [List.erase_of_not_mem hm] at h1; omega
structure TabOk (c : Nat → Int) (s : List UInt8) (ps : List (Nat × Int)) : Prop where
  p1 : ps.map (fun p => (p.1 : Int)) = Cn.syB s
  p2 : ps.map (·.2) = Cn.cnt c 16
  nd : (ps.map (·.1)).Nodup
  lt : ∀ p ∈ ps, p.1 < 256
theorem rows_tab (c : Nat → Int) (s : List UInt8) (ps : List (Nat × Int)) (h : TabOk c s ps) (n : Nat) : rowsOf (tl ps) (ps.map (·.1)) (n + 1) = (ps.filter fun p => p.2 == ((n + 1 : Nat) : Int)).map (·.1) := by
  unfold rowsOf
  rw [if_neg (by omega), List.filter_map]
  congr 1
  apply List.filter_congr
  intro p hp
  have := (tl_get ps p.1 (h.lt p hp) h.nd).1 p.2 hp
  simp only [Function.comp, this]
theorem flat_tab {α : Type} (c : Nat → Int) (s : List UInt8) (ps : List (Nat × Int)) (h : TabOk c s ps) (f : Nat × Int → α) : ((List.range 16).flatMap fun n => (ps.filter fun p => p.2 == ((n + 1 : Nat) : Int)).map f) = ps.map f := by
  have h1 := split_pairs c 16 ps h.p2 16 (Nat.le_refl _)
  have h2 : (Cn.cnt c 16).length = ps.length := by rw [← h.p2, List.length_map]
  rw [h2, List.take_length] at h1
  have h3 := congrArg (List.map f) h1
  rw [List.map_flatMap] at h3
  exact h3
theorem sizR_tab (c : Nat → Int) (s : List UInt8) (ps : List (Nat × Int)) (h : TabOk c s ps) : sizR (rowsOf (tl ps) (ps.map (·.1))) 17 = Cn.cnt c 16 := by
  unfold sizR
  rw [range_flat _ (by rfl), ← h.p2, ← flat_tab c s ps h (·.2)]
  congr 1
  funext n
  rw [rows_tab c s ps h n, List.length_map]
  symm
  rw [List.eq_replicate_iff]
  refine ⟨by simp, fun b hb => ?_⟩
  obtain ⟨p, hp, rfl⟩ := List.mem_map.1 hb
  exact eq_of_beq (List.mem_filter.1 hp).2
theorem syms_tab (c : Nat → Int) (s : List UInt8) (ps : List (Nat × Int)) (h : TabOk c s ps) : (seq (rowsOf (tl ps) (ps.map (·.1))) 17).map (fun x => (x.s : Int)) = Cn.syB s := by
  unfold seq
  have e := range_flat (fun n => (rowS (rowsOf (tl ps) (ps.map (·.1))) n (rowsOf (tl ps) (ps.map (·.1)) n).length).map fun (x : It) => (x.s : Int)) (by rfl) 16
  rw [List.map_flatMap, e, ← h.p1, ← flat_tab c s ps h (fun p => (p.1 : Int))]
  congr 1
  funext n
  have hr := rows_tab c s ps h n
  have e2 : (rowS (rowsOf (tl ps) (ps.map (·.1))) (n + 1) (rowsOf (tl ps) (ps.map (·.1)) (n + 1)).length).map (fun (x : It) => (x.s : Int)) = (rowsOf (tl ps) (ps.map (·.1)) (n + 1)).map fun (x : Nat) => (x : Int) := by
    unfold rowS it
    rw [List.map_map]
    apply List.ext_getElem
    · simp
    · intro i h1 h2
      simp only [List.getElem_map, List.getElem_range, Function.comp]
      rw [List.length_map] at h2
      simp [List.getD, List.getElem?_eq_getElem h2]
  rw [e2, hr, List.map_map]
  rfl
theorem tab_sum (c : Nat → Int) (s : List UInt8) (ps : List (Nat × Int)) (h : TabOk c s ps) : Cn.sum (tl ps) = Cn.sum (Cn.cnt c 16) := by rw [sum_tl ps h.nd h.lt, h.p2]
theorem tab_len (c : Nat → Int) (s : List UInt8) (ps : List (Nat × Int)) (h : TabOk c s ps) : (Cn.cnt c 16).length = s.length ∧ s.length ≤ 256 ∧ s.Nodup := by
  have h1 : ps.length = s.length := by have := congrArg List.length h.p1; rw [List.length_map, Cn.syB_length] at this; exact this
  refine ⟨by rw [← h.p2, List.length_map, h1], ?_, ?_⟩
  · have := nodup_le 256 _ h.nd (fun x hx => by obtain ⟨p, hp, rfl⟩ := List.mem_map.1 hx; exact h.lt p hp)
    rw [List.length_map] at this; omega
  · refine Cn.nodup_of s (fun i j hij hj e => ?_)
    have e1 : ∀ k (hk : k < s.length), ((ps.map (·.1))[k]'(by rw [List.length_map, h1]; exact hk)) = gb s k := fun k hk => by
      have h2 := congrArg (fun L => L.getD k 0) h.p1
      simp only [Cn.syB_get s k hk] at h2
      have hkp : k < ps.length := by omega
      simp only [List.getD, List.getElem?_map, List.getElem?_eq_getElem hkp, Option.map_some, Option.getD_some] at h2
      rw [List.getElem_map]; omega
    have hne := List.pairwise_iff_getElem.1 h.nd i j (by rw [List.length_map]; omega) (by rw [List.length_map]; omega) hij
    rw [e1 i (by omega), e1 j hj] at hne
    exact hne e
theorem tl_form (c : Nat → Int) (s : List UInt8) (ps : List (Nat × Int)) (h : TabOk c s ps) : ∀ k, k < 256 → 0 ≤ (tl ps).getD k 0 ∧ (tl ps).getD k 0 ≤ 16 := by
  intro k hk
  obtain ⟨h1, h2⟩ := tl_get ps k hk h.nd
  by_cases hm : k ∈ ps.map (·.1)
  · obtain ⟨p, hp, rfl⟩ := List.mem_map.1 hm
    rw [h1 p.2 hp]
    have : p.2 ∈ Cn.cnt c 16 := by rw [← h.p2]; exact List.mem_map.2 ⟨p, hp, rfl⟩
    have := cnt_low c 16 _ this
    omega
  · rw [h2 hm]; omega
end Bk
end Go.Proofs.Ytnlbomijnldlmaa
