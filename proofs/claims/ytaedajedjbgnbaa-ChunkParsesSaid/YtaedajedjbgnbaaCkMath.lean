/- Chunks there and back. -/
import Derived.Test.YtaedajedjbgnbaaCkOne
namespace Go.Proofs.Ytaedajedjbgnbaa
namespace Ck
theorem num_dig (n : Nat) (h : n < 4294967296) : Pt.num (Pt.dig 4 n) = n := by
  simp only [Pt.dig, Pt.num, List.foldl_cons, List.foldl_nil, UInt8.toNat_ofNat']
  omega
theorem crc_lt (l : List UInt8) : Crc.crc l < 4294967296 := by unfold Crc.crc; omega
theorem named_len {n : List UInt8} (h : named n = true) : n.length = 4 := by simp [named] at h; exact h.1
theorem enc_length (c : C) (h : c.1.length = 4) : (enc c).length = 12 + c.2.length := by
  simp [enc, Pt.dig_length, h]; omega
theorem enc_parts (c : C) (r : List UInt8) (h : c.1.length = 4) :
    (enc c ++ r).take 4 = Pt.dig 4 c.2.length ∧ ((enc c ++ r).drop 4).take 4 = c.1 ∧ ((enc c ++ r).drop 8).take c.2.length = c.2 ∧ ((enc c ++ r).drop (8 + c.2.length)).take 4 = Pt.dig 4 (Crc.crc (c.1 ++ c.2)) ∧ (enc c ++ r).drop (12 + c.2.length) = r := by
  have e1 : enc c ++ r = Pt.dig 4 c.2.length ++ (c.1 ++ (c.2 ++ (Pt.dig 4 (Crc.crc (c.1 ++ c.2)) ++ r))) := by simp [enc]
  have d1 : (Pt.dig 4 c.2.length).length = 4 := Pt.dig_length _ _
  have d2 : (Pt.dig 4 (Crc.crc (c.1 ++ c.2))).length = 4 := Pt.dig_length _ _
  have s4 : (enc c ++ r).drop 4 = c.1 ++ (c.2 ++ (Pt.dig 4 (Crc.crc (c.1 ++ c.2)) ++ r)) := by rw [e1]; exact List.drop_left' d1
  have s8 : (enc c ++ r).drop 8 = c.2 ++ (Pt.dig 4 (Crc.crc (c.1 ++ c.2)) ++ r) := by
    rw [show (8 : Nat) = 4 + 4 by rfl, ← List.drop_drop, s4]; exact List.drop_left' h
  have sn : (enc c ++ r).drop (8 + c.2.length) = Pt.dig 4 (Crc.crc (c.1 ++ c.2)) ++ r := by
    rw [← List.drop_drop, s8]; exact List.drop_left' rfl
  refine ⟨by rw [e1]; exact List.take_left' d1, by rw [s4]; exact List.take_left' h, by rw [s8]; exact List.take_left' rfl, by rw [sn]; exact List.take_left' d2, ?_⟩
  rw [show 12 + c.2.length = 8 + c.2.length + 4 by omega, ← List.drop_drop, sn]
  exact List.drop_left' d2
/-- What is written is read. -/
theorem one_enc (c : C) (r : List UInt8) (hn : named c.1 = true) (hl : c.2.length ≤ 2147483647) (hi : c.1 = iend → c.2 = []) : one (enc c ++ r) = (0, c, r) := by
  have h4 := named_len hn
  obtain ⟨p1, p2, p3, p4, p5⟩ := enc_parts c r h4
  have hnum : Pt.num ((enc c ++ r).take 4) = c.2.length := by rw [p1, num_dig _ (by omega)]
  have := one_g (b := enc c ++ r) (by rw [hnum]; omega) (by rw [p2]; exact hn) (by rw [hnum, List.length_append, enc_length c h4]; omega)
    (by rw [hnum, p4, p2, p3, num_dig _ (crc_lt _)]) (by rw [hnum, p2]; intro h; rw [hi h]; rfl)
  rw [this, hnum, p2, p3, p5]
/-- What is read was written. -/
theorem one_back {b : List UInt8} (h : (one b).1 = 0) : named (one b).2.1.1 = true ∧ ((one b).2.1.1 = iend → (one b).2.1.2 = []) ∧ b = enc (one b).2.1 ++ (one b).2.2 := by
  by_cases h1 : b.length < 4
  · rw [one_a h1] at h; simp at h
  by_cases h2 : 2147483647 < Pt.num (b.take 4)
  · rw [one_b (by omega) h2] at h; simp at h
  by_cases h3 : b.length < 8
  · rw [one_c (by omega) (by omega) h3] at h; simp at h
  cases h4 : named ((b.drop 4).take 4) with
  | false => rw [one_d (by omega) (by omega) h4] at h; simp at h
  | true =>
    by_cases h5 : b.length < 12 + Pt.num (b.take 4)
    · rw [one_e (by omega) (by omega) h4 h5] at h; simp at h
    by_cases h6 : Pt.num ((b.drop (8 + Pt.num (b.take 4))).take 4) ≠ Crc.crc ((b.drop 4).take 4 ++ (b.drop 8).take (Pt.num (b.take 4))) ∨ ((b.drop 4).take 4 = iend ∧ 0 < Pt.num (b.take 4))
    · rw [one_f (by omega) h4 (by omega) h6] at h; simp at h
    · have h6a : Pt.num ((b.drop (8 + Pt.num (b.take 4))).take 4) = Crc.crc ((b.drop 4).take 4 ++ (b.drop 8).take (Pt.num (b.take 4))) := Classical.byContradiction (fun e => h6 (.inl e))
      have h6b : (b.drop 4).take 4 = iend → Pt.num (b.take 4) = 0 := fun e => Nat.eq_zero_of_not_pos (fun e2 => h6 (.inr ⟨e, e2⟩))
      rw [one_g (by omega) h4 (by omega) h6a h6b]
      have hdl : ((b.drop 8).take (Pt.num (b.take 4))).length = Pt.num (b.take 4) := by rw [List.length_take, List.length_drop]; omega
      refine ⟨h4, fun e => ?_, ?_⟩
      · simp only at e ⊢
        rw [h6b e]; rfl
      · simp only [enc]
        rw [hdl, ← h6a]
        have e1 : Pt.dig 4 (Pt.num (b.take 4)) = b.take 4 := by
          have := Pt.dig_num (b.take 4)
          rwa [List.length_take, show min 4 b.length = 4 by omega] at this
        have e2 : Pt.dig 4 (Pt.num ((b.drop (8 + Pt.num (b.take 4))).take 4)) = (b.drop (8 + Pt.num (b.take 4))).take 4 := by
          have := Pt.dig_num ((b.drop (8 + Pt.num (b.take 4))).take 4)
          rwa [List.length_take, List.length_drop, show min 4 (b.length - (8 + Pt.num (b.take 4))) = 4 by omega] at this
        rw [e1, e2]
        generalize Pt.num (b.take 4) = n at *
        have t1 : b = b.take 4 ++ b.drop 4 := (List.take_append_drop 4 b).symm
        have t2 : b.drop 4 = (b.drop 4).take 4 ++ b.drop 8 := by
          have := (List.take_append_drop 4 (b.drop 4)).symm
          rwa [List.drop_drop] at this
        have t3 : b.drop 8 = (b.drop 8).take n ++ b.drop (8 + n) := by
          have := (List.take_append_drop n (b.drop 8)).symm
          rwa [List.drop_drop] at this
        have t4 : b.drop (8 + n) = (b.drop (8 + n)).take 4 ++ b.drop (12 + n) := by
          have := (List.take_append_drop 4 (b.drop (8 + n))).symm
          rwa [List.drop_drop, show 8 + n + 4 = 12 + n by omega] at this
        conv => lhs; rw [t1, t2, t3, t4]
        simp
/-- Chunks in form, one behind the other. -/
def goodL : List C → Bool
  | [] => false
  | c :: l => named c.1 && (if l = [] then (c.1 == iend) && decide (c.2 = []) else !(c.1 == iend) && goodL l)
theorem nth_succ (c : C) (l : List C) (i : Nat) : nth (c :: l) (i + 1) = nth l i := by simp [nth]
theorem okAt_succ (c : C) (l : List C) (i : Nat) : okAt (c :: l) (i + 1) = okAt l i := by
  have : decide (i + 1 + 1 = (c :: l).length) = decide (i + 1 = l.length) := by simp
  unfold okAt
  rw [nth_succ, this]
theorem good_cons (c : C) (l : List C) : good (c :: l) = (okAt (c :: l) 0 && (List.range l.length).all (okAt l)) := by
  unfold good
  rw [show (c :: l).length = l.length + 1 by rfl, List.range_succ_eq_map]
  simp [List.all_map, Function.comp_def, okAt_succ]
theorem good_goodL : ∀ l, good l = goodL l
  | [] => rfl
  | c :: l => by
    rw [good_cons]
    cases l with
    | nil =>
      simp only [okAt, goodL, nth]
      cases h1 : named c.1 <;> cases h2 : (c.1 == iend) <;> cases h3 : c.2 <;> simp [h1, h2, h3]
    | cons d l =>
      have ih := good_goodL (d :: l)
      have e : (List.range (d :: l).length).all (okAt (d :: l)) = goodL (d :: l) := by rw [← ih]; simp [good]
      rw [e]
      have h0 : okAt (c :: d :: l) 0 = (named c.1 && !(c.1 == iend)) := by
        simp only [okAt, nth]
        simp
      rw [h0]
      conv => rhs; rw [goodL]
      simp [Bool.and_assoc]
theorem encs_cons (c : C) (l : List C) : encs (c :: l) = enc c ++ encs l := by simp [encs]
theorem size_cons (c : C) (l : List C) : size (c :: l) = 12 + c.2.length + size l := by simp [size]
theorem goodL_named : ∀ {l : List C}, goodL l = true → ∀ c ∈ l, named c.1 = true
  | [], h => by simp [goodL] at h
  | c :: l, h => by
    intro d hd
    rw [goodL, Bool.and_eq_true] at h
    rcases List.mem_cons.1 hd with rfl | hd
    · exact h.1
    · by_cases hl : l = []
      · subst hl; simp at hd
      · rw [if_neg hl, Bool.and_eq_true] at h
        exact goodL_named h.2.2 d hd
theorem encs_length : ∀ l : List C, (∀ c ∈ l, named c.1 = true) → (encs l).length = size l
  | [], _ => rfl
  | c :: l, h => by
    rw [encs_cons, size_cons, List.length_append, enc_length c (named_len (h c (List.mem_cons_self ..))), encs_length l (fun d hd => h d (List.mem_cons_of_mem _ hd))]
theorem all_encs : ∀ (l : List C) (f : Nat), goodL l = true → l.length ≤ f → (∀ c ∈ l, c.2.length ≤ 2147483647) → all f (encs l) = (0, l)
  | [], _, h, _, _ => by simp [goodL] at h
  | c :: l, 0, _, hf, _ => by simp at hf
  | c :: l, f + 1, h, hf, hb => by
    have hn := goodL_named h c (List.mem_cons_self ..)
    rw [goodL, Bool.and_eq_true] at h
    by_cases hl : l = []
    · subst hl
      rw [if_pos rfl, Bool.and_eq_true] at h
      have hi : c.1 = iend := by simpa using h.2.1
      have hd : c.2 = [] := by simpa using h.2.2
      have ho := one_enc c [] hn (hb c (List.mem_cons_self ..)) (fun _ => hd)
      rw [encs_cons, show encs [] = [] from rfl, all, ho]
      simp [hi]
    · rw [if_neg hl, Bool.and_eq_true] at h
      have hi : c.1 ≠ iend := by simpa using h.2.1
      have ho := one_enc c (encs l) hn (hb c (List.mem_cons_self ..)) (fun e => absurd e hi)
      have ih := all_encs l f h.2.2 (by simpa using hf) (fun d hd => hb d (List.mem_cons_of_mem _ hd))
      rw [encs_cons, all, ho]
      simp only [ne_eq, not_true_eq_false, if_false]
      rw [if_neg hi, ih]
      simp
theorem length_le_size (l : List C) : l.length * 12 ≤ size l := by
  induction l with
  | nil => simp [size]
  | cons c l ih => rw [size_cons]; simp only [List.length_cons]; omega
theorem wr_length (l : List C) (h : good l = true) : (wr l).length = 8 + size l := by
  rw [good_goodL] at h
  rw [wr, List.length_append, encs_length l (goodL_named h)]; rfl
theorem data_le_size (l : List C) (c : C) (h : c ∈ l) : c.2.length ≤ size l := by
  induction l with
  | nil => simp at h
  | cons d l ih =>
    rw [size_cons]
    rcases List.mem_cons.1 h with rfl | h
    · omega
    · have := ih h; omega
/-- What is written is parsed. -/
theorem parse_wr (l : List C) (h : good l = true) (hs : 8 + size l ≤ 1048576) : parse (wr l) = (0, l) := by
  have hlen := wr_length l h
  have h8 : (wr l).take 8 = sign := List.take_left' rfl
  have h8d : (wr l).drop 8 = encs l := List.drop_left' rfl
  have hk := length_le_size l
  unfold parse
  rw [if_neg (by omega), if_neg (by rw [h8]; simp), h8d]
  exact all_encs l _ (by rw [← good_goodL]; exact h) (by omega) (fun c hc => by have := data_le_size l c hc; omega)
theorem all_back : ∀ (f : Nat) (b : List UInt8), (all f b).1 = 0 → goodL (all f b).2 = true ∧ encs (all f b).2 = b
  | 0, _, h => by simp [all] at h
  | f + 1, b, h => by
    rw [all] at h ⊢
    by_cases h1 : (one b).1 ≠ 0
    · rw [if_pos h1] at h; exact absurd h h1
    rw [if_neg h1] at h ⊢
    obtain ⟨q1, q2, q3⟩ := one_back (b := b) (Classical.byContradiction h1)
    by_cases h2 : (one b).2.1.1 = iend
    · rw [if_pos h2] at h ⊢
      by_cases h3 : (one b).2.2 = []
      · rw [if_pos h3]
        rw [h3, List.append_nil] at q3
        refine ⟨?_, ?_⟩
        · have hni : named iend = true := by decide
          simp [goodL, h2, q2 h2, hni]
        · show encs [(one b).2.1] = b
          rw [encs_cons, show encs [] = [] from rfl, List.append_nil]
          exact q3.symm
      · rw [if_neg h3] at h; simp at h
    · rw [if_neg h2] at h ⊢
      by_cases h3 : (all f (one b).2.2).1 ≠ 0
      · rw [if_pos h3] at h; exact absurd h h3
      · rw [if_neg h3]
        obtain ⟨i1, i2⟩ := all_back f (one b).2.2 (Classical.byContradiction h3)
        refine ⟨?_, ?_⟩
        · have hne : (all f (one b).2.2).2 ≠ [] := fun e => by rw [e] at i1; simp [goodL] at i1
          simp only [goodL]
          rw [q1, if_neg hne, i1]
          simp [h2]
        · show encs ((one b).2.1 :: (all f (one b).2.2).2) = b
          rw [encs_cons, i2]
          exact q3.symm
/-- What is parsed is what is written. -/
theorem wr_parse {b : List UInt8} (h : (parse b).1 = 0) : good (parse b).2 = true ∧ wr (parse b).2 = b ∧ 8 + size (parse b).2 ≤ 1048576 := by
  unfold parse at h ⊢
  by_cases h1 : 1048576 < b.length
  · rw [if_pos h1] at h; simp at h
  by_cases h2 : b.take 8 ≠ sign
  · rw [if_neg h1, if_pos h2] at h; simp at h
  rw [if_neg h1, if_neg h2] at h ⊢
  obtain ⟨i1, i2⟩ := all_back _ _ h
  have h2' : b.take 8 = sign := Classical.byContradiction h2
  have hg : good (all b.length (b.drop 8)).2 = true := by rw [good_goodL]; exact i1
  have hw : wr (all b.length (b.drop 8)).2 = b := by rw [wr, i2, ← h2']; exact List.take_append_drop 8 b
  refine ⟨hg, hw, ?_⟩
  have := wr_length _ hg
  rw [hw] at this
  omega
end Ck
end Go.Proofs.Ytaedajedjbgnbaa
