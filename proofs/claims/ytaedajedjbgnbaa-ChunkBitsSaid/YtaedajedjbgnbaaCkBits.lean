/- With one byte changed, but of a length, chunks' bytes are no chunks' bytes. -/
import Derived.Test.YtaedajedjbgnbaaCkMath
namespace Go.Proofs.Ytaedajedjbgnbaa
namespace Crc
theorem xor_can {a b c : Nat} (h : a ^^^ c = b ^^^ c) : a = b := by
  have := congrArg (· ^^^ c) h
  simpa [Nat.xor_assoc] using this
theorem st_inj {r s : Nat} (hr : r < 4294967296) (hs : s < 4294967296) (h : st r = st s) : r = s := by
  rw [st_eq, st_eq s] at h
  have hx : r / 2 ^^^ s / 2 < 2147483648 := Nat.xor_lt_two_pow (n := 31) (by omega) (by omega)
  rcases Nat.mod_two_eq_zero_or_one r with h1 | h1 <;> rcases Nat.mod_two_eq_zero_or_one s with h2 | h2
  · rw [if_neg (by omega), if_neg (by omega)] at h
    have := xor_can h; omega
  · rw [if_neg (by omega), if_pos h2, Nat.xor_zero] at h
    rw [h, Nat.xor_assoc, Nat.xor_comm 3988292384, ← Nat.xor_assoc, Nat.xor_self, Nat.zero_xor] at hx
    omega
  · rw [if_pos h1, if_neg (by omega), Nat.xor_zero] at h
    rw [← h, ← Nat.xor_assoc, Nat.xor_self, Nat.zero_xor] at hx
    omega
  · rw [if_pos h1, if_pos h2] at h
    have := xor_can h; omega
theorem stN_inj : ∀ (n : Nat) {r s : Nat}, r < 4294967296 → s < 4294967296 → stN n r = stN n s → r = s
  | 0, _, _, _, _, h => h
  | n + 1, _, _, hr, hs, h => stN_inj n hr hs (st_inj (stN_lt hr n) (stN_lt hs n) h)
theorem byte_inj {r s x y : Nat} (hr : r < 4294967296) (hs : s < 4294967296) (hx : x < 256) (hy : y < 256) (h : byte r x = byte s y) : r ^^^ x = s ^^^ y :=
  stN_inj 8 (Nat.xor_lt_two_pow (n := 32) (by omega) (by omega)) (Nat.xor_lt_two_pow (n := 32) (by omega) (by omega)) h
theorem fold_inj : ∀ (l : List UInt8) {r s : Nat}, r < 4294967296 → s < 4294967296 → l.foldl (fun r x => byte r x.toNat) r = l.foldl (fun r x => byte r x.toNat) s → r = s
  | [], _, _, _, _, h => h
  | x :: l, r, s, hr, hs, h => by
    have := fold_inj l (byte_lt hr (u8_lt x)) (byte_lt hs (u8_lt x)) h
    exact xor_can (byte_inj hr hs (u8_lt x) (u8_lt x) this)
/-- One byte changed changes the sum. -/
theorem crc_one (p s : List UInt8) (x y : UInt8) (h : crc (p ++ x :: s) = crc (p ++ y :: s)) : x = y := by
  unfold crc at h
  have h1 := run_lt (p ++ x :: s)
  have h2 := run_lt (p ++ y :: s)
  have h3 : run (p ++ x :: s) = run (p ++ y :: s) := by omega
  unfold run at h3
  rw [List.foldl_append, List.foldl_append, List.foldl_cons, List.foldl_cons] at h3
  have hp : p.foldl (fun r x => byte r x.toNat) 4294967295 < 4294967296 := run_lt p
  have h4 := fold_inj s (byte_lt hp (u8_lt x)) (byte_lt hp (u8_lt y)) h3
  have h5 := byte_inj hp hp (u8_lt x) (u8_lt y) h4
  rw [Nat.xor_comm, Nat.xor_comm _ y.toNat] at h5
  exact UInt8.toNat_inj.1 (xor_can h5)
end Crc
namespace Ck
theorem one_small {b : List UInt8} (h : (one b).1 = 0) : (one b).2.1.2.length ≤ 2147483647 := by
  unfold one at h ⊢
  split at h
  · simp at h
  split at h
  · simp at h
  split at h
  · simp at h
  split at h
  · simp at h
  split at h
  · simp at h
  split at h
  · simp at h
  · rename_i h1 h2 h3 h4 h5 h6
    rw [if_neg h1, if_neg h2, if_neg h3, if_neg h4, if_neg h5, if_neg h6]
    simp only [List.length_take]
    omega
theorem set_split (l : List UInt8) (k : Nat) (h : k < l.length) (x : UInt8) : l = l.take k ++ l.getD k 0 :: l.drop (k + 1) ∧ l.set k x = l.take k ++ x :: l.drop (k + 1) := by
  refine ⟨?_, ?_⟩
  · have h1 := List.take_append_drop k l
    rw [List.drop_eq_getElem_cons h] at h1
    rw [List.getD, List.getElem?_eq_getElem h]
    exact h1.symm
  · rw [List.set_eq_take_append_cons_drop, if_pos h]
theorem crc_set (l : List UInt8) (k : Nat) (h : k < l.length) (x : UInt8) (hc : Crc.crc (l.set k x) = Crc.crc l) : x = l.getD k 0 := by
  obtain ⟨e1, e2⟩ := set_split l k h x
  rw [e2] at hc
  conv at hc => rhs; rw [e1]
  exact Crc.crc_one _ _ _ _ hc
theorem one_hit (c : C) (r : List UInt8) (j : Nat) (x : UInt8) (hn : named c.1 = true) (hl : c.2.length ≤ 2147483647) (h4 : 4 ≤ j) (hj : j < 12 + c.2.length) (hx : x ≠ (enc c).getD j 0) : (one ((enc c).set j x ++ r)).1 ≠ 0 := by
  intro h
  obtain ⟨q1, _, q3⟩ := one_back h
  have q4 := one_small h
  generalize (one ((enc c).set j x ++ r)).2.1 = c' at *
  generalize (one ((enc c).set j x ++ r)).2.2 = r' at *
  have l1 := named_len hn
  have l1' := named_len q1
  have hel := enc_length c l1
  have hel' := enc_length c' l1'
  have d1 : (Pt.dig 4 c.2.length).length = 4 := Pt.dig_length _ _
  have d1' : (Pt.dig 4 c'.2.length).length = 4 := Pt.dig_length _ _
  -- the first four bytes
  have t4 : ((enc c).set j x ++ r).take 4 = Pt.dig 4 c.2.length := by
    rw [List.take_append_of_le_length (by simp; omega), List.take_set_of_le (by omega)]
    have := (enc_parts c [] l1).1
    rwa [List.append_nil] at this
  have t4' : (enc c' ++ r').take 4 = Pt.dig 4 c'.2.length := (enc_parts c' r' l1').1
  have hnn : c'.2.length = c.2.length := by
    have := congrArg Pt.num (t4.symm.trans ((congrArg (List.take 4) q3).trans t4'))
    rw [num_dig _ (by omega), num_dig _ (by omega)] at this
    exact this.symm
  have he : (enc c).set j x = enc c' := by
    have := congrArg (List.take (12 + c.2.length)) q3
    rw [List.take_left' (by simp; omega), List.take_left' (by omega)] at this
    exact this
  -- name and data, and the sum
  have hb : ((enc c).set j x).drop 4 = (c'.1 ++ c'.2) ++ Pt.dig 4 (Crc.crc (c'.1 ++ c'.2)) := by
    rw [he]
    have : enc c' = Pt.dig 4 c'.2.length ++ ((c'.1 ++ c'.2) ++ Pt.dig 4 (Crc.crc (c'.1 ++ c'.2))) := by simp [enc]
    rw [this]; exact List.drop_left' d1'
  have hb0 : (enc c).drop 4 = (c.1 ++ c.2) ++ Pt.dig 4 (Crc.crc (c.1 ++ c.2)) := by
    have : enc c = Pt.dig 4 c.2.length ++ ((c.1 ++ c.2) ++ Pt.dig 4 (Crc.crc (c.1 ++ c.2))) := by simp [enc]
    rw [this]; exact List.drop_left' d1
  rw [List.drop_set, if_neg (by omega), hb0] at hb
  have hx2 : x ≠ ((c.1 ++ c.2) ++ Pt.dig 4 (Crc.crc (c.1 ++ c.2))).getD (j - 4) 0 := by
    rw [← hb0]
    simp only [List.getD, List.getElem?_drop] at hx ⊢
    rwa [show 4 + (j - 4) = j by omega]
  have ml : (c.1 ++ c.2).length = 4 + c.2.length := by rw [List.length_append, l1]
  have ml' : (c'.1 ++ c'.2).length = 4 + c.2.length := by rw [List.length_append, l1', hnn]
  have d2 : (Pt.dig 4 (Crc.crc (c.1 ++ c.2))).length = 4 := Pt.dig_length _ _
  generalize c.1 ++ c.2 = m at *
  generalize c'.1 ++ c'.2 = m' at *
  by_cases hk : j - 4 < m.length
  · rw [List.set_append_left _ _ hk] at hb
    obtain ⟨e1, e2⟩ := List.append_inj hb (by simp; omega)
    have e3 := congrArg Pt.num e2
    rw [num_dig _ (crc_lt _), num_dig _ (crc_lt _), ← e1] at e3
    have := crc_set m (j - 4) hk x e3.symm
    refine hx2 ?_
    rw [this]
    simp [List.getD, List.getElem?_append_left hk]
  · rw [List.set_append_right _ _ (by omega)] at hb
    obtain ⟨e1, e2⟩ := List.append_inj hb (by omega)
    subst e1
    have hi : j - 4 - m.length < 4 := by omega
    generalize Pt.dig 4 (Crc.crc m) = d at *
    have e3 := congrArg (fun l => l.getD (j - 4 - m.length) 0) e2
    simp only [List.getD, List.getElem?_set_self (show j - 4 - m.length < d.length by omega)] at e3
    refine hx2 ?_
    simp only [List.getD, List.getElem?_append_right (show m.length ≤ j - 4 by omega)]
    simpa using e3
theorem all_hit : ∀ (l : List C) (f j : Nat) (x : UInt8), goodL l = true → (∀ c ∈ l, c.2.length ≤ 2147483647) → j < size l → (∀ i, i < l.length → ¬ (size (l.take i) ≤ j ∧ j < size (l.take i) + 4)) → x ≠ (encs l).getD j 0 → (all f ((encs l).set j x)).1 ≠ 0
  | [], _, _, _, h, _, _, _, _ => by simp [goodL] at h
  | c :: l, 0, _, _, _, _, _, _, _ => by simp [all]
  | c :: l, f + 1, j, x, h, hb, hj, ht, hx => by
    have hn := goodL_named h c (List.mem_cons_self ..)
    have hel := enc_length c (named_len hn)
    have hcl := hb c (List.mem_cons_self ..)
    rw [goodL, Bool.and_eq_true] at h
    rw [encs_cons] at hx ⊢
    rw [size_cons] at hj
    by_cases hk : j < 12 + c.2.length
    · have h0 := ht 0 (by simp)
      rw [List.set_append_left _ _ (by omega)]
      have hh := one_hit c (encs l) j x hn hcl (by simp [size] at h0; omega) hk (by
        simpa [List.getD, List.getElem?_append_left (show j < (enc c).length by omega)] using hx)
      rw [all, if_pos hh]
      exact hh
    · rw [List.set_append_right _ _ (by omega), hel]
      by_cases hl : l = []
      · subst hl
        exact absurd hj (by simp [size]; omega)
      · rw [if_neg hl, Bool.and_eq_true] at h
        have hi : c.1 ≠ iend := by simpa using h.2.1
        have ho := one_enc c ((encs l).set (j - (12 + c.2.length)) x) hn hcl (fun e => absurd e hi)
        have ih := all_hit l f (j - (12 + c.2.length)) x h.2.2 (fun d hd => hb d (List.mem_cons_of_mem _ hd)) (by omega)
          (fun i hi' => by
            have := ht (i + 1) (by simp; omega)
            rw [List.take_succ_cons, size_cons] at this
            omega)
          (by
            simp only [List.getD, List.getElem?_append_right (show (enc c).length ≤ j by omega), hel] at hx
            exact hx)
        rw [all, ho]
        simp only [ne_eq, not_true_eq_false, if_false]
        rw [if_neg hi, if_pos ih]
        exact ih
/-- With one byte changed, but of a length, bytes aren't chunks' bytes. -/
theorem parse_hit (l : List C) (j : Nat) (x : UInt8) (hg : good l = true) (hb : ∀ c ∈ l, c.2.length ≤ 2147483647) (hj : j < 8 + size l) (ht : ∀ i, i < l.length → ¬ (8 + size (l.take i) ≤ j ∧ j < 8 + size (l.take i) + 4)) (hx : x ≠ (wr l).getD j 0) : (parse ((wr l).set j x)).1 ≠ 0 := by
  unfold parse
  by_cases h1 : 1048576 < ((wr l).set j x).length
  · rw [if_pos h1]; decide
  rw [if_neg h1]
  by_cases h8 : j < 8
  · have hne : ((wr l).set j x).take 8 ≠ sign := by
      intro e
      have h2 := congrArg (fun m => m.getD j 0) e
      simp only [List.getD, List.getElem?_take, if_pos h8, List.getElem?_set_self (show j < (wr l).length by rw [wr_length l hg]; exact hj)] at h2
      refine hx ?_
      have h3 : (wr l)[j]? = sign[j]? := by rw [wr]; exact List.getElem?_append_left (by exact h8)
      simp only [List.getD, h3]
      exact h2
    rw [if_pos hne]; decide
  · have h2 : ((wr l).set j x).take 8 = sign := by rw [List.take_set_of_le (by omega)]; exact List.take_left' rfl
    have h3 : ((wr l).set j x).drop 8 = (encs l).set (j - 8) x := by
      have h5 : (wr l).drop 8 = encs l := List.drop_left' rfl
      rw [List.drop_set, if_neg (by omega), h5]
    rw [if_neg (by rw [h2]; simp), h3]
    refine all_hit l _ _ x (by rw [← good_goodL]; exact hg) hb (by omega) (fun i hi => by have := ht i hi; omega) ?_
    have h4 : (wr l)[j]? = (encs l)[j - 8]? := by rw [wr]; exact List.getElem?_append_right (by show 8 ≤ j; omega)
    simp only [List.getD, h4] at hx
    exact hx
end Ck
end Go.Proofs.Ytaedajedjbgnbaa
