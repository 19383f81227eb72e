/- Chunks read from bytes, as the document has it. -/
import Derived.Test.YtfhmmlpcdgcmoaaCkPure
namespace Go.Proofs.Ytfhmmlpcdgcmoaa
open Go.RowKit
namespace Ck
/-- A chunk read from the beginning: an error's number (0: none), the chunk, what is left. -/
def one (b : List UInt8) : Nat × C × List UInt8 :=
  if b.length < 4 then (8, ([], []), [])
  else if 2147483647 < Pt.num (b.take 4) then (2, ([], []), [])
  else if b.length < 8 then (8, ([], []), [])
  else if named ((b.drop 4).take 4) = false then (2, ([], []), [])
  else if b.length < 12 + Pt.num (b.take 4) then (8, ([], []), [])
  else if Pt.num ((b.drop (8 + Pt.num (b.take 4))).take 4) ≠ Crc.crc ((b.drop 4).take 4 ++ (b.drop 8).take (Pt.num (b.take 4))) ∨ ((b.drop 4).take 4 = iend ∧ 0 < Pt.num (b.take 4)) then (2, ([], []), [])
  else (0, ((b.drop 4).take 4, (b.drop 8).take (Pt.num (b.take 4))), b.drop (12 + Pt.num (b.take 4)))
theorem one_a {b : List UInt8} (h : b.length < 4) : one b = (8, ([], []), []) := by unfold one; rw [if_pos h]
theorem one_b {b : List UInt8} (h : 4 ≤ b.length) (h2 : 2147483647 < Pt.num (b.take 4)) : one b = (2, ([], []), []) := by unfold one; rw [if_neg (by omega), if_pos h2]
theorem one_c {b : List UInt8} (h : 4 ≤ b.length) (h2 : Pt.num (b.take 4) ≤ 2147483647) (h3 : b.length < 8) : one b = (8, ([], []), []) := by unfold one; rw [if_neg (by omega), if_neg (by omega), if_pos h3]
theorem one_d {b : List UInt8} (h2 : Pt.num (b.take 4) ≤ 2147483647) (h3 : 8 ≤ b.length) (h4 : named ((b.drop 4).take 4) = false) : one b = (2, ([], []), []) := by unfold one; rw [if_neg (by omega), if_neg (by omega), if_neg (by omega), if_pos h4]
theorem one_e {b : List UInt8} (h2 : Pt.num (b.take 4) ≤ 2147483647) (h3 : 8 ≤ b.length) (h4 : named ((b.drop 4).take 4) = true) (h5 : b.length < 12 + Pt.num (b.take 4)) : one b = (8, ([], []), []) := by
  unfold one; rw [if_neg (by omega), if_neg (by omega), if_neg (by omega), if_neg (by rw [h4]; decide), if_pos h5]
theorem one_f {b : List UInt8} (h2 : Pt.num (b.take 4) ≤ 2147483647) (h4 : named ((b.drop 4).take 4) = true) (h5 : 12 + Pt.num (b.take 4) ≤ b.length)
    (h6 : Pt.num ((b.drop (8 + Pt.num (b.take 4))).take 4) ≠ Crc.crc ((b.drop 4).take 4 ++ (b.drop 8).take (Pt.num (b.take 4))) ∨ ((b.drop 4).take 4 = iend ∧ 0 < Pt.num (b.take 4))) : one b = (2, ([], []), []) := by
  unfold one; rw [if_neg (by omega), if_neg (by omega), if_neg (by omega), if_neg (by rw [h4]; decide), if_neg (by omega), if_pos h6]
theorem one_g {b : List UInt8} (h2 : Pt.num (b.take 4) ≤ 2147483647) (h4 : named ((b.drop 4).take 4) = true) (h5 : 12 + Pt.num (b.take 4) ≤ b.length)
    (h6 : Pt.num ((b.drop (8 + Pt.num (b.take 4))).take 4) = Crc.crc ((b.drop 4).take 4 ++ (b.drop 8).take (Pt.num (b.take 4)))) (h7 : (b.drop 4).take 4 = iend → Pt.num (b.take 4) = 0) :
    one b = (0, ((b.drop 4).take 4, (b.drop 8).take (Pt.num (b.take 4))), b.drop (12 + Pt.num (b.take 4))) := by
  unfold one
  rw [if_neg (by omega), if_neg (by omega), if_neg (by omega), if_neg (by rw [h4]; decide), if_neg (by omega), if_neg]
  rintro (h | ⟨h, h8⟩)
  · exact h h6
  · have := h7 h; omega
/-- One chunk behind the other, until the last one. -/
def all : Nat → List UInt8 → Nat × List C
  | 0, _ => (8, [])
  | f + 1, b =>
    if (one b).1 ≠ 0 then ((one b).1, [])
    else if (one b).2.1.1 = iend then (if (one b).2.2 = [] then (0, [(one b).2.1]) else (2, []))
    else if (all f (one b).2.2).1 ≠ 0 then ((all f (one b).2.2).1, []) else (0, (one b).2.1 :: (all f (one b).2.2).2)
theorem all_nil (f : Nat) (b : List UInt8) (h : (all f b).1 ≠ 0) : (all f b).2 = [] := by
  cases f with
  | zero => rfl
  | succ f =>
    rw [all] at h ⊢
    by_cases h1 : (one b).1 ≠ 0
    · rw [if_pos h1]
    · rw [if_neg h1] at h ⊢
      by_cases h2 : (one b).2.1.1 = iend
      · rw [if_pos h2] at h ⊢
        by_cases h3 : (one b).2.2 = []
        · rw [if_pos h3] at h; exact absurd rfl h
        · rw [if_neg h3]
      · rw [if_neg h2] at h ⊢
        by_cases h3 : (all f (one b).2.2).1 ≠ 0
        · rw [if_pos h3]
        · rw [if_neg h3] at h; exact absurd rfl h
/-- The chunks of bytes, or an error's number. -/
def parse (b : List UInt8) : Nat × List C :=
  if 1048576 < b.length then (4, []) else if b.take 8 ≠ sign then (2, []) else all b.length (b.drop 8)
/-- What comes of the chunks so far, and of the rest. -/
def join (d : List C) (r : Nat × List C) : Nat × List C := if r.1 = 0 then (0, d ++ r.2) else (r.1, [])
theorem one_len {b : List UInt8} (h : (one b).1 = 0) : (one b).2.2.length + 12 + (one b).2.1.2.length ≤ b.length := by
  unfold one at h ⊢
  split at h
  · simp at h
  split at h
  · simp at h
  split at h
  · simp at h
  split at h
  · simp at h
  split at h
  · simp at h
  split at h
  · simp at h
  · rename_i h1 h2 h3 h4 h5 h6
    rw [if_neg h1, if_neg h2, if_neg h3, if_neg h4, if_neg h5, if_neg h6]
    simp only [List.length_drop, List.length_take]
    omega
theorem join_nil (f : Nat) (b : List UInt8) : join [] (all f b) = all f b := by
  have h := all_nil f b
  generalize all f b = R at *
  obtain ⟨e, m⟩ := R
  unfold join
  by_cases he : e = 0
  · subst he; simp
  · have := h he
    simp only at this
    subst this
    simp [he]
theorem join_err (d : List C) {f : Nat} {b : List UInt8} {n : Nat} (h : (one b).1 = n) (hn : n ≠ 0) : join d (all (f + 1) b) = (n, []) := by
  have e : all (f + 1) b = (n, []) := by rw [all, if_pos (by rw [h]; exact hn), h]
  rw [e, join, if_neg hn]
theorem join_end (d : List C) {f : Nat} {b : List UInt8} (h : (one b).1 = 0) (hi : (one b).2.1.1 = iend) (hl : (one b).2.2 = []) : join d (all (f + 1) b) = (0, d ++ [(one b).2.1]) := by
  rw [all, if_neg (by rw [h]; simp), if_pos hi, if_pos hl]; rfl
theorem join_more (d : List C) {f : Nat} {b : List UInt8} (h : (one b).1 = 0) (hi : (one b).2.1.1 = iend) (hl : (one b).2.2 ≠ []) : join d (all (f + 1) b) = (2, []) := by
  rw [all, if_neg (by rw [h]; simp), if_pos hi, if_neg hl]; rfl
theorem join_step (d : List C) {f : Nat} {b : List UInt8} (h : (one b).1 = 0) (hi : (one b).2.1.1 ≠ iend) : join d (all (f + 1) b) = join (d ++ [(one b).2.1]) (all f (one b).2.2) := by
  rw [all, if_neg (by rw [h]; simp), if_neg hi]
  generalize all f (one b).2.2 = r
  obtain ⟨e, m⟩ := r
  unfold join
  by_cases hz : e = 0
  · subst hz; simp
  · simp [hz]
end Ck
end Go.Proofs.Ytfhmmlpcdgcmoaa
