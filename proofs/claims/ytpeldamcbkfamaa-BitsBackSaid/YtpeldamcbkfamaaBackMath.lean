/- What a script comes to, as bits. -/
import Derived.Test.YtpeldamcbkfamaaBitsMath
import Derived.Test.YtpeldamcbkfamaaOpenOps
import Derived.Test.YtpeldamcbkfamaaApartMem
import Derived.Test.YtpeldamcbkfamaaProg
namespace Go.Proofs.Ytpeldamcbkfamaa
open Go.RowKit

namespace Sc
/-- What one step adds behind so many bits. -/
def ext (h : Bool) (len : Nat) (o : N3) : List Bool := if o.1 = 0 then Bt.dg h o.2.1.toNat o.2.2.toNat else List.replicate ((8 - len % 8) % 8) h
def step (h : Bool) (l : List Bool) (o : N3) : List Bool := l ++ ext h l.length o
/-- The bits of a script. -/
def enc (h : Bool) (os : List N3) : List Bool := os.foldl (step h) []
/-- A step that a writer takes. -/
def Ok (o : N3) : Prop := o.1 = 0 → 0 ≤ o.2.1 ∧ 0 ≤ o.2.2 ∧ o.2.2 ≤ 32 ∧ o.2.1.toNat < 2 ^ o.2.2.toNat
theorem enc_snoc (h : Bool) (os : List N3) (o : N3) : enc h (os ++ [o]) = enc h os ++ ext h (enc h os).length o := by simp [enc, step]
theorem fold_prefix (h : Bool) (os : List N3) : ∀ l : List Bool, ∃ r, os.foldl (step h) l = l ++ r := by
  induction os with
  | nil => intro l; exact ⟨[], by simp⟩
  | cons o os ih =>
    intro l
    obtain ⟨r, hr⟩ := ih (step h l o)
    exact ⟨ext h l.length o ++ r, by rw [List.foldl_cons, hr, step, List.append_assoc]⟩
theorem enc_take (h : Bool) (os : List N3) (i : Nat) : ∃ r, enc h os = enc h (os.take i) ++ r := by
  have e : os = os.take i ++ os.drop i := (List.take_append_drop i os).symm
  obtain ⟨r, hr⟩ := fold_prefix h (os.drop i) (enc h (os.take i))
  refine ⟨r, ?_⟩
  rw [← hr]
  have e2 : enc h os = enc h (os.take i ++ os.drop i) := by rw [← e]
  rw [e2]
  simp only [enc, List.foldl_append]
theorem take_snoc (os : List N3) (i : Nat) (hi : i < os.length) : os.take (i + 1) = os.take i ++ [os.getD i (0, 0, 0)] := by
  rw [List.take_succ_eq_append_getElem hi]; simp [List.getD, List.getElem?_eq_getElem hi]
/-- What stands behind the first i steps' bits begins with the next step's. -/
theorem enc_at (h : Bool) (os : List N3) (i : Nat) (hi : i < os.length) :
    ∃ r, enc h os = enc h (os.take i) ++ ext h (enc h (os.take i)).length (os.getD i (0, 0, 0)) ++ r := by
  obtain ⟨r, hr⟩ := enc_take h os (i + 1)
  rw [take_snoc os i hi, enc_snoc] at hr
  exact ⟨r, hr⟩
theorem enc_succ (h : Bool) (os : List N3) (i : Nat) (hi : i < os.length) :
    enc h (os.take (i + 1)) = enc h (os.take i) ++ ext h (enc h (os.take i)).length (os.getD i (0, 0, 0)) := by rw [take_snoc os i hi, enc_snoc]
/-- A number that was written is read. -/
theorem read_back (h : Bool) (os : List N3) (i : Nat) (hi : i < os.length) (h0 : (os.getD i (0, 0, 0)).1 = 0) (ok : Ok (os.getD i (0, 0, 0))) :
    (Bt.num h (((Bt.rbits h (Bt.packs h h (enc h os))).drop (enc h (os.take i)).length).take (os.getD i (0, 0, 0)).2.2.toNat) : Int) = (os.getD i (0, 0, 0)).2.1 := by
  obtain ⟨r, hr⟩ := enc_at h os i hi
  obtain ⟨k1, k2, k3, k4⟩ := ok h0
  rw [Bt.rbits_packs, hr, ext, if_pos h0]
  generalize (os.getD i (0, 0, 0)).2.1 = n at *
  generalize (os.getD i (0, 0, 0)).2.2 = c at *
  rw [List.append_assoc, List.append_assoc, List.drop_append_of_le_length (Nat.le_refl _), List.drop_length, List.nil_append,
    List.take_append_of_le_length (by rw [Bt.dg_length]; exact Nat.le_refl _), List.take_of_length_le (by rw [Bt.dg_length]; exact Nat.le_refl _), Bt.num_dg h _ _ k4]
  omega
theorem len_le (h : Bool) (os : List N3) (i : Nat) (hi : i < os.length) : (enc h (os.take i)).length + (ext h (enc h (os.take i)).length (os.getD i (0, 0, 0))).length ≤ (enc h os).length := by
  obtain ⟨r, hr⟩ := enc_at h os i hi
  rw [hr]; simp
theorem ext_le (h : Bool) (len : Nat) (o : N3) (ok : Ok o) : (ext h len o).length ≤ 32 := by
  unfold ext
  split
  · rename_i h0; rw [Bt.dg_length]; have := ok h0; omega
  · simp; omega
end Sc

/-- Structs of three numbers as cells. -/
def tvs (l : List N3) : List Value := l.flatMap fun o => [.int .i64 o.1, .int .i64 o.2.1, .int .i64 o.2.2]
theorem tvs_length (l : List N3) : (tvs l).length = l.length * 3 := by
  induction l with
  | nil => rfl
  | cons o l ih => simp only [tvs, List.flatMap_cons, List.length_append, List.length_cons, List.length_nil] at *; omega
theorem tvs_append (l m : List N3) : tvs (l ++ m) = tvs l ++ tvs m := by simp [tvs]
theorem tvs_get (l : List N3) : ∀ i, i < l.length → (tvs l)[i * 3]? = some (.int .i64 (l.getD i (0, 0, 0)).1) ∧ (tvs l)[i * 3 + 1]? = some (.int .i64 (l.getD i (0, 0, 0)).2.1) ∧ (tvs l)[i * 3 + 2]? = some (.int .i64 (l.getD i (0, 0, 0)).2.2) := by
  induction l with
  | nil => intro i hi; simp at hi
  | cons o l ih =>
    intro i hi
    have e : tvs (o :: l) = .int .i64 o.1 :: .int .i64 o.2.1 :: .int .i64 o.2.2 :: tvs l := rfl
    rw [e]
    cases i with
    | zero => exact ⟨rfl, rfl, rfl⟩
    | succ i =>
      have := ih i (by simp at hi; omega)
      have e3 : (i + 1) * 3 = i * 3 + 3 := by omega
      rw [e3]
      exact this
theorem tyOps : RowTy Try.prog 22 28 (.agg #[.int .i64 0, .int .i64 0, .int .i64 0]) 3 24 := ⟨Try.underlying22, by kernel_rfl, rfl, by omega⟩
theorem src_op (w : World) (k n c : Int) : SrcRow (w.alloc (.cells #[.int .i64 k, .int .i64 n, .int .i64 c] 28)) (some ⟨w.heap.size, 0, none⟩) 1 1 (tvs [(k, n, c)]) 3 :=
  src_new w #[.int .i64 k, .int .i64 n, .int .i64 c] 28 1 1 3 rfl (by intro u hu; simp at hu; rcases hu with rfl | rfl | rfl <;> rfl)
/-- A row of structs that the call owns, cell by cell. -/
theorem op_cells {w : World} {base n : Nat} {v : Value} {l : List N3} (h : w.ownsRow base 28 3 v n (tvs l)) (hn : l.length = n) :
    ∃ a cap, v = .slice a n cap ∧ ∀ i, i < n → ∃ g, a = some ⟨g, 0, none⟩ ∧ v.ownBlock = some g ∧ w.cell? ⟨g, i * 3, none⟩ = some (.int .i64 (l.getD i (0, 0, 0)).1) ∧ w.cell? ⟨g, i * 3 + 1, none⟩ = some (.int .i64 (l.getD i (0, 0, 0)).2.1) ∧ w.cell? ⟨g, i * 3 + 2, none⟩ = some (.int .i64 (l.getD i (0, 0, 0)).2.2) := by
  rcases own_nil_or h with ⟨rfl, rfl⟩ | ⟨g, cap, rfl, _⟩
  · exact ⟨none, 0, rfl, fun i hi => absurd hi (by omega)⟩
  · refine ⟨_, cap, rfl, fun i hi => ⟨g, rfl, rfl, ?_⟩⟩
    obtain ⟨t0, t1, t2⟩ := tvs_get l i (by omega)
    rw [h.cellAt (i * 3) (by omega), h.cellAt (i * 3 + 1) (by omega), h.cellAt (i * 3 + 2) (by omega)]
    exact ⟨t0, t1, t2⟩
end Go.Proofs.Ytpeldamcbkfamaa
