/- The document's tables in memory; burnishref05.table: its contract. burnishref05.Best: its contract. -/
import Derived.Test.YtjjbgdmalefdlaaGreatDoorZ6
import Derived.Test.YtjjbgdmalefdlaaGreatDoorZ8
import Derived.Test.YtjjbgdmalefdlaaGreatDoorZ9
import Derived.Test.YtjjbgdmalefdlaaGreatDoorZ39
import Derived.BigRegion
import Derived.Deep.QuietTactic
import Derived.BigQuiet
set_option linter.unusedSimpArgs false
set_option linter.unusedVariables false
section
namespace Go.Proofs.YtjjbgdmalefdlaaGreatDoor
open Go.RowKit

theorem tyII : RowTy Tryz.prog 102 53 (.slice none 0 0) 1 24 := ⟨Tryz.underlying102, by kernel_rfl, rfl, by omega⟩
def rowV (r : Nat → Nat) (m i : Nat) : Value := .slice (some ⟨r i, 0, none⟩) (m + 2) (m + 2)
def rowL (f : Nat → Nat → Int) (m i : Nat) : List Int := (List.range (m + 2)).map (f i)
theorem rowL_length (f : Nat → Nat → Int) (m i : Nat) : (rowL f m i).length = m + 2 := by simp [rowL]
theorem rowL_getD (f : Nat → Nat → Int) (m i n : Nat) (h : n < m + 2) : (rowL f m i).getD n 0 = f i n := by simp [rowL, List.getD, List.getElem?_range h]
theorem rowL_congr {f f' : Nat → Nat → Int} {m i : Nat} (h : ∀ b, b < m + 2 → f i b = f' i b) : rowL f m i = rowL f' m i := List.map_congr_left (fun b hb => h b (List.mem_range.1 hb))
theorem rowL_set (f : Nat → Nat → Int) (m i n : Nat) (c : Int) : (rowL f m i).set n c = rowL (Mg.upd f i n c) m i := by
  apply List.ext_getElem?
  intro j
  rw [List.getElem?_set, rowL_length]
  by_cases hj : j < m + 2
  · have e : ∀ f : Nat → Nat → Int, (rowL f m i)[j]? = some (f i j) := fun f => by simp [rowL, List.getElem?_range hj]
    rw [e, e]
    by_cases h : n = j
    · subst h; rw [if_pos rfl, if_pos hj]; simp [Mg.upd]
    · rw [if_neg h]
      have e2 : Mg.upd f i n c i j = f i j := if_neg (fun h2 => h h2.2.symm)
      rw [e2]
  · have e : ∀ f : Nat → Nat → Int, (rowL f m i)[j]? = none := fun f => by rw [List.getElem?_eq_none]; rw [rowL_length]; omega
    rw [e, e]
    split
    · rename_i h; subst h; rw [if_neg hj]
    · rfl
def putR {α : Type} (r : Nat → α) (k : Nat) (q : α) : Nat → α := fun i => if i = k then q else r i
theorem putR_same {α : Type} (r : Nat → α) (k : Nat) (q : α) : putR r k q k = q := if_pos rfl
theorem putR_ne {α : Type} (r : Nat → α) {k i : Nat} (q : α) (h : i ≠ k) : putR r k q i = r i := if_neg h
/-- k rows of a table are laid. -/
structure Tb (w : World) (B g : Nat) (r : Nat → Nat) (m k : Nat) (f : Nat → Nat → Int) : Prop where
  out : w.ownsRow B 53 1 (.slice (some ⟨g, 0, none⟩) (m + 1) (m + 1)) (m + 1) (rvs (rowV r m) (m + 1) k)
  row : ∀ i, i < k → w.ownsRow B 3 1 (rowV r m i) (m + 2) (ivs (rowL f m i))
  dj : ∀ i j, i < k → j < k → i ≠ j → r i ≠ r j
  ne : ∀ i, i < k → r i ≠ g
section
variable {w w' : World} {B g : Nat} {r : Nat → Nat} {m k : Nat} {f : Nat → Nat → Int}
theorem Tb.kept {T : Nat → Prop} (h : Tb w B g r m k f) (c : Ch w w' T) (h1 : ¬ T g) (h2 : ∀ i, i < k → ¬ T (r i)) : Tb w' B g r m k f :=
  ⟨c.own h.out (fun j hj e => by cases hj; exact h1 e), fun i hi => c.own (h.row i hi) (fun j hj e => by cases hj; exact h2 i hi e), h.dj, h.ne⟩
theorem Tb.mono (h : Tb w B g r m k f) (hb : Below w.heap.size w w') : Tb w' B g r m k f := h.kept (Ch.of_below (T := fun _ => False) hb) (fun h => h) (fun _ _ h => h)
theorem Tb.congr (h : Tb w B g r m k f) {f' : Nat → Nat → Int} (hf : ∀ i b, i < k → b < m + 2 → f i b = f' i b) : Tb w B g r m k f' :=
  ⟨h.out, fun i hi => by rw [← rowL_congr (fun b hb => hf i b hi hb)]; exact h.row i hi, h.dj, h.ne⟩
theorem Tb.lt (h : Tb w B g r m k f) : B ≤ g ∧ g < w.heap.size := h.out.lt g rfl
theorem Tb.rlt (h : Tb w B g r m k f) (i : Nat) (hi : i < k) : B ≤ r i ∧ r i < w.heap.size := (h.row i hi).lt (r i) rfl
theorem Tb.set (h : Tb w B g r m k f) (i n : Nat) (hi : i < k) (c : Int) : Tb (w.setCell ⟨r i, n, none⟩ (.int .i64 c)) B g r m k (Mg.upd f i n c) := by
  have ch : Ch w (w.setCell ⟨r i, n, none⟩ (.int .i64 c)) (fun j => j = r i) := (Ch.refl w (fun j => j = r i)).set (.inl rfl) _
  refine ⟨ch.own h.out (fun j hj e => by cases hj; exact h.ne i hi e.symm), fun a ha => ?_, h.dj, h.ne⟩
  by_cases e : a = i
  · subst e
    rw [← rowL_set, ← ivs_set]
    exact ((h.row a ha).stored n _).1
  · have e2 : rowL (Mg.upd f i n c) m a = rowL f m a := rowL_congr (fun b _ => by unfold Mg.upd; rw [if_neg (fun h => e h.1)])
    rw [e2]
    exact ch.own (h.row a ha) (fun j hj e3 => by cases hj; exact h.dj a i ha hi e e3)
theorem Tb.put (h : Tb w B g r m k f) (hk : k < m + 1) {q : Nat} (hb : Below w.heap.size w w') {l : Nat → Int} (hq : w'.ownsRow w.heap.size 3 1 (.slice (some ⟨q, 0, none⟩) (m + 2) (m + 2)) (m + 2) (ivs ((List.range (m + 2)).map l))) (hB : B ≤ w.heap.size) :
    Tb (w'.setCell ⟨g, k, none⟩ (.slice (some ⟨q, 0, none⟩) (m + 2) (m + 2))) B g (putR r k q) m (k + 1) (putR f k l) := by
  have h2 := h.mono hb
  have hgl := h.lt
  have hql := hq.lt q rfl
  have ch : Ch w' (w'.setCell ⟨g, k, none⟩ (.slice (some ⟨q, 0, none⟩) (m + 2) (m + 2))) (fun j => j = g) := (Ch.refl w' (fun j => j = g)).set (.inl rfl) _
  have er : rowV (putR r k q) m k = .slice (some ⟨q, 0, none⟩) (m + 2) (m + 2) := by unfold rowV; rw [putR_same]
  have eo : ∀ i, i ≠ k → rowV (putR r k q) m i = rowV r m i := fun i hi => by unfold rowV; rw [putR_ne r q hi]
  refine ⟨?_, fun i hi => ?_, fun i j hi hj hij => ?_, fun i hi => ?_⟩
  · have h3 := (h2.out.stored k (.slice (some ⟨q, 0, none⟩) (m + 2) (m + 2))).1
    rw [rvs_set _ _ _ _ hk] at h3
    have e : rvs (rowV (putR r k q) m) (m + 1) (k + 1) = rvs (fun i => if i = k then .slice (some ⟨q, 0, none⟩) (m + 2) (m + 2) else rowV r m i) (m + 1) (k + 1) := by
      have hfun : rowV (putR r k q) m = fun i => if i = k then .slice (some ⟨q, 0, none⟩) (m + 2) (m + 2) else rowV r m i := by
        funext i
        by_cases e : i = k
        · subst e; rw [er]; simp
        · rw [eo i e]; simp [e]
      rw [hfun]
    rw [e]
    exact h3
  · by_cases e : i = k
    · subst e
      rw [er]
      have e2 : rowL (putR f i l) m i = (List.range (m + 2)).map l := by unfold rowL; rw [putR_same]
      rw [e2]
      exact ch.own (own_base hq (fun j hj => Nat.le_trans hB (hq.lt j hj).1)) (fun j hj e => by cases hj; have e' : q = g := e; omega)
    · rw [eo i e]
      have e2 : rowL (putR f k l) m i = rowL f m i := by unfold rowL; rw [putR_ne f l e]
      rw [e2]
      exact ch.own (h2.row i (by omega)) (fun j hj e => by cases hj; exact h.ne i (by omega) e)
  · have r1 : ∀ a, a < k → r a < w.heap.size := fun a ha => (h.rlt a ha).2
    by_cases e1 : i = k
    · subst e1
      rw [putR_same, putR_ne r q (fun e => hij e.symm)]
      have := r1 j (by omega); omega
    · by_cases e2 : j = k
      · subst e2
        rw [putR_same, putR_ne r q hij]
        have := r1 i (by omega); omega
      · rw [putR_ne r q e1, putR_ne r q e2]; exact h.dj i j (by omega) (by omega) hij
  · by_cases e : i = k
    · subst e; rw [putR_same]; omega
    · rw [putR_ne r q e]; exact h.ne i (by omega)
theorem Tb.cells (h : Tb w B g r m k f) (i : Nat) (hi : i < k) (hk : k ≤ m + 1) : w.cell? ⟨g, i, none⟩ = some (.slice (some ⟨r i, 0, none⟩) (m + 2) (m + 2)) ∧ ∀ n, n < m + 2 → w.cell? ⟨r i, n, none⟩ = some (.int .i64 (f i n)) ∧ w.frozen? ⟨r i, n, none⟩ = false := by
  refine ⟨?_, fun n hn => ⟨?_, ?_⟩⟩
  · rw [h.out.cellAt i (by omega), rvs_get _ _ _ _ (by omega), if_pos hi]; rfl
  · have h1 := h.row i hi
    unfold rowV at h1
    rw [h1.cellAt n (by omega), ivs_get _ _ (by rw [rowL_length]; exact hn), rowL_getD f m i n hn]
  · have h1 := h.row i hi
    unfold rowV at h1
    exact (own_slot h1 n hn).2
end
def TbPost (w : World) (m : Nat) (z : Int) (e : Ending) (w' : World) : Prop :=
  ∃ g r, e = .returned (.slice (some ⟨g, 0, none⟩) (m + 1) (m + 1)) ∧ Tb w' w.heap.size g r m (m + 1) (fun _ _ => z) ∧ Below w.heap.size w w'
def tbF (z : Int) (i k : Nat) : Nat → Nat → Int := fun a b => if a < i then z else if b < k then z else 0
theorem tbF_set (z : Int) (i k : Nat) (a b : Nat) (h : a < i + 1) : Mg.upd (tbF z i k) i k z a b = tbF z i (k + 1) a b := by
  unfold Mg.upd tbF
  by_cases e : a = i ∧ b = k
  · rw [if_pos e]
    by_cases h1 : a < i
    · rw [if_pos h1]
    · rw [if_neg h1, if_pos (by omega)]
  · rw [if_neg e]
    by_cases h1 : a < i
    · rw [if_pos h1, if_pos h1]
    · rw [if_neg h1, if_neg h1]
      by_cases h2 : b < k
      · rw [if_pos h2, if_pos (by omega)]
      · rw [if_neg h2, if_neg (by omega)]
set_option maxHeartbeats 4000000 in
set_option maxRecDepth 100000 in
theorem table_any (m : Nat) (hm : m ≤ 1000) (z : Int) (w : World) : Calls Tryz.prog 55 #[.int .i64 (m : Nat), .int .i64 z] w (TbPost w m z) := by
  go_enter Tryz.func55, Tryz.ntmps55
  go_wp2_with (at_make; refine wpl_make_full tyII rfl _ _ rfl w.heap.size .i64 .i64 _ _ (m + 1) rfl rfl (by omega) (by omega) (by omega) (by omega) (Nat.le_refl _) ?_)
  intro w1 own1 hg1
  have hb1 : Below w.heap.size w w1 := (Below.refl _ _).grown hg1 (Nat.le_refl _) (by simp)
  have HT : Hid (Tb w1 w.heap.size w.heap.size (fun _ => 0) m 0 (fun _ _ => z) ∧ Below w.heap.size w w1) := Lib.hid ⟨⟨by rw [← made_rvs, Nat.mul_one]; exact own1, fun i hi => by omega, fun i j hi => by omega, fun i hi => by omega⟩, hb1⟩
  clear own1 hg1 hb1
  generalize hg : w.heap.size = g at HT ⊢
  have HG := Lib.hid hg
  clear hg
  go_wp2
  go_loopw [13] (fun i wr => ∃ (k : Nat) (r : Nat → Nat), k ≤ m + 1 ∧ i = .int .i64 k ∧ Hid (Tb wr g g r m k (fun _ _ => z) ∧ Below g w wr)) (fun i _ => m + 1 - (intOf i).toNat)
  case atStart => exact ⟨0, _, by omega, rfl, HT⟩
  case round =>
    obtain ⟨k, r, hk, rfl, HK⟩ := hrel
    have hzw : g ≤ wr.heap.size := by have := HK.out.2.size; have := HG.out; omega
    by_cases hlt : k < m + 1
    · go_wp2_with (at_make; refine wpl_make_full tyI rfl _ _ rfl wr.heap.size .i64 .i64 _ _ (m + 2) rfl rfl (by omega) (by omega) (by omega) (by omega) (Nat.le_refl _) ?_)
      intro w2 own2 hg2
      have hb2 : Below wr.heap.size wr w2 := (Below.refl _ _).grown hg2 (Nat.le_refl _) (by simp)
      have own3 : w2.ownsRow wr.heap.size 3 1 (.slice (some ⟨wr.heap.size, 0, none⟩) (m + 2) (m + 2)) (m + 2) (ivs ((List.range (m + 2)).map fun _ => 0)) := by
        have e := made_ints1 (m + 2)
        have e2 : (List.range (m + 2)).map (fun _ => (0 : Int)) = List.replicate (m + 2) 0 := by rw [List.eq_replicate_iff]; exact ⟨by simp, fun b hb => by simp only [List.mem_map] at hb; obtain ⟨_, _, rfl⟩ := hb; rfl⟩
        rw [Nat.mul_one] at e
        rw [e2, ← e]; exact own2
      have hT3 := HK.out.1.put hlt hb2 own3 hzw
      have HT3 : Hid (Tb (w2.setCell ⟨g, k, none⟩ (.slice (some ⟨wr.heap.size, 0, none⟩) (m + 2) (m + 2))) g g (putR r k wr.heap.size) m (k + 1) (tbF z k 0) ∧ Below g w (w2.setCell ⟨g, k, none⟩ (.slice (some ⟨wr.heap.size, 0, none⟩) (m + 2) (m + 2)))) := Lib.hid ⟨hT3.congr (fun i b hi hb => by
          unfold tbF
          by_cases e : i = k
          · subst e; rw [putR_same, if_neg (by omega), if_neg (by omega)]
          · rw [putR_ne _ _ e, if_pos (by omega)]), (HK.out.2.trans (hb2.mono hzw)).setCell (p := ⟨g, k, none⟩) (Nat.le_refl _) _⟩
      obtain ⟨⟨z0, g0⟩, f0⟩ := own_slot (HK.out.1.mono hb2).out k hlt
      clear own2 own3 hg2 hb2 hT3 HK
      generalize wr.heap.size = q at *
      generalize putR r k q = r2 at *
      have hcg := (HT3.out.1.cells k (by omega) (by omega)).1
      go_wp2
      generalize w2.setCell ⟨g, k, none⟩ (.slice (some ⟨q, 0, none⟩) (m + 2) (m + 2)) = w3 at *
      clear g0 f0 hcg
      go_loopw [27] (fun i wr => ∃ b : Nat, b ≤ m + 2 ∧ i = .int .i64 b ∧ Hid (Tb wr g g r2 m (k + 1) (tbF z k b) ∧ Below g w wr)) (fun i _ => m + 2 - (intOf i).toNat)
      case atStart => exact ⟨0, by omega, rfl, HT3⟩
      case round =>
        obtain ⟨b, hb, rfl, HB⟩ := hrel
        obtain ⟨q1, q2⟩ := HB.out.1.cells k (by omega) (by omega)
        by_cases hlb : b < m + 2
        · obtain ⟨q3, q4⟩ := q2 b hlb
          have HN : Hid (Tb (wr.setCell ⟨r2 k, b, none⟩ (.int .i64 z)) g g r2 m (k + 1) (tbF z k (b + 1)) ∧ Below g w (wr.setCell ⟨r2 k, b, none⟩ (.int .i64 z))) := Lib.hid
            ⟨(HB.out.1.set k b (by omega) z).congr (fun i c hi _ => tbF_set z k b i c hi), HB.out.2.setCell (p := ⟨r2 k, b, none⟩) (HB.out.1.rlt k (by omega)).1 _⟩
          clear q2 HB
          generalize r2 k = rk at *
          go_wp2
          go_roundw
          case rel => exact ⟨b + 1, by omega, by go_num, HN⟩
          case measure => simp [intOf]; omega
        · obtain rfl : b = m + 2 := by omega
          have HN : Hid (Tb wr g g r2 m (k + 1) (fun _ _ => z) ∧ Below g w wr) := Lib.hid ⟨HB.out.1.congr (fun i c hi hc => by
            unfold tbF
            by_cases h : i < k
            · rw [if_pos h]
            · rw [if_neg h, if_pos hc]), HB.out.2⟩
          clear q2 q1 HB
          go_wp2
          go_roundw
          case rel => exact ⟨k + 1, r2, by omega, by go_num, HN⟩
          case measure => simp [intOf]; omega
    · obtain rfl : k = m + 1 := by omega
      go_wp2
      go_ret
      exact ⟨g, r, rfl, by rw [HG.out]; exact HK.out.1, by rw [HG.out]; exact HK.out.2⟩
end Go.Proofs.YtjjbgdmalefdlaaGreatDoor
end

section
namespace Go.Proofs.YtjjbgdmalefdlaaGreatDoor
open Go.RowKit

theorem pre_le (R : List Int) (b : Int) (hb : 0 ≤ b) (h : ∀ x ∈ R, 0 ≤ x ∧ x ≤ b) : ∀ k, 0 ≤ Mg.pre R k ∧ Mg.pre R k ≤ b * (R.length : Int) := by
  have h1 : ∀ k, k ≤ R.length → Mg.pre R k ≤ b * (k : Int) := by
    intro k
    induction k with
    | zero => intro _; rw [Mg.pre_zero]; simp
    | succ k ih =>
      intro hk
      have := ih (by omega)
      have h2 := (h _ (List.getElem_mem (show k < R.length by omega))).2
      rw [Mg.pre_succ R k (by omega), Int.natCast_add, Int.mul_add]
      simp only [Int.natCast_one, Int.mul_one]
      omega
  have hP : Mg.Pos R := fun x hx => (h x hx).1
  intro k
  refine ⟨by rw [← Mg.pre_zero R]; exact Mg.pre_mono hP (by omega), ?_⟩
  by_cases hk : k ≤ R.length
  · refine Int.le_trans (h1 k hk) (Int.mul_le_mul_of_nonneg_left (by omega) hb)
  · have : Mg.pre R k = Mg.pre R R.length := by unfold Mg.pre; rw [List.take_of_length_le (by omega), List.take_length]
    rw [this]; exact h1 _ (Nat.le_refl _)
/-- What stands from place i on, from place k on. -/
def restL (R : List Int) (m k : Nat) : List Int := (List.range (m + 1)).map fun i => if k ≤ i then Mg.pre R (m - i) else 0
theorem restL_length (R : List Int) (m k : Nat) : (restL R m k).length = m + 1 := by simp [restL]
theorem restL_get (R : List Int) (m k i : Nat) (h : i < m + 1) : (restL R m k).getD i 0 = if k ≤ i then Mg.pre R (m - i) else 0 := by simp [restL, List.getD, List.getElem?_range h]
theorem restL_start (R : List Int) (m : Nat) : restL R m m = List.replicate (m + 1) 0 := by
  rw [List.eq_replicate_iff]
  refine ⟨restL_length _ _ _, fun b hb => ?_⟩
  simp only [restL, List.mem_map, List.mem_range] at hb
  obtain ⟨i, hi, rfl⟩ := hb
  by_cases h : m ≤ i
  · rw [if_pos h, show m - i = 0 by omega, Mg.pre_zero]
  · rw [if_neg h]
theorem restL_set (R : List Int) (m k : Nat) (h : k < m) : (restL R m (k + 1)).set k (Mg.pre R (m - k)) = restL R m k := by
  apply List.ext_getElem?
  intro j
  rw [List.getElem?_set, restL_length]
  by_cases hj : j < m + 1
  · have e : ∀ k, (restL R m k)[j]? = some (if k ≤ j then Mg.pre R (m - j) else 0) := fun k => by simp [restL, List.getElem?_range hj]
    rw [e, e]
    by_cases h : k = j
    · subst h; rw [if_pos rfl, if_pos hj, if_pos (Nat.le_refl _)]
    · rw [if_neg h]
      by_cases h2 : k ≤ j
      · rw [if_pos h2, if_pos (by omega)]
      · rw [if_neg h2, if_neg (by omega)]
  · have e : ∀ k, (restL R m k)[j]? = none := fun k => by rw [List.getElem?_eq_none]; rw [restL_length]; omega
    rw [e, e]
    split
    · omega
    · rfl
theorem rest_step (C : List Int) (k : Nat) (h : k < C.length) : Mg.pre C.reverse (C.length - k) = Mg.pre C.reverse (C.length - (k + 1)) + C.getD k 0 := by
  rw [show C.length - k = (C.length - (k + 1)) + 1 by omega, Mg.pre_succ _ _ (by rw [List.length_reverse]; omega), List.getElem_reverse]
  simp only [List.getD]
  rw [List.getElem?_eq_getElem h]
  congr 2
  omega
/-- What lies in memory between two levels. -/
structure DS (w wr : World) (q B g : Nat) (r : Nat → Nat) (m : Nat) (f : Nat → Nat → Int) (R : List Int) : Prop where
  tb : Tb wr B g r m (m + 1) f
  ro : wr.ownsRow q 3 1 (.slice (some ⟨q, 0, none⟩) (m + 1) (m + 1)) (m + 1) (ivs (restL R m 0))
  bel : Below q w wr
  le : q ≤ wr.heap.size
theorem DS.mono {w wr wx : World} {q B g : Nat} {r : Nat → Nat} {m : Nat} {f : Nat → Nat → Int} {R : List Int} (h : DS w wr q B g r m f R) (hb : Below wr.heap.size wr wx) : DS w wx q B g r m f R :=
  ⟨h.tb.mono hb, own_below h.ro hb, h.bel.trans (hb.mono h.le), Nat.le_trans h.le hb.size⟩
def BestPost (w : World) (m L : Nat) (R : List Int) (e : Ending) (w' : World) : Prop :=
  ∃ b, e = .returned (.int .i64 b) ∧ Below w.heap.size w w' ∧ (m = 0 → b = 0) ∧ (0 < m → Mg.Bst m (fun i => Mg.pre R (m - i)) L b)
set_option maxHeartbeats 8000000 in
set_option maxRecDepth 100000 in
theorem best_any (a : Option Addr) (m cap : Nat) (C : List Int) (L : Nat) (w : World) (h : Is .i64 w a m cap C) (hm : m ≤ 300) (hL : L ≤ 16) (hC : ∀ x ∈ C, 0 ≤ x ∧ x ≤ 1099511627776) :
    Calls Tryz.prog 29 #[.slice a m cap, .int .i64 (L : Nat)] w (BestPost w m L C.reverse) := by
  have HL := Lib.hid h.hlen
  have H := Lib.hid h
  have hp := pre_le C.reverse 1099511627776 (by omega) (fun x hx => hC x (List.mem_reverse.1 hx))
  rw [List.length_reverse, h.hlen] at hp
  have HP : Hid (∀ k, 0 ≤ Mg.pre C.reverse k ∧ Mg.pre C.reverse k ≤ 329853488332800) := Lib.hid (fun k => by
    have h1 := hp k
    have : (1099511627776 : Int) * (m : Int) ≤ 1099511627776 * 300 := Int.mul_le_mul_of_nonneg_left (by omega) (by omega)
    omega)
  have HRS := Lib.hid (fun k (hk : k < m) => (show Mg.pre C.reverse (m - k) = Mg.pre C.reverse (m - (k + 1)) + C.getD k 0 from by have := rest_step C k (by rw [HL.out]; exact hk); rw [HL.out] at this; exact this))
  have HCB := Lib.hid (fun k (hk : k < m) => (show 0 ≤ C.getD k 0 ∧ C.getD k 0 ≤ 1099511627776 from by
    have hkl : k < C.length := by rw [HL.out]; exact hk
    have e : C.getD k 0 = C[k] := by simp [List.getD, List.getElem?_eq_getElem hkl]
    rw [e]; exact hC _ (List.getElem_mem hkl)))
  clear h hp hC
  generalize C.reverse = R at *
  by_cases hm0 : m = 0
  · have d0 : ((m : Int) == 0) = true := by simp; omega
    have HM0 := Lib.hid hm0
    clear hm0
    go_enter Tryz.func29, Tryz.ntmps29
    go_wp2
    go_ret
    exact ⟨0, rfl, Below.refl _ _, fun _ => rfl, fun h => by have := HM0.out; omega⟩
  have d0 : ((m : Int) == 0) = false := by simp; omega
  go_enter Tryz.func29, Tryz.ntmps29
  go_wp2_with (at_make; refine wpl_make_full tyI rfl _ _ rfl w.heap.size .i64 .i64 _ _ (m + 1) rfl rfl (by omega) (by omega) (by omega) (by omega) (Nat.le_refl _) ?_)
  intro w1 own1 hg1
  have hb1 : Below w.heap.size w w1 := (Below.refl _ _).grown hg1 (Nat.le_refl _) (by simp)
  have HR1 : Hid (w1.ownsRow w.heap.size 3 1 (.slice (some ⟨w.heap.size, 0, none⟩) (m + 1) (m + 1)) (m + 1) (ivs (restL R m m)) ∧ Below w.heap.size w w1) := Lib.hid ⟨by
    have e := made_ints1 (m + 1)
    rw [Nat.mul_one] at e
    rw [restL_start, ← e]; exact own1, hb1⟩
  clear own1 hg1 hb1
  generalize hq : w.heap.size = q at HR1 ⊢
  have HQ := Lib.hid hq
  clear hq
  go_wp2
  go_loopw [7] (fun i wr => ∃ k : Nat, k ≤ m ∧ i = .int .i64 ((k : Int) - 1) ∧ Hid (wr.ownsRow q 3 1 (.slice (some ⟨q, 0, none⟩) (m + 1) (m + 1)) (m + 1) (ivs (restL R m k)) ∧ Below q w wr)) (fun i _ => (intOf i + 1).toNat)
  case atStart => exact ⟨m, by omega, rfl, HR1⟩
  case round =>
    obtain ⟨k, hk, rfl, HK⟩ := hrel
    cases k with
    | succ j =>
      have ej : (((j + 1 : Nat) : Int) - 1) = (j : Int) := by omega
      rw [ej]
      obtain ⟨b1, o1, rfl, _, c1⟩ := (H.out.mono (by rw [HQ.out]; exact HK.out.2)).at' j (by omega)
      have hcb := HCB.out j (by omega)
      have hpp := HP.out (m - (j + 1))
      have hst := HRS.out j (by omega)
      have c2 := HK.out.1.cellAt (j + 1) (by omega)
      rw [ivs_get _ _ (by rw [restL_length]; omega), restL_get _ _ _ _ (by omega), if_pos (Nat.le_refl _)] at c2
      obtain ⟨⟨z0, g0⟩, f0⟩ := own_slot HK.out.1 j (by omega)
      have HN : Hid ((wr.setCell ⟨q, j, none⟩ (.int .i64 (Mg.pre R (m - (j + 1)) + C.getD j 0))).ownsRow q 3 1 (.slice (some ⟨q, 0, none⟩) (m + 1) (m + 1)) (m + 1) (ivs (restL R m j)) ∧ Below q w (wr.setCell ⟨q, j, none⟩ (.int .i64 (Mg.pre R (m - (j + 1)) + C.getD j 0)))) := Lib.hid
        ⟨by rw [← restL_set R m j (by omega), hst]; exact own_set HK.out.1 j _, HK.out.2.setCell (p := ⟨q, j, none⟩) (Nat.le_refl _) _⟩
      have dge : decide (0 ≤ (j : Int)) = true := by simp
      clear hst ej HK
      generalize Mg.pre R (m - (j + 1)) = x at *
      generalize C.getD j 0 = y at *
      go_wp2
      go_big_region
      have HN2 : Hid ((wr.setCell ⟨q, j, none⟩ (.int .i64 (x + y))).drew.ownsRow q 3 1 (.slice (some ⟨q, 0, none⟩) (m + 1) (m + 1)) (m + 1) (ivs (restL R m j)) ∧ Below q w (wr.setCell ⟨q, j, none⟩ (.int .i64 (x + y))).drew) := Lib.hid
        ⟨own_below HN.out.1 (drewN_is _ 1), HN.out.2.trans ((drewN_is _ 1).mono (by rw [← HQ.out]; rw [← HQ.out] at HN; exact HN.out.2.size))⟩
      clear HN
      go_wp2
      go_roundw
      case rel => exact ⟨j, by omega, by go_num, HN2⟩
      case measure => simp [intOf]
    | zero =>
      have e0 : (((0 : Nat) : Int) - 1) = -1 := rfl
      rw [e0]
      clear e0 HRS HCB HR1
      have hw1 : w.heap.size ≤ wr.heap.size := by have := HK.out.2; rw [← HQ.out] at this; exact this.size
      go_wp2_with fail
      refine (table_any m (by omega) (-1) wr).mono ?_
      rintro e w2 ⟨g, r, rfl, htb, hb2⟩
      have HRO : Hid (w2.ownsRow q 3 1 (.slice (some ⟨q, 0, none⟩) (m + 1) (m + 1)) (m + 1) (ivs (restL R m 0))) := Lib.hid (own_below HK.out.1 hb2)
      have hqw : q < wr.heap.size := (HK.out.1.lt q rfl).2
      have hgw := htb.lt
      have hr0 := htb.rlt 0 (by omega)
      obtain ⟨t1, t2⟩ := htb.cells 0 (by omega) (by omega)
      obtain ⟨t3, t4⟩ := t2 (min 2 m) (by omega)
      have c0 := HRO.out.cellAt 0 (by omega)
      rw [ivs_get _ _ (by rw [restL_length]; omega), restL_get _ _ _ _ (by omega), if_pos (Nat.le_refl _)] at c0
      rw [Nat.sub_zero] at c0
      have hB2 : Below q w w2 := HK.out.2.trans (hb2.mono (by omega))
      have chh : Ch w2 (w2.setCell ⟨r 0, min 2 m, none⟩ (.int .i64 (Mg.pre R m))) (fun j => j = r 0) := (Ch.refl w2 (fun j => j = r 0)).set (.inl rfl) _
      have HST : Hid (Tb (w2.setCell ⟨r 0, min 2 m, none⟩ (.int .i64 (Mg.pre R m))) wr.heap.size g r m (m + 1) (Mg.upd (fun _ _ => -1) 0 (min 2 m) (Mg.pre R m)) ∧ (w2.setCell ⟨r 0, min 2 m, none⟩ (.int .i64 (Mg.pre R m))).ownsRow q 3 1 (.slice (some ⟨q, 0, none⟩) (m + 1) (m + 1)) (m + 1) (ivs (restL R m 0)) ∧ Below q w (w2.setCell ⟨r 0, min 2 m, none⟩ (.int .i64 (Mg.pre R m)))) :=
        Lib.hid ⟨htb.set 0 (min 2 m) (by omega) _, chh.own HRO.out (fun j hj e => by cases hj; have e' : q = r 0 := e; omega), hB2.setCell (p := ⟨r 0, min 2 m, none⟩) (show q ≤ r 0 by omega) _⟩
      have emin : (if (m : Int) < 2 then (m : Int) else 2) = ((min 2 m : Nat) : Int) := by split <;> omega
      have HTA : Hid (Mg.Tab m (fun i => Mg.pre R (m - i)) 1 (Mg.upd (fun _ _ => -1) 0 (min 2 m) (Mg.pre R m))) := Lib.hid (Mg.tab_start (m := m) (rest := fun i => Mg.pre R (m - i)) (HP.out _).1)
      have hmm : min 2 m ≤ m := by omega
      clear htb hb2 hB2 chh HRO t2 HK
      generalize hmn : min 2 m = mn at *
      generalize r 0 = rz at t1 t3 t4 HST hr0
      go_wp2
      go_big_region
      have HDS : Hid (DS w (w2.setCell ⟨rz, mn, none⟩ (.int .i64 (Mg.pre R m))).drew q wr.heap.size g r m (Mg.upd (fun _ _ => -1) 0 mn (Mg.pre R m)) R) := Lib.hid (by
        have h1 : DS w (w2.setCell ⟨rz, mn, none⟩ (.int .i64 (Mg.pre R m))) q wr.heap.size g r m (Mg.upd (fun _ _ => -1) 0 mn (Mg.pre R m)) R := ⟨HST.out.1, HST.out.2.1, HST.out.2.2, by simp; omega⟩
        exact h1.mono (drewN_is _ 1))
      clear HST t1 t3 t4 c0
      generalize (w2.setCell ⟨rz, mn, none⟩ (.int .i64 (Mg.pre R m))).drew = w5 at *
      generalize wr.heap.size = B0 at *
      have HBE := Lib.hid (Mg.bst_start (m := m) (rest := fun i => Mg.pre R (m - i)))
      clear emin hmn hr0 hgw
      go_wp2
      go_loopw [8, 9, 10] (fun v b lv wr => ∃ (d B g : Nat) (r : Nat → Nat) (f : Nat → Nat → Int) (bb : Int), 1 ≤ d ∧ d ≤ L + 1 ∧ v = .slice (some ⟨g, 0, none⟩) (m + 1) (m + 1) ∧ b = .int .i64 bb ∧ lv = .int .i64 d ∧ Hid (DS w wr q B g r m f R) ∧ Hid (Mg.Tab m (fun i => Mg.pre R (m - i)) d f) ∧ Hid (Mg.Bst m (fun i => Mg.pre R (m - i)) (d - 1) bb)) (fun _ _ lv _ => L + 1 - (intOf lv).toNat)
      case atStart => exact ⟨1, B0, g, r, _, -1, by omega, by omega, rfl, rfl, rfl, HDS, HTA, HBE⟩
      case round =>
        clear HDS HTA HBE
        obtain ⟨d, B, g, r, f, bb, hd1, hd2, rfl, rfl, rfl, HD, HT, HB⟩ := hrel
        by_cases hdl : d ≤ L
        · go_wp2_with fail
          refine (table_any m (by omega) (-1) wr).mono ?_
          rintro e w6 ⟨g2, r2, rfl, htb, hb6⟩
          have HN : Hid (Tb w6 wr.heap.size g2 r2 m (m + 1) (fun _ _ => -1) ∧ Below wr.heap.size wr w6) := Lib.hid ⟨htb, hb6⟩
          have HLV := Lib.hid (Mg.Lvl.start HT.out HB.out)
          clear htb hb6
          obtain ⟨w0, hw0⟩ : ∃ w0, w0 = wr := ⟨_, rfl⟩
          subst hw0
          generalize hNB : w0.heap.size = NB at *
          have HNB := Lib.hid hNB
          clear hNB HB
          go_wp2
          go_loopw [9, 12] (fun bv iv wx => ∃ (i : Nat) (b : Int) (gf : Nat → Nat → Int), i ≤ m + 1 ∧ iv = .int .i64 i ∧ bv = .int .i64 b ∧ Hid (Tb wx NB g2 r2 m (m + 1) gf ∧ Below NB w0 wx) ∧ Hid (Mg.Lvl m (fun i => Mg.pre R (m - i)) d f gf b (Mg.Dn i 0 0))) (fun _ iv _ => m + 1 - (intOf iv).toNat)
          case atStart => exact ⟨0, bb, _, by omega, rfl, rfl, HN, HLV⟩
          case round =>
            clear HN HLV
            obtain ⟨i, b, gf, hi, rfl, rfl, HI, HLI⟩ := hrel
            by_cases hil : i ≤ m
            · have hiD : decide (i ≤ m) = true := by simpa using hil
              go_wp2
              go_loopw [9, 13] (fun bv nv wx => ∃ (n : Nat) (b : Int) (gf : Nat → Nat → Int), n ≤ m + 1 ∧ nv = .int .i64 n ∧ bv = .int .i64 b ∧ Hid (Tb wx NB g2 r2 m (m + 1) gf ∧ Below NB w0 wx) ∧ Hid (Mg.Lvl m (fun i => Mg.pre R (m - i)) d f gf b (Mg.Dn i n 0))) (fun _ nv _ => m + 1 - (intOf nv).toNat)
              case atStart => exact ⟨0, b, gf, by omega, rfl, rfl, HI, HLI⟩
              case round =>
                clear HI HLI
                obtain ⟨n, b, gf, hn, rfl, rfl, HI, HLI⟩ := hrel
                by_cases hnl : n ≤ m
                · have hD := HD.out.mono (by rw [HNB.out]; exact HI.out.2)
                  obtain ⟨p1, p2⟩ := hD.tb.cells i (by omega) (by omega)
                  obtain ⟨p3, _⟩ := p2 n (by omega)
                  clear p2 hD
                  have HF : Hid (0 ≤ f i n → f i n ≤ 329853488332800 * (d : Int)) := Lib.hid (fun h0 => by
                    rcases HT.out.1 i n hil hnl with e | ⟨_, e⟩
                    · omega
                    · exact (e.cost 329853488332800 (fun i => HP.out _)).2)
                  by_cases hneg : f i n < 0
                  · have HL2 : Hid (Mg.Lvl m (fun i => Mg.pre R (m - i)) d f gf b (Mg.Dn i (n + 1) 0)) := Lib.hid (HLI.out.imp (fun i' n' k' h => by
                      by_cases h1 : Mg.Dn i n 0 i' n' k'
                      · exact .inl h1
                      · right; left
                        have : i' = i ∧ n' = n := by unfold Mg.Dn at h h1; omega
                        obtain ⟨rfl, rfl⟩ := this
                        exact hneg))
                    have dneg : decide (f i n < 0) = true := by simpa using hneg
                    clear HLI hneg HF
                    generalize f i n = cst at *
                    go_wp2
                    go_roundw
                    case rel => exact ⟨n + 1, b, gf, by omega, by go_num, rfl, HI, HL2⟩
                    case measure => simp [intOf]; omega
                  · have dneg : decide (f i n < 0) = false := by simpa using hneg
                    have hc0 : 0 ≤ f i n := by omega
                    have hcb := HF.out hc0
                    obtain ⟨cst, hcst⟩ : ∃ cst, f i n = cst := ⟨_, rfl⟩
                    rw [hcst] at p3 dneg hc0 hcb
                    have HCST := Lib.hid hcst
                    clear hcst hneg HF
                    have hcb2 : cst ≤ 5300000000000000 := by omega
                    clear hcb
                    go_wp2
                    go_loopw [9, 15] (fun bv kv wx => ∃ (k : Nat) (b : Int) (gf : Nat → Nat → Int), k ≤ n + 1 ∧ kv = .int .i64 k ∧ bv = .int .i64 b ∧ Hid (Tb wx NB g2 r2 m (m + 1) gf ∧ Below NB w0 wx) ∧ Hid (Mg.Lvl m (fun i => Mg.pre R (m - i)) d f gf b (Mg.Dn i n k))) (fun _ kv _ => n + 1 - (intOf kv).toNat)
                    case atStart => exact ⟨0, b, gf, by omega, rfl, rfl, HI, HLI⟩
                    case round =>
                      clear HI HLI
                      obtain ⟨k, b, gf, hk, rfl, rfl, HK, HLK⟩ := hrel
                      by_cases hkn : k ≤ n
                      · have dkn : decide (k ≤ n) = true := by simpa using hkn
                        obtain ⟨u, hu⟩ : ∃ u, i + k = u := ⟨_, rfl⟩
                        have e5 : (i : Int) + (k : Int) = (u : Int) := by omega
                        by_cases hum2 : u ≤ m
                        · have dum : decide (u ≤ m) = true := by simpa using hum2
                          by_cases hum3 : u = m
                          · have hum : i + k = m := by omega
                            have deq : ((u : Int) == (m : Int)) = true := by simp; omega
                            by_cases hb0 : b < 0
                            · have db0 : decide (b < 0) = true := by simpa using hb0
                              have HLB : Hid (Mg.Lvl m (fun i => Mg.pre R (m - i)) d f gf (f i n) (Mg.Dn i n (k + 1))) := Lib.hid (HLK.out.best hil hnl hkn hum (by rw [HCST.out]; exact hc0) _ (.inl ⟨rfl, .inl hb0⟩))
                              rw [HCST.out] at HLB
                              clear HLK hb0
                              go_wp2
                              go_roundw
                              case rel => exact ⟨k + 1, cst, gf, by omega, by go_num, rfl, HK, HLB⟩
                              case measure => simp [intOf]; omega
                            · have db0 : decide (b < 0) = false := by simpa using hb0
                              by_cases hcb3 : cst < b
                              · have dcb : decide (cst < b) = true := by simpa using hcb3
                                have HLB : Hid (Mg.Lvl m (fun i => Mg.pre R (m - i)) d f gf (f i n) (Mg.Dn i n (k + 1))) := Lib.hid (HLK.out.best hil hnl hkn hum (by rw [HCST.out]; exact hc0) _ (.inl ⟨rfl, .inr (by rw [HCST.out]; exact hcb3)⟩))
                                rw [HCST.out] at HLB
                                clear HLK hb0 hcb3
                                go_wp2
                                go_roundw
                                case rel => exact ⟨k + 1, cst, gf, by omega, by go_num, rfl, HK, HLB⟩
                                case measure => simp [intOf]; omega
                              · have dcb : decide (cst < b) = false := by simpa using hcb3
                                have HLB : Hid (Mg.Lvl m (fun i => Mg.pre R (m - i)) d f gf b (Mg.Dn i n (k + 1))) := Lib.hid (HLK.out.best hil hnl hkn hum (by rw [HCST.out]; exact hc0) _ (.inr ⟨rfl, by omega, by rw [HCST.out]; omega⟩))
                                clear HLK hb0 hcb3
                                go_wp2
                                go_roundw
                                case rel => exact ⟨k + 1, b, gf, by omega, by go_num, rfl, HK, HLB⟩
                                case measure => simp [intOf]; omega
                          · have hlt : i + k < m := by omega
                            have deq : ((u : Int) == (m : Int)) = false := by simp; omega
                            obtain ⟨p, hp⟩ : ∃ p, n = k + p := ⟨n - k, by omega⟩
                            have e1 : (n : Int) - (k : Int) = (p : Int) := by omega
                            obtain ⟨z, hz⟩ : ∃ z, z = 2 * p := ⟨_, rfl⟩
                            have e2 : (2 : Int) * (p : Int) = (z : Int) := by omega
                            obtain ⟨s, hs⟩ : ∃ s, m = i + s := ⟨m - i, by omega⟩
                            have e3 : (m : Int) - (i : Int) = (s : Int) := by omega
                            obtain ⟨t, ht⟩ : ∃ t, s = k + t := ⟨s - k, by omega⟩
                            have e4 : (s : Int) - (k : Int) = (t : Int) := by omega
                            by_cases htz : t < z
                            · have dtz : decide (t < z) = true := by simpa using htz
                              have hop : Mg.opn m i n k = t := by unfold Mg.opn; omega
                              have htm : t ≤ m := by omega
                              clear hp hz hs ht
                              by_cases ho0 : t = 0
                              · have do0 : ((t : Int) == 0) = true := by simp; omega
                                have HLB : Hid (Mg.Lvl m (fun i => Mg.pre R (m - i)) d f gf b (Mg.Dn i n (k + 1))) := Lib.hid (HLK.out.none hlt (by rw [hop]; exact ho0))
                                clear HLK ho0
                                go_wp2
                                go_roundw
                                case rel => exact ⟨k + 1, b, gf, by omega, by go_num, rfl, HK, HLB⟩
                                case measure => simp [intOf]; omega
                              · have do0 : ((t : Int) == 0) = false := by simp; omega
                                have hom : t ≤ m := by omega
                                have hru := (HD.out.mono (by rw [HNB.out]; exact HK.out.2)).ro
                                have cu := hru.cellAt u (by omega)
                                rw [ivs_get _ _ (by rw [restL_length]; omega), restL_get _ _ _ _ (by omega), if_pos (Nat.zero_le _)] at cu
                                have hx := HP.out (m - u)
                                obtain ⟨n1, n2⟩ := HK.out.1.cells u (by omega) (by omega)
                                obtain ⟨n3, n4⟩ := n2 t (by omega)
                                have hrr := (HK.out.1.rlt u (by omega)).1
                                clear n2 hru
                                have HPUT := fun g' hg' => HLK.out.put (fun i => (HP.out _).1) hil hnl hkn hlt (by rw [HCST.out]; exact hc0) (by rw [hop]; exact ho0) g' hg'
                                rw [hop, HCST.out, hu] at HPUT
                                have HPU := Lib.hid HPUT
                                clear HPUT
                                generalize hxe : Mg.pre R (m - u) = x at cu hx HPU
                                have HXE := Lib.hid hxe
                                clear hxe
                                obtain ⟨gv, hgv⟩ : ∃ gv, gf u t = gv := ⟨_, rfl⟩
                                rw [hgv] at n3 HPU
                                have HGV := Lib.hid hgv
                                clear hgv
                                by_cases hg0 : gv < 0
                                · have dg0 : decide (gv < 0) = true := by simpa using hg0
                                  have HLB : Hid (Mg.Lvl m (fun i => Mg.pre R (m - i)) d f (Mg.upd gf u t (cst + x)) b (Mg.Dn i n (k + 1))) := Lib.hid (HPU.out _ (.inl ⟨rfl, .inl hg0⟩))
                                  have HKB : Hid (Tb (wr.setCell ⟨r2 u, t, none⟩ (.int .i64 (cst + x))) NB g2 r2 m (m + 1) (Mg.upd gf u t (cst + x)) ∧ Below NB w0 (wr.setCell ⟨r2 u, t, none⟩ (.int .i64 (cst + x)))) := Lib.hid ⟨HK.out.1.set u t (by omega) _, HK.out.2.setCell (p := ⟨r2 u, t, none⟩) hrr _⟩
                                  clear HLK HPU hg0 ho0 hop
                                  go_wp2
                                  go_roundw
                                  case rel => exact ⟨k + 1, b, _, by omega, by go_num, rfl, HKB, HLB⟩
                                  case measure => simp [intOf]; omega
                                · have dg0 : decide (gv < 0) = false := by simpa using hg0
                                  by_cases hcl : cst + x < gv
                                  · have dcl : decide (cst + x < gv) = true := by simpa using hcl
                                    have HLB : Hid (Mg.Lvl m (fun i => Mg.pre R (m - i)) d f (Mg.upd gf u t (cst + x)) b (Mg.Dn i n (k + 1))) := Lib.hid (HPU.out _ (.inl ⟨rfl, .inr hcl⟩))
                                    have HKB : Hid (Tb (wr.setCell ⟨r2 u, t, none⟩ (.int .i64 (cst + x))) NB g2 r2 m (m + 1) (Mg.upd gf u t (cst + x)) ∧ Below NB w0 (wr.setCell ⟨r2 u, t, none⟩ (.int .i64 (cst + x)))) := Lib.hid ⟨HK.out.1.set u t (by omega) _, HK.out.2.setCell (p := ⟨r2 u, t, none⟩) hrr _⟩
                                    clear HLK HPU hg0 hcl ho0 hop
                                    go_wp2
                                    go_roundw
                                    case rel => exact ⟨k + 1, b, _, by omega, by go_num, rfl, HKB, HLB⟩
                                    case measure => simp [intOf]; omega
                                  · have dcl : decide (cst + x < gv) = false := by simpa using hcl
                                    have HLB : Hid (Mg.Lvl m (fun i => Mg.pre R (m - i)) d f gf b (Mg.Dn i n (k + 1))) := Lib.hid (HPU.out _ (.inr ⟨rfl, by omega, by omega⟩))
                                    clear HLK HPU hg0 hcl ho0 hop
                                    go_wp2
                                    go_roundw
                                    case rel => exact ⟨k + 1, b, gf, by omega, by go_num, rfl, HK, HLB⟩
                                    case measure => simp [intOf]; omega
                            · have dtz : decide (t < z) = false := by simpa using htz
                              have hop : Mg.opn m i n k = z := by unfold Mg.opn; omega
                              have htm : z ≤ m := by omega
                              clear hp hz hs ht
                              by_cases ho0 : z = 0
                              · have do0 : ((z : Int) == 0) = true := by simp; omega
                                have HLB : Hid (Mg.Lvl m (fun i => Mg.pre R (m - i)) d f gf b (Mg.Dn i n (k + 1))) := Lib.hid (HLK.out.none hlt (by rw [hop]; exact ho0))
                                clear HLK ho0
                                go_wp2
                                go_roundw
                                case rel => exact ⟨k + 1, b, gf, by omega, by go_num, rfl, HK, HLB⟩
                                case measure => simp [intOf]; omega
                              · have do0 : ((z : Int) == 0) = false := by simp; omega
                                have hom : z ≤ m := by omega
                                have hru := (HD.out.mono (by rw [HNB.out]; exact HK.out.2)).ro
                                have cu := hru.cellAt u (by omega)
                                rw [ivs_get _ _ (by rw [restL_length]; omega), restL_get _ _ _ _ (by omega), if_pos (Nat.zero_le _)] at cu
                                have hx := HP.out (m - u)
                                obtain ⟨n1, n2⟩ := HK.out.1.cells u (by omega) (by omega)
                                obtain ⟨n3, n4⟩ := n2 z (by omega)
                                have hrr := (HK.out.1.rlt u (by omega)).1
                                clear n2 hru
                                have HPUT := fun g' hg' => HLK.out.put (fun i => (HP.out _).1) hil hnl hkn hlt (by rw [HCST.out]; exact hc0) (by rw [hop]; exact ho0) g' hg'
                                rw [hop, HCST.out, hu] at HPUT
                                have HPU := Lib.hid HPUT
                                clear HPUT
                                generalize hxe : Mg.pre R (m - u) = x at cu hx HPU
                                have HXE := Lib.hid hxe
                                clear hxe
                                obtain ⟨gv, hgv⟩ : ∃ gv, gf u z = gv := ⟨_, rfl⟩
                                rw [hgv] at n3 HPU
                                have HGV := Lib.hid hgv
                                clear hgv
                                by_cases hg0 : gv < 0
                                · have dg0 : decide (gv < 0) = true := by simpa using hg0
                                  have HLB : Hid (Mg.Lvl m (fun i => Mg.pre R (m - i)) d f (Mg.upd gf u z (cst + x)) b (Mg.Dn i n (k + 1))) := Lib.hid (HPU.out _ (.inl ⟨rfl, .inl hg0⟩))
                                  have HKB : Hid (Tb (wr.setCell ⟨r2 u, z, none⟩ (.int .i64 (cst + x))) NB g2 r2 m (m + 1) (Mg.upd gf u z (cst + x)) ∧ Below NB w0 (wr.setCell ⟨r2 u, z, none⟩ (.int .i64 (cst + x)))) := Lib.hid ⟨HK.out.1.set u z (by omega) _, HK.out.2.setCell (p := ⟨r2 u, z, none⟩) hrr _⟩
                                  clear HLK HPU hg0 ho0 hop
                                  go_wp2
                                  go_roundw
                                  case rel => exact ⟨k + 1, b, _, by omega, by go_num, rfl, HKB, HLB⟩
                                  case measure => simp [intOf]; omega
                                · have dg0 : decide (gv < 0) = false := by simpa using hg0
                                  by_cases hcl : cst + x < gv
                                  · have dcl : decide (cst + x < gv) = true := by simpa using hcl
                                    have HLB : Hid (Mg.Lvl m (fun i => Mg.pre R (m - i)) d f (Mg.upd gf u z (cst + x)) b (Mg.Dn i n (k + 1))) := Lib.hid (HPU.out _ (.inl ⟨rfl, .inr hcl⟩))
                                    have HKB : Hid (Tb (wr.setCell ⟨r2 u, z, none⟩ (.int .i64 (cst + x))) NB g2 r2 m (m + 1) (Mg.upd gf u z (cst + x)) ∧ Below NB w0 (wr.setCell ⟨r2 u, z, none⟩ (.int .i64 (cst + x)))) := Lib.hid ⟨HK.out.1.set u z (by omega) _, HK.out.2.setCell (p := ⟨r2 u, z, none⟩) hrr _⟩
                                    clear HLK HPU hg0 hcl ho0 hop
                                    go_wp2
                                    go_roundw
                                    case rel => exact ⟨k + 1, b, _, by omega, by go_num, rfl, HKB, HLB⟩
                                    case measure => simp [intOf]; omega
                                  · have dcl : decide (cst + x < gv) = false := by simpa using hcl
                                    have HLB : Hid (Mg.Lvl m (fun i => Mg.pre R (m - i)) d f gf b (Mg.Dn i n (k + 1))) := Lib.hid (HPU.out _ (.inr ⟨rfl, by omega, by omega⟩))
                                    clear HLK HPU hg0 hcl ho0 hop
                                    go_wp2
                                    go_roundw
                                    case rel => exact ⟨k + 1, b, gf, by omega, by go_num, rfl, HK, HLB⟩
                                    case measure => simp [intOf]; omega
                        · have dum : decide (u ≤ m) = false := by simpa using hum2
                          have HLN : Hid (Mg.Lvl m (fun i => Mg.pre R (m - i)) d f gf b (Mg.Dn i (n + 1) 0)) := Lib.hid (HLK.out.imp (fun i' n' k' h => by
                            by_cases h1 : Mg.Dn i n k i' n' k'
                            · exact .inl h1
                            · right; right
                              have : i' = i ∧ n' = n ∧ k ≤ k' := by unfold Mg.Dn at h h1; omega
                              omega))
                          go_wp2
                          go_roundw
                          case rel => exact ⟨n + 1, b, gf, by omega, by go_num, rfl, HK, HLN⟩
                          case measure => simp [intOf]; omega
                      · have dkn : decide (k ≤ n) = false := by simpa using hkn
                        have HLN : Hid (Mg.Lvl m (fun i => Mg.pre R (m - i)) d f gf b (Mg.Dn i (n + 1) 0)) := Lib.hid (HLK.out.imp (fun i' n' k' h => by
                          by_cases h1 : Mg.Dn i n k i' n' k'
                          · exact .inl h1
                          · right; right
                            have : i' = i ∧ n' = n ∧ k ≤ k' := by unfold Mg.Dn at h h1; omega
                            omega))
                        go_wp2
                        go_roundw
                        case rel => exact ⟨n + 1, b, gf, by omega, by go_num, rfl, HK, HLN⟩
                        case measure => simp [intOf]; omega
                · obtain rfl : n = m + 1 := by omega
                  have HLN : Hid (Mg.Lvl m (fun i => Mg.pre R (m - i)) d f gf b (Mg.Dn (i + 1) 0 0)) := Lib.hid (HLI.out.imp (fun i' n' k' h => by
                    by_cases h1 : Mg.Dn i (m + 1) 0 i' n' k'
                    · exact .inl h1
                    · right; right
                      unfold Mg.Dn at h h1; omega))
                  have dnl : decide (m + 1 ≤ m) = false := by simp
                  go_wp2
                  go_roundw
                  case rel => exact ⟨i + 1, b, gf, by omega, by go_num, rfl, HI, HLN⟩
                  case measure => simp [intOf]; omega
            · obtain rfl : i = m + 1 := by omega
              have HDN := Lib.hid (HLI.out.done hd1)
              have HD2 : Hid (DS w wr q NB g2 r2 m gf R) := Lib.hid (by
                have h1 := HD.out.mono (by rw [HNB.out]; exact HI.out.2)
                exact ⟨HI.out.1, h1.ro, h1.bel, h1.le⟩)
              have dil : decide (m + 1 ≤ m) = false := by simp
              go_wp2
              go_roundw
              case rel => exact ⟨d + 1, NB, g2, r2, gf, b, by omega, by omega, rfl, rfl, by go_num, HD2, Lib.hid HDN.out.1, by simpa using Lib.hid HDN.out.2⟩
              case measure => simp [intOf]; omega
        · obtain rfl : d = L + 1 := by omega
          have ddl : decide (((L + 1 : Nat) : Int) ≤ (L : Int)) = false := by simp; omega
          have HE : Hid (Mg.Bst m (fun i => Mg.pre R (m - i)) L bb ∧ Below q w wr) := Lib.hid ⟨by have := HB.out; rwa [Nat.add_sub_cancel] at this, HD.out.bel⟩
          clear HB HD HT
          go_wp2
          go_ret
          exact ⟨bb, rfl, by rw [HQ.out]; exact HE.out.2, fun h => absurd h hm0, fun _ => HE.out.1⟩
end Go.Proofs.YtjjbgdmalefdlaaGreatDoor
end
