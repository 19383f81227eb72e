/- The document's tables in memory; burnishref05.table: its contract. -/
import Derived.Test.YtcagdnajapcmkaaLeastMem
import Derived.Test.YtcagdnajapcmkaaDpStep
namespace Go.Proofs.Ytcagdnajapcmkaa
open Go.RowKit

theorem tyII : RowTy Try.prog 74 22 (.slice none 0 0) 1 24 := ⟨Try.underlying74, by kernel_rfl, rfl, by omega⟩
def rowV (r : Nat → Nat) (m i : Nat) : Value := .slice (some ⟨r i, 0, none⟩) (m + 2) (m + 2)
def rowL (f : Nat → Nat → Int) (m i : Nat) : List Int := (List.range (m + 2)).map (f i)
theorem rowL_length (f : Nat → Nat → Int) (m i : Nat) : (rowL f m i).length = m + 2 := by simp [rowL]
theorem rowL_getD (f : Nat → Nat → Int) (m i n : Nat) (h : n < m + 2) : (rowL f m i).getD n 0 = f i n := by simp [rowL, List.getD, List.getElem?_range h]
theorem rowL_congr {f f' : Nat → Nat → Int} {m i : Nat} (h : ∀ b, b < m + 2 → f i b = f' i b) : rowL f m i = rowL f' m i := List.map_congr_left (fun b hb => h b (List.mem_range.1 hb))
theorem rowL_set (f : Nat → Nat → Int) (m i n : Nat) (c : Int) : (rowL f m i).set n c = rowL (Mg.upd f i n c) m i := by
  apply List.ext_getElem?
  intro j
  rw [List.getElem?_set, rowL_length]
  by_cases hj : j < m + 2
  · have e : ∀ f : Nat → Nat → Int, (rowL f m i)[j]? = some (f i j) := fun f => by simp [rowL, List.getElem?_range hj]
    rw [e, e]
    by_cases h : n = j
    · subst h; rw [if_pos rfl, if_pos hj]; simp [Mg.upd]
    · rw [if_neg h]
      have e2 : Mg.upd f i n c i j = f i j := if_neg (fun h2 => h h2.2.symm)
      rw [e2]
  · have e : ∀ f : Nat → Nat → Int, (rowL f m i)[j]? = none := fun f => by rw [List.getElem?_eq_none]; rw [rowL_length]; omega
    rw [e, e]
    split
    · rename_i h; subst h; rw [if_neg hj]
    · rfl
def putR {α : Type} (r : Nat → α) (k : Nat) (q : α) : Nat → α := fun i => if i = k then q else r i
theorem putR_same {α : Type} (r : Nat → α) (k : Nat) (q : α) : putR r k q k = q := if_pos rfl
theorem putR_ne {α : Type} (r : Nat → α) {k i : Nat} (q : α) (h : i ≠ k) : putR r k q i = r i := if_neg h
/-- k rows of a table are laid. -/
structure Tb (w : World) (B g : Nat) (r : Nat → Nat) (m k : Nat) (f : Nat → Nat → Int) : Prop where
  out : w.ownsRow B 22 1 (.slice (some ⟨g, 0, none⟩) (m + 1) (m + 1)) (m + 1) (rvs (rowV r m) (m + 1) k)
  row : ∀ i, i < k → w.ownsRow B 3 1 (rowV r m i) (m + 2) (ivs (rowL f m i))
  dj : ∀ i j, i < k → j < k → i ≠ j → r i ≠ r j
  ne : ∀ i, i < k → r i ≠ g
section
variable {w w' : World} {B g : Nat} {r : Nat → Nat} {m k : Nat} {f : Nat → Nat → Int}
theorem Tb.kept {T : Nat → Prop} (h : Tb w B g r m k f) (c : Ch w w' T) (h1 : ¬ T g) (h2 : ∀ i, i < k → ¬ T (r i)) : Tb w' B g r m k f :=
  ⟨c.own h.out (fun j hj e => by cases hj; exact h1 e), fun i hi => c.own (h.row i hi) (fun j hj e => by cases hj; exact h2 i hi e), h.dj, h.ne⟩
theorem Tb.mono (h : Tb w B g r m k f) (hb : Below w.heap.size w w') : Tb w' B g r m k f := h.kept (Ch.of_below (T := fun _ => False) hb) (fun h => h) (fun _ _ h => h)
theorem Tb.congr (h : Tb w B g r m k f) {f' : Nat → Nat → Int} (hf : ∀ i b, i < k → b < m + 2 → f i b = f' i b) : Tb w B g r m k f' :=
  ⟨h.out, fun i hi => by rw [← rowL_congr (fun b hb => hf i b hi hb)]; exact h.row i hi, h.dj, h.ne⟩
theorem Tb.lt (h : Tb w B g r m k f) : B ≤ g ∧ g < w.heap.size := h.out.lt g rfl
theorem Tb.rlt (h : Tb w B g r m k f) (i : Nat) (hi : i < k) : B ≤ r i ∧ r i < w.heap.size := (h.row i hi).lt (r i) rfl
theorem Tb.set (h : Tb w B g r m k f) (i n : Nat) (hi : i < k) (c : Int) : Tb (w.setCell ⟨r i, n, none⟩ (.int .i64 c)) B g r m k (Mg.upd f i n c) := by
  have ch : Ch w (w.setCell ⟨r i, n, none⟩ (.int .i64 c)) (fun j => j = r i) := (Ch.refl w (fun j => j = r i)).set (.inl rfl) _
  refine ⟨ch.own h.out (fun j hj e => by cases hj; exact h.ne i hi e.symm), fun a ha => ?_, h.dj, h.ne⟩
  by_cases e : a = i
  · subst e
    rw [← rowL_set, ← ivs_set]
    exact ((h.row a ha).stored n _).1
  · have e2 : rowL (Mg.upd f i n c) m a = rowL f m a := rowL_congr (fun b _ => by unfold Mg.upd; rw [if_neg (fun h => e h.1)])
    rw [e2]
    exact ch.own (h.row a ha) (fun j hj e3 => by cases hj; exact h.dj a i ha hi e e3)
theorem Tb.put (h : Tb w B g r m k f) (hk : k < m + 1) {q : Nat} (hb : Below w.heap.size w w') {l : Nat → Int} (hq : w'.ownsRow w.heap.size 3 1 (.slice (some ⟨q, 0, none⟩) (m + 2) (m + 2)) (m + 2) (ivs ((List.range (m + 2)).map l))) (hB : B ≤ w.heap.size) :
    Tb (w'.setCell ⟨g, k, none⟩ (.slice (some ⟨q, 0, none⟩) (m + 2) (m + 2))) B g (putR r k q) m (k + 1) (putR f k l) := by
  have h2 := h.mono hb
  have hgl := h.lt
  have hql := hq.lt q rfl
  have ch : Ch w' (w'.setCell ⟨g, k, none⟩ (.slice (some ⟨q, 0, none⟩) (m + 2) (m + 2))) (fun j => j = g) := (Ch.refl w' (fun j => j = g)).set (.inl rfl) _
  have er : rowV (putR r k q) m k = .slice (some ⟨q, 0, none⟩) (m + 2) (m + 2) := by unfold rowV; rw [putR_same]
  have eo : ∀ i, i ≠ k → rowV (putR r k q) m i = rowV r m i := fun i hi => by unfold rowV; rw [putR_ne r q hi]
  refine ⟨?_, fun i hi => ?_, fun i j hi hj hij => ?_, fun i hi => ?_⟩
  · have h3 := (h2.out.stored k (.slice (some ⟨q, 0, none⟩) (m + 2) (m + 2))).1
    rw [rvs_set _ _ _ _ hk] at h3
    have e : rvs (rowV (putR r k q) m) (m + 1) (k + 1) = rvs (fun i => if i = k then .slice (some ⟨q, 0, none⟩) (m + 2) (m + 2) else rowV r m i) (m + 1) (k + 1) := by
      have hfun : rowV (putR r k q) m = fun i => if i = k then .slice (some ⟨q, 0, none⟩) (m + 2) (m + 2) else rowV r m i := by
        funext i
        by_cases e : i = k
        · subst e; rw [er]; simp
        · rw [eo i e]; simp [e]
      rw [hfun]
    rw [e]
    exact h3
  · by_cases e : i = k
    · subst e
      rw [er]
      have e2 : rowL (putR f i l) m i = (List.range (m + 2)).map l := by unfold rowL; rw [putR_same]
      rw [e2]
      exact ch.own (own_base hq (fun j hj => Nat.le_trans hB (hq.lt j hj).1)) (fun j hj e => by cases hj; have e' : q = g := e; omega)
    · rw [eo i e]
      have e2 : rowL (putR f k l) m i = rowL f m i := by unfold rowL; rw [putR_ne f l e]
      rw [e2]
      exact ch.own (h2.row i (by omega)) (fun j hj e => by cases hj; exact h.ne i (by omega) e)
  · have r1 : ∀ a, a < k → r a < w.heap.size := fun a ha => (h.rlt a ha).2
    by_cases e1 : i = k
    · subst e1
      rw [putR_same, putR_ne r q (fun e => hij e.symm)]
      have := r1 j (by omega); omega
    · by_cases e2 : j = k
      · subst e2
        rw [putR_same, putR_ne r q hij]
        have := r1 i (by omega); omega
      · rw [putR_ne r q e1, putR_ne r q e2]; exact h.dj i j (by omega) (by omega) hij
  · by_cases e : i = k
    · subst e; rw [putR_same]; omega
    · rw [putR_ne r q e]; exact h.ne i (by omega)
theorem Tb.cells (h : Tb w B g r m k f) (i : Nat) (hi : i < k) (hk : k ≤ m + 1) : w.cell? ⟨g, i, none⟩ = some (.slice (some ⟨r i, 0, none⟩) (m + 2) (m + 2)) ∧ ∀ n, n < m + 2 → w.cell? ⟨r i, n, none⟩ = some (.int .i64 (f i n)) ∧ w.frozen? ⟨r i, n, none⟩ = false := by
  refine ⟨?_, fun n hn => ⟨?_, ?_⟩⟩
  · rw [h.out.cellAt i (by omega), rvs_get _ _ _ _ (by omega), if_pos hi]; rfl
  · have h1 := h.row i hi
    unfold rowV at h1
    rw [h1.cellAt n (by omega), ivs_get _ _ (by rw [rowL_length]; exact hn), rowL_getD f m i n hn]
  · have h1 := h.row i hi
    unfold rowV at h1
    exact (own_slot h1 n hn).2
end
def TbPost (w : World) (m : Nat) (z : Int) (e : Ending) (w' : World) : Prop :=
  ∃ g r, e = .returned (.slice (some ⟨g, 0, none⟩) (m + 1) (m + 1)) ∧ Tb w' w.heap.size g r m (m + 1) (fun _ _ => z) ∧ Below w.heap.size w w'
def tbF (z : Int) (i k : Nat) : Nat → Nat → Int := fun a b => if a < i then z else if b < k then z else 0
theorem tbF_set (z : Int) (i k : Nat) (a b : Nat) (h : a < i + 1) : Mg.upd (tbF z i k) i k z a b = tbF z i (k + 1) a b := by
  unfold Mg.upd tbF
  by_cases e : a = i ∧ b = k
  · rw [if_pos e]
    by_cases h1 : a < i
    · rw [if_pos h1]
    · rw [if_neg h1, if_pos (by omega)]
  · rw [if_neg e]
    by_cases h1 : a < i
    · rw [if_pos h1, if_pos h1]
    · rw [if_neg h1, if_neg h1]
      by_cases h2 : b < k
      · rw [if_pos h2, if_pos (by omega)]
      · rw [if_neg h2, if_neg (by omega)]
set_option maxHeartbeats 4000000 in
set_option maxRecDepth 100000 in
theorem table_any (m : Nat) (hm : m ≤ 1000) (z : Int) (w : World) : Calls Try.prog 36 #[.int .i64 (m : Nat), .int .i64 z] w (TbPost w m z) := by
  go_enter Try.func36, Try.ntmps36
  go_wp2_with (at_make; refine wpl_make_full tyII rfl _ _ rfl w.heap.size .i64 .i64 _ _ (m + 1) rfl rfl (by omega) (by omega) (by omega) (by omega) (Nat.le_refl _) ?_)
  intro w1 own1 hg1
  have hb1 : Below w.heap.size w w1 := (Below.refl _ _).grown hg1 (Nat.le_refl _) (by simp)
  have HT : Hid (Tb w1 w.heap.size w.heap.size (fun _ => 0) m 0 (fun _ _ => z) ∧ Below w.heap.size w w1) := Lib.hid ⟨⟨by rw [← made_rvs, Nat.mul_one]; exact own1, fun i hi => by omega, fun i j hi => by omega, fun i hi => by omega⟩, hb1⟩
  clear own1 hg1 hb1
  generalize hg : w.heap.size = g at HT ⊢
  have HG := Lib.hid hg
  clear hg
  go_wp2
  go_loopw [13] (fun i wr => ∃ (k : Nat) (r : Nat → Nat), k ≤ m + 1 ∧ i = .int .i64 k ∧ Hid (Tb wr g g r m k (fun _ _ => z) ∧ Below g w wr)) (fun i _ => m + 1 - (intOf i).toNat)
  case atStart => exact ⟨0, _, by omega, rfl, HT⟩
  case round =>
    obtain ⟨k, r, hk, rfl, HK⟩ := hrel
    have hzw : g ≤ wr.heap.size := by have := HK.out.2.size; have := HG.out; omega
    by_cases hlt : k < m + 1
    · go_wp2_with (at_make; refine wpl_make_full tyI rfl _ _ rfl wr.heap.size .i64 .i64 _ _ (m + 2) rfl rfl (by omega) (by omega) (by omega) (by omega) (Nat.le_refl _) ?_)
      intro w2 own2 hg2
      have hb2 : Below wr.heap.size wr w2 := (Below.refl _ _).grown hg2 (Nat.le_refl _) (by simp)
      have own3 : w2.ownsRow wr.heap.size 3 1 (.slice (some ⟨wr.heap.size, 0, none⟩) (m + 2) (m + 2)) (m + 2) (ivs ((List.range (m + 2)).map fun _ => 0)) := by
        have e := made_ints1 (m + 2)
        have e2 : (List.range (m + 2)).map (fun _ => (0 : Int)) = List.replicate (m + 2) 0 := by rw [List.eq_replicate_iff]; exact ⟨by simp, fun b hb => by simp only [List.mem_map] at hb; obtain ⟨_, _, rfl⟩ := hb; rfl⟩
        rw [Nat.mul_one] at e
        rw [e2, ← e]; exact own2
      have hT3 := HK.out.1.put hlt hb2 own3 hzw
      have HT3 : Hid (Tb (w2.setCell ⟨g, k, none⟩ (.slice (some ⟨wr.heap.size, 0, none⟩) (m + 2) (m + 2))) g g (putR r k wr.heap.size) m (k + 1) (tbF z k 0) ∧ Below g w (w2.setCell ⟨g, k, none⟩ (.slice (some ⟨wr.heap.size, 0, none⟩) (m + 2) (m + 2)))) := Lib.hid ⟨hT3.congr (fun i b hi hb => by
          unfold tbF
          by_cases e : i = k
          · subst e; rw [putR_same, if_neg (by omega), if_neg (by omega)]
          · rw [putR_ne _ _ e, if_pos (by omega)]), (HK.out.2.trans (hb2.mono hzw)).setCell (p := ⟨g, k, none⟩) (Nat.le_refl _) _⟩
      obtain ⟨⟨z0, g0⟩, f0⟩ := own_slot (HK.out.1.mono hb2).out k hlt
      clear own2 own3 hg2 hb2 hT3 HK
      generalize wr.heap.size = q at *
      generalize putR r k q = r2 at *
      have hcg := (HT3.out.1.cells k (by omega) (by omega)).1
      go_wp2
      generalize w2.setCell ⟨g, k, none⟩ (.slice (some ⟨q, 0, none⟩) (m + 2) (m + 2)) = w3 at *
      clear g0 f0 hcg
      go_loopw [27] (fun i wr => ∃ b : Nat, b ≤ m + 2 ∧ i = .int .i64 b ∧ Hid (Tb wr g g r2 m (k + 1) (tbF z k b) ∧ Below g w wr)) (fun i _ => m + 2 - (intOf i).toNat)
      case atStart => exact ⟨0, by omega, rfl, HT3⟩
      case round =>
        obtain ⟨b, hb, rfl, HB⟩ := hrel
        obtain ⟨q1, q2⟩ := HB.out.1.cells k (by omega) (by omega)
        by_cases hlb : b < m + 2
        · obtain ⟨q3, q4⟩ := q2 b hlb
          have HN : Hid (Tb (wr.setCell ⟨r2 k, b, none⟩ (.int .i64 z)) g g r2 m (k + 1) (tbF z k (b + 1)) ∧ Below g w (wr.setCell ⟨r2 k, b, none⟩ (.int .i64 z))) := Lib.hid
            ⟨(HB.out.1.set k b (by omega) z).congr (fun i c hi _ => tbF_set z k b i c hi), HB.out.2.setCell (p := ⟨r2 k, b, none⟩) (HB.out.1.rlt k (by omega)).1 _⟩
          clear q2 HB
          generalize r2 k = rk at *
          go_wp2
          go_roundw
          case rel => exact ⟨b + 1, by omega, by go_num, HN⟩
          case measure => simp [intOf]; omega
        · obtain rfl : b = m + 2 := by omega
          have HN : Hid (Tb wr g g r2 m (k + 1) (fun _ _ => z) ∧ Below g w wr) := Lib.hid ⟨HB.out.1.congr (fun i c hi hc => by
            unfold tbF
            by_cases h : i < k
            · rw [if_pos h]
            · rw [if_neg h, if_pos hc]), HB.out.2⟩
          clear q2 q1 HB
          go_wp2
          go_roundw
          case rel => exact ⟨k + 1, r2, by omega, by go_num, HN⟩
          case measure => simp [intOf]; omega
    · obtain rfl : k = m + 1 := by omega
      go_wp2
      go_ret
      exact ⟨g, r, rfl, by rw [HG.out]; exact HK.out.1, by rw [HG.out]; exact HK.out.2⟩
end Go.Proofs.Ytcagdnajapcmkaa
