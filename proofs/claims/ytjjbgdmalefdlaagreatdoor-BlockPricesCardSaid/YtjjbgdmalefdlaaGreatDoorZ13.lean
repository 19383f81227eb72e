/- Small words on slices of numbers. Runs of lengths, and what they come to. Runs that stand for so many of one length. Which runs a stretch is laid in. The runs of lengths. What the runs of lengths stand for. -/
import Derived.Test.YtjjbgdmalefdlaaGreatDoorZ8
set_option linter.unusedSimpArgs false
set_option linter.unusedVariables false
section
namespace Go.Proofs.YtjjbgdmalefdlaaGreatDoor
open Go.RowKit

theorem Is.getW {k : IntKind} {w : World} {a : Option Addr} {len cap : Nat} {l : List Int} (h : Is k w a len cap l) (i : Nat) (hi : i < len) : (Lit.int k (l.getD i 0)).wf = true := by
  have hil : i < l.length := by rw [h.hlen]; exact hi
  exact h.wf _ (by simp [List.getD, List.getElem?_eq_getElem hil])
theorem ints_snoc (l : List Int) (k : Nat) (h : k < l.length) : l.take (k + 1) = l.take k ++ [l.getD k 0] := by
  rw [List.take_succ_eq_append_getElem h]; simp [List.getD, List.getElem?_eq_getElem h]
theorem own_set {w : World} {base n cap g : Nat} {l : List Int} (h : w.ownsRow base 3 1 (.slice (some ⟨g, 0, none⟩) n cap) n (ivs l)) (j : Nat) (z : Int) :
    (w.setCell ⟨g, j, none⟩ (.int .i64 z)).ownsRow base 3 1 (.slice (some ⟨g, 0, none⟩) n cap) n (ivs (l.set j z)) := by
  rw [← ivs_set]; exact (h.stored j _).1
end Go.Proofs.YtjjbgdmalefdlaaGreatDoor
end

section
namespace Go.Proofs.YtjjbgdmalefdlaaGreatDoor
open Go.RowKit

namespace Bl
def base (y : Int) : Nat := if y = 16 then 3 else if y = 17 then 3 else if y = 18 then 11 else 1
def bits (y : Int) : Nat := if y = 16 then 2 else if y = 17 then 3 else if y = 18 then 7 else 0
def top (y : Int) : Int := if y = 16 then 3 else if y = 17 then 7 else if y = 18 then 127 else 0
/-- A run in form. -/
def ok (r : Int × Int) : Bool := decide (0 ≤ r.1 ∧ r.1 ≤ 18 ∧ 0 ≤ r.2 ∧ r.2 ≤ top r.1)
/-- The length that a run repeats. -/
def val (out : List Int) (y : Int) : Int := if y = 16 then out.getD (out.length - 1) 0 else if y < 16 then y else 0
def stp (out : List Int) (r : Int × Int) : Option (List Int) :=
  if ok r = true ∧ (r.1 = 16 → out.length ≠ 0) then some (out ++ List.replicate (base r.1 + r.2.toNat) (val out r.1)) else none
/-- The lengths of the first k runs. -/
def unr (f : Nat → Int × Int) : Nat → Option (List Int)
  | 0 => some []
  | k + 1 => (unr f k).bind fun o => stp o (f k)
theorem unr_next {f : Nat → Int × Int} {k : Nat} {o : List Int} (h : unr f k = some o) : unr f (k + 1) = stp o (f k) := by rw [unr, h]; rfl
theorem unr_stuck {f : Nat → Int × Int} {k : Nat} (h : unr f k = none) : ∀ n, k ≤ n → unr f n = none
  | 0, hn => by obtain rfl : k = 0 := by omega
                exact h
  | n + 1, hn => by
    by_cases e : k = n + 1
    · rw [← e]; exact h
    · rw [unr, unr_stuck h n (by omega)]; rfl
theorem unr_no {f : Nat → Int × Int} {k n : Nat} {o : List Int} (h : unr f k = some o) (h2 : stp o (f k) = none) (hk : k < n) : unr f n = none :=
  unr_stuck (by rw [unr_next h]; exact h2) n (by omega)
theorem stp_no {o : List Int} {y x : Int} (h : ¬ (0 ≤ y ∧ y ≤ 18 ∧ 0 ≤ x ∧ x ≤ top y)) : stp o (y, x) = none := by
  unfold stp ok
  rw [if_neg]
  rintro ⟨h1, _⟩
  exact h (of_decide_eq_true h1)
theorem stp_yes {o : List Int} {y x : Int} (h : 0 ≤ y ∧ y ≤ 18 ∧ 0 ≤ x ∧ x ≤ top y) (h2 : y = 16 → o.length ≠ 0) : stp o (y, x) = some (o ++ List.replicate (base y + x.toNat) (val o y)) := by
  unfold stp ok
  rw [if_pos ⟨decide_eq_true h, h2⟩]
theorem stp_inv {o p : List Int} {y x : Int} (h : stp o (y, x) = some p) : (0 ≤ y ∧ y ≤ 18 ∧ 0 ≤ x ∧ x ≤ top y) ∧ (y = 16 → o.length ≠ 0) ∧ p = o ++ List.replicate (base y + x.toNat) (val o y) := by
  unfold stp ok at h
  split at h
  · rename_i h1
    exact ⟨of_decide_eq_true h1.1, h1.2, (Option.some.inj h).symm⟩
  · simp at h
theorem top_le (y : Int) : top y ≤ 127 := by unfold top; split; omega; split; omega; split <;> omega
theorem base_le (y : Int) : base y ≤ 11 := by unfold base; split; omega; split; omega; split <;> omega
theorem base_ge (y : Int) : 1 ≤ base y := by unfold base; split; omega; split; omega; split <;> omega
/-- Every length is one. -/
def In (o : List Int) : Prop := ∀ x ∈ o, 0 ≤ x ∧ x ≤ 15
theorem In.wf {o : List Int} (h : In o) : Wf o := by
  intro x hx
  have := h x hx
  simp only [Lit.wf, IntKind.min, IntKind.max, IntKind.signed, IntKind.bits, Bool.and_eq_true, decide_eq_true_eq, if_true]
  simp
  omega
theorem In.get {o : List Int} (h : In o) (i : Nat) : 0 ≤ o.getD i 0 ∧ o.getD i 0 ≤ 15 := by
  by_cases hi : i < o.length
  · exact h _ (by simp [List.getD, List.getElem?_eq_getElem hi])
  · simp [List.getD, List.getElem?_eq_none (Nat.le_of_not_lt hi)]
theorem val_in {o : List Int} (h : In o) {y : Int} (h0 : 0 ≤ y) (h8 : y ≤ 18) : 0 ≤ val o y ∧ val o y ≤ 15 := by
  unfold val
  split
  · exact h.get _
  · split <;> omega
theorem unr_in {f : Nat → Int × Int} : ∀ {k : Nat} {o : List Int}, unr f k = some o → In o ∧ o.length ≤ 138 * k
  | 0, o, h => by simp only [unr, Option.some.injEq] at h; subst h; exact ⟨fun x hx => by simp at hx, by simp⟩
  | k + 1, o, h => by
    cases h1 : unr f k with
    | none => rw [unr, h1] at h; simp at h
    | some p =>
      rw [unr_next h1] at h
      obtain ⟨i1, i2⟩ := unr_in h1
      obtain ⟨h3, _, rfl⟩ := stp_inv (y := (f k).1) (x := (f k).2) h
      have := top_le (f k).1
      have := base_le (f k).1
      refine ⟨fun z hz => ?_, by simp; omega⟩
      rcases List.mem_append.1 hz with h | h
      · exact i1 z h
      · rw [List.mem_replicate] at h
        rw [h.2]
        exact val_in i1 h3.1 h3.2.1
theorem rep_next (o : List Int) (v : Int) (j : Nat) : o ++ List.replicate (j + 1) v = (o ++ List.replicate j v) ++ [v] := by
  rw [List.replicate_succ', ← List.append_assoc]
end Bl
end Go.Proofs.YtjjbgdmalefdlaaGreatDoor
end

section
namespace Go.Proofs.YtjjbgdmalefdlaaGreatDoor
open Go.RowKit

namespace Bl
/-- What runs come to, behind what there is. -/
def unrL : List Int → List (Int × Int) → Option (List Int)
  | o, [] => some o
  | o, r :: rs => (stp o r).bind fun p => unrL p rs
theorem unrL_append : ∀ (rs ss : List (Int × Int)) (o : List Int), unrL o (rs ++ ss) = (unrL o rs).bind fun p => unrL p ss
  | [], ss, o => rfl
  | r :: rs, ss, o => by
    rw [List.cons_append, unrL, unrL]
    cases h : stp o r with
    | none => rfl
    | some p => exact unrL_append rs ss p
theorem unrL_one (o : List Int) (r : Int × Int) : unrL o [r] = stp o r := by
  rw [unrL]
  cases stp o r <;> rfl
/-- The first k by their numbers, and as a list. -/
theorem unr_list (f : Nat → Int × Int) : ∀ k, unr f k = unrL [] ((List.range k).map f)
  | 0 => rfl
  | k + 1 => by
    rw [unr, unr_list f k, List.range_succ, List.map_append, unrL_append]
    congr 1
    funext p
    rw [List.map_cons, List.map_nil, unrL_one]
theorem unr_getD (rs : List (Int × Int)) : unr (fun k => rs.getD k (0, 0)) rs.length = unrL [] rs := by
  rw [unr_list]
  congr 1
  apply List.ext_getElem
  · simp
  · intro i h1 h2
    simp [List.getD, List.getElem?_eq_getElem h2]
def Rg (rs : List (Int × Int)) : Prop := ∀ t ∈ rs, 0 ≤ t.1 ∧ t.1 ≤ 18 ∧ 0 ≤ t.2 ∧ t.2 ≤ 127
theorem Rg.append {rs ss : List (Int × Int)} (h : Rg rs) (h2 : Rg ss) : Rg (rs ++ ss) := fun t ht => (List.mem_append.1 ht).elim (h t) (h2 t)
theorem Rg.one {y x : Int} (h : 0 ≤ y ∧ y ≤ 18 ∧ 0 ≤ x ∧ x ≤ 127) : Rg [(y, x)] := fun t ht => by
  simp only [List.mem_singleton] at ht
  subst ht; exact h
/-- Runs that stand for d times y, wherever they stand; no more of them than d. -/
structure Got (y : Int) (d : Nat) (rs : List (Int × Int)) : Prop where
  un : ∀ o, unrL o rs = some (o ++ List.replicate d y)
  le : rs.length ≤ d
  rg : Rg rs
theorem Got.nil (y : Int) : Got y 0 [] := ⟨fun o => by simp [unrL], Nat.le_refl _, fun t ht => by simp at ht⟩
theorem Got.more {y : Int} {d e : Nat} {rs : List (Int × Int)} {r : Int × Int} (h : Got y d rs) (he : 1 ≤ e) (hs : ∀ o : List Int, stp (o ++ List.replicate d y) r = some ((o ++ List.replicate d y) ++ List.replicate e y)) (hr : Rg [r]) : Got y (d + e) (rs ++ [r]) :=
  ⟨fun o => by rw [unrL_append, h.un o]; show unrL _ [r] = _; rw [unrL_one, hs, List.append_assoc, List.replicate_append_replicate],
   by have := h.le; simp; omega, h.rg.append hr⟩
theorem Got.lit {y : Int} {d : Nat} {rs : List (Int × Int)} (h : Got y d rs) (h0 : 0 ≤ y) (h15 : y ≤ 15) : Got y (d + 1) (rs ++ [(y, 0)]) := by
  have e6 : ¬ y = 16 := by omega
  have e7 : ¬ y = 17 := by omega
  have e8 : ¬ y = 18 := by omega
  refine h.more (Nat.le_refl _) (fun o => ?_) (Rg.one (by omega))
  rw [stp_yes ⟨h0, by omega, by omega, by unfold top; rw [if_neg e6, if_neg e7, if_neg e8]; omega⟩ (fun e => absurd e e6)]
  unfold base val
  rw [if_neg e6, if_neg e7, if_neg e8, if_neg e6, if_pos (by omega)]
  rfl
theorem Got.zeros {s : Int} {d z : Nat} {rs : List (Int × Int)} (h : Got 0 d rs) (hs : s = 17 ∨ s = 18) (hz : (z : Int) ≤ top s) : Got 0 (d + (base s + z)) (rs ++ [(s, (z : Int))]) := by
  have hb := base_ge s
  refine h.more (by omega) (fun o => ?_) (Rg.one ⟨by omega, by omega, by omega, by have := top_le s; omega⟩)
  rw [stp_yes ⟨by omega, by omega, by omega, hz⟩ (fun e => by omega)]
  unfold val
  rw [if_neg (by omega), if_neg (by omega)]
  rfl
theorem Got.again {y : Int} {d z : Nat} {rs : List (Int × Int)} (h : Got y d rs) (hd : 1 ≤ d) (hz : (z : Int) ≤ 3) : Got y (d + (3 + z)) (rs ++ [(16, (z : Int))]) := by
  refine h.more (by omega) (fun o => ?_) (Rg.one ⟨by omega, by omega, by omega, by omega⟩)
  rw [stp_yes ⟨by omega, by omega, by omega, by simpa [top] using hz⟩ (fun _ => by rw [List.length_append, List.length_replicate]; omega)]
  obtain ⟨e, rfl⟩ : ∃ e, d = e + 1 := ⟨d - 1, by omega⟩
  have hv : val (o ++ List.replicate (e + 1) y) 16 = y := by
    unfold val
    rw [if_pos rfl, List.replicate_succ', ← List.append_assoc]
    simp [List.getD]
  rw [hv]
  rfl
theorem Got.rest {y : Int} {rs : List (Int × Int)} (h0 : 0 ≤ y) (h15 : y ≤ 15) : ∀ (k : Nat) {d : Nat}, Got y d rs → Got y (d + k) (rs ++ List.replicate k (y, 0))
  | 0, _, h => by simpa using h
  | k + 1, d, h => by
    have := (Got.rest h0 h15 k h).lit h0 h15
    rw [List.append_assoc, ← List.replicate_succ'] at this
    exact this
end Bl
end Go.Proofs.YtjjbgdmalefdlaaGreatDoor
end

section
namespace Go.Proofs.YtjjbgdmalefdlaaGreatDoor
open Go.RowKit

namespace Bl
/-- As many runs of a symbol as there is room for, and what is left; f: enough. -/
def repsF (s : Int) (b t : Nat) : Nat → Nat → List (Int × Int) × Nat
  | 0, r => ([], r)
  | f + 1, r => if r < b then ([], r) else ((s, ((min (r - b) t : Nat) : Int)) :: (repsF s b t f (r - (b + min (r - b) t))).1, (repsF s b t f (r - (b + min (r - b) t))).2)
theorem repsF_fuel (s : Int) {b : Nat} (t : Nat) (hb : 1 ≤ b) : ∀ (f g r : Nat), r ≤ f → r ≤ g → repsF s b t f r = repsF s b t g r
  | 0, 0, r, _, _ => rfl
  | 0, g + 1, r, hf, _ => by
    obtain rfl : r = 0 := by omega
    rw [repsF, repsF, if_pos (by omega)]
  | f + 1, 0, r, _, hg => by
    obtain rfl : r = 0 := by omega
    rw [repsF, repsF, if_pos (by omega)]
  | f + 1, g + 1, r, hf, hg => by
    rw [repsF, repsF]
    by_cases h : r < b
    · rw [if_pos h, if_pos h]
    · rw [if_neg h, if_neg h, repsF_fuel s t hb f g _ (by omega) (by omega)]
/-- What is laid, and what is left, behind such runs. -/
def go (s : Int) (b t : Nat) (rs : List (Int × Int)) (r : Nat) : List (Int × Int) × Nat := (rs ++ (repsF s b t r r).1, (repsF s b t r r).2)
theorem go_end (s : Int) (b t : Nat) (rs : List (Int × Int)) (r : Nat) (h : r < b) : go s b t rs r = (rs, r) := by
  unfold go
  cases r with
  | zero => rw [repsF]; simp
  | succ r => rw [repsF, if_pos h]; simp
theorem go_step (s : Int) {b t : Nat} (hb : 1 ≤ b) (rs : List (Int × Int)) (r z e : Nat) (h : b ≤ r) (hz : z = min (r - b) t) (he : b + z + e = r) : go s b t rs r = go s b t (rs ++ [(s, (z : Int))]) e := by
  subst hz
  unfold go
  obtain ⟨q, rfl⟩ : ∃ q, r = q + 1 := ⟨r - 1, by omega⟩
  have e1 : q + 1 - (b + min (q + 1 - b) t) = e := by omega
  rw [repsF, if_neg (by omega), e1, repsF_fuel s t hb q e e (by omega) (Nat.le_refl _)]
  simp
/-- Behind i symbols, of zeros. -/
def zs (c : Nat) : Nat → List (Int × Int) × Nat
  | 0 => ([], c)
  | 1 => go 18 11 127 [] c
  | _ => go 17 3 7 (go 18 11 127 [] c).1 (go 18 11 127 [] c).2
/-- The same, of another length. -/
def ys (y : Int) (c : Nat) : Nat → List (Int × Int) × Nat
  | 0 => ([(y, 0)], c - 1)
  | _ => go 16 3 3 [(y, 0)] (c - 1)
/-- The runs of a stretch. -/
def stF (y : Int) (c : Nat) : List (Int × Int) := if y = 0 then (zs c 2).1 ++ List.replicate (zs c 2).2 (0, 0) else (ys y c 1).1 ++ List.replicate (ys y c 1).2 (y, 0)
end Bl
end Go.Proofs.YtjjbgdmalefdlaaGreatDoor
end

section
namespace Go.Proofs.YtjjbgdmalefdlaaGreatDoor
open Go.RowKit

namespace Bl
/-- How many are the same, from the first one on. -/
def al (l : List Int) : Nat := (l.takeWhile fun x => x == l.getD 0 0).length
theorem tw_length : ∀ (l : List Int) (y : Int) (c : Nat), c ≤ l.length → (∀ i, i < c → l.getD i 0 = y) → (c < l.length → l.getD c 0 ≠ y) → (l.takeWhile fun x => x == y).length = c
  | [], y, c, hc, _, _ => by simp at hc; subst hc; rfl
  | x :: r, y, 0, _, _, h => by
    have := h (by simp)
    simp at this
    simp [List.takeWhile_cons, this]
  | x :: r, y, c + 1, hc, h, h2 => by
    have hx : x = y := by simpa using h 0 (by omega)
    subst hx
    have ih := tw_length r x c (by simpa using hc) (fun i hi => by simpa using h (i + 1) (by omega)) (fun hl => by simpa using h2 (by simpa using hl))
    simp [List.takeWhile_cons, ih]
theorem al_eq {l : List Int} {c : Nat} (hc : c ≤ l.length) (h : ∀ i, i < c → l.getD i 0 = l.getD 0 0) (h2 : c < l.length → l.getD c 0 ≠ l.getD 0 0) : al l = c := tw_length l _ c hc h h2
theorem al_le (l : List Int) : al l ≤ l.length := by
  unfold al
  exact (List.takeWhile_sublist _).length_le
theorem al_pos {l : List Int} (h : 0 < l.length) : 0 < al l := by
  cases l with
  | nil => simp at h
  | cons x r => simp [al, List.takeWhile_cons]
theorem al_same (l : List Int) : l.take (al l) = List.replicate (al l) (l.getD 0 0) := by
  have e : l.take (al l) = l.takeWhile fun x => x == l.getD 0 0 := by
    unfold al
    exact (List.prefix_iff_eq_take.1 (List.takeWhile_prefix _)).symm
  rw [e, List.eq_replicate_iff]
  refine ⟨rfl, fun x hx => ?_⟩
  have := List.all_takeWhile (p := fun x => x == l.getD 0 0) (l := l)
  rw [List.all_eq_true] at this
  simpa using this x hx
/-- The runs of lengths, with enough of f; none: not lengths. -/
def rn : Nat → List Int → Option (List (Int × Int))
  | 0, l => if l.length = 0 then some [] else none
  | f + 1, l => if l.length = 0 then some [] else if 0 ≤ l.getD 0 0 ∧ l.getD 0 0 < 16 then (rn f (l.drop (al l))).map fun rs => stF (l.getD 0 0) (al l) ++ rs else none
theorem rn_fuel : ∀ (f g : Nat) (l : List Int), l.length ≤ f → l.length ≤ g → rn f l = rn g l
  | 0, 0, l, _, _ => rfl
  | 0, g + 1, l, hf, _ => by rw [rn, rn, if_pos (by omega), if_pos (by omega)]
  | f + 1, 0, l, _, hg => by rw [rn, rn, if_pos (by omega), if_pos (by omega)]
  | f + 1, g + 1, l, hf, hg => by
    rw [rn, rn]
    by_cases h : l.length = 0
    · rw [if_pos h, if_pos h]
    · rw [if_neg h, if_neg h]
      have := al_pos (l := l) (by omega)
      rw [rn_fuel f g (l.drop (al l)) (by simp; omega) (by simp; omega)]
/-- The runs, behind those that there are. -/
def ru (rs : List (Int × Int)) (l : List Int) : Option (List (Int × Int)) := (rn l.length l).map fun ss => rs ++ ss
theorem ru_end (rs : List (Int × Int)) : ru rs [] = some rs := by simp [ru, rn]
theorem ru_bad (rs : List (Int × Int)) {l : List Int} (h : 0 < l.length) (h2 : ¬ (0 ≤ l.getD 0 0 ∧ l.getD 0 0 < 16)) : ru rs l = none := by
  unfold ru
  obtain ⟨n, hn⟩ : ∃ n, l.length = n + 1 := ⟨l.length - 1, by omega⟩
  rw [hn, rn, if_neg (by omega), if_neg h2]
  rfl
theorem ru_step (rs : List (Int × Int)) {l : List Int} (h : 0 < l.length) (h2 : 0 ≤ l.getD 0 0 ∧ l.getD 0 0 < 16) : ru rs l = ru (rs ++ stF (l.getD 0 0) (al l)) (l.drop (al l)) := by
  unfold ru
  obtain ⟨n, hn⟩ : ∃ n, l.length = n + 1 := ⟨l.length - 1, by omega⟩
  have hp := al_pos h
  rw [hn, rn, if_neg (by omega), if_pos h2, rn_fuel n (l.drop (al l)).length (l.drop (al l)) (by simp; omega) (Nat.le_refl _)]
  cases rn (l.drop (al l)).length (l.drop (al l)) with
  | none => rfl
  | some ss => simp
end Bl
end Go.Proofs.YtjjbgdmalefdlaaGreatDoor
end

section
namespace Go.Proofs.YtjjbgdmalefdlaaGreatDoor
open Go.RowKit

namespace Bl
theorem reps_zeros {s : Int} {b t : Nat} (hs : s = 17 ∨ s = 18) (hb : base s = b) (ht : top s = (t : Int)) (hb1 : 1 ≤ b) : ∀ (f r d : Nat) (rs : List (Int × Int)), Got 0 d rs → ∃ e, e + (repsF s b t f r).2 = r ∧ Got 0 (d + e) (rs ++ (repsF s b t f r).1)
  | 0, r, d, rs, h => ⟨0, by simp [repsF], by simpa [repsF] using h⟩
  | f + 1, r, d, rs, h => by
    rw [repsF]
    by_cases hr : r < b
    · rw [if_pos hr]; exact ⟨0, by simp, by simpa using h⟩
    · rw [if_neg hr]
      have hg := Got.zeros (s := s) (z := min (r - b) t) h hs (by rw [ht]; omega)
      rw [hb] at hg
      obtain ⟨e, h1, h2⟩ := reps_zeros hs hb ht hb1 f (r - (b + min (r - b) t)) _ _ hg
      refine ⟨b + min (r - b) t + e, by simp only; omega, ?_⟩
      rw [List.append_assoc, Nat.add_assoc] at h2
      exact h2
theorem reps_again {y : Int} : ∀ (f r d : Nat) (rs : List (Int × Int)), Got y d rs → 1 ≤ d → ∃ e, e + (repsF 16 3 3 f r).2 = r ∧ Got y (d + e) (rs ++ (repsF 16 3 3 f r).1)
  | 0, r, d, rs, h, _ => ⟨0, by simp [repsF], by simpa [repsF] using h⟩
  | f + 1, r, d, rs, h, hd => by
    rw [repsF]
    by_cases hr : r < 3
    · rw [if_pos hr]; exact ⟨0, by simp, by simpa using h⟩
    · rw [if_neg hr]
      have hg := Got.again (z := min (r - 3) 3) h hd (by omega)
      obtain ⟨e, h1, h2⟩ := reps_again f (r - (3 + min (r - 3) 3)) _ _ hg (by omega)
      refine ⟨3 + min (r - 3) 3 + e, by simp only; omega, ?_⟩
      rw [List.append_assoc, Nat.add_assoc] at h2
      exact h2
/-- A stretch's runs stand for it. -/
theorem stF_got {y : Int} {c : Nat} (h0 : 0 ≤ y) (h15 : y ≤ 15) (hc : 1 ≤ c) : Got y c (stF y c) := by
  unfold stF
  by_cases hy : y = 0
  · subst hy
    rw [if_pos rfl]
    obtain ⟨e1, h1, g1⟩ := reps_zeros (s := 18) (b := 11) (t := 127) (.inr rfl) rfl rfl (by omega) c c 0 [] (Got.nil 0)
    obtain ⟨e2, h2, g2⟩ := reps_zeros (s := 17) (b := 3) (t := 7) (.inl rfl) rfl rfl (by omega) (repsF 18 11 127 c c).2 (repsF 18 11 127 c c).2 _ _ g1
    have g3 := Got.rest (by omega) (by omega) (repsF 17 3 7 (repsF 18 11 127 c c).2 (repsF 18 11 127 c c).2).2 g2
    have e3 : 0 + e1 + e2 + (repsF 17 3 7 (repsF 18 11 127 c c).2 (repsF 18 11 127 c c).2).2 = c := by omega
    rw [e3] at g3
    exact g3
  · rw [if_neg hy]
    have g0 : Got y 1 [(y, 0)] := by simpa using (Got.nil y).lit h0 h15
    obtain ⟨e1, h1, g1⟩ := reps_again (y := y) (c - 1) (c - 1) 1 _ g0 (Nat.le_refl _)
    have g3 := Got.rest h0 h15 (repsF 16 3 3 (c - 1) (c - 1)).2 g1
    have e3 : 1 + e1 + (repsF 16 3 3 (c - 1) (c - 1)).2 = c := by omega
    rw [e3] at g3
    exact g3
/-- The runs of lengths stand for them, and are no more than they are. -/
theorem rn_back : ∀ (f : Nat) (l : List Int), l.length ≤ f → match rn f l with
    | none => ∃ x ∈ l, ¬ (0 ≤ x ∧ x ≤ 15)
    | some rs => In l ∧ (∀ o, unrL o rs = some (o ++ l)) ∧ rs.length ≤ l.length ∧ Rg rs
  | 0, l, h => by
    obtain rfl : l = [] := List.eq_nil_of_length_eq_zero (by omega)
    exact ⟨fun x hx => by simp at hx, fun o => by simp [unrL], Nat.le_refl _, fun t ht => by simp at ht⟩
  | f + 1, l, h => by
    rw [rn]
    by_cases h0 : l.length = 0
    · rw [if_pos h0]
      obtain rfl : l = [] := List.eq_nil_of_length_eq_zero h0
      exact ⟨fun x hx => by simp at hx, fun o => by simp [unrL], Nat.le_refl _, fun t ht => by simp at ht⟩
    · rw [if_neg h0]
      have hp := al_pos (l := l) (by omega)
      have hle := al_le l
      have hsm := al_same l
      have htd := List.take_append_drop (al l) l
      by_cases hy : 0 ≤ l.getD 0 0 ∧ l.getD 0 0 < 16
      · rw [if_pos hy]
        have ih := rn_back f (l.drop (al l)) (by simp; omega)
        have hg := stF_got (y := l.getD 0 0) (c := al l) hy.1 (by omega) hp
        cases h1 : rn f (l.drop (al l)) with
        | none =>
          rw [h1] at ih
          obtain ⟨x, hx, hb⟩ := ih
          exact ⟨x, List.mem_of_mem_drop hx, hb⟩
        | some rs =>
          rw [h1] at ih
          obtain ⟨i1, i2, i3, i4⟩ := ih
          refine ⟨fun x hx => ?_, fun o => ?_, ?_, hg.rg.append i4⟩
          · rw [← htd] at hx
            rcases List.mem_append.1 hx with h2 | h2
            · rw [hsm, List.mem_replicate] at h2
              rw [h2.2]; omega
            · exact i1 x h2
          · rw [unrL_append, hg.un o]
            show unrL _ rs = _
            rw [i2, List.append_assoc, ← hsm, htd]
          · have := hg.le
            rw [List.length_append]
            rw [List.length_drop] at i3
            omega
      · rw [if_neg hy]
        refine ⟨l.getD 0 0, ?_, by omega⟩
        simp [List.getD, List.getElem?_eq_getElem (show 0 < l.length by omega)]
theorem ru_back (l : List Int) : match ru [] l with
    | none => ∃ x ∈ l, ¬ (0 ≤ x ∧ x ≤ 15)
    | some rs => In l ∧ unrL [] rs = some l ∧ rs.length ≤ l.length ∧ Rg rs := by
  have h := rn_back l.length l (Nat.le_refl _)
  have e : ru [] l = rn l.length l := by unfold ru; simp
  rw [e]
  cases h1 : rn l.length l with
  | none => rw [h1] at h; exact h
  | some rs => rw [h1] at h; exact ⟨h.1, by simpa using h.2.1 [], h.2.2.1, h.2.2.2⟩
theorem ru_ex : ru [] [0, 0, 0, 0, 5, 5, 5, 5, 5] = some [(17, 1), (5, 0), (16, 1)] := by decide +kernel
end Bl
end Go.Proofs.YtjjbgdmalefdlaaGreatDoor
end
