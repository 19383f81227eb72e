/- Lists of bytes in memory of the call's own, each in a block of its own: what a store and an append do to them. What a call may change: 'only blocks of T'. Laws of the walk within a fence: append, make. Tokens, what they come to, and slices of pairs of numbers in memory. Tokens, and what they come to: their type. A region that draws its order and ends in one store: loads are taken first under a condition on the world that the last operation may break. -/
import Derived.Test.YtpoilaappcjbeaaGreatDoorZ1
import Derived.OwnWalkIn
import Derived.Test.YtpoilaappcjbeaaGreatDoorProg
import Derived.Deep.RegionHeld3
import Derived.StillTail
set_option linter.unusedSimpArgs false
set_option linter.unusedVariables false
section
namespace Go.Proofs.YtpoilaappcjbeaaGreatDoor
open Go.RowKit

theorem own_nil_or {w : World} {base : Nat} {e : TypeId} {size : Nat} {v : Value} {n : Nat} {xs : List Value} (h : w.ownsRow base e size v n xs) :
    (v = .slice none 0 0 ∧ n = 0) ∨ ∃ g cap, v = .slice (some ⟨g, 0, none⟩) n cap ∧ n ≤ cap ∧ base ≤ g ∧ g < w.heap.size ∧ cap ≤ 9223372036854775807 := by
  rcases h.2 with h' | ⟨g, cap, cur, rfl, hb, hg, hnc, hm, _⟩
  · exact .inl h'
  · exact .inr ⟨g, cap, rfl, hnc, hb, (Array.getElem?_eq_some_iff.1 hg).1, by unfold maxLen at hm; omega⟩
/-- A row that the call owns, as a slice whose cells can be read. -/
theorem own_slice {w : World} {base : Nat} {e : TypeId} {v : Value} {n : Nat} {xs : List Value} (h : w.ownsRow base e 1 v n xs) :
    ∃ a cap, v = .slice a n cap ∧ ∀ j, j < n → ∃ g, a = some ⟨g, 0, none⟩ ∧ w.cell? ⟨g, j, none⟩ = xs[j]? := by
  rcases own_nil_or h with ⟨rfl, rfl⟩ | ⟨g, cap, rfl, _⟩
  · exact ⟨none, 0, rfl, fun j hj => absurd hj (by omega)⟩
  · exact ⟨_, cap, rfl, fun j hj => ⟨g, rfl, h.cellAt j (by omega)⟩⟩
/-- A shorter slice of the same row. -/
theorem own_prefix {w : World} {base : Nat} {e : TypeId} {g n cap : Nat} {xs : List Value} (h : w.ownsRow base e 1 (.slice (some ⟨g, 0, none⟩) n cap) n xs) (k : Nat) (hk : k ≤ n) :
    w.ownsRow base e 1 (.slice (some ⟨g, 0, none⟩) k cap) k (xs.take k) := by
  have hl := h.1
  rcases h.2 with ⟨h', _⟩ | ⟨g', cap', cur, h', hb, hg, hnc, hm, hs, ht⟩
  · simp at h'
  · simp only [Value.slice.injEq, Option.some.injEq, Addr.mk.injEq, and_true, true_and] at h'
    obtain ⟨rfl, rfl⟩ := h'
    refine ⟨by simp; omega, .inr ⟨g, cap, cur, rfl, hb, hg, by omega, hm, hs, ?_⟩⟩
    rw [← ht, List.take_take]
    congr 1; omega
theorem own_base {w : World} {base base' : Nat} {e : TypeId} {size : Nat} {v : Value} {n : Nat} {xs : List Value} (h : w.ownsRow base e size v n xs) (hb : ∀ g, v.ownBlock = some g → base' ≤ g) : w.ownsRow base' e size v n xs := by
  obtain ⟨h1, h2⟩ := h
  refine ⟨h1, ?_⟩
  rcases h2 with h2 | ⟨g, cap, cur, rfl, hg, r⟩
  · exact .inl h2
  · exact .inr ⟨g, cap, cur, rfl, hb g rfl, r⟩

theorem cell_set_other {w : World} {g j : Nat} {u : Value} {b o : Nat} (h : b ≠ g) : (w.setCell ⟨g, j, none⟩ u).cell? ⟨b, o, none⟩ = w.cell? ⟨b, o, none⟩ :=
  World.cell?_of_block (w := w) (heap_setCell_other w ⟨g, j, none⟩ b u h)
/-- What an append leaves: written in place, or a new row. -/
def Step (w w' : World) (v v' : Value) : Prop :=
  (∃ g k cap k', v = .slice (some ⟨g, 0, none⟩) k cap ∧ v' = .slice (some ⟨g, 0, none⟩) k' cap ∧ w.grownBy w' (some g)) ∨
  ((∃ g, v'.ownBlock = some g ∧ w.heap.size ≤ g) ∧ w.grownBy w' none)
theorem Step.below {w0 w w' : World} {B : Nat} {v v' : Value} (h : Step w w' v v') (hb : Below B w0 w) (hB : B ≤ w.heap.size) (hv : ∀ g, v.ownBlock = some g → B ≤ g) : Below B w0 w' := by
  rcases h with ⟨g, k, cap, k', rfl, _, hg⟩ | ⟨_, hg⟩
  · exact hb.grown hg hB (fun k hk => by cases hk; exact hv g rfl)
  · exact hb.grown hg hB (by simp)
theorem Step.size {w w' : World} {v v' : Value} (h : Step w w' v v') : w.heap.size ≤ w'.heap.size := by
  rcases h with ⟨_, _, _, _, _, _, hg⟩ | ⟨_, hg⟩ <;> exact hg.size
/-- Another row stays. -/
theorem Step.other {w w' : World} {v v' u : Value} {base : Nat} {e : TypeId} {size n : Nat} {xs : List Value} (h : Step w w' v v') (hu : w.ownsRow base e size u n xs) (hne : ∀ g, u.ownBlock = some g → v.ownBlock ≠ some g) : w'.ownsRow base e size u n xs := by
  rcases h with ⟨g, k, cap, k', rfl, _, hg⟩ | ⟨_, hg⟩
  · refine hu.kept hg ?_
    cases hub : u.ownBlock with
    | none => exact .inl rfl
    | some x => right; intro he; cases he; exact hne g hub rfl
  · exact hu.kept hg (by cases u.ownBlock <;> simp)
/-- The new value's block is none of the old blocks but its own. -/
theorem Step.block {w w' : World} {v v' : Value} (h : Step w w' v v') : ∀ g, v'.ownBlock = some g → v.ownBlock = some g ∨ w.heap.size ≤ g := by
  intro g hg
  rcases h with ⟨g', k, cap, k', rfl, rfl, _⟩ | ⟨⟨g', h1, h2⟩, _⟩
  · exact .inl hg
  · rw [h1] at hg; cases hg; exact .inr h2
theorem Step.cell {w w' : World} {v v' : Value} (h : Step w w' v v') {a : Addr} {u : Value} (hc : w.cell? a = some u) (hne : v.ownBlock ≠ some a.block) : w'.cell? a = some u := by
  rcases h with ⟨g, k, cap, k', rfl, _, hg⟩ | ⟨_, hg⟩
  · exact hg.cell hc (fun e => hne e.symm)
  · exact hg.cell hc (by simp)

section
variable {P : Program} {w : World} {ops : Array Oper} {rest : List Oper} {o : Oper} {a : Act} {Q : Exit → Act → World → Prop}
variable {t e : TypeId} {z : Value} {size by' : Nat}
theorem wpl_append2 (R : RowTy P t e z size by') (hg : o.guard = none) (s x : Operand) (hop : o.op = Op.call { callee := Callee.builtin Builtin.append, args := #[s, x], argTypes := #[t, t] })
    {base n : Nat} {v : Value} {xs : List Value} (hown : w.ownsRow base e size v n xs) {ad : Addr} {m c : Nat} {news : List Value} (hsrc : SrcRow w (some ad) m c news size)
    (hs : a.eval s = v) (hx : a.eval x = .slice (some ad) m c) (hm : 0 < m) (h63 : n + m ≤ 9223372036854775807) (hbytes : (n + m) * by' ≤ 140737488355328) (hbase : base ≤ w.heap.size)
    (hK : ∀ v' w', w'.ownsRow base e size v' (n + m) (xs ++ news) → Step w w' v v' → wpList P ops Q rest (a.put o.dst v') w') :
    wpList P ops Q (o :: rest) a w := by
  obtain ⟨i0, hi, hz0, hz1, hz2⟩ := info_parts R.info
  have hnc := hsrc.hc ad rfl
  have hml : n + m ≤ maxLen := by unfold maxLen; omega
  have fin : ∀ (v' : Value) (w' : World), (Builtin.append_ #[t, t] o.type #[v, .slice (some ad) m c]).run P w = .ok v' w' → w'.ownsRow base e size v' (n + m) (xs ++ news) → Step w w' v v' → wpList P ops Q (o :: rest) a w := by
    intro v' w' hrun h1 h2
    refine wpList_plain hg fun K hK' => ?_
    unfold Oper.wp
    simp [execOp, hop, resolve, invoke, builtin, hs, hx, hrun, Result.andThen]
    exact hK' _ _ (hK v' w' h1 h2)
  rcases own_nil_or hown with ⟨rfl, rfl⟩ | ⟨g, cap, rfl, hle, hbg, hgl, hcap⟩
  · have hx0 : xs = [] := List.eq_nil_of_length_eq_zero (by have := hown.1; simpa using this)
    subst hx0
    have hown0 := World.ownsRow_nil w w.heap.size e size
    obtain ⟨v', w', hrun, r1, r2, _⟩ := run_append_own (P := P) w w.heap.size t o.type e i0 z size by' R.ht hi hz0 hz1 hz2 R.hzs R.hsz _ 0 [] hown0 ad m c news hsrc.hl hnc hsrc.h1 hml hbytes (Nat.le_refl _)
    have hb : ∃ g, v'.ownBlock = some g ∧ w.heap.size ≤ g := by
      rcases own_nil_or r1 with ⟨_, h⟩ | ⟨g, cap, rfl, _, h, _⟩
      · omega
      · exact ⟨g, rfl, h⟩
    exact fin v' w' hrun (own_base r1 (fun g hg => Nat.le_trans hbase ((r1.lt g hg).1))) (.inr ⟨hb, r2⟩)
  · by_cases hroom : n + m ≤ cap
    · obtain ⟨w', hrun, r1, r2⟩ := run_append_fits (P := P) w base t o.type e i0 size R.ht hi hz1 g n cap xs hown ad m c news hsrc.hl hnc hsrc.h1 hroom
      exact fin _ w' hrun r1 (.inl ⟨g, n, cap, n + m, rfl, rfl, r2⟩)
    · obtain ⟨v', w', hrun, r1, r2⟩ := run_append_arg_grows (P := P) w t o.type e i0 z size by' R.ht hi hz0 hz1 hz2 R.hzs R.hsz ⟨g, 0, none⟩ n cap xs hown.1 (hown.cells rfl) ad m c news hsrc.hl hnc (by omega) hml hbytes
      have hb : ∃ g, v'.ownBlock = some g ∧ w.heap.size ≤ g := by
        rcases own_nil_or r1 with ⟨_, h⟩ | ⟨g, cap, rfl, _, h, _⟩
        · omega
        · exact ⟨g, rfl, h⟩
      exact fin v' w' hrun (own_base r1 (fun g hg => Nat.le_trans hbase ((r1.lt g hg).1))) (.inr ⟨hb, r2⟩)
end

namespace Ap
/-- What list k is marked with at place j; up to n. -/
def pby (k j : Nat) : UInt8 := UInt8.ofNat (29 * k + 5 * j + 3)
def pat (k n : Nat) : List UInt8 := (List.range n).map fun j => pby k j
theorem pat_length (k n : Nat) : (pat k n).length = n := by simp [pat]
theorem gb_pat (k n j : Nat) (h : j < n) : gb (pat k n) j = (29 * k + 5 * j + 3) % 256 := by
  simp [gb, pat, pby, List.getD, List.getElem?_map, List.getElem?_range h]
theorem pat_succ (k n : Nat) : pat k (n + 1) = pat k n ++ [pby k n] := by simp [pat, List.range_succ]
theorem pat_take (k n m : Nat) (h : m ≤ n) : (pat k n).take m = pat k m := by
  simp [pat, ← List.map_take, List.take_range, Nat.min_eq_left h]
/-- List k while it is marked. -/
def half (k j : Nat) (l : List UInt8) : List UInt8 := pat k j ++ l.drop j
theorem half_zero (k : Nat) (l : List UInt8) : half k 0 l = l := by simp [half, pat]
theorem half_full (k : Nat) (l : List UInt8) : half k l.length l = pat k l.length := by simp [half]
theorem half_set (k j : Nat) (l : List UInt8) (h : j < l.length) : (half k j l).set j (pby k j) = half k (j + 1) l := by
  unfold half
  rw [List.set_append_right _ _ (by simp [pat_length]), pat_length, Nat.sub_self, pat_succ, List.append_assoc]
  congr 1
  rw [List.drop_eq_getElem_cons h, List.set_cons_zero]
  rfl
end Ap
theorem bvs_set (l : List UInt8) (j n : Nat) : (bvs l).set j (.int .u8 ((n % 256 : Nat) : Int)) = bvs (l.set j (UInt8.ofNat n)) := by
  simp [bvs, List.map_set]

/-- All lists, each with what it reads as. -/
def Ls (w : World) (B : Nat) (e : TypeId) (ss : List Sl) (c : Nat → List UInt8) : Prop :=
  ∀ i, i < ss.length → w.ownsRow B e 1 (nth ss i).val (nth ss i).len (bvs (c i))
/-- Each in a block of its own. -/
def Dj (ss : List Sl) : Prop := ∀ i j, i < ss.length → j < ss.length → i ≠ j → ∀ g, (nth ss i).val.ownBlock = some g → (nth ss j).val.ownBlock ≠ some g
theorem Ls.congr {w : World} {B : Nat} {e : TypeId} {ss : List Sl} {c c' : Nat → List UInt8} (h : Ls w B e ss c) (hc : ∀ i, i < ss.length → c i = c' i) : Ls w B e ss c' :=
  fun i hi => by rw [← hc i hi]; exact h i hi
theorem Ls.store {w : World} {B : Nat} {e : TypeId} {ss : List Sl} {c : Nat → List UInt8} (h : Ls w B e ss c) (hd : Dj ss) (k : Nat) (hk : k < ss.length) (g len cap : Nat) (hs : (nth ss k).val = .slice (some ⟨g, 0, none⟩) len cap) (hl : (nth ss k).len = len) (j n : Nat) (y : UInt8) (hy : y = UInt8.ofNat n) :
    Ls (w.setCell ⟨g, j, none⟩ (.int .u8 ((n % 256 : Nat) : Int))) B e ss (fun i => if i = k then (c k).set j y else c i) := by
  subst hy
  intro i hi
  by_cases e : i = k
  · subst e
    simp only [if_true]
    have h1 := h i hi
    rw [hs, hl] at h1 ⊢
    rw [← bvs_set]
    exact (h1.stored j _).1
  · simp only [if_neg e]
    have h1 := h k hk
    rw [hs, hl] at h1
    refine (h i hi).kept (h1.stored j _).2 ?_
    cases hub : (nth ss i).val.ownBlock with
    | none => exact .inl rfl
    | some x =>
      right; intro he; cases he
      exact hd i k hi hk e g hub (by rw [hs]; rfl)

/-- The outer slice's cells. -/
def Outer (w : World) (ob off : Nat) (ss : List Sl) : Prop := ∀ i, i < ss.length → w.cell? ⟨ob, off + i, none⟩ = some (.slice (nth ss i).a (nth ss i).len (nth ss i).cap)
/-- What does not change while the lists are grown. -/
structure Cst (B ob S0 : Nat) (ss : List Sl) : Prop where
  dj : Dj ss
  ne : ∀ i, i < ss.length → (nth ss i).val.ownBlock ≠ some ob
  old : ∀ i, i < ss.length → ∀ g, (nth ss i).val.ownBlock = some g → B ≤ g ∧ g < S0
  obl : ob < S0
  bs : B ≤ S0
/-- Some lists are grown. -/
structure St (w wr : World) (B ob off S0 : Nat) (e ts : TypeId) (ss gs : List Sl) (gv : Value) (k : Nat) : Prop where
  bel : Below B w wr
  size : S0 ≤ wr.heap.size
  out : Outer wr ob off ss
  ls : Ls wr B e ss (fun i => Ap.pat i (nth ss i).len)
  glen : gs.length = k
  gown : wr.ownsRow S0 ts 1 gv k (gs.map Sl.val)
  geach : ∀ i, i < k → wr.ownsRow B e 1 (nth gs i).val ((nth ss i).len + 10) (bvs (Ap.pat i ((nth ss i).len + 10))) ∧ (nth gs i).len = (nth ss i).len + 10
  gblk : ∀ i, i < k → ∀ g, (nth gs i).val.ownBlock = some g → ((nth ss i).val.ownBlock = some g ∨ S0 ≤ g) ∧ gv.ownBlock ≠ some g
/-- List k is being grown. -/
structure Vg (wr : World) (B S0 : Nat) (e : TypeId) (ss gs : List Sl) (gv v : Value) (k t : Nat) : Prop where
  own : wr.ownsRow B e 1 v ((nth ss k).len + t) (bvs (Ap.pat k ((nth ss k).len + t)))
  from' : v = .slice (nth ss k).a ((nth ss k).len + t) (nth ss k).cap ∨ ∃ g, v.ownBlock = some g ∧ S0 ≤ g ∧ gv.ownBlock ≠ some g ∧ ∀ i, i < k → (nth gs i).val.ownBlock ≠ some g
theorem Sl.val_block (s : Sl) : s.val.ownBlock = s.a.map (·.block) := by cases h : s.a <;> simp [Sl.val, Value.ownBlock, h]
section
variable {w wr w' : World} {B ob off S0 : Nat} {e ts : TypeId} {ss gs : List Sl} {gv v v' : Value} {k t : Nat}
theorem St.mono (h : St w wr B ob off S0 e ts ss gs gv k) (c : Cst B ob S0 ss) (hb : Below wr.heap.size wr w') (hob : ob < wr.heap.size) : St w w' B ob off S0 e ts ss gs gv k :=
  ⟨h.bel.trans (hb.mono (Nat.le_trans c.bs h.size)), Nat.le_trans h.size hb.size, fun i hi => by rw [hb.cell (p := ⟨ob, off + i, none⟩) hob]; exact h.out i hi,
   fun i hi => own_below (h.ls i hi) hb, h.glen, own_below h.gown hb, fun i hi => ⟨own_below (h.geach i hi).1 hb, (h.geach i hi).2⟩, h.gblk⟩
theorem Vg.mono (h : Vg wr B S0 e ss gs gv v k t) (hb : Below wr.heap.size wr w') : Vg w' B S0 e ss gs gv v k t := ⟨own_below h.own hb, h.from'⟩
/-- v's block, told apart. -/
theorem Vg.apart (h : Vg wr B S0 e ss gs gv v k t) (c : Cst B ob S0 ss) (s : St w wr B ob off S0 e ts ss gs gv k) (hk : k < ss.length) :
    (∀ i, i < ss.length → i ≠ k → ∀ g, (nth ss i).val.ownBlock = some g → v.ownBlock ≠ some g) ∧ (∀ i, i < k → ∀ g, (nth gs i).val.ownBlock = some g → v.ownBlock ≠ some g) ∧
    v.ownBlock ≠ some ob ∧ (∀ g, gv.ownBlock = some g → v.ownBlock ≠ some g) := by
  rcases h.from' with hv | ⟨g, hg, h1, h2, h3⟩
  · have hvb : v.ownBlock = (nth ss k).val.ownBlock := by rw [hv, Sl.val_block]; cases (nth ss k).a <;> rfl
    rw [hvb]
    refine ⟨fun i hi hne g hg => c.dj i k hi hk hne g hg, fun i hi g hg he => ?_, c.ne k hk, fun g hg he => ?_⟩
    · rcases (s.gblk i hi g hg).1 with h1 | h1
      · exact c.dj i k (by omega) hk (by omega) g h1 he
      · have := (c.old k hk g he).2; omega
    · have h1 := (s.gown.lt g hg).1
      have := (c.old k hk g he).2; omega
  · rw [hg]
    refine ⟨fun i hi hne g' hg' he => ?_, fun i hi g' hg' he => ?_, fun he => ?_, fun g' hg' he => ?_⟩
    · cases he; have := (c.old i hi g hg').2; omega
    · cases he; exact h3 i hi hg'
    · cases he; have := c.obl; omega
    · cases he; exact h2 hg'
/-- A step of growing list k. -/
theorem ap_step (h : Vg wr B S0 e ss gs gv v k t) (c : Cst B ob S0 ss) (s : St w wr B ob off S0 e ts ss gs gv k) (hk : k < ss.length) (hst : Step wr w' v v')
    (hown : w'.ownsRow B e 1 v' ((nth ss k).len + t + 1) (bvs (Ap.pat k ((nth ss k).len + t) ++ [Ap.pby k ((nth ss k).len + t)]))) :
    St w w' B ob off S0 e ts ss gs gv k ∧ Vg w' B S0 e ss gs gv v' k (t + 1) := by
  obtain ⟨a1, a2, a3, a4⟩ := h.apart c s hk
  rw [← Ap.pat_succ] at hown
  refine ⟨⟨hst.below s.bel (Nat.le_trans c.bs s.size) (fun g hg => (h.own.lt g hg).1), Nat.le_trans s.size hst.size, fun i hi => hst.cell (s.out i hi) a3, fun i hi => ?_, s.glen, hst.other s.gown a4, fun i hi => ⟨hst.other (s.geach i hi).1 (a2 i hi), (s.geach i hi).2⟩, s.gblk⟩, ⟨hown, ?_⟩⟩
  · by_cases e1 : i = k
    · subst e1
      rcases h.from' with hv | ⟨g, hg, h1, h2, h3⟩
      · rcases hst with ⟨g, n, cap, n', e2, e3, hg⟩ | ⟨_, hg⟩
        · rw [hv] at e2
          simp only [Value.slice.injEq] at e2
          obtain ⟨e4, e5, e6⟩ := e2
          rcases own_nil_or hown with ⟨e7, _⟩ | ⟨g2, cap2, e7, hle, _⟩
          · rw [e3] at e7; simp at e7
          · rw [e3] at e7
            simp only [Value.slice.injEq, Option.some.injEq, Addr.mk.injEq, and_true, true_and] at e7
            obtain ⟨rfl, rfl, rfl⟩ := e7
            rw [e3] at hown
            have := own_prefix hown (nth ss i).len (by omega)
            rw [show (nth ss i).val = .slice (some ⟨g, 0, none⟩) (nth ss i).len cap by unfold Sl.val; rw [e4, e6]]
            have ep : (bvs (Ap.pat i ((nth ss i).len + t + 1))).take (nth ss i).len = bvs (Ap.pat i (nth ss i).len) := by
              rw [← Ap.pat_take i ((nth ss i).len + t + 1) (nth ss i).len (by omega)]; simp [bvs, List.map_take]
            rw [ep] at this
            exact this
        · exact (s.ls i hi).kept hg (by cases (nth ss i).val.ownBlock <;> simp)
      · exact hst.other (s.ls i hi) (fun g' hg' he => by rw [hg] at he; cases he; have := (c.old i hi g hg').2; omega)
    · exact hst.other (s.ls i hi) (a1 i hi e1)
  · rcases hst with ⟨g, n, cap, n', e2, e3, hg⟩ | ⟨⟨g, hg, hge⟩, _⟩
    · rcases own_nil_or hown with ⟨e7, _⟩ | ⟨g2, cap2, e7, hle, _⟩
      · rw [e3] at e7; simp at e7
      · rw [e3] at e7
        simp only [Value.slice.injEq, Option.some.injEq, Addr.mk.injEq, and_true, true_and] at e7
        obtain ⟨rfl, rfl, rfl⟩ := e7
        rcases h.from' with hv | ⟨g', hg', h1, h2, h3⟩
        · rw [e2] at hv
          simp only [Value.slice.injEq] at hv
          left; rw [e3, hv.1, hv.2.2]; rfl
        · right; refine ⟨g', ?_, h1, h2, h3⟩
          rw [e3]; rw [e2] at hg'; exact hg'
    · right
      refine ⟨g, hg, Nat.le_trans s.size hge, fun he => ?_, fun i hi he => ?_⟩
      · have := (s.gown.lt g he).2; omega
      · have := ((s.geach i hi).1.lt g he).2; omega
/-- List k has been grown and goes to the others. -/
theorem ap_grow (x : Sl) (hx : x.val = v) (hxl : x.len = (nth ss k).len + 10) (h : Vg wr B S0 e ss gs gv v k 10) (c : Cst B ob S0 ss) (s : St w wr B ob off S0 e ts ss gs gv k) (hk : k < ss.length)
    {gv' : Value} (hst : Step wr w' gv gv') (hown : w'.ownsRow S0 ts 1 gv' (k + 1) (gs.map Sl.val ++ [v])) :
    St w w' B ob off S0 e ts ss (gs ++ [x]) gv' (k + 1) := by
  have gbl : ∀ g, gv.ownBlock = some g → S0 ≤ g := fun g hg => (s.gown.lt g hg).1
  have hgl : gs.length = k := s.glen
  have en : ∀ i, i < k → nth (gs ++ [x]) i = nth gs i := fun i hi => by
    rw [nth_get _ i (by simp; omega), nth_get _ i (by omega), List.getElem_append_left]
  have ek : nth (gs ++ [x]) k = x := by rw [nth_get _ k (by simp; omega)]; simp [hgl]
  obtain ⟨a1, a2, a3, a4⟩ := h.apart c s hk
  have nov : ∀ g, v.ownBlock = some g → gv.ownBlock ≠ some g := fun g hg he => a4 g he hg
  refine ⟨hst.below s.bel (Nat.le_trans c.bs s.size) (fun g hg => Nat.le_trans c.bs (gbl g hg)), Nat.le_trans s.size hst.size, fun i hi => hst.cell (s.out i hi) (fun he => by have := gbl _ he; have := c.obl; simp at *; omega),
    fun i hi => hst.other (s.ls i hi) (fun g hg he => by have := gbl _ he; have := (c.old i hi g hg).2; omega), by simp [hgl], by rw [List.map_append, List.map_cons, List.map_nil, hx]; exact hown, fun i hi => ?_, fun i hi g hg => ?_⟩
  · by_cases e1 : i < k
    · rw [en i e1]
      exact ⟨hst.other (s.geach i e1).1 (fun g hg => (s.gblk i e1 g hg).2), (s.geach i e1).2⟩
    · obtain rfl : i = k := by omega
      rw [ek, hx]
      exact ⟨hst.other h.own nov, hxl⟩
  · have hbl : ∀ g, gv'.ownBlock = some g → gv.ownBlock = some g ∨ wr.heap.size ≤ g := hst.block
    by_cases e1 : i < k
    · rw [en i e1] at hg
      refine ⟨(s.gblk i e1 g hg).1, fun he => ?_⟩
      rcases hbl g he with h1 | h1
      · exact (s.gblk i e1 g hg).2 h1
      · have := ((s.geach i e1).1.lt g hg).2; omega
    · obtain rfl : i = k := by omega
      rw [ek, hx] at hg
      refine ⟨?_, fun he => ?_⟩
      · rcases h.from' with hv | ⟨g', hg', h1, _⟩
        · left; rw [hv] at hg; rw [Sl.val_block]; cases ha : (nth ss i).a with
          | none => rw [ha] at hg; simp [Value.ownBlock] at hg
          | some ad => rw [ha] at hg; exact hg
        · rw [hg'] at hg; cases hg; exact .inr h1
      · rcases hbl g he with h1 | h1
        · exact nov g hg h1
        · have := (h.own.lt g hg).2; omega
end
end Go.Proofs.YtpoilaappcjbeaaGreatDoor
end

section
namespace Go.Proofs.YtpoilaappcjbeaaGreatDoor
open Go.RowKit

/-- Only blocks of T may have changed; new ones may have come. -/
structure Ch (w w' : World) (T : Nat → Prop) : Prop where
  os : w'.os = w.os
  tape : w'.tape = w.tape
  output : w'.output = w.output
  size : w.heap.size ≤ w'.heap.size
  block : ∀ k, k < w.heap.size → ¬ T k → w'.heap[k]? = w.heap[k]?
theorem Ch.refl (w : World) (T : Nat → Prop) : Ch w w T := ⟨rfl, rfl, rfl, Nat.le_refl _, fun _ _ _ => rfl⟩
theorem Ch.of_below {w w' : World} {T : Nat → Prop} (h : Below w.heap.size w w') : Ch w w' T := ⟨h.os, h.tape, h.output, h.size, fun k hk _ => h.block k hk⟩
theorem Ch.trans {a b c : World} {T U : Nat → Prop} (h : Ch a b T) (k : Ch b c U) (hu : ∀ n, U n → T n ∨ a.heap.size ≤ n) : Ch a c T :=
  ⟨k.os.trans h.os, k.tape.trans h.tape, k.output.trans h.output, Nat.le_trans h.size k.size, fun i hi ht => (k.block i (Nat.lt_of_lt_of_le hi h.size) (fun hui => (hu i hui).elim ht (fun h' => by omega))).trans (h.block i hi ht)⟩
theorem Ch.drew {a w : World} {T : Nat → Prop} (h : Ch a w T) : Ch a w.drew T := ⟨h.os, h.tape, h.output, h.size, h.block⟩
theorem Ch.alloc {a w : World} {T : Nat → Prop} (h : Ch a w T) (o : Obj) : Ch a (w.alloc o) T :=
  h.trans (Ch.of_below (T := fun _ => False) (below_alloc w o)) (fun _ h => h.elim)
theorem Ch.set {a w : World} {T : Nat → Prop} (h : Ch a w T) {p : Addr} (hp : T p.block ∨ a.heap.size ≤ p.block) (u : Value) : Ch a (w.setCell p u) T :=
  h.trans (U := fun k => k = p.block) ⟨rfl, rfl, rfl, by simp, fun k _ ht => Below.heap_setCell w p u k ht⟩ (fun n hn => by subst hn; exact hp)
theorem Ch.below {w w' : World} {T : Nat → Prop} (h : Ch w w' T) {B : Nat} (hB : B ≤ w.heap.size) (ht : ∀ k, T k → B ≤ k) : Below B w w' :=
  ⟨h.os, h.tape, h.output, h.size, fun k hk => h.block k (by omega) (fun h' => by have := ht k h'; omega)⟩
theorem Ch.own {w w' : World} {T : Nat → Prop} (h : Ch w w' T) {base : Nat} {e : TypeId} {size : Nat} {v : Value} {n : Nat} {xs : List Value} (hv : w.ownsRow base e size v n xs) (hn : ∀ g, v.ownBlock = some g → ¬ T g) : w'.ownsRow base e size v n xs := by
  obtain ⟨h1, h2⟩ := hv
  refine ⟨h1, ?_⟩
  rcases h2 with h2 | ⟨g, cap, cur, rfl, hb, hg, r⟩
  · exact .inl h2
  · refine .inr ⟨g, cap, cur, rfl, hb, ?_, r⟩
    rw [h.block g (Array.getElem?_eq_some_iff.1 hg).1 (hn g rfl)]; exact hg
theorem Ch.step {w w' : World} {v v' : Value} (h : Step w w' v v') : Ch w w' (fun k => v.ownBlock = some k) := by
  rcases h with ⟨g, k, cap, k', rfl, _, hg⟩ | ⟨_, hg⟩
  · exact ⟨hg.os, hg.tape, hg.output, hg.size, fun i hi ht => hg.block i hi (fun e => ht (by simpa [Value.ownBlock] using e.symm))⟩
  · exact ⟨hg.os, hg.tape, hg.output, hg.size, fun i hi _ => hg.block i hi (by simp)⟩
theorem Ch.wide {w w' : World} {T U : Nat → Prop} (h : Ch w w' T) (hu : ∀ k, T k → U k ∨ w.heap.size ≤ k) : Ch w w' U :=
  ⟨h.os, h.tape, h.output, h.size, fun k hk ht => h.block k hk (fun h' => (hu k h').elim ht (fun h'' => by omega))⟩

end Go.Proofs.YtpoilaappcjbeaaGreatDoor
end

section
namespace Go.Proofs.YtpoilaappcjbeaaGreatDoor
open Go.RowKit

section
variable {F : Fence} {k : Nat} {P : Program} {w : World} {ops : Array Oper} {rest : List Oper} {o : Oper} {a : Act} {Q : Exit → Act → World → Prop}
variable {t e : TypeId} {z : Value} {size by' : Nat}
theorem run_app (R : RowTy P t e z size by') (ot : TypeId) {base n : Nat} {v : Value} {xs : List Value} (hown : w.ownsRow base e size v n xs) {ad : Addr} {m c : Nat} {news : List Value} (hsrc : SrcRow w (some ad) m c news size)
    (hm : 0 < m) (h63 : n + m ≤ 9223372036854775807) (hbytes : (n + m) * by' ≤ 140737488355328) (hbase : base ≤ w.heap.size) :
    ∃ v' w', (Builtin.append_ #[t, t] ot #[v, .slice (some ad) m c]).run P w = .ok v' w' ∧ w'.ownsRow base e size v' (n + m) (xs ++ news) ∧ Step w w' v v' := by
  obtain ⟨i0, hi, hz0, hz1, hz2⟩ := info_parts R.info
  have hnc := hsrc.hc ad rfl
  have hml : n + m ≤ maxLen := by unfold maxLen; omega
  have new : ∀ {v' : Value} {w' : World} {ys : List Value} {b : Nat}, w'.ownsRow b e size v' (n + m) ys → w.heap.size ≤ b → ∃ g, v'.ownBlock = some g ∧ w.heap.size ≤ g := by
    intro v' w' ys b r hb
    rcases own_nil_or r with ⟨_, h⟩ | ⟨g, cap, rfl, _, h, _⟩
    · omega
    · exact ⟨g, rfl, Nat.le_trans hb h⟩
  rcases own_nil_or hown with ⟨rfl, rfl⟩ | ⟨g, cap, rfl, hle, hbg, hgl, hcap⟩
  · have hx0 : xs = [] := List.eq_nil_of_length_eq_zero (by have := hown.1; simpa using this)
    subst hx0
    obtain ⟨v', w', hrun, r1, r2, _⟩ := run_append_own (P := P) w w.heap.size t ot e i0 z size by' R.ht hi hz0 hz1 hz2 R.hzs R.hsz _ 0 [] (World.ownsRow_nil w w.heap.size e size) ad m c news hsrc.hl hnc hsrc.h1 hml hbytes (Nat.le_refl _)
    exact ⟨v', w', hrun, own_base r1 (fun g hg => Nat.le_trans hbase ((r1.lt g hg).1)), .inr ⟨new r1 (Nat.le_refl _), r2⟩⟩
  · by_cases hroom : n + m ≤ cap
    · obtain ⟨w', hrun, r1, r2⟩ := run_append_fits (P := P) w base t ot e i0 size R.ht hi hz1 g n cap xs hown ad m c news hsrc.hl hnc hsrc.h1 hroom
      exact ⟨_, w', hrun, r1, .inl ⟨g, n, cap, n + m, rfl, rfl, r2⟩⟩
    · obtain ⟨v', w', hrun, r1, r2⟩ := run_append_arg_grows (P := P) w t ot e i0 z size by' R.ht hi hz0 hz1 hz2 R.hzs R.hsz ⟨g, 0, none⟩ n cap xs hown.1 (hown.cells rfl) ad m c news hsrc.hl hnc (by omega) hml hbytes
      exact ⟨v', w', hrun, own_base r1 (fun g hg => Nat.le_trans hbase ((r1.lt g hg).1)), .inr ⟨new r1 (Nat.le_refl _), r2⟩⟩
theorem wplIn_app (R : RowTy P t e z size by') (hg : o.guard = none) (s x : Operand) (hop : o.op = Op.call { callee := Callee.builtin Builtin.append, args := #[s, x], argTypes := #[t, t] })
    {base n : Nat} {v : Value} {xs : List Value} (hown : w.ownsRow base e size v n xs) {ad : Addr} {m c : Nat} {news : List Value} (hsrc : SrcRow w (some ad) m c news size)
    (hs : a.eval s = v) (hx : a.eval x = .slice (some ad) m c) (hm : 0 < m) (h63 : n + m ≤ 9223372036854775807) (hbytes : (n + m) * by' ≤ 140737488355328) (hbase : base ≤ w.heap.size)
    (hK : ∀ v' w', w'.ownsRow base e size v' (n + m) (xs ++ news) → Ch w w' (fun k => v.ownBlock = some k) → (∀ k, v'.ownBlock = some k → v.ownBlock = some k ∨ w.heap.size ≤ k) → wpListIn F k P ops Q rest (a.put o.dst v') w') :
    wpListIn F k P ops Q (o :: rest) a w := by
  refine wpListIn_plain hg fun K hK' => ?_
  obtain ⟨v', w', hrun, r1, r2⟩ := run_app R o.type hown hsrc hm h63 hbytes hbase
  unfold Oper.wpIn
  refine ⟨?_, ?_⟩
  · simp [Oper.about, hop, resolve, Target.leads, Sem.run_pure]
  · rw [Oper.semAt_plain F _ _ (by rw [hop]; intro c hc'; cases hc')]
    simp [execOp, hop, resolve, invoke, builtin, hs, hx, hrun, Result.andThen]
    exact hK' _ _ (hK v' w' r1 (Ch.step r2) r2.block)
theorem wplIn_make_full (R : RowTy P t e z size by') (hg : o.guard = none) (l c : Operand) (hop : o.op = Op.makeSlice t l c) (base : Nat)
    (kl kc : IntKind) (L C : Int) (n : Nat) (hl : a.eval l = .int kl L) (hc : a.eval c = .int kc C) (hL : L = (n : Int)) (hC : C = (n : Int)) (b2 : by' * n ≤ 281474976710656) (b3 : n ≤ 9223372036854775807) (b4 : base ≤ w.heap.size)
    (hK : ∀ w', w'.ownsRow base e size (.slice (some ⟨w.heap.size, 0, none⟩) n n) n (madeCells z.cells (n * size)).toList → w.grownBy w' none → wpListIn F k P ops Q rest (a.put o.dst (.slice (some ⟨w.heap.size, 0, none⟩) n n)) w') :
    wpListIn F k P ops Q (o :: rest) a w := by
  obtain ⟨i0, hi, hz0, hz1, hz2⟩ := info_parts R.info
  subst hz2
  refine wpListIn_plain hg fun K hK' => ?_
  obtain ⟨w', hrun, r1, r2⟩ := run_make_full (P := P) w base t e i0 z size R.ht hi hz0 hz1 kl kc n b2 (by unfold maxLen; omega) b4
  subst hL
  subst hC
  unfold Oper.wpIn
  refine ⟨?_, ?_⟩
  · simp [Oper.about, hop]
  · rw [Oper.semAt_plain F _ _ (by rw [hop]; intro c hc'; cases hc')]
    simp [execOp, hop, hl, hc, hrun, Result.andThen]
    exact hK' _ _ (hK w' r1 r2)
end
theorem made_all (zs : Array Value) (n : Nat) (u : Value) (hz : 0 < zs.size) (h : ∀ i, i < zs.size → zs[i]! = u) : (madeCells zs n).toList = List.replicate n u := by
  rw [List.eq_replicate_iff]
  refine ⟨by rw [Array.length_toList, size_madeCells], fun b hb => ?_⟩
  simp only [madeCells, Array.toList_map, List.mem_map] at hb
  obtain ⟨i, _, rfl⟩ := hb
  exact h _ (Nat.mod_lt _ hz)
end Go.Proofs.YtpoilaappcjbeaaGreatDoor
end

section
namespace Go.Proofs.YtpoilaappcjbeaaGreatDoor
open Go.RowKit

/-- A token: its length and its distance. -/
abbrev Tok := Int × Int
namespace Tk
def isTok (t : Tok) : Bool := if t.1 = 0 then decide (0 ≤ t.2 ∧ t.2 ≤ 255) else decide (3 ≤ t.1 ∧ t.1 ≤ 258 ∧ 1 ≤ t.2 ∧ t.2 ≤ 32768)
/-- The last byte but so many. -/
def bk (d : Nat) (l : List UInt8) : UInt8 := l.getD (l.length - d) 0
/-- So many bytes more, each as the one that is so far behind. -/
def cp (d : Nat) (l : List UInt8) : Nat → List UInt8
  | 0 => l
  | n + 1 => cp d l n ++ [bk d (cp d l n)]
theorem cp_length (d : Nat) (l : List UInt8) : ∀ n, (cp d l n).length = l.length + n
  | 0 => rfl
  | n + 1 => by rw [cp, List.length_append, cp_length d l n]; simp; omega
def size (t : Tok) : Nat := if t.1 = 0 then 1 else t.1.toNat
def put (l : List UInt8) (t : Tok) : List UInt8 := if t.1 = 0 then l ++ [UInt8.ofNat t.2.toNat] else cp t.2.toNat l t.1.toNat
/-- A token that is one is added: an error's number (0: none), and what there is then. -/
def add (most : Nat) (l : List UInt8) (t : Tok) : Int × List UInt8 :=
  if t.1 ≠ 0 ∧ (l.length : Int) < t.2 then (2, []) else if most < l.length + size t then (4, []) else (0, put l t)
def stp (most : Nat) (l : List UInt8) (t : Tok) : Int × List UInt8 := if isTok t then add most l t else (6, [])
/-- What the first k come to. -/
def upto (most : Nat) (ts : List Tok) : Nat → Int × List UInt8
  | 0 => (0, [])
  | k + 1 => if (upto most ts k).1 = 0 then stp most (upto most ts k).2 (ts.getD k (0, 0)) else upto most ts k
theorem upto_next {most : Nat} {ts : List Tok} {k : Nat} {l : List UInt8} (h : upto most ts k = (0, l)) : upto most ts (k + 1) = stp most l (ts.getD k (0, 0)) := by rw [upto, h]; rfl
theorem upto_stuck {most : Nat} {ts : List Tok} {k : Nat} (h : (upto most ts k).1 ≠ 0) : ∀ n, k ≤ n → upto most ts n = upto most ts k
  | 0, hn => by obtain rfl : k = 0 := by omega
                rfl
  | n + 1, hn => by
    by_cases e : k = n + 1
    · rw [e]
    · have ih := upto_stuck h n (by omega)
      rw [upto, ih, if_neg h]
theorem upto_err {most : Nat} {ts : List Tok} {k : Nat} {l m : List UInt8} {n : Int} (h : upto most ts k = (0, l)) (h2 : stp most l (ts.getD k (0, 0)) = (n, m)) (hn : n ≠ 0) (hk : k < ts.length) : upto most ts ts.length = (n, m) := by
  have e := upto_next h
  rw [h2] at e
  rw [upto_stuck (k := k + 1) (by rw [e]; exact hn) _ (by omega), e]
/-- What tokens come to. -/
def exp (most : Int) (ts : List Tok) : Int × List UInt8 := if 0 ≤ most ∧ most ≤ 4194304 then upto most.toNat ts ts.length else (7, [])
theorem put_length (l : List UInt8) (t : Tok) : (put l t).length = l.length + size t := by
  unfold put size
  split
  · simp
  · rw [cp_length]
theorem add_le {most : Nat} {l m : List UInt8} {t : Tok} (h : add most l t = (0, m)) : m.length ≤ most := by
  unfold add at h
  split at h
  · simp at h
  split at h
  · simp at h
  · simp only [Prod.mk.injEq, true_and] at h
    rw [← h, put_length]; omega
theorem upto_le (most : Nat) (ts : List Tok) : ∀ k l, upto most ts k = (0, l) → l.length ≤ most
  | 0, l, h => by simp only [upto, Prod.mk.injEq, true_and] at h; subst h; simp
  | k + 1, l, h => by
    rw [upto] at h
    split at h
    · unfold stp at h
      split at h
      · exact add_le h
      · simp at h
    · rename_i hne; rw [h] at hne; exact absurd rfl hne
theorem tok_range {t : Tok} (h : isTok t = true) : 0 ≤ t.1 ∧ t.1 ≤ 258 ∧ 0 ≤ t.2 ∧ t.2 ≤ 32768 ∧ (t.1 = 0 → t.2 ≤ 255) ∧ (t.1 ≠ 0 → 3 ≤ t.1 ∧ 1 ≤ t.2) := by
  unfold isTok at h
  split at h
  · have := of_decide_eq_true h; omega
  · have := of_decide_eq_true h; omega
end Tk
/-- Tokens as cells. -/
def tks (l : List Tok) : List Value := l.flatMap fun o => [.int .i64 o.1, .int .i64 o.2]
theorem tks_length (l : List Tok) : (tks l).length = l.length * 2 := by
  induction l with
  | nil => rfl
  | cons o l ih => simp only [tks, List.flatMap_cons, List.length_append, List.length_cons, List.length_nil] at *; omega
theorem tks_append (l m : List Tok) : tks (l ++ m) = tks l ++ tks m := by simp [tks]
theorem tks_get (l : List Tok) : ∀ i, i < l.length → (tks l)[i * 2]? = some (.int .i64 (l.getD i (0, 0)).1) ∧ (tks l)[i * 2 + 1]? = some (.int .i64 (l.getD i (0, 0)).2) := by
  induction l with
  | nil => intro i hi; simp at hi
  | cons c cs ih =>
    intro i hi
    have e : tks (c :: cs) = .int .i64 c.1 :: .int .i64 c.2 :: tks cs := rfl
    rw [e]
    cases i with
    | zero => exact ⟨rfl, rfl⟩
    | succ i =>
      have := ih i (by simp at hi; omega)
      have e3 : (i + 1) * 2 = i * 2 + 2 := by omega
      rw [e3]
      exact this
theorem tks_one (l : List Tok) : ∀ u ∈ tks l, u.oneCell' = true := by
  intro u hu
  simp only [tks, List.mem_flatMap] at hu
  obtain ⟨o, _, ho⟩ := hu
  simp at ho
  rcases ho with rfl | rfl <;> rfl
/-- A slice of tokens that reads as l. -/
structure Ts2 (w : World) (a : Option Addr) (len cap : Nat) (l : List Tok) : Prop where
  hlen : l.length = len
  hle : len ≤ cap
  hnil : a = none → cap = 0
  at' : ∀ i, i < len → ∃ b off, a = some ⟨b, off, none⟩ ∧ b < w.heap.size ∧ w.cell? ⟨b, off + i * 2, none⟩ = some (.int .i64 (l.getD i (0, 0)).1) ∧ w.cell? ⟨b, off + i * 2 + 1, none⟩ = some (.int .i64 (l.getD i (0, 0)).2)
  wf : ∀ i, i < len → (Lit.int .i64 (l.getD i (0, 0)).1).wf = true ∧ (Lit.int .i64 (l.getD i (0, 0)).2).wf = true
theorem Ts2.mono {w w' : World} {a : Option Addr} {len cap : Nat} {l : List Tok} (h : Ts2 w a len cap l) (hb : Below w.heap.size w w') : Ts2 w' a len cap l :=
  ⟨h.hlen, h.hle, h.hnil, fun i hi => by
    obtain ⟨b, off, e, hlt, c0, c1⟩ := h.at' i hi
    exact ⟨b, off, e, Nat.lt_of_lt_of_le hlt hb.size, by rw [hb.cell (p := ⟨b, off + i * 2, none⟩) hlt]; exact c0, by rw [hb.cell (p := ⟨b, off + i * 2 + 1, none⟩) hlt]; exact c1⟩, h.wf⟩
theorem Ts2.src {w : World} {a : Option Addr} {len cap : Nat} {l : List Tok} (h : Ts2 w a len cap l) : SrcRow w a len cap (tks l) 2 := by
  refine ⟨by rw [tks_length, h.hlen], fun e => ?_, fun ad e j u hu => ?_, tks_one l⟩
  · have := h.hnil e; have := h.hle; omega
  · have hj : j < (tks l).length := (List.getElem?_eq_some_iff.1 hu).1
    rw [tks_length, h.hlen] at hj
    obtain ⟨b, off, e2, _, c0, c1⟩ := h.at' (j / 2) (by omega)
    rw [e] at e2
    obtain rfl := Option.some.inj e2
    obtain ⟨t0, t1⟩ := tks_get l (j / 2) (by rw [h.hlen]; omega)
    rw [Addr.add_mid]
    rcases Nat.mod_two_eq_zero_or_one j with h0 | h0
    · have ej : j = j / 2 * 2 := by omega
      rw [ej] at hu ⊢
      have e4 : j / 2 * 2 / 2 = j / 2 := by omega
      rw [t0] at hu
      rw [c0]; exact hu
    · have ej : j = j / 2 * 2 + 1 := by omega
      rw [ej] at hu ⊢
      rw [t1] at hu
      rw [← Nat.add_assoc, c1]; exact hu
end Go.Proofs.YtpoilaappcjbeaaGreatDoor
end

section
namespace Go.Proofs.YtpoilaappcjbeaaGreatDoor
open Go.RowKit

theorem tyT : RowTy Tryz.prog 23 59 (.agg #[.int .i64 0, .int .i64 0]) 2 16 := ⟨Tryz.underlying23, by kernel_rfl, rfl, by omega⟩
theorem src_tok (w : World) (t : Tok) : SrcRow (w.alloc (.cells #[.int .i64 t.1, .int .i64 t.2] 59)) (some ⟨w.heap.size, 0, none⟩) 1 1 (tks [t]) 2 :=
  src_new w #[.int .i64 t.1, .int .i64 t.2] 59 1 1 2 rfl (by intro u hu; simp at hu; rcases hu with rfl | rfl <;> rfl)
/-- A row of tokens of the call's own reads as its tokens. -/
theorem own_ts2 {w : World} {base n : Nat} {v : Value} {l : List Tok} (h : w.ownsRow base 59 2 v n (tks l)) (hw : ∀ i, i < n → (Lit.int .i64 (l.getD i (0, 0)).1).wf = true ∧ (Lit.int .i64 (l.getD i (0, 0)).2).wf = true) :
    ∃ a cap, v = .slice a n cap ∧ Ts2 w a n cap l := by
  have hn : l.length = n := by have := h.1; rw [tks_length] at this; omega
  rcases own_nil_or h with ⟨rfl, rfl⟩ | ⟨g, cap, rfl, hle, _⟩
  · exact ⟨none, 0, rfl, hn, Nat.le_refl _, fun _ => rfl, fun i hi => absurd hi (by omega), hw⟩
  · refine ⟨_, cap, rfl, hn, hle, fun e => by simp at e, fun i hi => ⟨g, 0, rfl, (h.lt g rfl).2, ?_⟩, hw⟩
    obtain ⟨t0, t1⟩ := tks_get l i (by omega)
    rw [Nat.zero_add, h.cellAt (i * 2) (by omega), h.cellAt (i * 2 + 1) (by omega)]
    exact ⟨t0, t1⟩
end Go.Proofs.YtpoilaappcjbeaaGreatDoor
end

section
namespace Go.Proofs.YtpoilaappcjbeaaGreatDoor
open Go

section
variable {P : Program} {ops : Array Oper} {Q : Exit → Act → World → Prop} {md : Region.Mode} {S : World → Prop} {n : Nat}
/-- Whatever order is picked; S holds behind every operation but the n-th. -/
def anyJ (P : Program) (md : Region.Mode) (ops : Array Oper) (Q : Exit → Act → World → Prop) (S : World → Prop) (n : Nat) : Nat → Array Bool → Act → World → Prop
  | 0, listed, a, w => Region.ready md ops listed = [] ∧ Q .normal a w
  | fuel + 1, listed, a, w =>
    (Region.ready md ops listed = [] → Q .normal a w) ∧
    ∀ i ∈ Region.ready md ops listed, wpOp P ops Q i (fun a' w' => (i ≠ n → S w') ∧ anyJ P md ops Q S n fuel (listed.setIfInBounds i true) a' w') a w
theorem any_of_J : ∀ (fuel : Nat) (listed : Array Bool) (a : Act) (w : World), anyJ P md ops Q S n fuel listed a w → wpAny P md ops Q fuel listed a w
  | 0, _, _, _, h => h
  | fuel + 1, _, _, _, h => ⟨h.1, fun i hi => wpOp_mono (fun a' w' h' => any_of_J fuel _ a' w' h'.2) (h.2 i hi)⟩
theorem J_first {i : Nat} {oi : Oper} {v : Value} (hi : ops[i]? = some oi) (hsel : ∀ (j : Nat) (o : Oper) cs b, ops[j]? = some o → o.op ≠ .select cs b)
    (hQ : ∀ c a w, Q (.panic c) (a.put oi.dst v) w → Q (.panic c) a w) (hn : Region.waitsFor md ops n i = true) :
    ∀ (fuel : Nat) (listed : Array Bool) (a : Act) (w : World),
      (∀ j oj, ops[j]? = some oj → j ≠ i → listed.getD j true = false → (∀ e ∈ oj.after, Region.binds md e = true → e.on ≠ i) → oi.apart ops oj = true) →
      i ∈ Region.ready md ops listed → YieldsIf P ops S oi v a → S w →
      anyJ P md ops Q S n fuel (listed.setIfInBounds i true) (a.put oi.dst v) w → anyJ P md ops Q S n (fuel + 1) listed a w := by
  intro fuel
  induction fuel with
  | zero =>
    intro listed a w _ hr hy hS H
    refine ⟨fun h => (by rw [h] at hr; cases hr), fun j hj => ?_⟩
    by_cases hji : j = i
    · subst hji; exact hy.wpOp hi hS ⟨fun _ => hS, H⟩
    · have := ready_mono hj hji
      rw [H.1] at this
      cases this
  | succ fuel ih =>
    intro listed a w hfree hr hy hS H
    refine ⟨fun h => (by rw [h] at hr; cases hr), fun j hj => ?_⟩
    by_cases hji : j = i
    · subst hji; exact hy.wpOp hi hS ⟨fun _ => hS, H⟩
    · have h1 := H.2 j (ready_mono hj hji)
      obtain ⟨hjun, oj, hoj, hall⟩ := mem_ready.1 hj
      have hnot : ∀ e ∈ oj.after, Region.binds md e = true → e.on ≠ i := fun e he hb heq => by
        have h1 := hall e he hb
        have h0 := (mem_ready.1 hr).1
        rw [heq] at h1
        rcases Nat.lt_or_ge i listed.size with h' | h'
        · simp [h'] at h0 h1; rw [h0] at h1; cases h1
        · simp [Array.getElem?_eq_none h'] at h1
      have hjn : j ≠ n := fun e => by
        subst e
        obtain ⟨o2, ho2, e2, he2, hb2, hon⟩ := Region.waitsFor_spec hn
        rw [hoj] at ho2
        cases ho2
        exact hnot e2 he2 hb2 hon
      have h2 := wpOp_putIf hoj (hfree j oj hoj hji hjun hnot) (fun cs b => hsel i oi cs b hi) (fun cs b => hsel j oj cs b hoj) hQ hy h1
      have hfree' : ∀ k ok, ops[k]? = some ok → k ≠ i → (listed.setIfInBounds j true).getD k true = false →
          (∀ e ∈ ok.after, Region.binds md e = true → e.on ≠ i) → oi.apart ops ok = true := fun k ok hk hki hun hno => by
        refine hfree k ok hk hki ?_ hno
        by_cases hjk : j = k
        · subst hjk; exact hjun
        · rw [getD_set_ne true hjk] at hun; exact hun
      refine wpOp_mono (fun a' w' h3 => ⟨h3.2.1, ih (listed.setIfInBounds j true) a' w' hfree' (ready_mono hr (Ne.symm hji)) h3.1 (h3.2.1 hjn) ?_⟩) h2
      rw [Array.setIfInBounds_comm _ _ hji]
      exact h3.2.2
/-- Number i is taken first. -/
theorem J_take {i : Nat} {oi : Oper} {v : Value} {fuel : Nat} {listed : Array Bool} {a : Act} {w : World} (hi : ops[i]? = some oi)
    (hs : Region.noSelect ops = true) (hf : Region.free md ops listed i = true) (hr : (Region.ready md ops listed).contains i = true) (hn : Region.waitsFor md ops n i = true)
    (hQ : ∀ c a w, Q (.panic c) (a.put oi.dst v) w → Q (.panic c) a w) (hS : S w) (hw : Region.wanted oi (yielded ops a.tmps) = true) (hy : ∀ w, S w → (execOp a.eval oi).run P w = .ok (.value v) w)
    (h : anyJ P md ops Q S n fuel (listed.setIfInBounds i true) (a.put oi.dst v) w) : anyJ P md ops Q S n (fuel + 1) listed a w :=
  J_first hi (Region.noSelect_spec hs) hQ hn fuel listed a w (Region.free_spec hi hf) (by simpa using hr) (.inl ⟨hw, hy⟩) hS h
/-- One alone may come up. -/
theorem J_step {i : Nat} {o : Oper} {fuel : Nat} {listed : Array Bool} {a : Act} {w : World} (hr : Region.ready md ops listed = [i]) (ho : ops[i]? = some o)
    (h : ∀ K' : Act → World → Prop, Shut (∀ a w, (i ≠ n → S w) → ((i ≠ n → S w) → anyJ P md ops Q S n fuel (listed.setIfInBounds i true) a w) → K' a w) → if Region.wanted o (yielded ops a.tmps) = true then Oper.wp P o a w K' Q else K' (a.put o.dst undef) w) :
    anyJ P md ops Q S n (fuel + 1) listed a w := by
  refine ⟨fun h0 => (by rw [hr] at h0; cases h0), fun j hj => ?_⟩
  rw [hr] at hj
  obtain rfl : j = i := by simpa using hj
  exact wpOp_step ho (fun K' hK => h K' (fun a w hS hW => hK a w ⟨hS, hW hS⟩))
theorem J_done {listed : Array Bool} {a : Act} {w : World} (hr : Region.ready md ops listed = []) (h : Q .normal a w) : ∀ fuel, anyJ P md ops Q S n fuel listed a w
  | 0 => ⟨hr, h⟩
  | _ + 1 => ⟨fun _ => h, by rw [hr]; simp⟩
theorem region_J {id : Nat} {a : Act} {w : World} (n : Nat) (S : World → Prop) (hm : P.follows .mixedOrders = true) (h : anyJ P .any ops Q S n ops.size (Array.replicate ops.size false) a w.drew) : (Code.region id ops true).wp P Q a w :=
  wp_region_any hm (any_of_J _ _ _ _ h)
end
end Go.Proofs.YtpoilaappcjbeaaGreatDoor
end
