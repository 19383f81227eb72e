/- Lists of bytes in memory of the call's own, each in a block of its own: what a store and an append do to them. Slices of numbers of the call's own. Small words on slices of numbers. Runs of lengths, and what they come to. Drawn worlds. block.alike: its contract. Runs that stand for so many of one length. Which runs a stretch is laid in. -/
import Derived.Test.YtpoilaappcjbeaaGreatDoorZ1
import Derived.Test.YtpoilaappcjbeaaGreatDoorProg
import Derived.Deep.QuietTactic
import Derived.BigQuiet
set_option linter.unusedSimpArgs false
set_option linter.unusedVariables false
section
namespace Go.Proofs.YtpoilaappcjbeaaGreatDoor
open Go.RowKit

theorem own_nil_or {w : World} {base : Nat} {e : TypeId} {size : Nat} {v : Value} {n : Nat} {xs : List Value} (h : w.ownsRow base e size v n xs) :
    (v = .slice none 0 0 ∧ n = 0) ∨ ∃ g cap, v = .slice (some ⟨g, 0, none⟩) n cap ∧ n ≤ cap ∧ base ≤ g ∧ g < w.heap.size ∧ cap ≤ 9223372036854775807 := by
  rcases h.2 with h' | ⟨g, cap, cur, rfl, hb, hg, hnc, hm, _⟩
  · exact .inl h'
  · exact .inr ⟨g, cap, rfl, hnc, hb, (Array.getElem?_eq_some_iff.1 hg).1, by unfold maxLen at hm; omega⟩
/-- A row that the call owns, as a slice whose cells can be read. -/
theorem own_slice {w : World} {base : Nat} {e : TypeId} {v : Value} {n : Nat} {xs : List Value} (h : w.ownsRow base e 1 v n xs) :
    ∃ a cap, v = .slice a n cap ∧ ∀ j, j < n → ∃ g, a = some ⟨g, 0, none⟩ ∧ w.cell? ⟨g, j, none⟩ = xs[j]? := by
  rcases own_nil_or h with ⟨rfl, rfl⟩ | ⟨g, cap, rfl, _⟩
  · exact ⟨none, 0, rfl, fun j hj => absurd hj (by omega)⟩
  · exact ⟨_, cap, rfl, fun j hj => ⟨g, rfl, h.cellAt j (by omega)⟩⟩
/-- A shorter slice of the same row. -/
theorem own_prefix {w : World} {base : Nat} {e : TypeId} {g n cap : Nat} {xs : List Value} (h : w.ownsRow base e 1 (.slice (some ⟨g, 0, none⟩) n cap) n xs) (k : Nat) (hk : k ≤ n) :
    w.ownsRow base e 1 (.slice (some ⟨g, 0, none⟩) k cap) k (xs.take k) := by
  have hl := h.1
  rcases h.2 with ⟨h', _⟩ | ⟨g', cap', cur, h', hb, hg, hnc, hm, hs, ht⟩
  · simp at h'
  · simp only [Value.slice.injEq, Option.some.injEq, Addr.mk.injEq, and_true, true_and] at h'
    obtain ⟨rfl, rfl⟩ := h'
    refine ⟨by simp; omega, .inr ⟨g, cap, cur, rfl, hb, hg, by omega, hm, hs, ?_⟩⟩
    rw [← ht, List.take_take]
    congr 1; omega
theorem own_base {w : World} {base base' : Nat} {e : TypeId} {size : Nat} {v : Value} {n : Nat} {xs : List Value} (h : w.ownsRow base e size v n xs) (hb : ∀ g, v.ownBlock = some g → base' ≤ g) : w.ownsRow base' e size v n xs := by
  obtain ⟨h1, h2⟩ := h
  refine ⟨h1, ?_⟩
  rcases h2 with h2 | ⟨g, cap, cur, rfl, hg, r⟩
  · exact .inl h2
  · exact .inr ⟨g, cap, cur, rfl, hb g rfl, r⟩

theorem cell_set_other {w : World} {g j : Nat} {u : Value} {b o : Nat} (h : b ≠ g) : (w.setCell ⟨g, j, none⟩ u).cell? ⟨b, o, none⟩ = w.cell? ⟨b, o, none⟩ :=
  World.cell?_of_block (w := w) (heap_setCell_other w ⟨g, j, none⟩ b u h)
/-- What an append leaves: written in place, or a new row. -/
def Step (w w' : World) (v v' : Value) : Prop :=
  (∃ g k cap k', v = .slice (some ⟨g, 0, none⟩) k cap ∧ v' = .slice (some ⟨g, 0, none⟩) k' cap ∧ w.grownBy w' (some g)) ∨
  ((∃ g, v'.ownBlock = some g ∧ w.heap.size ≤ g) ∧ w.grownBy w' none)
theorem Step.below {w0 w w' : World} {B : Nat} {v v' : Value} (h : Step w w' v v') (hb : Below B w0 w) (hB : B ≤ w.heap.size) (hv : ∀ g, v.ownBlock = some g → B ≤ g) : Below B w0 w' := by
  rcases h with ⟨g, k, cap, k', rfl, _, hg⟩ | ⟨_, hg⟩
  · exact hb.grown hg hB (fun k hk => by cases hk; exact hv g rfl)
  · exact hb.grown hg hB (by simp)
theorem Step.size {w w' : World} {v v' : Value} (h : Step w w' v v') : w.heap.size ≤ w'.heap.size := by
  rcases h with ⟨_, _, _, _, _, _, hg⟩ | ⟨_, hg⟩ <;> exact hg.size
/-- Another row stays. -/
theorem Step.other {w w' : World} {v v' u : Value} {base : Nat} {e : TypeId} {size n : Nat} {xs : List Value} (h : Step w w' v v') (hu : w.ownsRow base e size u n xs) (hne : ∀ g, u.ownBlock = some g → v.ownBlock ≠ some g) : w'.ownsRow base e size u n xs := by
  rcases h with ⟨g, k, cap, k', rfl, _, hg⟩ | ⟨_, hg⟩
  · refine hu.kept hg ?_
    cases hub : u.ownBlock with
    | none => exact .inl rfl
    | some x => right; intro he; cases he; exact hne g hub rfl
  · exact hu.kept hg (by cases u.ownBlock <;> simp)
/-- The new value's block is none of the old blocks but its own. -/
theorem Step.block {w w' : World} {v v' : Value} (h : Step w w' v v') : ∀ g, v'.ownBlock = some g → v.ownBlock = some g ∨ w.heap.size ≤ g := by
  intro g hg
  rcases h with ⟨g', k, cap, k', rfl, rfl, _⟩ | ⟨⟨g', h1, h2⟩, _⟩
  · exact .inl hg
  · rw [h1] at hg; cases hg; exact .inr h2
theorem Step.cell {w w' : World} {v v' : Value} (h : Step w w' v v') {a : Addr} {u : Value} (hc : w.cell? a = some u) (hne : v.ownBlock ≠ some a.block) : w'.cell? a = some u := by
  rcases h with ⟨g, k, cap, k', rfl, _, hg⟩ | ⟨_, hg⟩
  · exact hg.cell hc (fun e => hne e.symm)
  · exact hg.cell hc (by simp)

section
variable {P : Program} {w : World} {ops : Array Oper} {rest : List Oper} {o : Oper} {a : Act} {Q : Exit → Act → World → Prop}
variable {t e : TypeId} {z : Value} {size by' : Nat}
theorem wpl_append2 (R : RowTy P t e z size by') (hg : o.guard = none) (s x : Operand) (hop : o.op = Op.call { callee := Callee.builtin Builtin.append, args := #[s, x], argTypes := #[t, t] })
    {base n : Nat} {v : Value} {xs : List Value} (hown : w.ownsRow base e size v n xs) {ad : Addr} {m c : Nat} {news : List Value} (hsrc : SrcRow w (some ad) m c news size)
    (hs : a.eval s = v) (hx : a.eval x = .slice (some ad) m c) (hm : 0 < m) (h63 : n + m ≤ 9223372036854775807) (hbytes : (n + m) * by' ≤ 140737488355328) (hbase : base ≤ w.heap.size)
    (hK : ∀ v' w', w'.ownsRow base e size v' (n + m) (xs ++ news) → Step w w' v v' → wpList P ops Q rest (a.put o.dst v') w') :
    wpList P ops Q (o :: rest) a w := by
  obtain ⟨i0, hi, hz0, hz1, hz2⟩ := info_parts R.info
  have hnc := hsrc.hc ad rfl
  have hml : n + m ≤ maxLen := by unfold maxLen; omega
  have fin : ∀ (v' : Value) (w' : World), (Builtin.append_ #[t, t] o.type #[v, .slice (some ad) m c]).run P w = .ok v' w' → w'.ownsRow base e size v' (n + m) (xs ++ news) → Step w w' v v' → wpList P ops Q (o :: rest) a w := by
    intro v' w' hrun h1 h2
    refine wpList_plain hg fun K hK' => ?_
    unfold Oper.wp
    simp [execOp, hop, resolve, invoke, builtin, hs, hx, hrun, Result.andThen]
    exact hK' _ _ (hK v' w' h1 h2)
  rcases own_nil_or hown with ⟨rfl, rfl⟩ | ⟨g, cap, rfl, hle, hbg, hgl, hcap⟩
  · have hx0 : xs = [] := List.eq_nil_of_length_eq_zero (by have := hown.1; simpa using this)
    subst hx0
    have hown0 := World.ownsRow_nil w w.heap.size e size
    obtain ⟨v', w', hrun, r1, r2, _⟩ := run_append_own (P := P) w w.heap.size t o.type e i0 z size by' R.ht hi hz0 hz1 hz2 R.hzs R.hsz _ 0 [] hown0 ad m c news hsrc.hl hnc hsrc.h1 hml hbytes (Nat.le_refl _)
    have hb : ∃ g, v'.ownBlock = some g ∧ w.heap.size ≤ g := by
      rcases own_nil_or r1 with ⟨_, h⟩ | ⟨g, cap, rfl, _, h, _⟩
      · omega
      · exact ⟨g, rfl, h⟩
    exact fin v' w' hrun (own_base r1 (fun g hg => Nat.le_trans hbase ((r1.lt g hg).1))) (.inr ⟨hb, r2⟩)
  · by_cases hroom : n + m ≤ cap
    · obtain ⟨w', hrun, r1, r2⟩ := run_append_fits (P := P) w base t o.type e i0 size R.ht hi hz1 g n cap xs hown ad m c news hsrc.hl hnc hsrc.h1 hroom
      exact fin _ w' hrun r1 (.inl ⟨g, n, cap, n + m, rfl, rfl, r2⟩)
    · obtain ⟨v', w', hrun, r1, r2⟩ := run_append_arg_grows (P := P) w t o.type e i0 z size by' R.ht hi hz0 hz1 hz2 R.hzs R.hsz ⟨g, 0, none⟩ n cap xs hown.1 (hown.cells rfl) ad m c news hsrc.hl hnc (by omega) hml hbytes
      have hb : ∃ g, v'.ownBlock = some g ∧ w.heap.size ≤ g := by
        rcases own_nil_or r1 with ⟨_, h⟩ | ⟨g, cap, rfl, _, h, _⟩
        · omega
        · exact ⟨g, rfl, h⟩
      exact fin v' w' hrun (own_base r1 (fun g hg => Nat.le_trans hbase ((r1.lt g hg).1))) (.inr ⟨hb, r2⟩)
end

namespace Ap
/-- What list k is marked with at place j; up to n. -/
def pby (k j : Nat) : UInt8 := UInt8.ofNat (29 * k + 5 * j + 3)
def pat (k n : Nat) : List UInt8 := (List.range n).map fun j => pby k j
theorem pat_length (k n : Nat) : (pat k n).length = n := by simp [pat]
theorem gb_pat (k n j : Nat) (h : j < n) : gb (pat k n) j = (29 * k + 5 * j + 3) % 256 := by
  simp [gb, pat, pby, List.getD, List.getElem?_map, List.getElem?_range h]
theorem pat_succ (k n : Nat) : pat k (n + 1) = pat k n ++ [pby k n] := by simp [pat, List.range_succ]
theorem pat_take (k n m : Nat) (h : m ≤ n) : (pat k n).take m = pat k m := by
  simp [pat, ← List.map_take, List.take_range, Nat.min_eq_left h]
/-- List k while it is marked. -/
def half (k j : Nat) (l : List UInt8) : List UInt8 := pat k j ++ l.drop j
theorem half_zero (k : Nat) (l : List UInt8) : half k 0 l = l := by simp [half, pat]
theorem half_full (k : Nat) (l : List UInt8) : half k l.length l = pat k l.length := by simp [half]
theorem half_set (k j : Nat) (l : List UInt8) (h : j < l.length) : (half k j l).set j (pby k j) = half k (j + 1) l := by
  unfold half
  rw [List.set_append_right _ _ (by simp [pat_length]), pat_length, Nat.sub_self, pat_succ, List.append_assoc]
  congr 1
  rw [List.drop_eq_getElem_cons h, List.set_cons_zero]
  rfl
end Ap
theorem bvs_set (l : List UInt8) (j n : Nat) : (bvs l).set j (.int .u8 ((n % 256 : Nat) : Int)) = bvs (l.set j (UInt8.ofNat n)) := by
  simp [bvs, List.map_set]

/-- All lists, each with what it reads as. -/
def Ls (w : World) (B : Nat) (e : TypeId) (ss : List Sl) (c : Nat → List UInt8) : Prop :=
  ∀ i, i < ss.length → w.ownsRow B e 1 (nth ss i).val (nth ss i).len (bvs (c i))
/-- Each in a block of its own. -/
def Dj (ss : List Sl) : Prop := ∀ i j, i < ss.length → j < ss.length → i ≠ j → ∀ g, (nth ss i).val.ownBlock = some g → (nth ss j).val.ownBlock ≠ some g
theorem Ls.congr {w : World} {B : Nat} {e : TypeId} {ss : List Sl} {c c' : Nat → List UInt8} (h : Ls w B e ss c) (hc : ∀ i, i < ss.length → c i = c' i) : Ls w B e ss c' :=
  fun i hi => by rw [← hc i hi]; exact h i hi
theorem Ls.store {w : World} {B : Nat} {e : TypeId} {ss : List Sl} {c : Nat → List UInt8} (h : Ls w B e ss c) (hd : Dj ss) (k : Nat) (hk : k < ss.length) (g len cap : Nat) (hs : (nth ss k).val = .slice (some ⟨g, 0, none⟩) len cap) (hl : (nth ss k).len = len) (j n : Nat) (y : UInt8) (hy : y = UInt8.ofNat n) :
    Ls (w.setCell ⟨g, j, none⟩ (.int .u8 ((n % 256 : Nat) : Int))) B e ss (fun i => if i = k then (c k).set j y else c i) := by
  subst hy
  intro i hi
  by_cases e : i = k
  · subst e
    simp only [if_true]
    have h1 := h i hi
    rw [hs, hl] at h1 ⊢
    rw [← bvs_set]
    exact (h1.stored j _).1
  · simp only [if_neg e]
    have h1 := h k hk
    rw [hs, hl] at h1
    refine (h i hi).kept (h1.stored j _).2 ?_
    cases hub : (nth ss i).val.ownBlock with
    | none => exact .inl rfl
    | some x =>
      right; intro he; cases he
      exact hd i k hi hk e g hub (by rw [hs]; rfl)

/-- The outer slice's cells. -/
def Outer (w : World) (ob off : Nat) (ss : List Sl) : Prop := ∀ i, i < ss.length → w.cell? ⟨ob, off + i, none⟩ = some (.slice (nth ss i).a (nth ss i).len (nth ss i).cap)
/-- What does not change while the lists are grown. -/
structure Cst (B ob S0 : Nat) (ss : List Sl) : Prop where
  dj : Dj ss
  ne : ∀ i, i < ss.length → (nth ss i).val.ownBlock ≠ some ob
  old : ∀ i, i < ss.length → ∀ g, (nth ss i).val.ownBlock = some g → B ≤ g ∧ g < S0
  obl : ob < S0
  bs : B ≤ S0
/-- Some lists are grown. -/
structure St (w wr : World) (B ob off S0 : Nat) (e ts : TypeId) (ss gs : List Sl) (gv : Value) (k : Nat) : Prop where
  bel : Below B w wr
  size : S0 ≤ wr.heap.size
  out : Outer wr ob off ss
  ls : Ls wr B e ss (fun i => Ap.pat i (nth ss i).len)
  glen : gs.length = k
  gown : wr.ownsRow S0 ts 1 gv k (gs.map Sl.val)
  geach : ∀ i, i < k → wr.ownsRow B e 1 (nth gs i).val ((nth ss i).len + 10) (bvs (Ap.pat i ((nth ss i).len + 10))) ∧ (nth gs i).len = (nth ss i).len + 10
  gblk : ∀ i, i < k → ∀ g, (nth gs i).val.ownBlock = some g → ((nth ss i).val.ownBlock = some g ∨ S0 ≤ g) ∧ gv.ownBlock ≠ some g
/-- List k is being grown. -/
structure Vg (wr : World) (B S0 : Nat) (e : TypeId) (ss gs : List Sl) (gv v : Value) (k t : Nat) : Prop where
  own : wr.ownsRow B e 1 v ((nth ss k).len + t) (bvs (Ap.pat k ((nth ss k).len + t)))
  from' : v = .slice (nth ss k).a ((nth ss k).len + t) (nth ss k).cap ∨ ∃ g, v.ownBlock = some g ∧ S0 ≤ g ∧ gv.ownBlock ≠ some g ∧ ∀ i, i < k → (nth gs i).val.ownBlock ≠ some g
theorem Sl.val_block (s : Sl) : s.val.ownBlock = s.a.map (·.block) := by cases h : s.a <;> simp [Sl.val, Value.ownBlock, h]
section
variable {w wr w' : World} {B ob off S0 : Nat} {e ts : TypeId} {ss gs : List Sl} {gv v v' : Value} {k t : Nat}
theorem St.mono (h : St w wr B ob off S0 e ts ss gs gv k) (c : Cst B ob S0 ss) (hb : Below wr.heap.size wr w') (hob : ob < wr.heap.size) : St w w' B ob off S0 e ts ss gs gv k :=
  ⟨h.bel.trans (hb.mono (Nat.le_trans c.bs h.size)), Nat.le_trans h.size hb.size, fun i hi => by rw [hb.cell (p := ⟨ob, off + i, none⟩) hob]; exact h.out i hi,
   fun i hi => own_below (h.ls i hi) hb, h.glen, own_below h.gown hb, fun i hi => ⟨own_below (h.geach i hi).1 hb, (h.geach i hi).2⟩, h.gblk⟩
theorem Vg.mono (h : Vg wr B S0 e ss gs gv v k t) (hb : Below wr.heap.size wr w') : Vg w' B S0 e ss gs gv v k t := ⟨own_below h.own hb, h.from'⟩
/-- v's block, told apart. -/
theorem Vg.apart (h : Vg wr B S0 e ss gs gv v k t) (c : Cst B ob S0 ss) (s : St w wr B ob off S0 e ts ss gs gv k) (hk : k < ss.length) :
    (∀ i, i < ss.length → i ≠ k → ∀ g, (nth ss i).val.ownBlock = some g → v.ownBlock ≠ some g) ∧ (∀ i, i < k → ∀ g, (nth gs i).val.ownBlock = some g → v.ownBlock ≠ some g) ∧
    v.ownBlock ≠ some ob ∧ (∀ g, gv.ownBlock = some g → v.ownBlock ≠ some g) := by
  rcases h.from' with hv | ⟨g, hg, h1, h2, h3⟩
  · have hvb : v.ownBlock = (nth ss k).val.ownBlock := by rw [hv, Sl.val_block]; cases (nth ss k).a <;> rfl
    rw [hvb]
    refine ⟨fun i hi hne g hg => c.dj i k hi hk hne g hg, fun i hi g hg he => ?_, c.ne k hk, fun g hg he => ?_⟩
    · rcases (s.gblk i hi g hg).1 with h1 | h1
      · exact c.dj i k (by omega) hk (by omega) g h1 he
      · have := (c.old k hk g he).2; omega
    · have h1 := (s.gown.lt g hg).1
      have := (c.old k hk g he).2; omega
  · rw [hg]
    refine ⟨fun i hi hne g' hg' he => ?_, fun i hi g' hg' he => ?_, fun he => ?_, fun g' hg' he => ?_⟩
    · cases he; have := (c.old i hi g hg').2; omega
    · cases he; exact h3 i hi hg'
    · cases he; have := c.obl; omega
    · cases he; exact h2 hg'
/-- A step of growing list k. -/
theorem ap_step (h : Vg wr B S0 e ss gs gv v k t) (c : Cst B ob S0 ss) (s : St w wr B ob off S0 e ts ss gs gv k) (hk : k < ss.length) (hst : Step wr w' v v')
    (hown : w'.ownsRow B e 1 v' ((nth ss k).len + t + 1) (bvs (Ap.pat k ((nth ss k).len + t) ++ [Ap.pby k ((nth ss k).len + t)]))) :
    St w w' B ob off S0 e ts ss gs gv k ∧ Vg w' B S0 e ss gs gv v' k (t + 1) := by
  obtain ⟨a1, a2, a3, a4⟩ := h.apart c s hk
  rw [← Ap.pat_succ] at hown
  refine ⟨⟨hst.below s.bel (Nat.le_trans c.bs s.size) (fun g hg => (h.own.lt g hg).1), Nat.le_trans s.size hst.size, fun i hi => hst.cell (s.out i hi) a3, fun i hi => ?_, s.glen, hst.other s.gown a4, fun i hi => ⟨hst.other (s.geach i hi).1 (a2 i hi), (s.geach i hi).2⟩, s.gblk⟩, ⟨hown, ?_⟩⟩
  · by_cases e1 : i = k
    · subst e1
      rcases h.from' with hv | ⟨g, hg, h1, h2, h3⟩
      · rcases hst with ⟨g, n, cap, n', e2, e3, hg⟩ | ⟨_, hg⟩
        · rw [hv] at e2
          simp only [Value.slice.injEq] at e2
          obtain ⟨e4, e5, e6⟩ := e2
          rcases own_nil_or hown with ⟨e7, _⟩ | ⟨g2, cap2, e7, hle, _⟩
          · rw [e3] at e7; simp at e7
          · rw [e3] at e7
            simp only [Value.slice.injEq, Option.some.injEq, Addr.mk.injEq, and_true, true_and] at e7
            obtain ⟨rfl, rfl, rfl⟩ := e7
            rw [e3] at hown
            have := own_prefix hown (nth ss i).len (by omega)
            rw [show (nth ss i).val = .slice (some ⟨g, 0, none⟩) (nth ss i).len cap by unfold Sl.val; rw [e4, e6]]
            have ep : (bvs (Ap.pat i ((nth ss i).len + t + 1))).take (nth ss i).len = bvs (Ap.pat i (nth ss i).len) := by
              rw [← Ap.pat_take i ((nth ss i).len + t + 1) (nth ss i).len (by omega)]; simp [bvs, List.map_take]
            rw [ep] at this
            exact this
        · exact (s.ls i hi).kept hg (by cases (nth ss i).val.ownBlock <;> simp)
      · exact hst.other (s.ls i hi) (fun g' hg' he => by rw [hg] at he; cases he; have := (c.old i hi g hg').2; omega)
    · exact hst.other (s.ls i hi) (a1 i hi e1)
  · rcases hst with ⟨g, n, cap, n', e2, e3, hg⟩ | ⟨⟨g, hg, hge⟩, _⟩
    · rcases own_nil_or hown with ⟨e7, _⟩ | ⟨g2, cap2, e7, hle, _⟩
      · rw [e3] at e7; simp at e7
      · rw [e3] at e7
        simp only [Value.slice.injEq, Option.some.injEq, Addr.mk.injEq, and_true, true_and] at e7
        obtain ⟨rfl, rfl, rfl⟩ := e7
        rcases h.from' with hv | ⟨g', hg', h1, h2, h3⟩
        · rw [e2] at hv
          simp only [Value.slice.injEq] at hv
          left; rw [e3, hv.1, hv.2.2]; rfl
        · right; refine ⟨g', ?_, h1, h2, h3⟩
          rw [e3]; rw [e2] at hg'; exact hg'
    · right
      refine ⟨g, hg, Nat.le_trans s.size hge, fun he => ?_, fun i hi he => ?_⟩
      · have := (s.gown.lt g he).2; omega
      · have := ((s.geach i hi).1.lt g he).2; omega
/-- List k has been grown and goes to the others. -/
theorem ap_grow (x : Sl) (hx : x.val = v) (hxl : x.len = (nth ss k).len + 10) (h : Vg wr B S0 e ss gs gv v k 10) (c : Cst B ob S0 ss) (s : St w wr B ob off S0 e ts ss gs gv k) (hk : k < ss.length)
    {gv' : Value} (hst : Step wr w' gv gv') (hown : w'.ownsRow S0 ts 1 gv' (k + 1) (gs.map Sl.val ++ [v])) :
    St w w' B ob off S0 e ts ss (gs ++ [x]) gv' (k + 1) := by
  have gbl : ∀ g, gv.ownBlock = some g → S0 ≤ g := fun g hg => (s.gown.lt g hg).1
  have hgl : gs.length = k := s.glen
  have en : ∀ i, i < k → nth (gs ++ [x]) i = nth gs i := fun i hi => by
    rw [nth_get _ i (by simp; omega), nth_get _ i (by omega), List.getElem_append_left]
  have ek : nth (gs ++ [x]) k = x := by rw [nth_get _ k (by simp; omega)]; simp [hgl]
  obtain ⟨a1, a2, a3, a4⟩ := h.apart c s hk
  have nov : ∀ g, v.ownBlock = some g → gv.ownBlock ≠ some g := fun g hg he => a4 g he hg
  refine ⟨hst.below s.bel (Nat.le_trans c.bs s.size) (fun g hg => Nat.le_trans c.bs (gbl g hg)), Nat.le_trans s.size hst.size, fun i hi => hst.cell (s.out i hi) (fun he => by have := gbl _ he; have := c.obl; simp at *; omega),
    fun i hi => hst.other (s.ls i hi) (fun g hg he => by have := gbl _ he; have := (c.old i hi g hg).2; omega), by simp [hgl], by rw [List.map_append, List.map_cons, List.map_nil, hx]; exact hown, fun i hi => ?_, fun i hi g hg => ?_⟩
  · by_cases e1 : i < k
    · rw [en i e1]
      exact ⟨hst.other (s.geach i e1).1 (fun g hg => (s.gblk i e1 g hg).2), (s.geach i e1).2⟩
    · obtain rfl : i = k := by omega
      rw [ek, hx]
      exact ⟨hst.other h.own nov, hxl⟩
  · have hbl : ∀ g, gv'.ownBlock = some g → gv.ownBlock = some g ∨ wr.heap.size ≤ g := hst.block
    by_cases e1 : i < k
    · rw [en i e1] at hg
      refine ⟨(s.gblk i e1 g hg).1, fun he => ?_⟩
      rcases hbl g he with h1 | h1
      · exact (s.gblk i e1 g hg).2 h1
      · have := ((s.geach i e1).1.lt g hg).2; omega
    · obtain rfl : i = k := by omega
      rw [ek, hx] at hg
      refine ⟨?_, fun he => ?_⟩
      · rcases h.from' with hv | ⟨g', hg', h1, _⟩
        · left; rw [hv] at hg; rw [Sl.val_block]; cases ha : (nth ss i).a with
          | none => rw [ha] at hg; simp [Value.ownBlock] at hg
          | some ad => rw [ha] at hg; exact hg
        · rw [hg'] at hg; cases hg; exact .inr h1
      · rcases hbl g he with h1 | h1
        · exact nov g hg h1
        · have := (h.own.lt g hg).2; omega
end
end Go.Proofs.YtpoilaappcjbeaaGreatDoor
end

section
namespace Go.Proofs.YtpoilaappcjbeaaGreatDoor
open Go.RowKit

/-- Numbers as cells. -/
def ivs (l : List Int) : List Value := l.map fun n => .int .i64 n
theorem ivs_length (l : List Int) : (ivs l).length = l.length := by simp [ivs]
theorem ivs_append (l m : List Int) : ivs (l ++ m) = ivs l ++ ivs m := by simp [ivs]
theorem ivs_one (l : List Int) : ∀ u ∈ ivs l, u.oneCell' = true := by
  intro u hu
  simp only [ivs, List.mem_map] at hu
  obtain ⟨x, _, rfl⟩ := hu
  rfl
theorem ivs_get (l : List Int) (i : Nat) (h : i < l.length) : (ivs l)[i]? = some (.int .i64 (l.getD i 0)) := by
  simp [ivs, List.getD, List.getElem?_eq_getElem h]
theorem ivs_set (l : List Int) (j : Nat) (n : Int) : (ivs l).set j (.int .i64 n) = ivs (l.set j n) := by simp [ivs, List.map_set]
/-- All of them are numbers of a machine. -/
def Wf (l : List Int) : Prop := ∀ n ∈ l, (Lit.int .i64 n).wf = true
theorem tyI : RowTy Tryz.prog 53 3 (.int .i64 0) 1 8 := ⟨Tryz.underlying53, by kernel_rfl, rfl, by omega⟩
theorem Is.mono {k : IntKind} {w w' : World} {a : Option Addr} {len cap : Nat} {l : List Int} (h : Is k w a len cap l) (hb : Below w.heap.size w w') : Is k w' a len cap l :=
  ⟨h.hlen, h.hle, h.hnil, fun i hi => by
    obtain ⟨b, off, e, hlt, hc⟩ := h.at' i hi
    exact ⟨b, off, e, Nat.lt_of_lt_of_le hlt hb.size, by rw [hb.cell (p := ⟨b, off + i, none⟩) hlt]; exact hc⟩, h.wf⟩
theorem Is.src {w : World} {a : Option Addr} {len cap : Nat} {l : List Int} (h : Is .i64 w a len cap l) : SrcRow w a len cap (ivs l) 1 := by
  refine ⟨by rw [ivs_length, h.hlen, Nat.mul_one], fun e => ?_, fun ad e j u hu => ?_, ivs_one l⟩
  · have := h.hnil e; have := h.hle; omega
  · have hj : j < l.length := by have := (List.getElem?_eq_some_iff.1 hu).1; simpa [ivs] using this
    obtain ⟨b, off, e2, _, hc⟩ := h.at' j (by rw [← h.hlen]; exact hj)
    rw [e] at e2
    obtain rfl := Option.some.inj e2
    rw [Addr.add_mid, hc, ← ivs_get l j hj]
    exact hu
/-- A row that the call owns reads as its numbers, any part of it. -/
theorem is_of_own {w : World} {base : Nat} {e : TypeId} {g n cap : Nat} {l : List Int} (h : w.ownsRow base e 1 (.slice (some ⟨g, 0, none⟩) n cap) n (ivs l)) (hw : Wf l) (s k c : Nat) (hk : s + k ≤ n) (hc : k ≤ c) :
    Is .i64 w (some ⟨g, s, none⟩) k c ((l.drop s).take k) := by
  have hn : l.length = n := by have := h.1; rw [ivs_length] at this; omega
  have hlt : g < w.heap.size := (h.lt g rfl).2
  refine ⟨by simp; omega, hc, fun h => by simp at h, fun i hi => ⟨g, s, rfl, hlt, ?_⟩, fun n hn => hw n (List.mem_of_mem_drop (List.mem_of_mem_take hn))⟩
  rw [h.cellAt (s + i) (by omega), ivs_get l (s + i) (by omega)]
  simp [List.getD, List.getElem?_take, hi, List.getElem?_drop]
theorem own_is {w : World} {base : Nat} {e : TypeId} {v : Value} {n : Nat} {l : List Int} (h : w.ownsRow base e 1 v n (ivs l)) (hw : Wf l) :
    ∃ a cap, v = .slice a n cap ∧ Is .i64 w a n cap l := by
  have hn : l.length = n := by have := h.1; rw [ivs_length] at this; omega
  rcases own_nil_or h with ⟨rfl, rfl⟩ | ⟨g, cap, rfl, hle, _⟩
  · have : l = [] := List.eq_nil_of_length_eq_zero hn
    subst this
    exact ⟨none, 0, rfl, rfl, Nat.le_refl _, fun _ => rfl, fun i hi => absurd hi (by omega), fun n hn => by simp at hn⟩
  · have := is_of_own h hw 0 n cap (by omega) hle
    rw [List.drop_zero, List.take_of_length_le (by omega)] at this
    exact ⟨_, cap, rfl, this⟩
theorem is_nil (w : World) : Is .i64 w none 0 0 [] := ⟨rfl, Nat.le_refl _, fun _ => rfl, fun i hi => absurd hi (by omega), fun n hn => by simp at hn⟩
/-- One number, as what is appended. -/
theorem src_int (w : World) (n : Int) : SrcRow (w.alloc (.cells #[Value.int .i64 n] 3)) (some ⟨w.heap.size, 0, none⟩) 1 1 (ivs [n]) 1 :=
  src_new w #[Value.int .i64 n] 3 1 1 1 rfl (ivs_one [n])
theorem own_int (w : World) (base : Nat) (n : Int) (hb : base ≤ w.heap.size) : (w.alloc (.cells #[Value.int .i64 n] 3)).ownsRow base 3 1 (.slice (some ⟨w.heap.size, 0, none⟩) 1 1) 1 (ivs [n]) :=
  ⟨by simp [ivs], .inr ⟨w.heap.size, 1, #[Value.int .i64 n], rfl, hb, heap_alloc_last w _, by omega, by unfold maxLen; omega, rfl, rfl⟩⟩
/-- Bits as numbers. -/
def bi (l : List Bool) : List Int := l.map fun b => (b.toNat : Int)
theorem bi_length (l : List Bool) : (bi l).length = l.length := by simp [bi]
theorem bi_append (l m : List Bool) : bi (l ++ m) = bi l ++ bi m := by simp [bi]
theorem bi_getD (l : List Bool) (i : Nat) : (bi l).getD i 0 = ((l.getD i false).toNat : Int) := by
  by_cases h : i < l.length
  · simp [bi, List.getD, List.getElem?_eq_getElem h]
  · simp [bi, List.getD, List.getElem?_eq_none (Nat.le_of_not_lt h)]
theorem bi_wf (l : List Bool) : Wf (bi l) := by
  intro n hn
  simp only [bi, List.mem_map] at hn
  obtain ⟨b, _, rfl⟩ := hn
  cases b <;> rfl
end Go.Proofs.YtpoilaappcjbeaaGreatDoor
end

section
namespace Go.Proofs.YtpoilaappcjbeaaGreatDoor
open Go.RowKit

theorem Is.getW {k : IntKind} {w : World} {a : Option Addr} {len cap : Nat} {l : List Int} (h : Is k w a len cap l) (i : Nat) (hi : i < len) : (Lit.int k (l.getD i 0)).wf = true := by
  have hil : i < l.length := by rw [h.hlen]; exact hi
  exact h.wf _ (by simp [List.getD, List.getElem?_eq_getElem hil])
theorem ints_snoc (l : List Int) (k : Nat) (h : k < l.length) : l.take (k + 1) = l.take k ++ [l.getD k 0] := by
  rw [List.take_succ_eq_append_getElem h]; simp [List.getD, List.getElem?_eq_getElem h]
theorem own_set {w : World} {base n cap g : Nat} {l : List Int} (h : w.ownsRow base 3 1 (.slice (some ⟨g, 0, none⟩) n cap) n (ivs l)) (j : Nat) (z : Int) :
    (w.setCell ⟨g, j, none⟩ (.int .i64 z)).ownsRow base 3 1 (.slice (some ⟨g, 0, none⟩) n cap) n (ivs (l.set j z)) := by
  rw [← ivs_set]; exact (h.stored j _).1
end Go.Proofs.YtpoilaappcjbeaaGreatDoor
end

section
namespace Go.Proofs.YtpoilaappcjbeaaGreatDoor
open Go.RowKit

namespace Bl
def base (y : Int) : Nat := if y = 16 then 3 else if y = 17 then 3 else if y = 18 then 11 else 1
def bits (y : Int) : Nat := if y = 16 then 2 else if y = 17 then 3 else if y = 18 then 7 else 0
def top (y : Int) : Int := if y = 16 then 3 else if y = 17 then 7 else if y = 18 then 127 else 0
/-- A run in form. -/
def ok (r : Int × Int) : Bool := decide (0 ≤ r.1 ∧ r.1 ≤ 18 ∧ 0 ≤ r.2 ∧ r.2 ≤ top r.1)
/-- The length that a run repeats. -/
def val (out : List Int) (y : Int) : Int := if y = 16 then out.getD (out.length - 1) 0 else if y < 16 then y else 0
def stp (out : List Int) (r : Int × Int) : Option (List Int) :=
  if ok r = true ∧ (r.1 = 16 → out.length ≠ 0) then some (out ++ List.replicate (base r.1 + r.2.toNat) (val out r.1)) else none
/-- The lengths of the first k runs. -/
def unr (f : Nat → Int × Int) : Nat → Option (List Int)
  | 0 => some []
  | k + 1 => (unr f k).bind fun o => stp o (f k)
theorem unr_next {f : Nat → Int × Int} {k : Nat} {o : List Int} (h : unr f k = some o) : unr f (k + 1) = stp o (f k) := by rw [unr, h]; rfl
theorem unr_stuck {f : Nat → Int × Int} {k : Nat} (h : unr f k = none) : ∀ n, k ≤ n → unr f n = none
  | 0, hn => by obtain rfl : k = 0 := by omega
                exact h
  | n + 1, hn => by
    by_cases e : k = n + 1
    · rw [← e]; exact h
    · rw [unr, unr_stuck h n (by omega)]; rfl
theorem unr_no {f : Nat → Int × Int} {k n : Nat} {o : List Int} (h : unr f k = some o) (h2 : stp o (f k) = none) (hk : k < n) : unr f n = none :=
  unr_stuck (by rw [unr_next h]; exact h2) n (by omega)
theorem stp_no {o : List Int} {y x : Int} (h : ¬ (0 ≤ y ∧ y ≤ 18 ∧ 0 ≤ x ∧ x ≤ top y)) : stp o (y, x) = none := by
  unfold stp ok
  rw [if_neg]
  rintro ⟨h1, _⟩
  exact h (of_decide_eq_true h1)
theorem stp_yes {o : List Int} {y x : Int} (h : 0 ≤ y ∧ y ≤ 18 ∧ 0 ≤ x ∧ x ≤ top y) (h2 : y = 16 → o.length ≠ 0) : stp o (y, x) = some (o ++ List.replicate (base y + x.toNat) (val o y)) := by
  unfold stp ok
  rw [if_pos ⟨decide_eq_true h, h2⟩]
theorem stp_inv {o p : List Int} {y x : Int} (h : stp o (y, x) = some p) : (0 ≤ y ∧ y ≤ 18 ∧ 0 ≤ x ∧ x ≤ top y) ∧ (y = 16 → o.length ≠ 0) ∧ p = o ++ List.replicate (base y + x.toNat) (val o y) := by
  unfold stp ok at h
  split at h
  · rename_i h1
    exact ⟨of_decide_eq_true h1.1, h1.2, (Option.some.inj h).symm⟩
  · simp at h
theorem top_le (y : Int) : top y ≤ 127 := by unfold top; split; omega; split; omega; split <;> omega
theorem base_le (y : Int) : base y ≤ 11 := by unfold base; split; omega; split; omega; split <;> omega
theorem base_ge (y : Int) : 1 ≤ base y := by unfold base; split; omega; split; omega; split <;> omega
/-- Every length is one. -/
def In (o : List Int) : Prop := ∀ x ∈ o, 0 ≤ x ∧ x ≤ 15
theorem In.wf {o : List Int} (h : In o) : Wf o := by
  intro x hx
  have := h x hx
  simp only [Lit.wf, IntKind.min, IntKind.max, IntKind.signed, IntKind.bits, Bool.and_eq_true, decide_eq_true_eq, if_true]
  simp
  omega
theorem In.get {o : List Int} (h : In o) (i : Nat) : 0 ≤ o.getD i 0 ∧ o.getD i 0 ≤ 15 := by
  by_cases hi : i < o.length
  · exact h _ (by simp [List.getD, List.getElem?_eq_getElem hi])
  · simp [List.getD, List.getElem?_eq_none (Nat.le_of_not_lt hi)]
theorem val_in {o : List Int} (h : In o) {y : Int} (h0 : 0 ≤ y) (h8 : y ≤ 18) : 0 ≤ val o y ∧ val o y ≤ 15 := by
  unfold val
  split
  · exact h.get _
  · split <;> omega
theorem unr_in {f : Nat → Int × Int} : ∀ {k : Nat} {o : List Int}, unr f k = some o → In o ∧ o.length ≤ 138 * k
  | 0, o, h => by simp only [unr, Option.some.injEq] at h; subst h; exact ⟨fun x hx => by simp at hx, by simp⟩
  | k + 1, o, h => by
    cases h1 : unr f k with
    | none => rw [unr, h1] at h; simp at h
    | some p =>
      rw [unr_next h1] at h
      obtain ⟨i1, i2⟩ := unr_in h1
      obtain ⟨h3, _, rfl⟩ := stp_inv (y := (f k).1) (x := (f k).2) h
      have := top_le (f k).1
      have := base_le (f k).1
      refine ⟨fun z hz => ?_, by simp; omega⟩
      rcases List.mem_append.1 hz with h | h
      · exact i1 z h
      · rw [List.mem_replicate] at h
        rw [h.2]
        exact val_in i1 h3.1 h3.2.1
theorem rep_next (o : List Int) (v : Int) (j : Nat) : o ++ List.replicate (j + 1) v = (o ++ List.replicate j v) ++ [v] := by
  rw [List.replicate_succ', ← List.append_assoc]
end Bl
end Go.Proofs.YtpoilaappcjbeaaGreatDoor
end

section
namespace Go.Proofs.YtpoilaappcjbeaaGreatDoor
open Go.RowKit

theorem drewN_is (w : World) (n : Nat) : Below w.heap.size w (w.drewN n) := ⟨rfl, rfl, rfl, Nat.le_refl _, fun _ _ => rfl⟩
theorem drewN_two (w : World) (a b : Nat) : (w.drewN a).drewN b = w.drewN (a + b) := by simp [World.drewN, Nat.add_assoc]
end Go.Proofs.YtpoilaappcjbeaaGreatDoor
end

section
namespace Go.Proofs.YtpoilaappcjbeaaGreatDoor
open Go.RowKit

/-- Some lengths from the first one on are the same; one at least, if there is one. -/
def Bl.AlPost (w : World) (len : Nat) (l : List Int) (e : Ending) (w' : World) : Prop :=
  ∃ c : Nat, e = .returned (.int .i64 c) ∧ c ≤ len ∧ (0 < len → 0 < c) ∧ (∀ i, i < c → l.getD i 0 = l.getD 0 0) ∧ (c < len → l.getD c 0 ≠ l.getD 0 0) ∧ ∃ n, w' = w.drewN n
theorem alike_any (a : Option Addr) (len cap : Nat) (l : List Int) (w : World) (h : Is .i64 w a len cap l) (hr : len ≤ 3000) :
    Calls Tryz.prog 103 #[.slice a len cap] w (Bl.AlPost w len l) := by
  have H := Lib.hid h
  clear h
  go_enter Tryz.func103, Tryz.ntmps103
  go_wp2
  go_loopw [3] (fun i wr => ∃ k : Nat, k ≤ len ∧ i = .int .i64 k ∧ (∃ n, wr = w.drewN n) ∧ Hid (∀ i, i < k → l.getD i 0 = l.getD 0 0)) (fun i _ => len - (intOf i).toNat)
  case atStart => exact ⟨0, by omega, rfl, ⟨0, rfl⟩, Lib.hid (fun i hi => by omega)⟩
  case round =>
    obtain ⟨k, hk, rfl, ⟨dn, rfl⟩, HT⟩ := hrel
    by_cases hlt : k < len
    · obtain ⟨b1, off1, rfl, _, c1⟩ := H.out.at' k hlt
      obtain ⟨b2, off2, e2, _, c0⟩ := H.out.at' 0 (by omega)
      simp only [Option.some.injEq, Addr.mk.injEq, and_true] at e2
      obtain ⟨rfl, rfl⟩ := e2
      have HE : Hid (l.getD k 0 = l.getD 0 0 → ∀ i, i < k + 1 → l.getD i 0 = l.getD 0 0) := Lib.hid (fun h i hi => by
        rcases Nat.lt_succ_iff_lt_or_eq.1 hi with h1 | rfl
        · exact HT.out i h1
        · exact h)
      have HP : Hid (l.getD k 0 ≠ l.getD 0 0 → ∀ n, Bl.AlPost w len l (.returned (.int .i64 k)) (w.drewN n)) := Lib.hid (fun h n => ⟨k, rfl, hk, fun _ => by
        rcases Nat.eq_zero_or_pos k with rfl | h0
        · exact absurd rfl h
        · exact h0, HT.out, fun _ => h, n, rfl⟩)
      rw [Nat.add_zero] at c0
      have hlen0 : 0 < len := by omega
      clear HT
      generalize l.getD k 0 = x at *
      generalize l.getD 0 0 = y at *
      by_cases hxy : x = y
      · subst hxy
        have HE2 := Lib.hid (HE.out rfl)
        have dxx : (x == x) = true := by simp
        clear HE HP
        go_wp2
        go_quiet (fail)
        go_wp2
        go_roundw
        case rel => exact ⟨k + 1, by omega, by go_num, ⟨_, rfl⟩, HE2⟩
        case measure => simp [intOf]; omega
      · have dxy : (x == y) = false := by simpa using hxy
        have HP2 := Lib.hid (HP.out hxy)
        clear HE HP hxy
        go_wp2
        go_quiet (fail)
        go_wp2
        go_ret
        rw [drewN_two]
        exact HP2.out _
    · obtain rfl : len = k := by omega
      have HP2 : Hid (∀ n, Bl.AlPost w len l (.returned (.int .i64 len)) (w.drewN n)) := Lib.hid (fun n => ⟨len, rfl, hk, fun h => h, HT.out, fun h => absurd h (by omega), n, rfl⟩)
      clear HT
      go_wp2
      go_quiet (fail)
      go_wp2
      go_ret
      rw [drewN_two]
      exact HP2.out _
end Go.Proofs.YtpoilaappcjbeaaGreatDoor
end

section
namespace Go.Proofs.YtpoilaappcjbeaaGreatDoor
open Go.RowKit

namespace Bl
/-- What runs come to, behind what there is. -/
def unrL : List Int → List (Int × Int) → Option (List Int)
  | o, [] => some o
  | o, r :: rs => (stp o r).bind fun p => unrL p rs
theorem unrL_append : ∀ (rs ss : List (Int × Int)) (o : List Int), unrL o (rs ++ ss) = (unrL o rs).bind fun p => unrL p ss
  | [], ss, o => rfl
  | r :: rs, ss, o => by
    rw [List.cons_append, unrL, unrL]
    cases h : stp o r with
    | none => rfl
    | some p => exact unrL_append rs ss p
theorem unrL_one (o : List Int) (r : Int × Int) : unrL o [r] = stp o r := by
  rw [unrL]
  cases stp o r <;> rfl
/-- The first k by their numbers, and as a list. -/
theorem unr_list (f : Nat → Int × Int) : ∀ k, unr f k = unrL [] ((List.range k).map f)
  | 0 => rfl
  | k + 1 => by
    rw [unr, unr_list f k, List.range_succ, List.map_append, unrL_append]
    congr 1
    funext p
    rw [List.map_cons, List.map_nil, unrL_one]
theorem unr_getD (rs : List (Int × Int)) : unr (fun k => rs.getD k (0, 0)) rs.length = unrL [] rs := by
  rw [unr_list]
  congr 1
  apply List.ext_getElem
  · simp
  · intro i h1 h2
    simp [List.getD, List.getElem?_eq_getElem h2]
def Rg (rs : List (Int × Int)) : Prop := ∀ t ∈ rs, 0 ≤ t.1 ∧ t.1 ≤ 18 ∧ 0 ≤ t.2 ∧ t.2 ≤ 127
theorem Rg.append {rs ss : List (Int × Int)} (h : Rg rs) (h2 : Rg ss) : Rg (rs ++ ss) := fun t ht => (List.mem_append.1 ht).elim (h t) (h2 t)
theorem Rg.one {y x : Int} (h : 0 ≤ y ∧ y ≤ 18 ∧ 0 ≤ x ∧ x ≤ 127) : Rg [(y, x)] := fun t ht => by
  simp only [List.mem_singleton] at ht
  subst ht; exact h
/-- Runs that stand for d times y, wherever they stand; no more of them than d. -/
structure Got (y : Int) (d : Nat) (rs : List (Int × Int)) : Prop where
  un : ∀ o, unrL o rs = some (o ++ List.replicate d y)
  le : rs.length ≤ d
  rg : Rg rs
theorem Got.nil (y : Int) : Got y 0 [] := ⟨fun o => by simp [unrL], Nat.le_refl _, fun t ht => by simp at ht⟩
theorem Got.more {y : Int} {d e : Nat} {rs : List (Int × Int)} {r : Int × Int} (h : Got y d rs) (he : 1 ≤ e) (hs : ∀ o : List Int, stp (o ++ List.replicate d y) r = some ((o ++ List.replicate d y) ++ List.replicate e y)) (hr : Rg [r]) : Got y (d + e) (rs ++ [r]) :=
  ⟨fun o => by rw [unrL_append, h.un o]; show unrL _ [r] = _; rw [unrL_one, hs, List.append_assoc, List.replicate_append_replicate],
   by have := h.le; simp; omega, h.rg.append hr⟩
theorem Got.lit {y : Int} {d : Nat} {rs : List (Int × Int)} (h : Got y d rs) (h0 : 0 ≤ y) (h15 : y ≤ 15) : Got y (d + 1) (rs ++ [(y, 0)]) := by
  have e6 : ¬ y = 16 := by omega
  have e7 : ¬ y = 17 := by omega
  have e8 : ¬ y = 18 := by omega
  refine h.more (Nat.le_refl _) (fun o => ?_) (Rg.one (by omega))
  rw [stp_yes ⟨h0, by omega, by omega, by unfold top; rw [if_neg e6, if_neg e7, if_neg e8]; omega⟩ (fun e => absurd e e6)]
  unfold base val
  rw [if_neg e6, if_neg e7, if_neg e8, if_neg e6, if_pos (by omega)]
  rfl
theorem Got.zeros {s : Int} {d z : Nat} {rs : List (Int × Int)} (h : Got 0 d rs) (hs : s = 17 ∨ s = 18) (hz : (z : Int) ≤ top s) : Got 0 (d + (base s + z)) (rs ++ [(s, (z : Int))]) := by
  have hb := base_ge s
  refine h.more (by omega) (fun o => ?_) (Rg.one ⟨by omega, by omega, by omega, by have := top_le s; omega⟩)
  rw [stp_yes ⟨by omega, by omega, by omega, hz⟩ (fun e => by omega)]
  unfold val
  rw [if_neg (by omega), if_neg (by omega)]
  rfl
theorem Got.again {y : Int} {d z : Nat} {rs : List (Int × Int)} (h : Got y d rs) (hd : 1 ≤ d) (hz : (z : Int) ≤ 3) : Got y (d + (3 + z)) (rs ++ [(16, (z : Int))]) := by
  refine h.more (by omega) (fun o => ?_) (Rg.one ⟨by omega, by omega, by omega, by omega⟩)
  rw [stp_yes ⟨by omega, by omega, by omega, by simpa [top] using hz⟩ (fun _ => by rw [List.length_append, List.length_replicate]; omega)]
  obtain ⟨e, rfl⟩ : ∃ e, d = e + 1 := ⟨d - 1, by omega⟩
  have hv : val (o ++ List.replicate (e + 1) y) 16 = y := by
    unfold val
    rw [if_pos rfl, List.replicate_succ', ← List.append_assoc]
    simp [List.getD]
  rw [hv]
  rfl
theorem Got.rest {y : Int} {rs : List (Int × Int)} (h0 : 0 ≤ y) (h15 : y ≤ 15) : ∀ (k : Nat) {d : Nat}, Got y d rs → Got y (d + k) (rs ++ List.replicate k (y, 0))
  | 0, _, h => by simpa using h
  | k + 1, d, h => by
    have := (Got.rest h0 h15 k h).lit h0 h15
    rw [List.append_assoc, ← List.replicate_succ'] at this
    exact this
end Bl
end Go.Proofs.YtpoilaappcjbeaaGreatDoor
end

section
namespace Go.Proofs.YtpoilaappcjbeaaGreatDoor
open Go.RowKit

namespace Bl
/-- As many runs of a symbol as there is room for, and what is left; f: enough. -/
def repsF (s : Int) (b t : Nat) : Nat → Nat → List (Int × Int) × Nat
  | 0, r => ([], r)
  | f + 1, r => if r < b then ([], r) else ((s, ((min (r - b) t : Nat) : Int)) :: (repsF s b t f (r - (b + min (r - b) t))).1, (repsF s b t f (r - (b + min (r - b) t))).2)
theorem repsF_fuel (s : Int) {b : Nat} (t : Nat) (hb : 1 ≤ b) : ∀ (f g r : Nat), r ≤ f → r ≤ g → repsF s b t f r = repsF s b t g r
  | 0, 0, r, _, _ => rfl
  | 0, g + 1, r, hf, _ => by
    obtain rfl : r = 0 := by omega
    rw [repsF, repsF, if_pos (by omega)]
  | f + 1, 0, r, _, hg => by
    obtain rfl : r = 0 := by omega
    rw [repsF, repsF, if_pos (by omega)]
  | f + 1, g + 1, r, hf, hg => by
    rw [repsF, repsF]
    by_cases h : r < b
    · rw [if_pos h, if_pos h]
    · rw [if_neg h, if_neg h, repsF_fuel s t hb f g _ (by omega) (by omega)]
/-- What is laid, and what is left, behind such runs. -/
def go (s : Int) (b t : Nat) (rs : List (Int × Int)) (r : Nat) : List (Int × Int) × Nat := (rs ++ (repsF s b t r r).1, (repsF s b t r r).2)
theorem go_end (s : Int) (b t : Nat) (rs : List (Int × Int)) (r : Nat) (h : r < b) : go s b t rs r = (rs, r) := by
  unfold go
  cases r with
  | zero => rw [repsF]; simp
  | succ r => rw [repsF, if_pos h]; simp
theorem go_step (s : Int) {b t : Nat} (hb : 1 ≤ b) (rs : List (Int × Int)) (r z e : Nat) (h : b ≤ r) (hz : z = min (r - b) t) (he : b + z + e = r) : go s b t rs r = go s b t (rs ++ [(s, (z : Int))]) e := by
  subst hz
  unfold go
  obtain ⟨q, rfl⟩ : ∃ q, r = q + 1 := ⟨r - 1, by omega⟩
  have e1 : q + 1 - (b + min (q + 1 - b) t) = e := by omega
  rw [repsF, if_neg (by omega), e1, repsF_fuel s t hb q e e (by omega) (Nat.le_refl _)]
  simp
/-- Behind i symbols, of zeros. -/
def zs (c : Nat) : Nat → List (Int × Int) × Nat
  | 0 => ([], c)
  | 1 => go 18 11 127 [] c
  | _ => go 17 3 7 (go 18 11 127 [] c).1 (go 18 11 127 [] c).2
/-- The same, of another length. -/
def ys (y : Int) (c : Nat) : Nat → List (Int × Int) × Nat
  | 0 => ([(y, 0)], c - 1)
  | _ => go 16 3 3 [(y, 0)] (c - 1)
/-- The runs of a stretch. -/
def stF (y : Int) (c : Nat) : List (Int × Int) := if y = 0 then (zs c 2).1 ++ List.replicate (zs c 2).2 (0, 0) else (ys y c 1).1 ++ List.replicate (ys y c 1).2 (y, 0)
end Bl
end Go.Proofs.YtpoilaappcjbeaaGreatDoor
end
