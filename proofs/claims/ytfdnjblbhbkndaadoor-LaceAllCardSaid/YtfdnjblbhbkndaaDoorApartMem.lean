/- Lists of bytes in memory of the call's own, each in a block of its own: what a store and an append do to them. -/
import Derived.Test.YtfdnjblbhbkndaaDoorBase
namespace Go.Proofs.YtfdnjblbhbkndaaDoor
open Go.RowKit

theorem own_nil_or {w : World} {base : Nat} {e : TypeId} {size : Nat} {v : Value} {n : Nat} {xs : List Value} (h : w.ownsRow base e size v n xs) :
    (v = .slice none 0 0 ∧ n = 0) ∨ ∃ g cap, v = .slice (some ⟨g, 0, none⟩) n cap ∧ n ≤ cap ∧ base ≤ g ∧ g < w.heap.size ∧ cap ≤ 9223372036854775807 := by
  rcases h.2 with h' | ⟨g, cap, cur, rfl, hb, hg, hnc, hm, _⟩
  · exact .inl h'
  · exact .inr ⟨g, cap, rfl, hnc, hb, (Array.getElem?_eq_some_iff.1 hg).1, by unfold maxLen at hm; omega⟩
/-- A row that the call owns, as a slice whose cells can be read. -/
theorem own_slice {w : World} {base : Nat} {e : TypeId} {v : Value} {n : Nat} {xs : List Value} (h : w.ownsRow base e 1 v n xs) :
    ∃ a cap, v = .slice a n cap ∧ ∀ j, j < n → ∃ g, a = some ⟨g, 0, none⟩ ∧ w.cell? ⟨g, j, none⟩ = xs[j]? := by
  rcases own_nil_or h with ⟨rfl, rfl⟩ | ⟨g, cap, rfl, _⟩
  · exact ⟨none, 0, rfl, fun j hj => absurd hj (by omega)⟩
  · exact ⟨_, cap, rfl, fun j hj => ⟨g, rfl, h.cellAt j (by omega)⟩⟩
/-- A shorter slice of the same row. -/
theorem own_prefix {w : World} {base : Nat} {e : TypeId} {g n cap : Nat} {xs : List Value} (h : w.ownsRow base e 1 (.slice (some ⟨g, 0, none⟩) n cap) n xs) (k : Nat) (hk : k ≤ n) :
    w.ownsRow base e 1 (.slice (some ⟨g, 0, none⟩) k cap) k (xs.take k) := by
  have hl := h.1
  rcases h.2 with ⟨h', _⟩ | ⟨g', cap', cur, h', hb, hg, hnc, hm, hs, ht⟩
  · simp at h'
  · simp only [Value.slice.injEq, Option.some.injEq, Addr.mk.injEq, and_true, true_and] at h'
    obtain ⟨rfl, rfl⟩ := h'
    refine ⟨by simp; omega, .inr ⟨g, cap, cur, rfl, hb, hg, by omega, hm, hs, ?_⟩⟩
    rw [← ht, List.take_take]
    congr 1; omega
theorem own_base {w : World} {base base' : Nat} {e : TypeId} {size : Nat} {v : Value} {n : Nat} {xs : List Value} (h : w.ownsRow base e size v n xs) (hb : ∀ g, v.ownBlock = some g → base' ≤ g) : w.ownsRow base' e size v n xs := by
  obtain ⟨h1, h2⟩ := h
  refine ⟨h1, ?_⟩
  rcases h2 with h2 | ⟨g, cap, cur, rfl, hg, r⟩
  · exact .inl h2
  · exact .inr ⟨g, cap, cur, rfl, hb g rfl, r⟩

theorem cell_set_other {w : World} {g j : Nat} {u : Value} {b o : Nat} (h : b ≠ g) : (w.setCell ⟨g, j, none⟩ u).cell? ⟨b, o, none⟩ = w.cell? ⟨b, o, none⟩ :=
  World.cell?_of_block (w := w) (heap_setCell_other w ⟨g, j, none⟩ b u h)
/-- What an append leaves: written in place, or a new row. -/
def Step (w w' : World) (v v' : Value) : Prop :=
  (∃ g k cap k', v = .slice (some ⟨g, 0, none⟩) k cap ∧ v' = .slice (some ⟨g, 0, none⟩) k' cap ∧ w.grownBy w' (some g)) ∨
  ((∃ g, v'.ownBlock = some g ∧ w.heap.size ≤ g) ∧ w.grownBy w' none)
theorem Step.below {w0 w w' : World} {B : Nat} {v v' : Value} (h : Step w w' v v') (hb : Below B w0 w) (hB : B ≤ w.heap.size) (hv : ∀ g, v.ownBlock = some g → B ≤ g) : Below B w0 w' := by
  rcases h with ⟨g, k, cap, k', rfl, _, hg⟩ | ⟨_, hg⟩
  · exact hb.grown hg hB (fun k hk => by cases hk; exact hv g rfl)
  · exact hb.grown hg hB (by simp)
theorem Step.size {w w' : World} {v v' : Value} (h : Step w w' v v') : w.heap.size ≤ w'.heap.size := by
  rcases h with ⟨_, _, _, _, _, _, hg⟩ | ⟨_, hg⟩ <;> exact hg.size
/-- Another row stays. -/
theorem Step.other {w w' : World} {v v' u : Value} {base : Nat} {e : TypeId} {size n : Nat} {xs : List Value} (h : Step w w' v v') (hu : w.ownsRow base e size u n xs) (hne : ∀ g, u.ownBlock = some g → v.ownBlock ≠ some g) : w'.ownsRow base e size u n xs := by
  rcases h with ⟨g, k, cap, k', rfl, _, hg⟩ | ⟨_, hg⟩
  · refine hu.kept hg ?_
    cases hub : u.ownBlock with
    | none => exact .inl rfl
    | some x => right; intro he; cases he; exact hne g hub rfl
  · exact hu.kept hg (by cases u.ownBlock <;> simp)
/-- The new value's block is none of the old blocks but its own. -/
theorem Step.block {w w' : World} {v v' : Value} (h : Step w w' v v') : ∀ g, v'.ownBlock = some g → v.ownBlock = some g ∨ w.heap.size ≤ g := by
  intro g hg
  rcases h with ⟨g', k, cap, k', rfl, rfl, _⟩ | ⟨⟨g', h1, h2⟩, _⟩
  · exact .inl hg
  · rw [h1] at hg; cases hg; exact .inr h2
theorem Step.cell {w w' : World} {v v' : Value} (h : Step w w' v v') {a : Addr} {u : Value} (hc : w.cell? a = some u) (hne : v.ownBlock ≠ some a.block) : w'.cell? a = some u := by
  rcases h with ⟨g, k, cap, k', rfl, _, hg⟩ | ⟨_, hg⟩
  · exact hg.cell hc (fun e => hne e.symm)
  · exact hg.cell hc (by simp)

section
variable {P : Program} {w : World} {ops : Array Oper} {rest : List Oper} {o : Oper} {a : Act} {Q : Exit → Act → World → Prop}
variable {t e : TypeId} {z : Value} {size by' : Nat}
theorem wpl_append2 (R : RowTy P t e z size by') (hg : o.guard = none) (s x : Operand) (hop : o.op = Op.call { callee := Callee.builtin Builtin.append, args := #[s, x], argTypes := #[t, t] })
    {base n : Nat} {v : Value} {xs : List Value} (hown : w.ownsRow base e size v n xs) {ad : Addr} {m c : Nat} {news : List Value} (hsrc : SrcRow w (some ad) m c news size)
    (hs : a.eval s = v) (hx : a.eval x = .slice (some ad) m c) (hm : 0 < m) (h63 : n + m ≤ 9223372036854775807) (hbytes : (n + m) * by' ≤ 140737488355328) (hbase : base ≤ w.heap.size)
    (hK : ∀ v' w', w'.ownsRow base e size v' (n + m) (xs ++ news) → Step w w' v v' → wpList P ops Q rest (a.put o.dst v') w') :
    wpList P ops Q (o :: rest) a w := by
  obtain ⟨i0, hi, hz0, hz1, hz2⟩ := info_parts R.info
  have hnc := hsrc.hc ad rfl
  have hml : n + m ≤ maxLen := by unfold maxLen; omega
  have fin : ∀ (v' : Value) (w' : World), (Builtin.append_ #[t, t] o.type #[v, .slice (some ad) m c]).run P w = .ok v' w' → w'.ownsRow base e size v' (n + m) (xs ++ news) → Step w w' v v' → wpList P ops Q (o :: rest) a w := by
    intro v' w' hrun h1 h2
    refine wpList_plain hg fun K hK' => ?_
    unfold Oper.wp
    simp [execOp, hop, resolve, invoke, builtin, hs, hx, hrun, Result.andThen]
    exact hK' _ _ (hK v' w' h1 h2)
  rcases own_nil_or hown with ⟨rfl, rfl⟩ | ⟨g, cap, rfl, hle, hbg, hgl, hcap⟩
  · have hx0 : xs = [] := List.eq_nil_of_length_eq_zero (by have := hown.1; simpa using this)
    subst hx0
    have hown0 := World.ownsRow_nil w w.heap.size e size
    obtain ⟨v', w', hrun, r1, r2, _⟩ := run_append_own (P := P) w w.heap.size t o.type e i0 z size by' R.ht hi hz0 hz1 hz2 R.hzs R.hsz _ 0 [] hown0 ad m c news hsrc.hl hnc hsrc.h1 hml hbytes (Nat.le_refl _)
    have hb : ∃ g, v'.ownBlock = some g ∧ w.heap.size ≤ g := by
      rcases own_nil_or r1 with ⟨_, h⟩ | ⟨g, cap, rfl, _, h, _⟩
      · omega
      · exact ⟨g, rfl, h⟩
    exact fin v' w' hrun (own_base r1 (fun g hg => Nat.le_trans hbase ((r1.lt g hg).1))) (.inr ⟨hb, r2⟩)
  · by_cases hroom : n + m ≤ cap
    · obtain ⟨w', hrun, r1, r2⟩ := run_append_fits (P := P) w base t o.type e i0 size R.ht hi hz1 g n cap xs hown ad m c news hsrc.hl hnc hsrc.h1 hroom
      exact fin _ w' hrun r1 (.inl ⟨g, n, cap, n + m, rfl, rfl, r2⟩)
    · obtain ⟨v', w', hrun, r1, r2⟩ := run_append_arg_grows (P := P) w t o.type e i0 z size by' R.ht hi hz0 hz1 hz2 R.hzs R.hsz ⟨g, 0, none⟩ n cap xs hown.1 (hown.cells rfl) ad m c news hsrc.hl hnc (by omega) hml hbytes
      have hb : ∃ g, v'.ownBlock = some g ∧ w.heap.size ≤ g := by
        rcases own_nil_or r1 with ⟨_, h⟩ | ⟨g, cap, rfl, _, h, _⟩
        · omega
        · exact ⟨g, rfl, h⟩
      exact fin v' w' hrun (own_base r1 (fun g hg => Nat.le_trans hbase ((r1.lt g hg).1))) (.inr ⟨hb, r2⟩)
end

namespace Ap
/-- What list k is marked with at place j; up to n. -/
def pby (k j : Nat) : UInt8 := UInt8.ofNat (29 * k + 5 * j + 3)
def pat (k n : Nat) : List UInt8 := (List.range n).map fun j => pby k j
theorem pat_length (k n : Nat) : (pat k n).length = n := by simp [pat]
theorem gb_pat (k n j : Nat) (h : j < n) : gb (pat k n) j = (29 * k + 5 * j + 3) % 256 := by
  simp [gb, pat, pby, List.getD, List.getElem?_map, List.getElem?_range h]
theorem pat_succ (k n : Nat) : pat k (n + 1) = pat k n ++ [pby k n] := by simp [pat, List.range_succ]
theorem pat_take (k n m : Nat) (h : m ≤ n) : (pat k n).take m = pat k m := by
  simp [pat, ← List.map_take, List.take_range, Nat.min_eq_left h]
/-- List k while it is marked. -/
def half (k j : Nat) (l : List UInt8) : List UInt8 := pat k j ++ l.drop j
theorem half_zero (k : Nat) (l : List UInt8) : half k 0 l = l := by simp [half, pat]
theorem half_full (k : Nat) (l : List UInt8) : half k l.length l = pat k l.length := by simp [half]
theorem half_set (k j : Nat) (l : List UInt8) (h : j < l.length) : (half k j l).set j (pby k j) = half k (j + 1) l := by
  unfold half
  rw [List.set_append_right _ _ (by simp [pat_length]), pat_length, Nat.sub_self, pat_succ, List.append_assoc]
  congr 1
  rw [List.drop_eq_getElem_cons h, List.set_cons_zero]
  rfl
end Ap
theorem bvs_set (l : List UInt8) (j n : Nat) : (bvs l).set j (.int .u8 ((n % 256 : Nat) : Int)) = bvs (l.set j (UInt8.ofNat n)) := by
  simp [bvs, List.map_set]

/-- All lists, each with what it reads as. -/
def Ls (w : World) (B : Nat) (e : TypeId) (ss : List Sl) (c : Nat → List UInt8) : Prop :=
  ∀ i, i < ss.length → w.ownsRow B e 1 (nth ss i).val (nth ss i).len (bvs (c i))
/-- Each in a block of its own. -/
def Dj (ss : List Sl) : Prop := ∀ i j, i < ss.length → j < ss.length → i ≠ j → ∀ g, (nth ss i).val.ownBlock = some g → (nth ss j).val.ownBlock ≠ some g
theorem Ls.congr {w : World} {B : Nat} {e : TypeId} {ss : List Sl} {c c' : Nat → List UInt8} (h : Ls w B e ss c) (hc : ∀ i, i < ss.length → c i = c' i) : Ls w B e ss c' :=
  fun i hi => by rw [← hc i hi]; exact h i hi
theorem Ls.store {w : World} {B : Nat} {e : TypeId} {ss : List Sl} {c : Nat → List UInt8} (h : Ls w B e ss c) (hd : Dj ss) (k : Nat) (hk : k < ss.length) (g len cap : Nat) (hs : (nth ss k).val = .slice (some ⟨g, 0, none⟩) len cap) (hl : (nth ss k).len = len) (j n : Nat) (y : UInt8) (hy : y = UInt8.ofNat n) :
    Ls (w.setCell ⟨g, j, none⟩ (.int .u8 ((n % 256 : Nat) : Int))) B e ss (fun i => if i = k then (c k).set j y else c i) := by
  subst hy
  intro i hi
  by_cases e : i = k
  · subst e
    simp only [if_true]
    have h1 := h i hi
    rw [hs, hl] at h1 ⊢
    rw [← bvs_set]
    exact (h1.stored j _).1
  · simp only [if_neg e]
    have h1 := h k hk
    rw [hs, hl] at h1
    refine (h i hi).kept (h1.stored j _).2 ?_
    cases hub : (nth ss i).val.ownBlock with
    | none => exact .inl rfl
    | some x =>
      right; intro he; cases he
      exact hd i k hi hk e g hub (by rw [hs]; rfl)

/-- The outer slice's cells. -/
def Outer (w : World) (ob off : Nat) (ss : List Sl) : Prop := ∀ i, i < ss.length → w.cell? ⟨ob, off + i, none⟩ = some (.slice (nth ss i).a (nth ss i).len (nth ss i).cap)
/-- What does not change while the lists are grown. -/
structure Cst (B ob S0 : Nat) (ss : List Sl) : Prop where
  dj : Dj ss
  ne : ∀ i, i < ss.length → (nth ss i).val.ownBlock ≠ some ob
  old : ∀ i, i < ss.length → ∀ g, (nth ss i).val.ownBlock = some g → B ≤ g ∧ g < S0
  obl : ob < S0
  bs : B ≤ S0
/-- Some lists are grown. -/
structure St (w wr : World) (B ob off S0 : Nat) (e ts : TypeId) (ss gs : List Sl) (gv : Value) (k : Nat) : Prop where
  bel : Below B w wr
  size : S0 ≤ wr.heap.size
  out : Outer wr ob off ss
  ls : Ls wr B e ss (fun i => Ap.pat i (nth ss i).len)
  glen : gs.length = k
  gown : wr.ownsRow S0 ts 1 gv k (gs.map Sl.val)
  geach : ∀ i, i < k → wr.ownsRow B e 1 (nth gs i).val ((nth ss i).len + 10) (bvs (Ap.pat i ((nth ss i).len + 10))) ∧ (nth gs i).len = (nth ss i).len + 10
  gblk : ∀ i, i < k → ∀ g, (nth gs i).val.ownBlock = some g → ((nth ss i).val.ownBlock = some g ∨ S0 ≤ g) ∧ gv.ownBlock ≠ some g
/-- List k is being grown. -/
structure Vg (wr : World) (B S0 : Nat) (e : TypeId) (ss gs : List Sl) (gv v : Value) (k t : Nat) : Prop where
  own : wr.ownsRow B e 1 v ((nth ss k).len + t) (bvs (Ap.pat k ((nth ss k).len + t)))
  from' : v = .slice (nth ss k).a ((nth ss k).len + t) (nth ss k).cap ∨ ∃ g, v.ownBlock = some g ∧ S0 ≤ g ∧ gv.ownBlock ≠ some g ∧ ∀ i, i < k → (nth gs i).val.ownBlock ≠ some g
theorem Sl.val_block (s : Sl) : s.val.ownBlock = s.a.map (·.block) := by cases h : s.a <;> simp [Sl.val, Value.ownBlock, h]
section
variable {w wr w' : World} {B ob off S0 : Nat} {e ts : TypeId} {ss gs : List Sl} {gv v v' : Value} {k t : Nat}
theorem St.mono (h : St w wr B ob off S0 e ts ss gs gv k) (c : Cst B ob S0 ss) (hb : Below wr.heap.size wr w') (hob : ob < wr.heap.size) : St w w' B ob off S0 e ts ss gs gv k :=
  ⟨h.bel.trans (hb.mono (Nat.le_trans c.bs h.size)), Nat.le_trans h.size hb.size, fun i hi => by rw [hb.cell (p := ⟨ob, off + i, none⟩) hob]; exact h.out i hi,
   fun i hi => own_below (h.ls i hi) hb, h.glen, own_below h.gown hb, fun i hi => ⟨own_below (h.geach i hi).1 hb, (h.geach i hi).2⟩, h.gblk⟩
theorem Vg.mono (h : Vg wr B S0 e ss gs gv v k t) (hb : Below wr.heap.size wr w') : Vg w' B S0 e ss gs gv v k t := ⟨own_below h.own hb, h.from'⟩
/-- v's block, told apart. -/
theorem Vg.apart (h : Vg wr B S0 e ss gs gv v k t) (c : Cst B ob S0 ss) (s : St w wr B ob off S0 e ts ss gs gv k) (hk : k < ss.length) :
    (∀ i, i < ss.length → i ≠ k → ∀ g, (nth ss i).val.ownBlock = some g → v.ownBlock ≠ some g) ∧ (∀ i, i < k → ∀ g, (nth gs i).val.ownBlock = some g → v.ownBlock ≠ some g) ∧
    v.ownBlock ≠ some ob ∧ (∀ g, gv.ownBlock = some g → v.ownBlock ≠ some g) := by
  rcases h.from' with hv | ⟨g, hg, h1, h2, h3⟩
  · have hvb : v.ownBlock = (nth ss k).val.ownBlock := by rw [hv, Sl.val_block]; cases (nth ss k).a <;> rfl
    rw [hvb]
    refine ⟨fun i hi hne g hg => c.dj i k hi hk hne g hg, fun i hi g hg he => ?_, c.ne k hk, fun g hg he => ?_⟩
    · rcases (s.gblk i hi g hg).1 with h1 | h1
      · exact c.dj i k (by omega) hk (by omega) g h1 he
      · have := (c.old k hk g he).2; omega
    · have h1 := (s.gown.lt g hg).1
      have := (c.old k hk g he).2; omega
  · rw [hg]
    refine ⟨fun i hi hne g' hg' he => ?_, fun i hi g' hg' he => ?_, fun he => ?_, fun g' hg' he => ?_⟩
    · cases he; have := (c.old i hi g hg').2; omega
    · cases he; exact h3 i hi hg'
    · cases he; have := c.obl; omega
    · cases he; exact h2 hg'
/-- A step of growing list k. -/
theorem ap_step (h : Vg wr B S0 e ss gs gv v k t) (c : Cst B ob S0 ss) (s : St w wr B ob off S0 e ts ss gs gv k) (hk : k < ss.length) (hst : Step wr w' v v')
    (hown : w'.ownsRow B e 1 v' ((nth ss k).len + t + 1) (bvs (Ap.pat k ((nth ss k).len + t) ++ [Ap.pby k ((nth ss k).len + t)]))) :
    St w w' B ob off S0 e ts ss gs gv k ∧ Vg w' B S0 e ss gs gv v' k (t + 1) := by
  obtain ⟨a1, a2, a3, a4⟩ := h.apart c s hk
  rw [← Ap.pat_succ] at hown
  refine ⟨⟨hst.below s.bel (Nat.le_trans c.bs s.size) (fun g hg => (h.own.lt g hg).1), Nat.le_trans s.size hst.size, fun i hi => hst.cell (s.out i hi) a3, fun i hi => ?_, s.glen, hst.other s.gown a4, fun i hi => ⟨hst.other (s.geach i hi).1 (a2 i hi), (s.geach i hi).2⟩, s.gblk⟩, ⟨hown, ?_⟩⟩
  · by_cases e1 : i = k
    · subst e1
      rcases h.from' with hv | ⟨g, hg, h1, h2, h3⟩
      · rcases hst with ⟨g, n, cap, n', e2, e3, hg⟩ | ⟨_, hg⟩
        · rw [hv] at e2
          simp only [Value.slice.injEq] at e2
          obtain ⟨e4, e5, e6⟩ := e2
          rcases own_nil_or hown with ⟨e7, _⟩ | ⟨g2, cap2, e7, hle, _⟩
          · rw [e3] at e7; simp at e7
          · rw [e3] at e7
            simp only [Value.slice.injEq, Option.some.injEq, Addr.mk.injEq, and_true, true_and] at e7
            obtain ⟨rfl, rfl, rfl⟩ := e7
            rw [e3] at hown
            have := own_prefix hown (nth ss i).len (by omega)
            rw [show (nth ss i).val = .slice (some ⟨g, 0, none⟩) (nth ss i).len cap by unfold Sl.val; rw [e4, e6]]
            have ep : (bvs (Ap.pat i ((nth ss i).len + t + 1))).take (nth ss i).len = bvs (Ap.pat i (nth ss i).len) := by
              rw [← Ap.pat_take i ((nth ss i).len + t + 1) (nth ss i).len (by omega)]; simp [bvs, List.map_take]
            rw [ep] at this
            exact this
        · exact (s.ls i hi).kept hg (by cases (nth ss i).val.ownBlock <;> simp)
      · exact hst.other (s.ls i hi) (fun g' hg' he => by rw [hg] at he; cases he; have := (c.old i hi g hg').2; omega)
    · exact hst.other (s.ls i hi) (a1 i hi e1)
  · rcases hst with ⟨g, n, cap, n', e2, e3, hg⟩ | ⟨⟨g, hg, hge⟩, _⟩
    · rcases own_nil_or hown with ⟨e7, _⟩ | ⟨g2, cap2, e7, hle, _⟩
      · rw [e3] at e7; simp at e7
      · rw [e3] at e7
        simp only [Value.slice.injEq, Option.some.injEq, Addr.mk.injEq, and_true, true_and] at e7
        obtain ⟨rfl, rfl, rfl⟩ := e7
        rcases h.from' with hv | ⟨g', hg', h1, h2, h3⟩
        · rw [e2] at hv
          simp only [Value.slice.injEq] at hv
          left; rw [e3, hv.1, hv.2.2]; rfl
        · right; refine ⟨g', ?_, h1, h2, h3⟩
          rw [e3]; rw [e2] at hg'; exact hg'
    · right
      refine ⟨g, hg, Nat.le_trans s.size hge, fun he => ?_, fun i hi he => ?_⟩
      · have := (s.gown.lt g he).2; omega
      · have := ((s.geach i hi).1.lt g he).2; omega
/-- List k has been grown and goes to the others. -/
theorem ap_grow (x : Sl) (hx : x.val = v) (hxl : x.len = (nth ss k).len + 10) (h : Vg wr B S0 e ss gs gv v k 10) (c : Cst B ob S0 ss) (s : St w wr B ob off S0 e ts ss gs gv k) (hk : k < ss.length)
    {gv' : Value} (hst : Step wr w' gv gv') (hown : w'.ownsRow S0 ts 1 gv' (k + 1) (gs.map Sl.val ++ [v])) :
    St w w' B ob off S0 e ts ss (gs ++ [x]) gv' (k + 1) := by
  have gbl : ∀ g, gv.ownBlock = some g → S0 ≤ g := fun g hg => (s.gown.lt g hg).1
  have hgl : gs.length = k := s.glen
  have en : ∀ i, i < k → nth (gs ++ [x]) i = nth gs i := fun i hi => by
    rw [nth_get _ i (by simp; omega), nth_get _ i (by omega), List.getElem_append_left]
  have ek : nth (gs ++ [x]) k = x := by rw [nth_get _ k (by simp; omega)]; simp [hgl]
  obtain ⟨a1, a2, a3, a4⟩ := h.apart c s hk
  have nov : ∀ g, v.ownBlock = some g → gv.ownBlock ≠ some g := fun g hg he => a4 g he hg
  refine ⟨hst.below s.bel (Nat.le_trans c.bs s.size) (fun g hg => Nat.le_trans c.bs (gbl g hg)), Nat.le_trans s.size hst.size, fun i hi => hst.cell (s.out i hi) (fun he => by have := gbl _ he; have := c.obl; simp at *; omega),
    fun i hi => hst.other (s.ls i hi) (fun g hg he => by have := gbl _ he; have := (c.old i hi g hg).2; omega), by simp [hgl], by rw [List.map_append, List.map_cons, List.map_nil, hx]; exact hown, fun i hi => ?_, fun i hi g hg => ?_⟩
  · by_cases e1 : i < k
    · rw [en i e1]
      exact ⟨hst.other (s.geach i e1).1 (fun g hg => (s.gblk i e1 g hg).2), (s.geach i e1).2⟩
    · obtain rfl : i = k := by omega
      rw [ek, hx]
      exact ⟨hst.other h.own nov, hxl⟩
  · have hbl : ∀ g, gv'.ownBlock = some g → gv.ownBlock = some g ∨ wr.heap.size ≤ g := hst.block
    by_cases e1 : i < k
    · rw [en i e1] at hg
      refine ⟨(s.gblk i e1 g hg).1, fun he => ?_⟩
      rcases hbl g he with h1 | h1
      · exact (s.gblk i e1 g hg).2 h1
      · have := ((s.geach i e1).1.lt g hg).2; omega
    · obtain rfl : i = k := by omega
      rw [ek, hx] at hg
      refine ⟨?_, fun he => ?_⟩
      · rcases h.from' with hv | ⟨g', hg', h1, _⟩
        · left; rw [hv] at hg; rw [Sl.val_block]; cases ha : (nth ss i).a with
          | none => rw [ha] at hg; simp [Value.ownBlock] at hg
          | some ad => rw [ha] at hg; exact hg
        · rw [hg'] at hg; cases hg; exact .inr h1
      · rcases hbl g he with h1 | h1
        · exact nov g hg h1
        · have := (h.own.lt g hg).2; omega
end
end Go.Proofs.YtfdnjblbhbkndaaDoor
