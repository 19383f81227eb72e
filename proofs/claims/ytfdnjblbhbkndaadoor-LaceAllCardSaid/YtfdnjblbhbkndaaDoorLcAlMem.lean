/- LaceAll: rows of three numbers in memory, and what its function keeps. -/
import Derived.Test.YtfdnjblbhbkndaaDoorLcPassIt
import Derived.Test.YtfdnjblbhbkndaaDoorLcParts
import Derived.Test.YtfdnjblbhbkndaaDoorLcRefSize
import Derived.Test.YtfdnjblbhbkndaaDoorWalkIn
import Derived.Test.YtfdnjblbhbkndaaDoorCh
import Derived.Test.YtfdnjblbhbkndaaDoorKc
namespace Go.Proofs.YtfdnjblbhbkndaaDoor
open Go.RowKit

namespace Lc
/-- A row of three numbers. -/
def row3 (q : Nat × Pa) : List Value := [.int .i64 (q.1 : Nat), .int .i64 (q.2.c : Nat), .int .i64 (q.2.r : Nat)]
def rows3 (l : List (Nat × Pa)) : List Value := l.flatMap row3
theorem rows3_app (l m : List (Nat × Pa)) : rows3 (l ++ m) = rows3 l ++ rows3 m := by simp [rows3]
theorem rows3_get (l : List (Nat × Pa)) : ∀ (k : Nat) (q : Nat × Pa), l[k]? = some q → (rows3 l)[k * 3]? = some (.int .i64 (q.1 : Nat)) ∧ (rows3 l)[k * 3 + 1]? = some (.int .i64 (q.2.c : Nat)) ∧ (rows3 l)[k * 3 + 2]? = some (.int .i64 (q.2.r : Nat)) := by
  induction l with
  | nil => intro k q h; simp at h
  | cons o l ih =>
    intro k q h
    have e : rows3 (o :: l) = .int .i64 (o.1 : Nat) :: .int .i64 (o.2.c : Nat) :: .int .i64 (o.2.r : Nat) :: rows3 l := rfl
    rw [e]
    cases k with
    | zero =>
      simp only [List.getElem?_cons_zero, Option.some.injEq] at h
      subst h
      exact ⟨rfl, rfl, rfl⟩
    | succ k =>
      have := ih k q (by simpa using h)
      have e3 : (k + 1) * 3 = k * 3 + 3 := by omega
      rw [e3]
      exact this
theorem tyW : RowTy Tryd.prog 45 46 (.agg #[.int .i64 0, .int .i64 0, .int .i64 0]) 3 24 := ⟨Tryd.underlying45, by kernel_rfl, rfl, by omega⟩
theorem src_row3 (w : World) (q : Nat × Pa) : SrcRow (w.alloc (.cells #[.int .i64 (q.1 : Nat), .int .i64 (q.2.c : Nat), .int .i64 (q.2.r : Nat)] 46)) (some ⟨w.heap.size, 0, none⟩) 1 1 (rows3 [q]) 3 :=
  src_new w #[.int .i64 (q.1 : Nat), .int .i64 (q.2.c : Nat), .int .i64 (q.2.r : Nat)] 46 1 1 3 rfl (by intro u hu; simp at hu; rcases hu with rfl | rfl | rfl <;> rfl)
theorem own_ne {w : World} {base size n B : Nat} {e t : TypeId} {v u : Value} {xs : List Value} (h : w.ownsRow base e size v n xs) (b : Boxed w B t u) (he : e ≠ t) : v.ownBlock ≠ some B := by
  intro hv
  rcases h.2 with ⟨h1, _⟩ | ⟨g, cap, cur, h1, _, hg, _⟩
  · rw [h1] at hv; simp [Value.ownBlock] at hv
  · rw [h1] at hv
    simp only [Value.ownBlock, Option.some.injEq] at hv
    subst hv
    have hb : w.heap[g]? = some (.cells #[u] t (0, 0)) := b
    rw [hg] at hb
    simp only [Option.some.injEq, Obj.cells.injEq] at hb
    exact he hb.2.1
theorem own_slice {w : World} {base size n : Nat} {e : TypeId} {v : Value} {xs : List Value} (h : w.ownsRow base e size v n xs) : ∃ va vc, v = .slice va n vc := by
  rcases own_nil_or h with ⟨rfl, hx⟩ | ⟨g, cap, rfl, _⟩
  · exact ⟨none, 0, by rw [hx]⟩
  · exact ⟨_, cap, rfl⟩
theorem own_ne_d {w : World} {base size n B : Nat} {e : TypeId} {v : Value} {xs : List Value} {o : Option (List Deferred)} (h : w.ownsRow base e size v n xs) (b : w.heap[B]? = some (.deferred o)) : v.ownBlock ≠ some B := by
  intro hv
  rcases h.2 with ⟨h1, _⟩ | ⟨g, cap, cur, h1, _, hg, _⟩
  · rw [h1] at hv; simp [Value.ownBlock] at hv
  · rw [h1] at hv
    simp only [Value.ownBlock, Option.some.injEq] at hv
    subst hv
    rw [hg] at b
    simp at b
def most8 (c : Int) : Nat := 1 + (IntKind.u64.wrap c % 8).toNat
theorem most8_val (a : Int) : wrap64 (1 + wrap64 ((IntKind.u64.wrap a).tmod 8)) = (most8 a : Nat) := by
  have h1 : 0 ≤ IntKind.u64.wrap a := by
    simp [IntKind.wrap, IntKind.bits, IntKind.signed]; omega
  rw [Int.tmod_eq_emod_of_nonneg h1]
  unfold most8
  generalize IntKind.u64.wrap a = x at *
  rw [IntWalk.wrap64_in (x % 8) ⟨by omega, by omega⟩, IntWalk.wrap64_in _ ⟨by omega, by omega⟩]
  omega
theorem most8_bd (a : Int) : 1 ≤ most8 a ∧ most8 a ≤ 8 := by unfold most8; omega
theorem eight : psL 8 8 1 = parts 8 8 1 ∧ (parts 8 8 1).length = 7 := ⟨if_pos ⟨rfl, rfl, .inr rfl⟩, by decide +kernel⟩
/-- The boxes of the law's function, and the rows that it wants. -/
structure Wn (w W : World) (M : Int) (S B D : Nat) (v : Value) (wl : List (Nat × Pa)) : Prop where
  b0 : Boxed W w.heap.size 3 (.int .i64 M)
  b1 : Boxed W (w.heap.size + 1) 4 (.bool false)
  b2 : Boxed W S 3 (.int .i64 7)
  bw : Boxed W B 45 v
  row : W.ownsRow w.heap.size 46 3 v wl.length (rows3 wl)
  d1 : W.heap[D]? = some (.deferred (some []))
  bel : Below w.heap.size w W
  gb : w.heap.size + 1 < B
  sb : S < B
  db : D < B
section
variable {w W Wx W' : World} {M : Int} {S B D G n vc : Nat} {v v' : Value} {wl : List (Nat × Pa)}
theorem Wn.below (h : Wn w W M S B D v wl) (hb : Below W.heap.size W Wx) : Wn w Wx M S B D v wl :=
  ⟨(hb.block _ h.b0.lt).trans h.b0, (hb.block _ h.b1.lt).trans h.b1, (hb.block _ h.b2.lt).trans h.b2, (hb.block _ h.bw.lt).trans h.bw, own_below h.row hb, (hb.block _ (Array.getElem?_eq_some_iff.1 h.d1).1).trans h.d1, h.bel.trans (hb.mono h.bel.size), h.gb, h.sb, h.db⟩
theorem Wn.grown {row : Option Nat} (h : Wn w W M S B D v wl) (hg : W.grownBy Wx row) (hB : ∀ r, row = some r → B < r) (hr : ∀ r, row = some r → ∃ o : Obj, W.heap[r]? = some o ∧ o.isCells = false) : Wn w Wx M S B D v wl := by
  have hk := Bk.kc_cells hg hr
  have hgb := h.gb
  exact ⟨hk _ _ h.b0 rfl (fun h => h), hk _ _ h.b1 rfl (fun h => h), hk _ _ h.b2 rfl (fun h => h), hk _ _ h.bw rfl (fun h => h), Bk.own_kc h.row hk (fun _ _ h => h), (hg.block _ (Array.getElem?_eq_some_iff.1 h.d1).1 (fun e => by have := hB _ e.symm; have := h.db; omega)).trans h.d1, h.bel.grown hg h.bel.size (fun r e => by have := hB r e; omega), h.gb, h.sb, h.db⟩
theorem Wn.setk (h : Wn w W M S B D v wl) (K : Nat) (hK : B < K) (u z : Value) (hb : Boxed W K 3 u) : Wn w (W.setCell ⟨K, 0, none⟩ z) M S B D v wl := by
  have nk := own_ne h.row hb (by decide)
  have hs : Ch W (W.setCell ⟨K, 0, none⟩ z) (fun k => k = K) := Ch.set (T := fun k => k = K) (Ch.refl _ _) (p := ⟨K, 0, none⟩) (.inl rfl) _
  have g1 := h.gb
  have g2 := h.sb
  have g3 := h.db
  exact ⟨(hs.block _ h.b0.lt (by omega)).trans h.b0, (hs.block _ h.b1.lt (by omega)).trans h.b1, (hs.block _ h.b2.lt (by omega)).trans h.b2, (hs.block _ h.bw.lt (by omega)).trans h.bw, hs.own h.row (fun g hg e => nk (by rw [hg]; exact congrArg some e)), (hs.block _ (Array.getElem?_eq_some_iff.1 h.d1).1 (by omega)).trans h.d1, h.bel.setCell (p := ⟨K, 0, none⟩) (by show w.heap.size ≤ K; omega) _, g1, g2, g3⟩
theorem Wn.three (h : Wn w W M S B D (.slice (some ⟨G, 0, none⟩) wl.length vc) wl) (k : Nat) (q : Nat × Pa) (hq : wl[k]? = some q) :
    W.cell? ⟨G, k * 3, none⟩ = some (.int .i64 (q.1 : Nat)) ∧ W.cell? ⟨G, k * 3 + 1, none⟩ = some (.int .i64 (q.2.c : Nat)) ∧ W.cell? ⟨G, k * 3 + 2, none⟩ = some (.int .i64 (q.2.r : Nat)) := by
  obtain ⟨t0, t1, t2⟩ := rows3_get wl k q hq
  have hk : k < wl.length := (List.getElem?_eq_some_iff.1 hq).1
  exact ⟨by rw [h.row.cellAt (k * 3) (by omega), t0], by rw [h.row.cellAt (k * 3 + 1) (by omega), t1], by rw [h.row.cellAt (k * 3 + 2) (by omega), t2]⟩
theorem Wn.slice (h : Wn w W M S B D v wl) : ∃ va vc, v = .slice va wl.length vc := by
  rcases own_nil_or h.row with ⟨rfl, hx⟩ | ⟨g, cap, rfl, _⟩
  · exact ⟨none, 0, by rw [hx]⟩
  · exact ⟨_, cap, rfl⟩
/-- One row more. -/
theorem Wn.push (h : Wn w W M S B D v wl) (q : Nat × Pa) (own' : W'.ownsRow w.heap.size 46 3 v' (wl.length + 1) (rows3 wl ++ rows3 [q])) (hc : Ch W W' (fun k => v.ownBlock = some k)) :
    Wn w (W'.setCell ⟨B, 0, none⟩ v') M S B D v' (wl ++ [q]) := by
  have n0 := own_ne h.row h.b0 (by decide)
  have n1 := own_ne h.row h.b1 (by decide)
  have n2 := own_ne h.row h.b2 (by decide)
  have nb := own_ne h.row h.bw (by decide)
  have nd := own_ne_d h.row h.d1
  have e : (wl ++ [q]).length = wl.length + 1 := by simp
  have hs : Ch W' (W'.setCell ⟨B, 0, none⟩ v') (fun k => k = B) := Ch.set (T := fun k => k = B) (Ch.refl _ _) (p := ⟨B, 0, none⟩) (.inl rfl) _
  have t0 := (hc.block _ h.b0.lt n0).trans h.b0
  have t1 := (hc.block _ h.b1.lt n1).trans h.b1
  have t2 := (hc.block _ h.b2.lt n2).trans h.b2
  have tb : Boxed W' B 45 v := (hc.block _ h.bw.lt nb).trans h.bw
  have td := (hc.block _ (Array.getElem?_eq_some_iff.1 h.d1).1 nd).trans h.d1
  have g1 := h.gb
  have g2 := h.sb
  have g3 := h.db
  refine ⟨(hs.block _ (Boxed.lt t0) (by omega)).trans t0, (hs.block _ (Boxed.lt t1) (by omega)).trans t1, (hs.block _ (Boxed.lt t2) (by omega)).trans t2, heap_setCell_same W' B 0 _ _ _ tb, ?_, (hs.block _ (Array.getElem?_eq_some_iff.1 td).1 (by omega)).trans td, ?_, g1, g2, g3⟩
  · rw [e, rows3_app]
    refine hs.own own' (fun g hg hgB => ?_)
    have hgB : g = B := hgB
    subst hgB
    exact own_ne own' tb (by decide) hg
  · have hb1 := hc.below h.bel.size (fun k hk => (h.row.lt k hk).1)
    exact (h.bel.trans hb1).setCell (p := ⟨B, 0, none⟩) (by show w.heap.size ≤ B; omega) _
end
end Lc
end Go.Proofs.YtfdnjblbhbkndaaDoor
