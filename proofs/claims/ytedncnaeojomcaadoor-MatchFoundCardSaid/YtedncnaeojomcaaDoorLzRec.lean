/- Records in memory; a forest's sides in memory. -/
import Derived.Test.YtedncnaeojomcaaDoorLzMem
namespace Go.Proofs.YtedncnaeojomcaaDoor
open Go.RowKit Go.Maps

/-- Records as cells. -/
def rvs (R : List (Nat × Nat)) : List Value := R.flatMap fun q => [.int .u16 (q.1 : Int), .int .u16 (q.2 : Int)]
theorem rvs_length (R : List (Nat × Nat)) : (rvs R).length = R.length * 2 := by
  induction R with
  | nil => rfl
  | cons q R ih => simp only [rvs, List.flatMap_cons, List.length_append, List.length_cons, List.length_nil] at *; omega
theorem rvs_append (R S : List (Nat × Nat)) : rvs (R ++ S) = rvs R ++ rvs S := by simp [rvs]
theorem rvs_one (R : List (Nat × Nat)) : ∀ u ∈ rvs R, u.oneCell' = true := by
  intro u hu
  simp only [rvs, List.mem_flatMap] at hu
  obtain ⟨q, _, hq⟩ := hu
  simp at hq
  rcases hq with rfl | rfl <;> rfl
theorem rvs_get : ∀ (R : List (Nat × Nat)) (i : Nat), i < R.length → (rvs R)[i * 2]? = some (.int .u16 ((R.getD i (0, 0)).1 : Int)) ∧ (rvs R)[i * 2 + 1]? = some (.int .u16 ((R.getD i (0, 0)).2 : Int))
  | [], i, h => by simp at h
  | q :: R, i, h => by
    have e : rvs (q :: R) = .int .u16 (q.1 : Int) :: .int .u16 (q.2 : Int) :: rvs R := rfl
    rw [e]
    cases i with
    | zero => exact ⟨rfl, rfl⟩
    | succ i =>
      have ih := rvs_get R i (by simpa using h)
      rw [show (i + 1) * 2 = i * 2 + 1 + 1 by omega]
      exact ⟨ih.1, ih.2⟩
theorem tyRec : RowTy Tryd.prog 73 106 (.agg #[.int .u16 0, .int .u16 0]) 2 4 := ⟨Tryd.underlying73, by kernel_rfl, rfl, by omega⟩
theorem src_rec (w : World) (q : Nat × Nat) : SrcRow (w.alloc (.cells #[.int .u16 (q.1 : Int), .int .u16 (q.2 : Int)] 106)) (some ⟨w.heap.size, 0, none⟩) 1 1 (rvs [q]) 2 :=
  src_new w _ _ 1 1 2 rfl (rvs_one [q])
section
variable {w w' : World} {g mb bb : Nat} {a : Option Addr} {cap N n : Nat} {l : List UInt8} {top : Nat × Nat × Nat → Int} {f : Nat → Bool → Int}
/-- Where a place's side lies. -/
def sd (x : Nat) (c : Bool) : Nat := 2 * x + (if c then 1 else 0)
theorem Fm.cell (h : Fm w g mb bb a cap N n l top f) (x : Nat) (c : Bool) (hx : x < N) : w.cell? ⟨bb, sd x c, none⟩ = some (.int .i32 (f x c)) := by
  obtain ⟨cs, hcs, _, h2⟩ := h.below
  rw [cell_of_row _ _ _ _ _ (0, 0) hcs]
  cases c
  · exact (h2 x hx).1
  · exact (h2 x hx).2
theorem Fm.free (h : Fm w g mb bb a cap N n l top f) (o : Nat) : w.frozen? ⟨bb, o, none⟩ = false := by
  obtain ⟨cs, hcs, _, _⟩ := h.below
  exact frozen_of_row _ _ _ _ _ hcs
theorem Fm.lt (h : Fm w g mb bb a cap N n l top f) : g < w.heap.size ∧ bb < w.heap.size ∧ mb < w.heap.size := by
  obtain ⟨cs, hcs, _, _⟩ := h.below
  obtain ⟨D, ho, _⟩ := h.tops
  exact ⟨(Array.getElem?_eq_some_iff.1 h.row).1, (Array.getElem?_eq_some_iff.1 hcs).1, ho.lt⟩
theorem Tops.kept {e : TypeId} {q : IntKind} {T : Nat → Prop} {b : Nat} {no : Int} (h : Tops e q w b n no top) (c : Ch w w' T) (hn : ¬ T b) : Tops e q w' b n no top := by
  obtain ⟨D, ⟨es, clock, hb, F, hs, hD⟩, h2⟩ := h
  exact ⟨D, ⟨es, clock, (c.block b (Array.getElem?_eq_some_iff.1 hb).1 hn).trans hb, F, hs, hD⟩, h2⟩
theorem Fm.kept {T : Nat → Prop} (h : Fm w g mb bb a cap N n l top f) (c : Ch w w' T) (h1 : ¬ T g) (h2 : ¬ T mb) (h3 : ¬ T bb) (h4 : ∀ ad, a = some ad → ¬ T ad.block) : Fm w' g mb bb a cap N n l top f := by
  obtain ⟨cs, hcs, k1, k2⟩ := h.below
  exact ⟨(c.block g h.lt.1 h1).trans h.row, h.txt.kept c h4, h.tops.kept c h2, ⟨cs, (c.block bb h.lt.2.1 h3).trans hcs, k1, k2⟩, h.n1, h.n2, h.n3, h.ta, h.tv⟩
theorem Fm.set (h : Fm w g mb bb a cap N n l top f) (x : Nat) (c : Bool) (hx : x < N) (v : Int) : Fm (w.setCell ⟨bb, sd x c, none⟩ (.int .i32 v)) g mb bb a cap N n l top (Lz.upd f x c v) ∧ Ch w (w.setCell ⟨bb, sd x c, none⟩ (.int .i32 v)) (fun b => b = bb) := by
  have hc : Ch w (w.setCell ⟨bb, sd x c, none⟩ (.int .i32 v)) (fun b => b = bb) := (Ch.refl w (fun b => b = bb)).set (.inl rfl) _
  obtain ⟨cs, hcs, k1, k2⟩ := h.below
  refine ⟨⟨(hc.block g h.lt.1 (fun e => h.n2 e.symm)).trans h.row, h.txt.kept hc (fun ad e => (h.ta ad e).2.2), h.tops.kept hc (fun e => h.n3 e.symm), ⟨cs.setIfInBounds (sd x c) (.int .i32 v), heap_setCell_same _ _ _ _ _ _ hcs, by simp [k1], fun y hy => ?_⟩, h.n1, h.n2, h.n3, h.ta, h.tv⟩, hc⟩
  have key : ∀ d : Bool, (cs.setIfInBounds (sd x c) (.int .i32 v))[sd y d]? = some (.int .i32 (Lz.upd f x c v y d)) := fun d => by
    by_cases e : y = x ∧ d = c
    · obtain ⟨rfl, rfl⟩ := e
      rw [Lz.upd_self, Array.getElem?_setIfInBounds_self_of_lt]
      rw [k1]
      unfold sd
      cases d <;> simp <;> omega
    · rw [Lz.upd_other _ _ e, Array.getElem?_setIfInBounds_ne]
      · cases d
        · exact (k2 y hy).1
        · exact (k2 y hy).2
      · intro he
        apply e
        unfold sd at he
        cases c <;> cases d <;> simp at he ⊢ <;> omega
  exact ⟨key false, key true⟩
end
end Go.Proofs.YtedncnaeojomcaaDoor
