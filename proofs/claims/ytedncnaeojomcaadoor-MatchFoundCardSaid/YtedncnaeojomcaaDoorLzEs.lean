/- What entering leaves behind, in memory. -/
import Derived.Test.YtedncnaeojomcaaDoorLzRec
import Derived.Test.YtedncnaeojomcaaDoorLzCommon
import Derived.Test.YtedncnaeojomcaaDoorApartMem
namespace Go.Proofs.YtedncnaeojomcaaDoor
open Go.RowKit Go.Maps

namespace Lz
theorem rise_len : ∀ (R : List (Nat × Nat)) (A B : Nat), R.Pairwise (fun p q => p.1 < q.1 ∧ p.2 < q.2) → (∀ q, q ∈ R → A ≤ q.1 ∧ q.1 ≤ B) → R.length ≤ B + 1 - A
  | [], _, _, _, _ => Nat.zero_le _
  | q :: R, A, B, h, hb => by
    obtain ⟨h1, h2⟩ := List.pairwise_cons.1 h
    have hq := hb q (by simp)
    have ih := rise_len R (A + 1) B h2 (fun p hp => ⟨by have := (h1 p hp).1; omega, (hb p (by simp [hp])).2⟩)
    simp only [List.length_cons]
    omega
theorem Rec.len {b : Nat → Nat} {N t : Nat} {R : List (Nat × Nat)} (h : Rec b N t R) : R.length ≤ 259 := by
  have := rise_len R 0 258 h.1 (fun q hq => ⟨Nat.zero_le _, by
    rw [(h.2.1 q hq).2.2.2.2]
    have := cp_le b (L N t) (t - q.2) t
    unfold L at *
    omega⟩)
  omega
end Lz
theorem key_k8 (l : List UInt8) (z : Nat) : K8 (Lz.key (gb l) z) := ⟨gb_lt _ _, gb_lt _ _, gb_lt _ _⟩
/-- A forest with its trees, when all places ahead of t have been entered. -/
structure En (w : World) (g mb bb : Nat) (a : Option Addr) (cap N n : Nat) (l : List UInt8) (t : Nat) : Prop where
  ex : ∃ top f tr, Fm w g mb bb a cap N n l top f ∧ Lz.Fo (gb l) N t tr ∧ ∀ k, K8 k → Lz.Rep f (top k) (tr k)
/-- What enter answers. -/
def EnPost (w : World) (g mb bb : Nat) (a : Option Addr) (cap N n : Nat) (l : List UInt8) (t base : Nat) (v : Value) (R : List (Nat × Nat)) (e : Ending) (w' : World) : Prop :=
  ∃ v' Rt, e = .returned v' ∧ Lz.Rec (gb l) N t Rt ∧ w'.ownsRow base 106 2 v' (R ++ Rt).length (rvs (R ++ Rt)) ∧ En w' g mb bb a cap N (n + 1) l (t + 1) ∧ Ch w w' (fun b => b = mb ∨ b = bb ∨ v.ownBlock = some b) ∧ ∀ b, v'.ownBlock = some b → v.ownBlock = some b ∨ w.heap.size ≤ b
theorem Fm.more {w : World} {g mb bb : Nat} {a : Option Addr} {cap N n m : Nat} {l : List UInt8} {top : Nat × Nat × Nat → Int} {f : Nat → Bool → Int} (h : Fm w g mb bb a cap N n l top f) (hn : n ≤ m) : Fm w g mb bb a cap N m l top f := by
  obtain ⟨D, ho, h2⟩ := h.tops
  exact ⟨h.row, h.txt, ⟨D, ho.mono hn, h2⟩, h.below, h.n1, h.n2, h.n3, h.ta, h.tv⟩
section
variable {w wr : World} {g mb bb : Nat} {a : Option Addr} {cap N n : Nat} {l : List UInt8}
/-- On the way down, in memory: the document's words for what is known are Lp's. -/
def Es (w wr : World) (g mb bb : Nat) (a : Option Addr) (cap N n : Nat) (l : List UInt8) (t m base : Nat) (v : Value) (R : List (Nat × Nat)) (top : Nat × Nat × Nat → Int) (s0 : Lz.T) (f0 : Nat → Bool → Int) (nx : Int) (oL oR p q gg : Nat) (v1 : Value) : Prop :=
  ∃ s f x1 c1 x2 c2 out, Lz.Lp (gb l) t m s0 f0 s f nx x1 c1 x2 c2 p q gg out ∧ Fm wr g mb bb a cap N n l top f ∧ oL = sd x1 c1 ∧ oR = sd x2 c2 ∧
    wr.ownsRow base 106 2 v1 (R ++ out).length (rvs (R ++ out)) ∧ Ch w wr (fun b => b = mb ∨ b = bb ∨ v.ownBlock = some b) ∧ ∀ b, v1.ownBlock = some b → v.ownBlock = some b ∨ w.heap.size ≤ b
/-- It ends. -/
theorem es_fin {t base : Nat} {v v1 : Value} {R out : List (Nat × Nat)} {top : Nat × Nat × Nat → Int} {tr : Nat × Nat × Nat → Lz.T} {f0 f' : Nat → Bool → Int} (hfo : Lz.Fo (gb l) N t tr) (ht : t + 3 ≤ N) (hrep : ∀ k, K8 k → Lz.Rep f0 (top k) (tr k))
    (hg : Lz.Goal (gb l) t (Lz.L N t) (tr (Lz.key (gb l) t)) f0 f') (hout : out = Lz.recs (gb l) t (Lz.L N t) 0 (tr (Lz.key (gb l) t)))
    (hfm : Fm wr g mb bb a cap N (n + 1) l (fun j => if j = Lz.key (gb l) t then (t : Int) else top j) f') (how : wr.ownsRow base 106 2 v1 (R ++ out).length (rvs (R ++ out)))
    (hch : Ch w wr (fun b => b = mb ∨ b = bb ∨ v.ownBlock = some b)) (hv1 : ∀ b, v1.ownBlock = some b → v.ownBlock = some b ∨ w.heap.size ≤ b) :
    EnPost w g mb bb a cap N n l t base v R (.returned v1) wr := by
  obtain ⟨h1, h2⟩ := hfo.long ht
  refine ⟨v1, out, rfl, by rw [hout]; exact h2, how, ⟨_, f', _, hfm, h1, fun k hk => ?_⟩, hch, hv1⟩
  unfold Lz.enter
  by_cases e : k = Lz.key (gb l) t
  · subst e
    rw [if_pos rfl, if_pos rfl]
    exact ⟨rfl, hg.1, hg.2.1⟩
  · rw [if_neg e, if_neg e]
    refine (hrep k hk).kept (fun y d hy => hg.2.2 y d ?_ (fun hm => e ?_))
    · have := (hfo.mem k y hy).1; omega
    · rw [← (hfo.mem k y hy).2.2, (hfo.mem _ y hm).2.2]
/-- Two sides are written. -/
theorem fm_two {top : Nat × Nat × Nat → Int} {f : Nat → Bool → Int} (h : Fm wr g mb bb a cap N n l top f) (x1 x2 : Nat) (c1 c2 : Bool) (h1 : x1 < N) (h2 : x2 < N) (u1 u2 : Int) :
    Fm ((wr.setCell ⟨bb, sd x1 c1, none⟩ (.int .i32 u1)).setCell ⟨bb, sd x2 c2, none⟩ (.int .i32 u2)) g mb bb a cap N n l top (Lz.upd (Lz.upd f x1 c1 u1) x2 c2 u2) ∧
    Ch wr ((wr.setCell ⟨bb, sd x1 c1, none⟩ (.int .i32 u1)).setCell ⟨bb, sd x2 c2, none⟩ (.int .i32 u2)) (fun b => b = bb) := by
  have k1 := h.set x1 c1 h1 u1
  have k2 := k1.1.set x2 c2 h2 u2
  exact ⟨k2.1, k1.2.trans k2.2 (fun n hn => .inl hn)⟩
theorem sd_lt {x : Nat} {c : Bool} {N : Nat} (h : x < N) : sd x c < 2 * N := by unfold sd; cases c <;> simp <;> omega
end
end Go.Proofs.YtedncnaeojomcaaDoor
