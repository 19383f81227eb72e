/- A function that ranges over functions more than once leaves with as many marks. -/
import Derived.RangeFuncNested
import Derived.RangeFuncBound
import Derived.RangeFuncCalls
import Derived.RangeFuncLeaves
import Derived.RangeFuncFrom
import Derived.Test.YtfdnjblbhbkndaaDoorBase
namespace Go.Proofs.YtfdnjblbhbkndaaDoor
open Go.RowKit

def mkD (D : Nat) : Deferred := { target := .collected D, args := #[] }
/-- The marks' blocks. -/
def Marks (B : Nat) (Ds : List Nat) (W : World) : Prop := Ds.Nodup ∧ ∀ D ∈ Ds, B ≤ D ∧ W.heap[D]? = some (.deferred (some []))
theorem Marks.lt {B : Nat} {Ds : List Nat} {W : World} (h : Marks B Ds W) : ∀ D ∈ Ds, D < W.heap.size := fun D hD => (Array.getElem?_eq_some_iff.1 (h.2 D hD).2).1
theorem Marks.cons {B D : Nat} {Ds : List Nat} {W W' : World} (h : Marks B Ds W) (hb : ∀ k ∈ Ds, W'.heap[k]? = W.heap[k]?) (hD : W.heap.size ≤ D) (hB : B ≤ D) (hd : W'.heap[D]? = some (.deferred (some []))) : Marks B (D :: Ds) W' := by
  refine ⟨List.nodup_cons.2 ⟨fun hm => by have := h.lt D hm; omega, h.1⟩, fun k hk => ?_⟩
  rcases List.mem_cons.1 hk with rfl | hk
  · exact ⟨hB, hd⟩
  · exact ⟨(h.2 k hk).1, (hb k hk).trans (h.2 k hk).2⟩
theorem leaves_marks {F : Fence} {n : Nat} {P : Program} {fn : Func} {tmps : Array Value} {R : Ending → World → Prop} {B : Nat} (Q : World → Prop)
    (hQ : ∀ W D, Q W → B ≤ D → W.heap[D]? = some (.deferred (some [])) → Q (W.putObj D (.deferred none)))
    (hR : ∀ W, Q W → ∃ v, (results fn tmps).run P W = .ok v W ∧ R (.returned v) W) :
    ∀ (Ds : List Nat) (W : World), Marks B Ds W → Q W → LeavesInM F n P fn tmps R (Ds.map mkD) .returning W
  | [], W, _, hq => hR W hq
  | D :: Ds, W, hm, hq => by
    have hD := hm.2 D (by simp)
    refine ⟨by simp, .inl ⟨D, _, rfl, run_takeDeferred hD.2, ?_⟩⟩
    refine leaves_marks Q hQ hR Ds _ ⟨(List.nodup_cons.1 hm.1).2, fun k hk => ⟨(hm.2 k (List.mem_cons_of_mem _ hk)).1, ?_⟩⟩ (hQ W D hq hD.1 hD.2)
    rw [World.putObj_heap_other (fun e => (List.nodup_cons.1 hm.1).1 (by rw [← e]; exact hk))]
    exact (hm.2 k (List.mem_cons_of_mem _ hk)).2
end Go.Proofs.YtfdnjblbhbkndaaDoor
