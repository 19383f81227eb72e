/- A range over a function: the act behind the assignment is told by the slots that stand before it. -/
import Derived.Test.YtfdnjblbhbkndaaDoorIterA
namespace Go.Proofs.YtfdnjblbhbkndaaDoor
open Go.RowKit
theorem range_iterB {F : Fence} {n : Nat} {P : Program} {α : Type} {g : Operand} {ps : Array Tmp} {assign body : Code} {Q : Exit → Act → World → Prop} {T : Array Value} {D : List Deferred} {w : World}
    (hro : F.round = none) (h1 : 1 ≤ n) {gf : Nat} {lb : Array Value} (hg : ({ tmps := T, defers := D } : Act).eval g = .func (.func gf) #[] lb) (hF : F.fn gf) (eg : ∀ args w, (callFunc gf args).run P w = .ok (.enter gf args) w)
    {encs : α → Array Value} {Kp : World → World → Prop} {S Sp : List α → Prop} {Nx : List α → α → Prop} (hseq : IterN F (n - 1) P gf lb encs Kp S Sp Nx w)
    (hKt : ∀ {A B C : World}, Kp A B → Kp B C → Kp A C) (hKb : ∀ (A : World) (k : Nat) (o o' : Obj), A.heap[k]? = some o → o.isCells = false → Kp A (A.putObj k o')) (hps : ∀ x, (encs x).size = ps.size)
    (I : List α → World → Prop) (Ix : Code → List α → World → Prop) (hI : OwnFrom w.heap.size I) (hX : ∀ c, OwnFrom w.heap.size (Ix c)) (h0 : I [] w) (obj : α → Obj) (hob : ∀ x, (obj x).isCells = true) (hKa : ∀ (A : World) (o : Obj), Kp A (A.alloc o)) (act : Array Value → α → Nat → Act)
    (has : ∀ (k : Nat) (x : α) (A : World) (K : Act → World → Prop), K (act T x A.heap.size) (A.alloc (obj x)) → assign.wpIn (F.inRound k) (n - 1 - 1) P (Exit.then K (fun _ _ _ => False)) { tmps := (ps.zip (encs x)).foldl (fun t (p, v) => t.setIfInBounds p v) T, defers := [] } A)
    (hbo : ∀ (k : Nat) (pre : List α) (x : α) (A : World) (Bx : Nat), I pre A → Nx pre x → w.heap.size ≤ Bx → A.heap[Bx]? = some (obj x) → body.wpIn (F.inRound k) (n - 1 - 1) P (ownPostG w.heap.size Kp I Ix (pre ++ [x]) A) (act T x Bx) A)
    (hend : ∀ (xs : List α) (A : World), S xs → I xs A → A.heap[w.heap.size]? = some (.deferred (some [])) → Q .normal { tmps := T, defers := { target := .collected w.heap.size, args := #[] } :: D } A)
    (hout : ∀ (c : Code) (pre : List α) (A : World), Sp pre → Ix c pre A → A.heap[w.heap.size]? = some (.deferred (some [])) → c.wpIn F n P Q { tmps := T, defers := { target := .collected w.heap.size, args := #[] } :: D } A) :
    (Code.rangeFunc g ps assign body).wpIn F n P Q { tmps := T, defers := D } w :=
  range_iterA hro h1 hg hF eg hseq hKt hKb hps I Ix hI hX h0 obj hob hKa (act T) has hbo hend hout
theorem range_iterNB {F : Fence} {n : Nat} {P : Program} {α : Type} {g : Operand} {ps : Array Tmp} {assign body : Code} {Q : Exit → Act → World → Prop} {T : Array Value} {D : List Deferred} {w : World}
    (hro : F.round = none) (h1 : 1 ≤ n) {gf : Nat} {lb : Array Value} (hg : ({ tmps := T, defers := D } : Act).eval g = .func (.func gf) #[] lb) (hF : F.fn gf) (eg : ∀ args w, (callFunc gf args).run P w = .ok (.enter gf args) w)
    {encs : α → Array Value} {Kp : World → World → Prop} {S Sp : List α → Prop} {Nx : List α → α → Prop} (hseq : IterN F (n - 1) P gf lb encs Kp S Sp Nx w)
    (hKt : ∀ {A B C : World}, Kp A B → Kp B C → Kp A C) (hKb : ∀ (A : World) (k : Nat) (o o' : Obj), A.heap[k]? = some o → o.isCells = false → Kp A (A.putObj k o')) (hps : ∀ x, (encs x).size = ps.size)
    (I : List α → World → Prop) (Ix : Code → List α → World → Prop) (hI : OwnFrom w.heap.size I) (hX : ∀ c, OwnFrom w.heap.size (Ix c)) (h0 : I [] w) (act : Array Value → α → Act)
    (has : ∀ (k : Nat) (x : α) (A : World) (K : Act → World → Prop), K (act T x) A → assign.wpIn (F.inRound k) (n - 1 - 1) P (Exit.then K (fun _ _ _ => False)) { tmps := (ps.zip (encs x)).foldl (fun t (p, v) => t.setIfInBounds p v) T, defers := [] } A)
    (hbo : ∀ (k : Nat) (pre : List α) (x : α) (A : World), I pre A → Nx pre x → body.wpIn (F.inRound k) (n - 1 - 1) P (ownPostG w.heap.size Kp I Ix (pre ++ [x]) A) (act T x) A)
    (hend : ∀ (xs : List α) (A : World), S xs → I xs A → A.heap[w.heap.size]? = some (.deferred (some [])) → Q .normal { tmps := T, defers := { target := .collected w.heap.size, args := #[] } :: D } A)
    (hout : ∀ (c : Code) (pre : List α) (A : World), Sp pre → Ix c pre A → A.heap[w.heap.size]? = some (.deferred (some [])) → c.wpIn F n P Q { tmps := T, defers := { target := .collected w.heap.size, args := #[] } :: D } A) :
    (Code.rangeFunc g ps assign body).wpIn F n P Q { tmps := T, defers := D } w :=
  range_iterN hro h1 hg hF eg hseq hKt hKb hps I Ix hI hX h0 (act T) has hbo hend hout
end Go.Proofs.YtfdnjblbhbkndaaDoor
