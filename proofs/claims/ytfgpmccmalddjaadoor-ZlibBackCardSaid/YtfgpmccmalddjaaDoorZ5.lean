/- The output of inflate in memory. A region that draws its order and ends in one store: loads are taken first under a condition on the world that the last operation may break. -/
import Derived.Test.YtfgpmccmalddjaaDoorZ4
import Derived.Deep.RegionHeld3
import Derived.StillTail
set_option linter.unusedSimpArgs false
set_option linter.unusedVariables false
section
namespace Go.Proofs.YtfgpmccmalddjaaDoor
open Go.RowKit

/-- An output within a block: its bytes, how many there may be, whether tokens are listed, and the tokens. -/
structure Ou (w : World) (B g o : Nat) (T : TypeId) (cs : Array Value) (v : Value) (l : List UInt8) (most : Nat) (ls : Bool) (vl : Value) (ts : List Tok) : Prop where
  row : w.heap[g]? = some (.cells cs T (0, 0))
  k0 : cs[o]? = some v
  k1 : cs[o + 1]? = some (.int .i64 (most : Nat))
  k2 : cs[o + 2]? = some (.bool ls)
  k3 : cs[o + 3]? = some vl
  own : w.ownsRow B 5 1 v l.length (bvs l)
  ol : w.ownsRow B 47 2 vl ts.length (tks ts)
  n1 : ∀ k, v.ownBlock = some k → k ≠ g
  n2 : ∀ k, vl.ownBlock = some k → k ≠ g
  n3 : ∀ k, v.ownBlock = some k → vl.ownBlock ≠ some k
section
variable {w w' w1 w2 : World} {B g o most : Nat} {T : TypeId} {cs : Array Value} {v vl v2 : Value} {l l2 : List UInt8} {ls : Bool} {ts ts2 : List Tok}
theorem Ou.cells (h : Ou w B g o T cs v l most ls vl ts) : w.cell? ⟨g, o, none⟩ = some v ∧ w.cell? ⟨g, o + 1, none⟩ = some (.int .i64 (most : Nat)) ∧ w.cell? ⟨g, o + 2, none⟩ = some (.bool ls) ∧ w.cell? ⟨g, o + 3, none⟩ = some vl := by
  refine ⟨?_, ?_, ?_, ?_⟩ <;> rw [cell_of_row _ _ _ _ _ (0, 0) h.row]
  · exact h.k0
  · exact h.k1
  · exact h.k2
  · exact h.k3
theorem Ou.frozen (h : Ou w B g o T cs v l most ls vl ts) (i : Nat) : w.frozen? ⟨g, i, none⟩ = false := frozen_of_row _ _ _ _ _ h.row
theorem Ou.lt (h : Ou w B g o T cs v l most ls vl ts) : g < w.heap.size := (Array.getElem?_eq_some_iff.1 h.row).1
theorem Ou.below (h : Ou w B g o T cs v l most ls vl ts) (hb : Below w.heap.size w w') : Ou w' B g o T cs v l most ls vl ts :=
  ⟨(hb.block g h.lt).trans h.row, h.k0, h.k1, h.k2, h.k3, own_below h.own hb, own_below h.ol hb, h.n1, h.n2, h.n3⟩
/-- New bytes. -/
theorem Ou.text (h : Ou w B g o T cs v l most ls vl ts) (hb : Below w.heap.size w w1) (c : Ch w1 w2 (fun k => v.ownBlock = some k)) (o2 : w2.ownsRow B 5 1 v2 l2.length (bvs l2)) (f : ∀ k, v2.ownBlock = some k → v.ownBlock = some k ∨ w1.heap.size ≤ k) :
    Ou (w2.setCell ⟨g, o, none⟩ v2) B g o T (cs.setIfInBounds o v2) v2 l2 most ls vl ts := by
  have ho : o < cs.size := (Array.getElem?_eq_some_iff.1 h.k0).1
  have hgz := h.lt
  have hz := hb.size
  have h1 := h.below hb
  have hrow2 : w2.heap[g]? = some (.cells cs T (0, 0)) := (c.block g h1.lt (fun e => h.n1 g e rfl)).trans h1.row
  have n1 : ∀ k, v2.ownBlock = some k → k ≠ g := fun k hk e => by
    rcases f k hk with h' | h'
    · exact h.n1 k h' e
    · omega
  have cs2 := (Ch.refl w2 (fun k => k = g)).set (p := ⟨g, o, none⟩) (.inl rfl) v2
  refine ⟨heap_setCell_same w2 g o _ _ _ hrow2, by simp [ho], ?_, ?_, ?_, cs2.own o2 (fun k hk e => n1 k hk e), cs2.own (c.own h1.ol (fun k hk e => h.n3 k e hk)) (fun k hk e => h.n2 k hk e), n1, h.n2, fun k hk e => ?_⟩
  · rw [Array.getElem?_setIfInBounds, if_neg (by omega)]; exact h.k1
  · rw [Array.getElem?_setIfInBounds, if_neg (by omega)]; exact h.k2
  · rw [Array.getElem?_setIfInBounds, if_neg (by omega)]; exact h.k3
  · rcases f k hk with h' | h'
    · exact h.n3 k h' e
    · have := (h.ol.lt k e).2; omega
/-- New tokens. -/
theorem Ou.list (h : Ou w B g o T cs v l most ls vl ts) (hb : Below w.heap.size w w1) (c : Ch w1 w2 (fun k => vl.ownBlock = some k)) (o2 : w2.ownsRow B 47 2 v2 ts2.length (tks ts2)) (f : ∀ k, v2.ownBlock = some k → vl.ownBlock = some k ∨ w1.heap.size ≤ k) :
    Ou (w2.setCell ⟨g, o + 3, none⟩ v2) B g o T (cs.setIfInBounds (o + 3) v2) v l most ls v2 ts2 := by
  have ho : o + 3 < cs.size := (Array.getElem?_eq_some_iff.1 h.k3).1
  have hgz := h.lt
  have hz := hb.size
  have h1 := h.below hb
  have hrow2 : w2.heap[g]? = some (.cells cs T (0, 0)) := (c.block g h1.lt (fun e => h.n2 g e rfl)).trans h1.row
  have n2 : ∀ k, v2.ownBlock = some k → k ≠ g := fun k hk e => by
    rcases f k hk with h' | h'
    · exact h.n2 k h' e
    · omega
  have cs2 := (Ch.refl w2 (fun k => k = g)).set (p := ⟨g, o + 3, none⟩) (.inl rfl) v2
  refine ⟨heap_setCell_same w2 g (o + 3) _ _ _ hrow2, ?_, ?_, ?_, by simp [ho], cs2.own (c.own h1.own (fun k hk e => h.n3 k hk e)) (fun k hk e => h.n1 k hk e), cs2.own o2 (fun k hk e => n2 k hk e), h.n1, n2, fun k hk e => ?_⟩
  · rw [Array.getElem?_setIfInBounds, if_neg (by omega)]; exact h.k0
  · rw [Array.getElem?_setIfInBounds, if_neg (by omega)]; exact h.k1
  · rw [Array.getElem?_setIfInBounds, if_neg (by omega)]; exact h.k2
  · rcases f k e with h' | h'
    · exact h.n3 k hk h'
    · have := (h.own.lt k hk).2; omega
end
/-- An output that has grown out of another one. -/
def Og (w wr : World) (B g o : Nat) (T : TypeId) (cs : Array Value) (v vl : Value) (l : List UInt8) (most : Nat) (ls : Bool) (ts : List Tok) : Prop :=
  ∃ cs' v' vl', Ou wr B g o T cs' v' l most ls vl' ts ∧ cs'.size = cs.size ∧ (∀ i, i ≠ o → i ≠ o + 3 → cs'[i]? = cs[i]?) ∧
    (∀ k, v'.ownBlock = some k → v.ownBlock = some k ∨ w.heap.size ≤ k) ∧ (∀ k, vl'.ownBlock = some k → vl.ownBlock = some k ∨ w.heap.size ≤ k) ∧ Ch w wr (fun k => k = g ∨ v.ownBlock = some k ∨ vl.ownBlock = some k)
theorem Og.refl {w : World} {B g o most : Nat} {T : TypeId} {cs : Array Value} {v vl : Value} {l : List UInt8} {ls : Bool} {ts : List Tok} (h : Ou w B g o T cs v l most ls vl ts) : Og w w B g o T cs v vl l most ls ts :=
  ⟨cs, v, vl, h, rfl, fun _ _ _ => rfl, fun _ h => .inl h, fun _ h => .inl h, Ch.refl _ _⟩
section
variable {w wr w1 w2 : World} {B g o most : Nat} {T : TypeId} {cs cs' : Array Value} {v vl v' vl' v2 : Value} {l l2 : List UInt8} {ls : Bool} {ts ts2 : List Tok}
theorem Og.below (h : Og w wr B g o T cs v vl l most ls ts) (hb : Below wr.heap.size wr w1) : Og w w1 B g o T cs v vl l most ls ts := by
  obtain ⟨cs', v', vl', h1, h2, h3, h4, h5, h6⟩ := h
  exact ⟨cs', v', vl', h1.below hb, h2, h3, h4, h5, h6.trans (Ch.of_below (T := fun _ => False) hb) (fun _ h => h.elim)⟩
theorem Og.text (h1 : Ou wr B g o T cs' v' l most ls vl' ts) (h2 : cs'.size = cs.size) (h3 : ∀ i, i ≠ o → i ≠ o + 3 → cs'[i]? = cs[i]?) (h4 : ∀ k, v'.ownBlock = some k → v.ownBlock = some k ∨ w.heap.size ≤ k) (h5 : ∀ k, vl'.ownBlock = some k → vl.ownBlock = some k ∨ w.heap.size ≤ k)
    (h6 : Ch w wr (fun k => k = g ∨ v.ownBlock = some k ∨ vl.ownBlock = some k)) (hb : Below wr.heap.size wr w1) (c : Ch w1 w2 (fun k => v'.ownBlock = some k)) (o2 : w2.ownsRow B 5 1 v2 l2.length (bvs l2)) (f : ∀ k, v2.ownBlock = some k → v'.ownBlock = some k ∨ w1.heap.size ≤ k) :
    Og w (w2.setCell ⟨g, o, none⟩ v2) B g o T cs v vl l2 most ls ts := by
  have hz1 := h6.size
  have hz2 := hb.size
  refine ⟨_, v2, vl', h1.text hb c o2 f, by simp [h2], fun i hi hi2 => ?_, fun k hk => ?_, h5, ?_⟩
  · rw [Array.getElem?_setIfInBounds, if_neg (fun e => hi e.symm)]; exact h3 i hi hi2
  · rcases f k hk with h' | h'
    · exact h4 k h'
    · exact .inr (by omega)
  · refine ((h6.trans (Ch.of_below (T := fun _ => False) hb) (fun _ h => h.elim)).trans c (fun k hk => ?_)).set (.inl (.inl rfl)) v2
    rcases h4 k hk with h' | h'
    · exact .inl (.inr (.inl h'))
    · exact .inr h'
theorem Og.list (h1 : Ou wr B g o T cs' v' l most ls vl' ts) (h2 : cs'.size = cs.size) (h3 : ∀ i, i ≠ o → i ≠ o + 3 → cs'[i]? = cs[i]?) (h4 : ∀ k, v'.ownBlock = some k → v.ownBlock = some k ∨ w.heap.size ≤ k) (h5 : ∀ k, vl'.ownBlock = some k → vl.ownBlock = some k ∨ w.heap.size ≤ k)
    (h6 : Ch w wr (fun k => k = g ∨ v.ownBlock = some k ∨ vl.ownBlock = some k)) (hb : Below wr.heap.size wr w1) (c : Ch w1 w2 (fun k => vl'.ownBlock = some k)) (o2 : w2.ownsRow B 47 2 v2 ts2.length (tks ts2)) (f : ∀ k, v2.ownBlock = some k → vl'.ownBlock = some k ∨ w1.heap.size ≤ k) :
    Og w (w2.setCell ⟨g, o + 3, none⟩ v2) B g o T cs v vl l most ls ts2 := by
  have hz1 := h6.size
  have hz2 := hb.size
  refine ⟨_, v', v2, h1.list hb c o2 f, by simp [h2], fun i hi hi2 => ?_, h4, fun k hk => ?_, ?_⟩
  · rw [Array.getElem?_setIfInBounds, if_neg (fun e => hi2 e.symm)]; exact h3 i hi hi2
  · rcases f k hk with h' | h'
    · exact h5 k h'
    · exact .inr (by omega)
  · refine ((h6.trans (Ch.of_below (T := fun _ => False) hb) (fun _ h => h.elim)).trans c (fun k hk => ?_)).set (.inl (.inl rfl)) v2
    rcases h5 k hk with h' | h'
    · exact .inl (.inr (.inr h'))
    · exact .inr h'
theorem Og.up {w0 : World} (h : Og w wr B g o T cs v vl l most ls ts) (hb : Below w0.heap.size w0 w) : Og w0 wr B g o T cs v vl l most ls ts := by
  obtain ⟨cs', v', vl', h1, h2, h3, h4, h5, h6⟩ := h
  exact ⟨cs', v', vl', h1, h2, h3, fun k hk => (h4 k hk).imp id (fun h => Nat.le_trans hb.size h), fun k hk => (h5 k hk).imp id (fun h => Nat.le_trans hb.size h), (Ch.of_below hb).trans h6 (fun n hn => .inl hn)⟩
theorem Og.trans (h2 : cs'.size = cs.size) (h3 : ∀ i, i ≠ o → i ≠ o + 3 → cs'[i]? = cs[i]?) (h4 : ∀ k, v'.ownBlock = some k → v.ownBlock = some k ∨ w.heap.size ≤ k) (h5 : ∀ k, vl'.ownBlock = some k → vl.ownBlock = some k ∨ w.heap.size ≤ k)
    (h6 : Ch w w1 (fun k => k = g ∨ v.ownBlock = some k ∨ vl.ownBlock = some k)) (k : Og w1 w2 B g o T cs' v' vl' l2 most ls ts2) : Og w w2 B g o T cs v vl l2 most ls ts2 := by
  obtain ⟨cs2, v2, vl2, k1, k2, k3, k4, k5, k6⟩ := k
  have hz := h6.size
  refine ⟨cs2, v2, vl2, k1, k2.trans h2, fun i hi hi2 => (k3 i hi hi2).trans (h3 i hi hi2), fun x hx => ?_, fun x hx => ?_, h6.trans k6 (fun n hn => ?_)⟩
  · rcases k4 x hx with h | h
    · exact h4 x h
    · exact .inr (by omega)
  · rcases k5 x hx with h | h
    · exact h5 x h
    · exact .inr (by omega)
  · rcases hn with h | h | h
    · exact .inl (.inl h)
    · rcases h4 n h with h' | h'
      · exact .inl (.inr (.inl h'))
      · exact .inr h'
    · rcases h5 n h with h' | h'
      · exact .inl (.inr (.inr h'))
      · exact .inr h'
end
end Go.Proofs.YtfgpmccmalddjaaDoor
end

section
namespace Go.Proofs.YtfgpmccmalddjaaDoor
open Go

section
variable {P : Program} {ops : Array Oper} {Q : Exit → Act → World → Prop} {md : Region.Mode} {S : World → Prop} {n : Nat}
/-- Whatever order is picked; S holds behind every operation but the n-th. -/
def anyJ (P : Program) (md : Region.Mode) (ops : Array Oper) (Q : Exit → Act → World → Prop) (S : World → Prop) (n : Nat) : Nat → Array Bool → Act → World → Prop
  | 0, listed, a, w => Region.ready md ops listed = [] ∧ Q .normal a w
  | fuel + 1, listed, a, w =>
    (Region.ready md ops listed = [] → Q .normal a w) ∧
    ∀ i ∈ Region.ready md ops listed, wpOp P ops Q i (fun a' w' => (i ≠ n → S w') ∧ anyJ P md ops Q S n fuel (listed.setIfInBounds i true) a' w') a w
theorem any_of_J : ∀ (fuel : Nat) (listed : Array Bool) (a : Act) (w : World), anyJ P md ops Q S n fuel listed a w → wpAny P md ops Q fuel listed a w
  | 0, _, _, _, h => h
  | fuel + 1, _, _, _, h => ⟨h.1, fun i hi => wpOp_mono (fun a' w' h' => any_of_J fuel _ a' w' h'.2) (h.2 i hi)⟩
theorem J_first {i : Nat} {oi : Oper} {v : Value} (hi : ops[i]? = some oi) (hsel : ∀ (j : Nat) (o : Oper) cs b, ops[j]? = some o → o.op ≠ .select cs b)
    (hQ : ∀ c a w, Q (.panic c) (a.put oi.dst v) w → Q (.panic c) a w) (hn : Region.waitsFor md ops n i = true) :
    ∀ (fuel : Nat) (listed : Array Bool) (a : Act) (w : World),
      (∀ j oj, ops[j]? = some oj → j ≠ i → listed.getD j true = false → (∀ e ∈ oj.after, Region.binds md e = true → e.on ≠ i) → oi.apart ops oj = true) →
      i ∈ Region.ready md ops listed → YieldsIf P ops S oi v a → S w →
      anyJ P md ops Q S n fuel (listed.setIfInBounds i true) (a.put oi.dst v) w → anyJ P md ops Q S n (fuel + 1) listed a w := by
  intro fuel
  induction fuel with
  | zero =>
    intro listed a w _ hr hy hS H
    refine ⟨fun h => (by rw [h] at hr; cases hr), fun j hj => ?_⟩
    by_cases hji : j = i
    · subst hji; exact hy.wpOp hi hS ⟨fun _ => hS, H⟩
    · have := ready_mono hj hji
      rw [H.1] at this
      cases this
  | succ fuel ih =>
    intro listed a w hfree hr hy hS H
    refine ⟨fun h => (by rw [h] at hr; cases hr), fun j hj => ?_⟩
    by_cases hji : j = i
    · subst hji; exact hy.wpOp hi hS ⟨fun _ => hS, H⟩
    · have h1 := H.2 j (ready_mono hj hji)
      obtain ⟨hjun, oj, hoj, hall⟩ := mem_ready.1 hj
      have hnot : ∀ e ∈ oj.after, Region.binds md e = true → e.on ≠ i := fun e he hb heq => by
        have h1 := hall e he hb
        have h0 := (mem_ready.1 hr).1
        rw [heq] at h1
        rcases Nat.lt_or_ge i listed.size with h' | h'
        · simp [h'] at h0 h1; rw [h0] at h1; cases h1
        · simp [Array.getElem?_eq_none h'] at h1
      have hjn : j ≠ n := fun e => by
        subst e
        obtain ⟨o2, ho2, e2, he2, hb2, hon⟩ := Region.waitsFor_spec hn
        rw [hoj] at ho2
        cases ho2
        exact hnot e2 he2 hb2 hon
      have h2 := wpOp_putIf hoj (hfree j oj hoj hji hjun hnot) (fun cs b => hsel i oi cs b hi) (fun cs b => hsel j oj cs b hoj) hQ hy h1
      have hfree' : ∀ k ok, ops[k]? = some ok → k ≠ i → (listed.setIfInBounds j true).getD k true = false →
          (∀ e ∈ ok.after, Region.binds md e = true → e.on ≠ i) → oi.apart ops ok = true := fun k ok hk hki hun hno => by
        refine hfree k ok hk hki ?_ hno
        by_cases hjk : j = k
        · subst hjk; exact hjun
        · rw [getD_set_ne true hjk] at hun; exact hun
      refine wpOp_mono (fun a' w' h3 => ⟨h3.2.1, ih (listed.setIfInBounds j true) a' w' hfree' (ready_mono hr (Ne.symm hji)) h3.1 (h3.2.1 hjn) ?_⟩) h2
      rw [Array.setIfInBounds_comm _ _ hji]
      exact h3.2.2
/-- Number i is taken first. -/
theorem J_take {i : Nat} {oi : Oper} {v : Value} {fuel : Nat} {listed : Array Bool} {a : Act} {w : World} (hi : ops[i]? = some oi)
    (hs : Region.noSelect ops = true) (hf : Region.free md ops listed i = true) (hr : (Region.ready md ops listed).contains i = true) (hn : Region.waitsFor md ops n i = true)
    (hQ : ∀ c a w, Q (.panic c) (a.put oi.dst v) w → Q (.panic c) a w) (hS : S w) (hw : Region.wanted oi (yielded ops a.tmps) = true) (hy : ∀ w, S w → (execOp a.eval oi).run P w = .ok (.value v) w)
    (h : anyJ P md ops Q S n fuel (listed.setIfInBounds i true) (a.put oi.dst v) w) : anyJ P md ops Q S n (fuel + 1) listed a w :=
  J_first hi (Region.noSelect_spec hs) hQ hn fuel listed a w (Region.free_spec hi hf) (by simpa using hr) (.inl ⟨hw, hy⟩) hS h
/-- One alone may come up. -/
theorem J_step {i : Nat} {o : Oper} {fuel : Nat} {listed : Array Bool} {a : Act} {w : World} (hr : Region.ready md ops listed = [i]) (ho : ops[i]? = some o)
    (h : ∀ K' : Act → World → Prop, Shut (∀ a w, (i ≠ n → S w) → ((i ≠ n → S w) → anyJ P md ops Q S n fuel (listed.setIfInBounds i true) a w) → K' a w) → if Region.wanted o (yielded ops a.tmps) = true then Oper.wp P o a w K' Q else K' (a.put o.dst undef) w) :
    anyJ P md ops Q S n (fuel + 1) listed a w := by
  refine ⟨fun h0 => (by rw [hr] at h0; cases h0), fun j hj => ?_⟩
  rw [hr] at hj
  obtain rfl : j = i := by simpa using hj
  exact wpOp_step ho (fun K' hK => h K' (fun a w hS hW => hK a w ⟨hS, hW hS⟩))
theorem J_done {listed : Array Bool} {a : Act} {w : World} (hr : Region.ready md ops listed = []) (h : Q .normal a w) : ∀ fuel, anyJ P md ops Q S n fuel listed a w
  | 0 => ⟨hr, h⟩
  | _ + 1 => ⟨fun _ => h, by rw [hr]; simp⟩
theorem region_J {id : Nat} {a : Act} {w : World} (n : Nat) (S : World → Prop) (hm : P.follows .mixedOrders = true) (h : anyJ P .any ops Q S n ops.size (Array.replicate ops.size false) a w.drew) : (Code.region id ops true).wp P Q a w :=
  wp_region_any hm (any_of_J _ _ _ _ h)
end
end Go.Proofs.YtfgpmccmalddjaaDoor
end
