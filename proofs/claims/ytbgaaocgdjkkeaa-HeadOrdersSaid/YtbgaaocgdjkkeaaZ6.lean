/- What a call may change: 'only blocks of T'. Chunks: a name and bytes; slices of these in memory. -/
import Derived.Test.YtbgaaocgdjkkeaaZ1
import Derived.Test.YtbgaaocgdjkkeaaZ4
set_option linter.unusedSimpArgs false
set_option linter.unusedVariables false
section
namespace Go.Proofs.Ytbgaaocgdjkkeaa
open Go.RowKit

/-- Only blocks of T may have changed; new ones may have come. -/
structure Ch (w w' : World) (T : Nat → Prop) : Prop where
  os : w'.os = w.os
  tape : w'.tape = w.tape
  output : w'.output = w.output
  size : w.heap.size ≤ w'.heap.size
  block : ∀ k, k < w.heap.size → ¬ T k → w'.heap[k]? = w.heap[k]?
theorem Ch.refl (w : World) (T : Nat → Prop) : Ch w w T := ⟨rfl, rfl, rfl, Nat.le_refl _, fun _ _ _ => rfl⟩
theorem Ch.of_below {w w' : World} {T : Nat → Prop} (h : Below w.heap.size w w') : Ch w w' T := ⟨h.os, h.tape, h.output, h.size, fun k hk _ => h.block k hk⟩
theorem Ch.trans {a b c : World} {T U : Nat → Prop} (h : Ch a b T) (k : Ch b c U) (hu : ∀ n, U n → T n ∨ a.heap.size ≤ n) : Ch a c T :=
  ⟨k.os.trans h.os, k.tape.trans h.tape, k.output.trans h.output, Nat.le_trans h.size k.size, fun i hi ht => (k.block i (Nat.lt_of_lt_of_le hi h.size) (fun hui => (hu i hui).elim ht (fun h' => by omega))).trans (h.block i hi ht)⟩
theorem Ch.drew {a w : World} {T : Nat → Prop} (h : Ch a w T) : Ch a w.drew T := ⟨h.os, h.tape, h.output, h.size, h.block⟩
theorem Ch.alloc {a w : World} {T : Nat → Prop} (h : Ch a w T) (o : Obj) : Ch a (w.alloc o) T :=
  h.trans (Ch.of_below (T := fun _ => False) (below_alloc w o)) (fun _ h => h.elim)
theorem Ch.set {a w : World} {T : Nat → Prop} (h : Ch a w T) {p : Addr} (hp : T p.block ∨ a.heap.size ≤ p.block) (u : Value) : Ch a (w.setCell p u) T :=
  h.trans (U := fun k => k = p.block) ⟨rfl, rfl, rfl, by simp, fun k _ ht => Below.heap_setCell w p u k ht⟩ (fun n hn => by subst hn; exact hp)
theorem Ch.below {w w' : World} {T : Nat → Prop} (h : Ch w w' T) {B : Nat} (hB : B ≤ w.heap.size) (ht : ∀ k, T k → B ≤ k) : Below B w w' :=
  ⟨h.os, h.tape, h.output, h.size, fun k hk => h.block k (by omega) (fun h' => by have := ht k h'; omega)⟩
theorem Ch.own {w w' : World} {T : Nat → Prop} (h : Ch w w' T) {base : Nat} {e : TypeId} {size : Nat} {v : Value} {n : Nat} {xs : List Value} (hv : w.ownsRow base e size v n xs) (hn : ∀ g, v.ownBlock = some g → ¬ T g) : w'.ownsRow base e size v n xs := by
  obtain ⟨h1, h2⟩ := hv
  refine ⟨h1, ?_⟩
  rcases h2 with h2 | ⟨g, cap, cur, rfl, hb, hg, r⟩
  · exact .inl h2
  · refine .inr ⟨g, cap, cur, rfl, hb, ?_, r⟩
    rw [h.block g (Array.getElem?_eq_some_iff.1 hg).1 (hn g rfl)]; exact hg
theorem Ch.step {w w' : World} {v v' : Value} (h : Step w w' v v') : Ch w w' (fun k => v.ownBlock = some k) := by
  rcases h with ⟨g, k, cap, k', rfl, _, hg⟩ | ⟨_, hg⟩
  · exact ⟨hg.os, hg.tape, hg.output, hg.size, fun i hi ht => hg.block i hi (fun e => ht (by simpa [Value.ownBlock] using e.symm))⟩
  · exact ⟨hg.os, hg.tape, hg.output, hg.size, fun i hi _ => hg.block i hi (by simp)⟩
theorem Ch.wide {w w' : World} {T U : Nat → Prop} (h : Ch w w' T) (hu : ∀ k, T k → U k ∨ w.heap.size ≤ k) : Ch w w' U :=
  ⟨h.os, h.tape, h.output, h.size, fun k hk ht => h.block k hk (fun h' => (hu k h').elim ht (fun h'' => by omega))⟩

end Go.Proofs.Ytbgaaocgdjkkeaa
end

section
namespace Go.Proofs.Ytbgaaocgdjkkeaa
open Go.RowKit

/-- A chunk as it stands in memory: its name, and its data's slice. -/
structure Ckm where
  n : List UInt8
  s : Sl
instance : Inhabited Ckm := ⟨⟨[], default⟩⟩
def Ckm.val (c : Ckm) : Value := .agg #[.string (str c.n), c.s.val]
def nck (l : List Ckm) (i : Nat) : Ckm := l.getD i default
theorem nck_get (l : List Ckm) (i : Nat) (h : i < l.length) : nck l i = l[i] := by simp [nck, List.getD, List.getElem?_eq_getElem h]
theorem nck_mem (l : List Ckm) (i : Nat) (h : i < l.length) : nck l i ∈ l := by rw [nck_get l i h]; exact List.getElem_mem h
/-- Chunks as cells. -/
def cks (l : List Ckm) : List Value := l.flatMap fun c => [.string (str c.n), c.s.val]
theorem cks_length (l : List Ckm) : (cks l).length = l.length * 2 := by
  induction l with
  | nil => rfl
  | cons o l ih => simp only [cks, List.flatMap_cons, List.length_append, List.length_cons, List.length_nil] at *; omega
theorem cks_append (l m : List Ckm) : cks (l ++ m) = cks l ++ cks m := by simp [cks]
theorem cks_get (l : List Ckm) : ∀ i, i < l.length → (cks l)[i * 2]? = some (.string (str (nck l i).n)) ∧ (cks l)[i * 2 + 1]? = some (nck l i).s.val := by
  induction l with
  | nil => intro i hi; simp at hi
  | cons c cs ih =>
    intro i hi
    have e : cks (c :: cs) = .string (str c.n) :: c.s.val :: cks cs := rfl
    rw [e]
    cases i with
    | zero => exact ⟨rfl, rfl⟩
    | succ i =>
      have := ih i (by simp at hi; omega)
      have e3 : (i + 1) * 2 = i * 2 + 2 := by omega
      rw [e3]
      exact this
theorem cks_one (l : List Ckm) : ∀ u ∈ cks l, u.oneCell' = true := by
  intro u hu
  simp only [cks, List.mem_flatMap] at hu
  obtain ⟨o, _, ho⟩ := hu
  simp at ho
  rcases ho with rfl | rfl <;> rfl
/-- A slice of chunks that reads as l. -/
structure Cs (w : World) (a : Option Addr) (len cap : Nat) (l : List Ckm) : Prop where
  hlen : l.length = len
  hle : len ≤ cap
  hnil : a = none → cap = 0
  at' : ∀ i, i < len → ∃ b off, a = some ⟨b, off, none⟩ ∧ b < w.heap.size ∧ w.cell? ⟨b, off + i * 2, none⟩ = some (.string (str (nck l i).n)) ∧ w.cell? ⟨b, off + i * 2 + 1, none⟩ = some (nck l i).s.val ∧ (nck l i).s.at w
theorem Cs.data {w : World} {a : Option Addr} {len cap : Nat} {l : List Ckm} (h : Cs w a len cap l) {c : Ckm} (hc : c ∈ l) : c.s.at w := by
  obtain ⟨i, hi, rfl⟩ := List.getElem_of_mem hc
  obtain ⟨_, _, _, _, _, _, h5⟩ := h.at' i (by rw [← h.hlen]; exact hi)
  rwa [nck_get l i hi] at h5
theorem Cs.mono {w w' : World} {a : Option Addr} {len cap : Nat} {l : List Ckm} (h : Cs w a len cap l) (hb : Below w.heap.size w w') : Cs w' a len cap l :=
  ⟨h.hlen, h.hle, h.hnil, fun i hi => by
    obtain ⟨b, off, e, hlt, c0, c1, hd⟩ := h.at' i hi
    exact ⟨b, off, e, Nat.lt_of_lt_of_le hlt hb.size, by rw [hb.cell (p := ⟨b, off + i * 2, none⟩) hlt]; exact c0, by rw [hb.cell (p := ⟨b, off + i * 2 + 1, none⟩) hlt]; exact c1, Bs.mono hd hb⟩⟩
theorem Cs.src {w : World} {a : Option Addr} {len cap : Nat} {l : List Ckm} (h : Cs w a len cap l) : SrcRow w a len cap (cks l) 2 := by
  refine ⟨by rw [cks_length, h.hlen], fun e => ?_, fun ad e j u hu => ?_, cks_one l⟩
  · have := h.hnil e; have := h.hle; omega
  · have hj : j < (cks l).length := (List.getElem?_eq_some_iff.1 hu).1
    rw [cks_length, h.hlen] at hj
    obtain ⟨b, off, e2, _, c0, c1, _⟩ := h.at' (j / 2) (by omega)
    rw [e] at e2
    obtain rfl := Option.some.inj e2
    obtain ⟨t0, t1⟩ := cks_get l (j / 2) (by rw [h.hlen]; omega)
    rw [Addr.add_mid]
    rcases Nat.mod_two_eq_zero_or_one j with h0 | h0
    · have ej : j = j / 2 * 2 := by omega
      rw [ej] at hu ⊢
      have e4 : j / 2 * 2 / 2 = j / 2 := by omega
      rw [t0] at hu
      rw [c0]; exact hu
    · have ej : j = j / 2 * 2 + 1 := by omega
      rw [ej] at hu ⊢
      rw [t1] at hu
      rw [← Nat.add_assoc, c1]; exact hu
theorem src_ck (w : World) (c : Ckm) (t : TypeId) : SrcRow (w.alloc (.cells #[.string (str c.n), c.s.val] t)) (some ⟨w.heap.size, 0, none⟩) 1 1 (cks [c]) 2 :=
  src_new w #[.string (str c.n), c.s.val] t 1 1 2 rfl (by intro u hu; simp at hu; rcases hu with rfl | rfl <;> rfl)
/-- A row of chunks of the call's own reads as its chunks. -/
theorem own_cs {w : World} {base n : Nat} {e : TypeId} {v : Value} {l : List Ckm} (h : w.ownsRow base e 2 v n (cks l)) (hd : ∀ c ∈ l, c.s.at w) :
    ∃ a cap, v = .slice a n cap ∧ Cs w a n cap l := by
  have hn : l.length = n := by have := h.1; rw [cks_length] at this; omega
  rcases own_nil_or h with ⟨rfl, rfl⟩ | ⟨g, cap, rfl, hle, _⟩
  · exact ⟨none, 0, rfl, hn, Nat.le_refl _, fun _ => rfl, fun i hi => absurd hi (by omega)⟩
  · refine ⟨_, cap, rfl, hn, hle, fun e => by simp at e, fun i hi => ⟨g, 0, rfl, (h.lt g rfl).2, ?_⟩⟩
    obtain ⟨t0, t1⟩ := cks_get l i (by omega)
    rw [Nat.zero_add, h.cellAt (i * 2) (by omega), h.cellAt (i * 2 + 1) (by omega)]
    exact ⟨t0, t1, hd _ (nck_mem l i (by omega))⟩
/-- Every string is one of a list's bytes. -/
theorem str_of (s : ByteArray) : ∃ l, s = str l := ⟨s.data.toList, by obtain ⟨⟨l⟩⟩ := s; rfl⟩
theorem cs_nil (w : World) : Cs w none 0 0 [] := ⟨rfl, Nat.le_refl _, fun _ => rfl, fun i hi => absurd hi (by omega)⟩
end Go.Proofs.Ytbgaaocgdjkkeaa
end
