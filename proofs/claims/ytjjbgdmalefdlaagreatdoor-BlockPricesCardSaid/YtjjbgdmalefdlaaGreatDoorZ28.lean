/- A slice of numbers behind changes elsewhere. The document's codes in memory. A slice of ints, cut off. -/
import Derived.Test.YtjjbgdmalefdlaaGreatDoorZ8
import Derived.Test.YtjjbgdmalefdlaaGreatDoorZ9
import Derived.Test.YtjjbgdmalefdlaaGreatDoorZ16
set_option linter.unusedSimpArgs false
set_option linter.unusedVariables false
section
namespace Go.Proofs.YtjjbgdmalefdlaaGreatDoor
open Go.RowKit

theorem Is.kept {w w' : World} {T : Nat → Prop} {a : Option Addr} {len cap : Nat} {l : List Int} (h : Is .i64 w a len cap l) (c : Ch w w' T) (hn : ∀ ad, a = some ad → ¬ T ad.block) : Is .i64 w' a len cap l :=
  ⟨h.hlen, h.hle, h.hnil, fun i hi => by
    obtain ⟨b, off, e, hlt, hc⟩ := h.at' i hi
    exact ⟨b, off, e, Nat.lt_of_lt_of_le hlt c.size, by rw [World.cell?_of_block (w := w) (c.block b hlt (hn _ e))]; exact hc⟩, h.wf⟩
theorem Is.blk {w : World} {a : Option Addr} {len cap : Nat} {l : List Int} (h : Is .i64 w a len cap l) (hp : 0 < len) : ∀ ad, a = some ad → ad.block < w.heap.size := by
  intro ad e
  obtain ⟨b, off, e2, hlt, _⟩ := h.at' 0 hp
  rw [e] at e2; cases e2; exact hlt
end Go.Proofs.YtjjbgdmalefdlaaGreatDoor
end

section
namespace Go.Proofs.YtjjbgdmalefdlaaGreatDoor
open Go.RowKit

/-- A symbol and where its bits lie. -/
structure Cd where
  s : Int
  a : Option Addr
  len : Nat
  cap : Nat
  b : List Bool
instance : Inhabited Cd := ⟨⟨0, none, 0, 0, []⟩⟩
def cth (cs : List Cd) (i : Nat) : Cd := cs.getD i default
def cvs (cs : List Cd) : List Value := cs.flatMap fun c => [.int .i64 c.s, .slice c.a c.len c.cap]
theorem cvs_length (cs : List Cd) : (cvs cs).length = cs.length * 2 := by
  induction cs with
  | nil => rfl
  | cons c cs ih => simp only [cvs, List.flatMap_cons, List.length_append, List.length_cons, List.length_nil] at *; omega
theorem cvs_append (cs ds : List Cd) : cvs (cs ++ ds) = cvs cs ++ cvs ds := by simp [cvs]
theorem cvs_get (cs : List Cd) : ∀ i, i < cs.length → (cvs cs)[i * 2]? = some (.int .i64 (cth cs i).s) ∧ (cvs cs)[i * 2 + 1]? = some (.slice (cth cs i).a (cth cs i).len (cth cs i).cap) := by
  induction cs with
  | nil => intro i hi; simp at hi
  | cons c cs ih =>
    intro i hi
    have e : cvs (c :: cs) = .int .i64 c.s :: .slice c.a c.len c.cap :: cvs cs := rfl
    rw [e]
    cases i with
    | zero => exact ⟨rfl, rfl⟩
    | succ i =>
      have := ih i (by simp at hi; omega)
      have e3 : (i + 1) * 2 = i * 2 + 2 := by omega
      rw [e3]
      exact this
theorem cth_left (cs ds : List Cd) (i : Nat) (h : i < cs.length) : cth (cs ++ ds) i = cth cs i := by simp only [cth, List.getD]; rw [List.getElem?_append_left h]
theorem cth_last (cs : List Cd) (c : Cd) : cth (cs ++ [c]) cs.length = c := by simp [cth, List.getD]
/-- A slice of codes of the call's own. -/
structure Cds (w : World) (B : Nat) (v : Value) (n : Nat) (cs : List Cd) : Prop where
  hn : cs.length = n
  own : w.ownsRow B 157 2 v n (cvs cs)
  each : ∀ i, i < n → Is .i64 w (cth cs i).a (cth cs i).len (cth cs i).cap (bi (cth cs i).b)
  blk : ∀ i, i < n → ∀ ad, (cth cs i).a = some ad → ad.block < w.heap.size ∧ v.ownBlock ≠ some ad.block
  lo : ∀ i, i < n → ∀ ad, (cth cs i).a = some ad → B ≤ ad.block
theorem tyC : RowTy Tryz.prog 112 157 (.agg #[.int .i64 0, .slice none 0 0]) 2 32 := ⟨Tryz.underlying112, by kernel_rfl, rfl, by omega⟩
theorem src_code (w : World) (s : Int) (a : Option Addr) (len cap : Nat) : SrcRow (w.alloc (.cells #[.int .i64 s, .slice a len cap] 157)) (some ⟨w.heap.size, 0, none⟩) 1 1 (cvs [⟨s, a, len, cap, []⟩]) 2 :=
  src_new w #[.int .i64 s, .slice a len cap] 157 1 1 2 rfl (by intro u hu; simp at hu; rcases hu with rfl | rfl <;> rfl)
theorem Cds.kept {w w' : World} {T : Nat → Prop} {B : Nat} {v : Value} {n : Nat} {cs : List Cd} (h : Cds w B v n cs) (c : Ch w w' T) (h1 : ∀ k, v.ownBlock = some k → ¬ T k) (h2 : ∀ i, i < n → ∀ ad, (cth cs i).a = some ad → ¬ T ad.block) : Cds w' B v n cs :=
  ⟨h.hn, c.own h.own h1, fun i hi => (h.each i hi).kept c (h2 i hi), fun i hi ad e => ⟨Nat.lt_of_lt_of_le (h.blk i hi ad e).1 c.size, (h.blk i hi ad e).2⟩, h.lo⟩
theorem Cds.mono {w w' : World} {B : Nat} {v : Value} {n : Nat} {cs : List Cd} (h : Cds w B v n cs) (hb : Below w.heap.size w w') : Cds w' B v n cs :=
  h.kept (Ch.of_below (T := fun _ => False) hb) (fun _ _ h => h) (fun _ _ _ _ h => h)
theorem Cds.push {w w' : World} {B : Nat} {v v' : Value} {n : Nat} {cs : List Cd} (h : Cds w B v n cs) (c : Cd) (hi : Is .i64 w c.a c.len c.cap (bi c.b)) (hb : ∀ ad, c.a = some ad → ad.block < w.heap.size ∧ v.ownBlock ≠ some ad.block) (hlo : ∀ ad, c.a = some ad → B ≤ ad.block)
    (o : w'.ownsRow B 157 2 v' (n + 1) (cvs cs ++ cvs [c])) (ch : Ch w w' (fun k => v.ownBlock = some k)) (f : ∀ k, v'.ownBlock = some k → v.ownBlock = some k ∨ w.heap.size ≤ k) : Cds w' B v' (n + 1) (cs ++ [c]) := by
  have hcn := h.hn
  have far : ∀ ad : Addr, ad.block < w.heap.size ∧ v.ownBlock ≠ some ad.block → v'.ownBlock ≠ some ad.block := fun ad h e => (f _ e).elim h.2 (fun h' => by omega)
  refine ⟨by simp [hcn], by rw [cvs_append]; exact o, fun i hi' => ?_, fun i hi' ad e => ?_, fun i hi' ad e => ?_⟩
  · by_cases hin : i < n
    · rw [cth_left _ _ _ (by omega)]; exact (h.each i hin).kept ch (fun ad e => (h.blk i hin ad e).2)
    · obtain rfl : i = cs.length := by omega
      rw [cth_last]; exact hi.kept ch (fun ad e => (hb ad e).2)
  · by_cases hin : i < n
    · rw [cth_left _ _ _ (by omega)] at e
      exact ⟨Nat.lt_of_lt_of_le (h.blk i hin ad e).1 ch.size, far ad (h.blk i hin ad e)⟩
    · obtain rfl : i = cs.length := by omega
      rw [cth_last] at e
      exact ⟨Nat.lt_of_lt_of_le (hb ad e).1 ch.size, far ad (hb ad e)⟩
  · by_cases hin : i < n
    · rw [cth_left _ _ _ (by omega)] at e; exact h.lo i hin ad e
    · obtain rfl : i = cs.length := by omega
      rw [cth_last] at e; exact hlo ad e
theorem Cds.cells {w : World} {B : Nat} {v : Value} {n : Nat} {cs : List Cd} (h : Cds w B v n cs) : ∃ a cap, v = .slice a n cap ∧ ∀ i, i < n → ∃ g, a = some ⟨g, 0, none⟩ ∧ w.cell? ⟨g, i * 2, none⟩ = some (.int .i64 (cth cs i).s) ∧ w.cell? ⟨g, i * 2 + 1, none⟩ = some (.slice (cth cs i).a (cth cs i).len (cth cs i).cap) := by
  rcases own_nil_or h.own with ⟨rfl, rfl⟩ | ⟨g, cap, rfl, _⟩
  · exact ⟨none, 0, rfl, fun i hi => absurd hi (by omega)⟩
  · refine ⟨_, cap, rfl, fun i hi => ⟨g, rfl, ?_⟩⟩
    obtain ⟨t0, t1⟩ := cvs_get cs i (by rw [h.hn]; exact hi)
    rw [h.own.cellAt (i * 2) (by omega), h.own.cellAt (i * 2 + 1) (by omega)]
    exact ⟨t0, t1⟩
theorem Cds.nil (w : World) (B : Nat) : Cds w B (.slice none 0 0) 0 [] := ⟨rfl, World.ownsRow_nil _ _ _ _, fun i hi => absurd hi (by omega), fun i hi => absurd hi (by omega), fun i hi => absurd hi (by omega)⟩
end Go.Proofs.YtjjbgdmalefdlaaGreatDoor
end

section
namespace Go.Proofs.YtjjbgdmalefdlaaGreatDoor
open Go.RowKit

theorem Is.pre {k : IntKind} {w : World} {a : Option Addr} {len cap : Nat} {l : List Int} (h : Is k w a len cap l) (n : Nat) (hn : n ≤ len) : Is k w a n cap (l.take n) := by
  have h1 := h.hlen
  have h2 := h.hle
  refine ⟨by simp; omega, by omega, h.hnil, fun i hi => ?_, fun x hx => h.wf x (List.mem_of_mem_take hx)⟩
  obtain ⟨b, off, e, hb, hc⟩ := h.at' i (by omega)
  refine ⟨b, off, e, hb, ?_⟩
  rw [hc]
  simp [List.getD, List.getElem?_take, hi]
theorem Is.suf {k : IntKind} {w : World} {b off len cap : Nat} {l : List Int} (h : Is k w (some ⟨b, off, none⟩) len cap l) (n : Nat) (hn : n ≤ len) : Is k w (some ⟨b, off + n, none⟩) (len - n) (cap - n) (l.drop n) := by
  have h1 := h.hlen
  have h2 := h.hle
  refine ⟨by simp; omega, by omega, fun e => (by cases e), fun i hi => ?_, fun x hx => h.wf x (List.mem_of_mem_drop hx)⟩
  obtain ⟨b', off', e, hb, hc⟩ := h.at' (n + i) (by omega)
  simp only [Option.some.injEq, Addr.mk.injEq, and_true] at e
  obtain ⟨rfl, rfl⟩ := e
  refine ⟨b, off + n, rfl, hb, ?_⟩
  rw [Nat.add_assoc, hc]
  simp [List.getD, List.getElem?_drop]
theorem Is.none0 {k : IntKind} (w : World) (a : Option Addr) (cap : Nat) (h : a = none → cap = 0) : Is k w a 0 cap [] := ⟨rfl, Nat.zero_le _, h, fun i hi => absurd hi (by omega), fun n hn => by simp at hn⟩
end Go.Proofs.YtjjbgdmalefdlaaGreatDoor
end
