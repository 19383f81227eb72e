/- The document's tables of bases: their contracts. inflate.holder: which symbol holds a number. inflate's symbols: which one a length and a distance have. Which symbol holds a length or a distance. What a call may change: 'only blocks of T'. Laws of the walk within a fence: append, make. Tokens, and what they come to. The document's Good. Drawn worlds. Which symbols a token has: parse.symbols, and the document's Length and Dist. -/
import Derived.Test.YtdojhglpiejfjaaDoorZ3
import Derived.OwnWalkIn
import Derived.Test.YtdojhglpiejfjaaDoorProg
import Derived.Deep.QuietTactic
import Derived.BigQuiet
set_option linter.unusedSimpArgs false
set_option linter.unusedVariables false
section
namespace Go.Proofs.YtdojhglpiejfjaaDoor
open Go.RowKit
namespace Sy
def lensL : List Int := [3, 4, 5, 6, 7, 8, 9, 10, 11, 13, 15, 17, 19, 23, 27, 31, 35, 43, 51, 59, 67, 83, 99, 115, 131, 163, 195, 227, 258]
def lensX : List Int := [0, 0, 0, 0, 0, 0, 0, 0, 1, 1, 1, 1, 2, 2, 2, 2, 3, 3, 3, 3, 4, 4, 4, 4, 5, 5, 5, 5, 0]
def distL : List Int := [1, 2, 3, 4, 5, 7, 9, 13, 17, 25, 33, 49, 65, 97, 129, 193, 257, 385, 513, 769, 1025, 1537, 2049, 3073, 4097, 6145, 8193, 12289, 16385, 24577]
def distX : List Int := [0, 0, 0, 0, 1, 1, 2, 2, 3, 3, 4, 4, 5, 5, 6, 6, 7, 7, 8, 8, 9, 9, 10, 10, 11, 11, 12, 12, 13, 13]
theorem lens_eq : ∀ p, p < 29 → lensL.getD p 0 = ((lb p).1 : Int) ∧ lensX.getD p 0 = ((lb p).2 : Int) := by decide +kernel
theorem dist_eq : ∀ p, p < 30 → distL.getD p 0 = ((db p).1 : Int) ∧ distX.getD p 0 = ((db p).2 : Int) := by decide +kernel
/-- Two rows of numbers in memory. -/
structure Two (w : World) (g h n : Nat) (f : Nat → Nat × Nat) : Prop where
  lg : g < w.heap.size
  lh : h < w.heap.size
  fst : ∀ i, i < n → w.cell? ⟨g, i, none⟩ = some (.int .i64 ((f i).1 : Nat))
  snd : ∀ i, i < n → w.cell? ⟨h, i, none⟩ = some (.int .i64 ((f i).2 : Nat))
theorem Two.mono {w w' : World} {g h n : Nat} {f : Nat → Nat × Nat} (H : Two w g h n f) (hb : Below w.heap.size w w') : Two w' g h n f :=
  ⟨Nat.lt_of_lt_of_le H.lg hb.size, Nat.lt_of_lt_of_le H.lh hb.size, fun i hi => (hb.cell (p := ⟨g, i, none⟩) H.lg).trans (H.fst i hi), fun i hi => (hb.cell (p := ⟨h, i, none⟩) H.lh).trans (H.snd i hi)⟩
theorem two_new (w : World) (n : Nat) (f : Nat → Nat × Nat) (x y : List Int) (t : TypeId) (hx : x.length = n) (hy : y.length = n) (h : ∀ p, p < n → x.getD p 0 = ((f p).1 : Int) ∧ y.getD p 0 = ((f p).2 : Int)) (cs ds : Array Value) (hc : (ivs x).toArray = cs) (hd : (ivs y).toArray = ds) :
    Two ((w.alloc (.cells cs t)).alloc (.cells ds t)) w.heap.size (w.heap.size + 1) n f := by
  subst hc
  subst hd
  have e2 : (w.alloc (.cells (ivs x).toArray t)).heap.size = w.heap.size + 1 := by simp
  refine ⟨by simp; omega, by simp, fun i hi => ?_, fun i hi => ?_⟩
  · have hb := below_alloc (w.alloc (.cells (ivs x).toArray t)) (.cells (ivs y).toArray t)
    rw [hb.cell (p := ⟨w.heap.size, i, none⟩) (by show w.heap.size < _; rw [e2]; omega), cell_of_row _ _ _ _ t (0, 0) (heap_alloc_last w _), List.getElem?_toArray, ivs_get _ _ (by omega), (h i hi).1]
  · rw [← e2, cell_of_row _ _ _ _ t (0, 0) (heap_alloc_last _ _), List.getElem?_toArray, ivs_get _ _ (by omega), (h i hi).2]
def TwoPost (w : World) (n : Nat) (f : Nat → Nat × Nat) (e : Ending) (w' : World) : Prop := ∃ g h, e = .returned (.tuple #[.slice (some ⟨g, 0, none⟩) n n, .slice (some ⟨h, 0, none⟩) n n]) ∧ Two w' g h n f ∧ Below w.heap.size w w'
end Sy
theorem dists_any (w : World) : Calls Tryd.prog 50 #[] w (Sy.TwoPost w 30 Sy.db) := by
  have HT := Lib.hid (Sy.two_new w 30 Sy.db Sy.distL Sy.distX 3 rfl rfl Sy.dist_eq _ _ rfl rfl)
  go_enter Tryd.func50, Tryd.ntmps50
  go_wp2
  go_ret2
  exact ⟨_, _, rfl, HT.out, below_alloc2 _ _ _⟩
end Go.Proofs.YtdojhglpiejfjaaDoor
end

section
namespace Go.Proofs.YtdojhglpiejfjaaDoor
open Go.RowKit
namespace Sy
/-- Which symbol holds a number: by its leading bits. -/
def Held (a g r : Nat) : Prop := ∃ e, r = e * g + a / 2 ^ e ∧ a / 2 ^ e < 2 * g ∧ (e = 0 ∨ g ≤ a / 2 ^ e) ∧ e ≤ 15
theorem div_next (a e : Nat) : a / 2 ^ (e + 1) = a / 2 ^ e / 2 := by rw [Nat.pow_succ, Nat.div_div_eq_div_mul]
theorem div_small (a : Nat) (h : a < 32768) : a / 2 ^ 15 = 0 := by omega
end Sy
theorem holder_any (a g : Nat) (w : World) (ha : a < 32768) (hg : g = 2 ∨ g = 4) :
    Calls Tryd.prog 62 #[.int .i64 (a : Nat), .int .i64 (g : Nat)] w fun e w' => (∃ r, Sy.Held a g r ∧ e = .returned (.int .i64 (r : Nat))) ∧ w = w' := by
  go_enter Tryd.func62, Tryd.ntmps62
  go_wp2
  go_loop [5] (fun x => ∃ e : Nat, e ≤ 15 ∧ (e = 0 ∨ g ≤ a / 2 ^ e) ∧ x = .int .i64 (e : Nat)) (fun x => 15 - (intOf x).toNat)
  case atStart => exact ⟨0, by omega, .inl rfl, rfl⟩
  case round =>
    obtain ⟨e, he, hge, rfl⟩ := hrel
    have hqa : a / 2 ^ e ≤ a := Nat.div_le_self _ _
    have hqi : (a : Int) / 2 ^ e = ((a / 2 ^ e : Nat) : Int) := by simp
    have hnx := Sy.div_next a e
    have h15 : e = 15 → a / 2 ^ e = 0 := fun h => by subst h; exact Sy.div_small a ha
    by_cases hlt : a / 2 ^ e < 2 * g
    · have HH : Hid (Sy.Held a g (e * g + a / 2 ^ e)) := Lib.hid ⟨e, rfl, hlt, hge, he⟩
      have d0 : decide (2 * (g : Int) ≤ (a : Int) / 2 ^ e) = false := by rw [hqi]; simp; omega
      have hge' : 2 * g ≤ 8 := by omega
      generalize a / 2 ^ e = q at *
      have hm : (e : Int) * (g : Int) ≤ 60 ∧ 0 ≤ (e : Int) * (g : Int) := by rcases hg with rfl | rfl <;> omega
      have hc : ((e * g + q : Nat) : Int) = (e : Int) * (g : Int) + (q : Int) := by simp
      go_wp2
      go_ret
      exact ⟨⟨_, HH.out, by rw [hc]; rfl⟩, rfl⟩
    · have d0 : decide (2 * (g : Int) ≤ (a : Int) / 2 ^ e) = true := by rw [hqi]; simp; omega
      have he15 : e < 15 := by
        rcases Nat.lt_or_ge e 15 with h | h
        · exact h
        · have := h15 (by omega); omega
      have HR : Hid (g ≤ a / 2 ^ (e + 1)) := Lib.hid (by rw [hnx]; omega)
      clear hnx h15
      generalize a / 2 ^ e = q at *
      go_wp2
      go_round
      case rel => exact ⟨e + 1, by omega, .inr HR.out, by go_num⟩
      case measure => simp [intOf]; omega
end Go.Proofs.YtdojhglpiejfjaaDoor
end

section
namespace Go.Proofs.YtdojhglpiejfjaaDoor
open Go.RowKit
namespace Sy
def LsPost (n : Int) (v : Value) : Prop := (¬ (3 ≤ n ∧ n ≤ 258) ∧ v = .tuple #[.int .i64 0, .bool false]) ∨ (n = 258 ∧ v = .tuple #[.int .i64 285, .bool true]) ∨
  (∃ a r : Nat, n = (a : Int) + 3 ∧ a < 255 ∧ Held a 4 r ∧ v = .tuple #[.int .i64 (257 + (r : Int)), .bool true])
def DsPost (n : Int) (v : Value) : Prop := (¬ (1 ≤ n ∧ n ≤ 32768) ∧ v = .tuple #[.int .i64 0, .bool false]) ∨
  (∃ a r : Nat, n = (a : Int) + 1 ∧ a < 32768 ∧ Held a 2 r ∧ v = .tuple #[.int .i64 (r : Int), .bool true])
theorem held_lt {a g r : Nat} (h : Held a g r) (hg : g = 2 ∨ g = 4) : r < 80 := by
  obtain ⟨e, rfl, h1, _, h2⟩ := h
  generalize a / 2 ^ e = q at *
  rcases hg with rfl | rfl <;> omega
end Sy
theorem lengthSymbol_any (n : Int) (w : World) (hw : (Lit.int .i64 n).wf = true) :
    Calls Tryd.prog 59 #[.int .i64 n] w fun e w' => (∃ v, Sy.LsPost n v ∧ e = .returned v) ∧ w = w' := by
  go_enter Tryd.func59, Tryd.ntmps59
  by_cases h1 : n < 3
  · have HP := Lib.hid (show Sy.LsPost n (.tuple #[.int .i64 0, .bool false]) from .inl ⟨by omega, rfl⟩)
    have d1 : decide (n < 3) = true := by simpa using h1
    go_wp2
    go_ret2
    exact ⟨⟨_, HP.out, rfl⟩, rfl⟩
  have d1 : decide (n < 3) = false := by simpa using h1
  by_cases h2 : 258 < n
  · have HP := Lib.hid (show Sy.LsPost n (.tuple #[.int .i64 0, .bool false]) from .inl ⟨by omega, rfl⟩)
    have d2 : decide (258 < n) = true := by simpa using h2
    go_wp2
    go_ret2
    exact ⟨⟨_, HP.out, rfl⟩, rfl⟩
  have d2 : decide (258 < n) = false := by simpa using h2
  obtain ⟨a, rfl⟩ : ∃ a : Nat, n = (a : Int) + 3 := ⟨(n - 3).toNat, by omega⟩
  by_cases h3 : a = 255
  · subst h3
    have HP := Lib.hid (show Sy.LsPost (((255 : Nat) : Int) + 3) (.tuple #[.int .i64 285, .bool true]) from .inr (.inl ⟨rfl, rfl⟩))
    go_wp2
    go_ret2
    exact ⟨⟨_, HP.out, rfl⟩, rfl⟩
  have d3 : ((a : Int) + 3 == 258) = false := by simp; omega
  have es : (a : Int) + 3 - 3 = (a : Int) := by omega
  go_wp2_with fail
  refine (holder_any a 4 w (by omega) (.inr rfl)).mono ?_
  rintro e w' ⟨⟨r, hr, rfl⟩, rfl⟩
  have hrl := Sy.held_lt hr (.inr rfl)
  have HP := Lib.hid (show Sy.LsPost ((a : Int) + 3) (.tuple #[.int .i64 (257 + (r : Int)), .bool true]) from .inr (.inr ⟨a, r, rfl, by omega, hr, rfl⟩))
  clear hr
  go_wp2
  go_ret2
  exact ⟨⟨_, HP.out, rfl⟩, rfl⟩
theorem distSymbol_any (n : Int) (w : World) (hw : (Lit.int .i64 n).wf = true) :
    Calls Tryd.prog 57 #[.int .i64 n] w fun e w' => (∃ v, Sy.DsPost n v ∧ e = .returned v) ∧ w = w' := by
  go_enter Tryd.func57, Tryd.ntmps57
  by_cases h1 : n < 1
  · have HP := Lib.hid (show Sy.DsPost n (.tuple #[.int .i64 0, .bool false]) from .inl ⟨by omega, rfl⟩)
    have d1 : decide (n < 1) = true := by simpa using h1
    go_wp2
    go_ret2
    exact ⟨⟨_, HP.out, rfl⟩, rfl⟩
  have d1 : decide (n < 1) = false := by simpa using h1
  by_cases h2 : 32768 < n
  · have HP := Lib.hid (show Sy.DsPost n (.tuple #[.int .i64 0, .bool false]) from .inl ⟨by omega, rfl⟩)
    have d2 : decide (32768 < n) = true := by simpa using h2
    go_wp2
    go_ret2
    exact ⟨⟨_, HP.out, rfl⟩, rfl⟩
  have d2 : decide (32768 < n) = false := by simpa using h2
  obtain ⟨a, rfl⟩ : ∃ a : Nat, n = (a : Int) + 1 := ⟨(n - 1).toNat, by omega⟩
  have es : (a : Int) + 1 - 1 = (a : Int) := by omega
  go_wp2_with fail
  refine (holder_any a 2 w (by omega) (.inl rfl)).mono ?_
  rintro e w' ⟨⟨r, hr, rfl⟩, rfl⟩
  have hrl := Sy.held_lt hr (.inl rfl)
  have HP := Lib.hid (show Sy.DsPost ((a : Int) + 1) (.tuple #[.int .i64 (r : Int), .bool true]) from .inr ⟨a, r, rfl, by omega, hr, rfl⟩)
  clear hr
  go_wp2
  go_ret2
  exact ⟨⟨_, HP.out, rfl⟩, rfl⟩
end Go.Proofs.YtdojhglpiejfjaaDoor
end

section
namespace Go.Proofs.YtdojhglpiejfjaaDoor
open Go.RowKit
namespace Sy
theorem held4 {a r : Nat} (ha : a < 255) (h : Held a 4 r) : r ≤ 27 ∧ (lb r).1 ≤ a + 3 ∧ a + 3 < (lb (r + 1)).1 := by
  obtain ⟨e, he, h1, h2, h3⟩ := h
  have T : ∀ e, e < 6 → ∀ q, q < 8 → (e = 0 ∨ 4 ≤ q) → (lb (e * 4 + q)).1 = 3 + q * 2 ^ e ∧ (e * 4 + q < 27 → (lb (e * 4 + q + 1)).1 = 3 + 2 ^ e * (q + 1)) := by decide +kernel
  have l1 := Nat.div_mul_le_self a (2 ^ e)
  have l2 := Nat.lt_mul_div_succ a (Nat.two_pow_pos e)
  have h6 : e < 6 := by
    rcases Nat.lt_or_ge e 6 with h | h
    · exact h
    · have p : 2 ^ 6 ≤ 2 ^ e := Nat.pow_le_pow_right (by omega) h
      have := Nat.mul_le_mul (show 4 ≤ a / 2 ^ e by omega) p
      omega
  generalize a / 2 ^ e = q at *
  obtain ⟨t1, t2⟩ := T e h6 q h1 h2
  subst he
  refine ⟨by omega, by omega, ?_⟩
  by_cases h27 : e * 4 + q = 27
  · rw [h27]; have : (lb (27 + 1)).1 = 258 := by decide
    omega
  · rw [t2 (by omega)]; omega
theorem held2 {a r : Nat} (ha : a < 32768) (h : Held a 2 r) : r ≤ 29 ∧ (db r).1 ≤ a + 1 ∧ (r < 29 → a + 1 < (db (r + 1)).1) := by
  obtain ⟨e, he, h1, h2, h3⟩ := h
  have T : ∀ e, e < 14 → ∀ q, q < 4 → (e = 0 ∨ 2 ≤ q) → (db (e * 2 + q)).1 = 1 + q * 2 ^ e ∧ (e * 2 + q < 29 → (db (e * 2 + q + 1)).1 = 1 + 2 ^ e * (q + 1)) := by decide +kernel
  have l1 := Nat.div_mul_le_self a (2 ^ e)
  have l2 := Nat.lt_mul_div_succ a (Nat.two_pow_pos e)
  have h6 : e < 14 := by
    rcases Nat.lt_or_ge e 14 with h | h
    · exact h
    · have p : 2 ^ 14 ≤ 2 ^ e := Nat.pow_le_pow_right (by omega) h
      have := Nat.mul_le_mul (show 2 ≤ a / 2 ^ e by omega) p
      omega
  generalize a / 2 ^ e = q at *
  obtain ⟨t1, t2⟩ := T e h6 q h1 h2
  subst he
  exact ⟨by omega, by omega, fun h => by rw [t2 h]; omega⟩
end Sy
end Go.Proofs.YtdojhglpiejfjaaDoor
end

section
namespace Go.Proofs.YtdojhglpiejfjaaDoor
open Go.RowKit

/-- Only blocks of T may have changed; new ones may have come. -/
structure Ch (w w' : World) (T : Nat → Prop) : Prop where
  os : w'.os = w.os
  tape : w'.tape = w.tape
  output : w'.output = w.output
  size : w.heap.size ≤ w'.heap.size
  block : ∀ k, k < w.heap.size → ¬ T k → w'.heap[k]? = w.heap[k]?
theorem Ch.refl (w : World) (T : Nat → Prop) : Ch w w T := ⟨rfl, rfl, rfl, Nat.le_refl _, fun _ _ _ => rfl⟩
theorem Ch.of_below {w w' : World} {T : Nat → Prop} (h : Below w.heap.size w w') : Ch w w' T := ⟨h.os, h.tape, h.output, h.size, fun k hk _ => h.block k hk⟩
theorem Ch.trans {a b c : World} {T U : Nat → Prop} (h : Ch a b T) (k : Ch b c U) (hu : ∀ n, U n → T n ∨ a.heap.size ≤ n) : Ch a c T :=
  ⟨k.os.trans h.os, k.tape.trans h.tape, k.output.trans h.output, Nat.le_trans h.size k.size, fun i hi ht => (k.block i (Nat.lt_of_lt_of_le hi h.size) (fun hui => (hu i hui).elim ht (fun h' => by omega))).trans (h.block i hi ht)⟩
theorem Ch.drew {a w : World} {T : Nat → Prop} (h : Ch a w T) : Ch a w.drew T := ⟨h.os, h.tape, h.output, h.size, h.block⟩
theorem Ch.alloc {a w : World} {T : Nat → Prop} (h : Ch a w T) (o : Obj) : Ch a (w.alloc o) T :=
  h.trans (Ch.of_below (T := fun _ => False) (below_alloc w o)) (fun _ h => h.elim)
theorem Ch.set {a w : World} {T : Nat → Prop} (h : Ch a w T) {p : Addr} (hp : T p.block ∨ a.heap.size ≤ p.block) (u : Value) : Ch a (w.setCell p u) T :=
  h.trans (U := fun k => k = p.block) ⟨rfl, rfl, rfl, by simp, fun k _ ht => Below.heap_setCell w p u k ht⟩ (fun n hn => by subst hn; exact hp)
theorem Ch.below {w w' : World} {T : Nat → Prop} (h : Ch w w' T) {B : Nat} (hB : B ≤ w.heap.size) (ht : ∀ k, T k → B ≤ k) : Below B w w' :=
  ⟨h.os, h.tape, h.output, h.size, fun k hk => h.block k (by omega) (fun h' => by have := ht k h'; omega)⟩
theorem Ch.own {w w' : World} {T : Nat → Prop} (h : Ch w w' T) {base : Nat} {e : TypeId} {size : Nat} {v : Value} {n : Nat} {xs : List Value} (hv : w.ownsRow base e size v n xs) (hn : ∀ g, v.ownBlock = some g → ¬ T g) : w'.ownsRow base e size v n xs := by
  obtain ⟨h1, h2⟩ := hv
  refine ⟨h1, ?_⟩
  rcases h2 with h2 | ⟨g, cap, cur, rfl, hb, hg, r⟩
  · exact .inl h2
  · refine .inr ⟨g, cap, cur, rfl, hb, ?_, r⟩
    rw [h.block g (Array.getElem?_eq_some_iff.1 hg).1 (hn g rfl)]; exact hg
theorem Ch.step {w w' : World} {v v' : Value} (h : Step w w' v v') : Ch w w' (fun k => v.ownBlock = some k) := by
  rcases h with ⟨g, k, cap, k', rfl, _, hg⟩ | ⟨_, hg⟩
  · exact ⟨hg.os, hg.tape, hg.output, hg.size, fun i hi ht => hg.block i hi (fun e => ht (by simpa [Value.ownBlock] using e.symm))⟩
  · exact ⟨hg.os, hg.tape, hg.output, hg.size, fun i hi _ => hg.block i hi (by simp)⟩
theorem Ch.wide {w w' : World} {T U : Nat → Prop} (h : Ch w w' T) (hu : ∀ k, T k → U k ∨ w.heap.size ≤ k) : Ch w w' U :=
  ⟨h.os, h.tape, h.output, h.size, fun k hk ht => h.block k hk (fun h' => (hu k h').elim ht (fun h'' => by omega))⟩

end Go.Proofs.YtdojhglpiejfjaaDoor
end

section
namespace Go.Proofs.YtdojhglpiejfjaaDoor
open Go.RowKit

section
variable {F : Fence} {k : Nat} {P : Program} {w : World} {ops : Array Oper} {rest : List Oper} {o : Oper} {a : Act} {Q : Exit → Act → World → Prop}
variable {t e : TypeId} {z : Value} {size by' : Nat}
theorem run_app (R : RowTy P t e z size by') (ot : TypeId) {base n : Nat} {v : Value} {xs : List Value} (hown : w.ownsRow base e size v n xs) {ad : Addr} {m c : Nat} {news : List Value} (hsrc : SrcRow w (some ad) m c news size)
    (hm : 0 < m) (h63 : n + m ≤ 9223372036854775807) (hbytes : (n + m) * by' ≤ 140737488355328) (hbase : base ≤ w.heap.size) :
    ∃ v' w', (Builtin.append_ #[t, t] ot #[v, .slice (some ad) m c]).run P w = .ok v' w' ∧ w'.ownsRow base e size v' (n + m) (xs ++ news) ∧ Step w w' v v' := by
  obtain ⟨i0, hi, hz0, hz1, hz2⟩ := info_parts R.info
  have hnc := hsrc.hc ad rfl
  have hml : n + m ≤ maxLen := by unfold maxLen; omega
  have new : ∀ {v' : Value} {w' : World} {ys : List Value} {b : Nat}, w'.ownsRow b e size v' (n + m) ys → w.heap.size ≤ b → ∃ g, v'.ownBlock = some g ∧ w.heap.size ≤ g := by
    intro v' w' ys b r hb
    rcases own_nil_or r with ⟨_, h⟩ | ⟨g, cap, rfl, _, h, _⟩
    · omega
    · exact ⟨g, rfl, Nat.le_trans hb h⟩
  rcases own_nil_or hown with ⟨rfl, rfl⟩ | ⟨g, cap, rfl, hle, hbg, hgl, hcap⟩
  · have hx0 : xs = [] := List.eq_nil_of_length_eq_zero (by have := hown.1; simpa using this)
    subst hx0
    obtain ⟨v', w', hrun, r1, r2, _⟩ := run_append_own (P := P) w w.heap.size t ot e i0 z size by' R.ht hi hz0 hz1 hz2 R.hzs R.hsz _ 0 [] (World.ownsRow_nil w w.heap.size e size) ad m c news hsrc.hl hnc hsrc.h1 hml hbytes (Nat.le_refl _)
    exact ⟨v', w', hrun, own_base r1 (fun g hg => Nat.le_trans hbase ((r1.lt g hg).1)), .inr ⟨new r1 (Nat.le_refl _), r2⟩⟩
  · by_cases hroom : n + m ≤ cap
    · obtain ⟨w', hrun, r1, r2⟩ := run_append_fits (P := P) w base t ot e i0 size R.ht hi hz1 g n cap xs hown ad m c news hsrc.hl hnc hsrc.h1 hroom
      exact ⟨_, w', hrun, r1, .inl ⟨g, n, cap, n + m, rfl, rfl, r2⟩⟩
    · obtain ⟨v', w', hrun, r1, r2⟩ := run_append_arg_grows (P := P) w t ot e i0 z size by' R.ht hi hz0 hz1 hz2 R.hzs R.hsz ⟨g, 0, none⟩ n cap xs hown.1 (hown.cells rfl) ad m c news hsrc.hl hnc (by omega) hml hbytes
      exact ⟨v', w', hrun, own_base r1 (fun g hg => Nat.le_trans hbase ((r1.lt g hg).1)), .inr ⟨new r1 (Nat.le_refl _), r2⟩⟩
theorem wplIn_app (R : RowTy P t e z size by') (hg : o.guard = none) (s x : Operand) (hop : o.op = Op.call { callee := Callee.builtin Builtin.append, args := #[s, x], argTypes := #[t, t] })
    {base n : Nat} {v : Value} {xs : List Value} (hown : w.ownsRow base e size v n xs) {ad : Addr} {m c : Nat} {news : List Value} (hsrc : SrcRow w (some ad) m c news size)
    (hs : a.eval s = v) (hx : a.eval x = .slice (some ad) m c) (hm : 0 < m) (h63 : n + m ≤ 9223372036854775807) (hbytes : (n + m) * by' ≤ 140737488355328) (hbase : base ≤ w.heap.size)
    (hK : ∀ v' w', w'.ownsRow base e size v' (n + m) (xs ++ news) → Ch w w' (fun k => v.ownBlock = some k) → (∀ k, v'.ownBlock = some k → v.ownBlock = some k ∨ w.heap.size ≤ k) → wpListIn F k P ops Q rest (a.put o.dst v') w') :
    wpListIn F k P ops Q (o :: rest) a w := by
  refine wpListIn_plain hg fun K hK' => ?_
  obtain ⟨v', w', hrun, r1, r2⟩ := run_app R o.type hown hsrc hm h63 hbytes hbase
  unfold Oper.wpIn
  refine ⟨?_, ?_⟩
  · simp [Oper.about, hop, resolve, Target.leads, Sem.run_pure]
  · rw [Oper.semAt_plain F _ _ (by rw [hop]; intro c hc'; cases hc')]
    simp [execOp, hop, resolve, invoke, builtin, hs, hx, hrun, Result.andThen]
    exact hK' _ _ (hK v' w' r1 (Ch.step r2) r2.block)
theorem wplIn_make_full (R : RowTy P t e z size by') (hg : o.guard = none) (l c : Operand) (hop : o.op = Op.makeSlice t l c) (base : Nat)
    (kl kc : IntKind) (L C : Int) (n : Nat) (hl : a.eval l = .int kl L) (hc : a.eval c = .int kc C) (hL : L = (n : Int)) (hC : C = (n : Int)) (b2 : by' * n ≤ 281474976710656) (b3 : n ≤ 9223372036854775807) (b4 : base ≤ w.heap.size)
    (hK : ∀ w', w'.ownsRow base e size (.slice (some ⟨w.heap.size, 0, none⟩) n n) n (madeCells z.cells (n * size)).toList → w.grownBy w' none → wpListIn F k P ops Q rest (a.put o.dst (.slice (some ⟨w.heap.size, 0, none⟩) n n)) w') :
    wpListIn F k P ops Q (o :: rest) a w := by
  obtain ⟨i0, hi, hz0, hz1, hz2⟩ := info_parts R.info
  subst hz2
  refine wpListIn_plain hg fun K hK' => ?_
  obtain ⟨w', hrun, r1, r2⟩ := run_make_full (P := P) w base t e i0 z size R.ht hi hz0 hz1 kl kc n b2 (by unfold maxLen; omega) b4
  subst hL
  subst hC
  unfold Oper.wpIn
  refine ⟨?_, ?_⟩
  · simp [Oper.about, hop]
  · rw [Oper.semAt_plain F _ _ (by rw [hop]; intro c hc'; cases hc')]
    simp [execOp, hop, hl, hc, hrun, Result.andThen]
    exact hK' _ _ (hK w' r1 r2)
end
theorem made_all (zs : Array Value) (n : Nat) (u : Value) (hz : 0 < zs.size) (h : ∀ i, i < zs.size → zs[i]! = u) : (madeCells zs n).toList = List.replicate n u := by
  rw [List.eq_replicate_iff]
  refine ⟨by rw [Array.length_toList, size_madeCells], fun b hb => ?_⟩
  simp only [madeCells, Array.toList_map, List.mem_map] at hb
  obtain ⟨i, _, rfl⟩ := hb
  exact h _ (Nat.mod_lt _ hz)
end Go.Proofs.YtdojhglpiejfjaaDoor
end

section
namespace Go.Proofs.YtdojhglpiejfjaaDoor
open Go.RowKit

/-- A token: its length and its distance. -/
abbrev Tok := Int × Int
namespace Tk
def isTok (t : Tok) : Bool := if t.1 = 0 then decide (0 ≤ t.2 ∧ t.2 ≤ 255) else decide (3 ≤ t.1 ∧ t.1 ≤ 258 ∧ 1 ≤ t.2 ∧ t.2 ≤ 32768)
/-- The last byte but so many. -/
def bk (d : Nat) (l : List UInt8) : UInt8 := l.getD (l.length - d) 0
/-- So many bytes more, each as the one that is so far behind. -/
def cp (d : Nat) (l : List UInt8) : Nat → List UInt8
  | 0 => l
  | n + 1 => cp d l n ++ [bk d (cp d l n)]
theorem cp_length (d : Nat) (l : List UInt8) : ∀ n, (cp d l n).length = l.length + n
  | 0 => rfl
  | n + 1 => by rw [cp, List.length_append, cp_length d l n]; simp; omega
def size (t : Tok) : Nat := if t.1 = 0 then 1 else t.1.toNat
def put (l : List UInt8) (t : Tok) : List UInt8 := if t.1 = 0 then l ++ [UInt8.ofNat t.2.toNat] else cp t.2.toNat l t.1.toNat
/-- A token that is one is added: an error's number (0: none), and what there is then. -/
def add (most : Nat) (l : List UInt8) (t : Tok) : Int × List UInt8 :=
  if t.1 ≠ 0 ∧ (l.length : Int) < t.2 then (2, []) else if most < l.length + size t then (4, []) else (0, put l t)
def stp (most : Nat) (l : List UInt8) (t : Tok) : Int × List UInt8 := if isTok t then add most l t else (6, [])
/-- What the first k come to. -/
def upto (most : Nat) (ts : List Tok) : Nat → Int × List UInt8
  | 0 => (0, [])
  | k + 1 => if (upto most ts k).1 = 0 then stp most (upto most ts k).2 (ts.getD k (0, 0)) else upto most ts k
theorem upto_next {most : Nat} {ts : List Tok} {k : Nat} {l : List UInt8} (h : upto most ts k = (0, l)) : upto most ts (k + 1) = stp most l (ts.getD k (0, 0)) := by rw [upto, h]; rfl
theorem upto_stuck {most : Nat} {ts : List Tok} {k : Nat} (h : (upto most ts k).1 ≠ 0) : ∀ n, k ≤ n → upto most ts n = upto most ts k
  | 0, hn => by obtain rfl : k = 0 := by omega
                rfl
  | n + 1, hn => by
    by_cases e : k = n + 1
    · rw [e]
    · have ih := upto_stuck h n (by omega)
      rw [upto, ih, if_neg h]
theorem upto_err {most : Nat} {ts : List Tok} {k : Nat} {l m : List UInt8} {n : Int} (h : upto most ts k = (0, l)) (h2 : stp most l (ts.getD k (0, 0)) = (n, m)) (hn : n ≠ 0) (hk : k < ts.length) : upto most ts ts.length = (n, m) := by
  have e := upto_next h
  rw [h2] at e
  rw [upto_stuck (k := k + 1) (by rw [e]; exact hn) _ (by omega), e]
/-- What tokens come to. -/
def exp (most : Int) (ts : List Tok) : Int × List UInt8 := if 0 ≤ most ∧ most ≤ 4194304 then upto most.toNat ts ts.length else (7, [])
theorem put_length (l : List UInt8) (t : Tok) : (put l t).length = l.length + size t := by
  unfold put size
  split
  · simp
  · rw [cp_length]
theorem add_le {most : Nat} {l m : List UInt8} {t : Tok} (h : add most l t = (0, m)) : m.length ≤ most := by
  unfold add at h
  split at h
  · simp at h
  split at h
  · simp at h
  · simp only [Prod.mk.injEq, true_and] at h
    rw [← h, put_length]; omega
theorem upto_le (most : Nat) (ts : List Tok) : ∀ k l, upto most ts k = (0, l) → l.length ≤ most
  | 0, l, h => by simp only [upto, Prod.mk.injEq, true_and] at h; subst h; simp
  | k + 1, l, h => by
    rw [upto] at h
    split at h
    · unfold stp at h
      split at h
      · exact add_le h
      · simp at h
    · rename_i hne; rw [h] at hne; exact absurd rfl hne
theorem tok_range {t : Tok} (h : isTok t = true) : 0 ≤ t.1 ∧ t.1 ≤ 258 ∧ 0 ≤ t.2 ∧ t.2 ≤ 32768 ∧ (t.1 = 0 → t.2 ≤ 255) ∧ (t.1 ≠ 0 → 3 ≤ t.1 ∧ 1 ≤ t.2) := by
  unfold isTok at h
  split at h
  · have := of_decide_eq_true h; omega
  · have := of_decide_eq_true h; omega
end Tk
/-- Tokens as cells. -/
def tks (l : List Tok) : List Value := l.flatMap fun o => [.int .i64 o.1, .int .i64 o.2]
theorem tks_length (l : List Tok) : (tks l).length = l.length * 2 := by
  induction l with
  | nil => rfl
  | cons o l ih => simp only [tks, List.flatMap_cons, List.length_append, List.length_cons, List.length_nil] at *; omega
theorem tks_append (l m : List Tok) : tks (l ++ m) = tks l ++ tks m := by simp [tks]
theorem tks_get (l : List Tok) : ∀ i, i < l.length → (tks l)[i * 2]? = some (.int .i64 (l.getD i (0, 0)).1) ∧ (tks l)[i * 2 + 1]? = some (.int .i64 (l.getD i (0, 0)).2) := by
  induction l with
  | nil => intro i hi; simp at hi
  | cons c cs ih =>
    intro i hi
    have e : tks (c :: cs) = .int .i64 c.1 :: .int .i64 c.2 :: tks cs := rfl
    rw [e]
    cases i with
    | zero => exact ⟨rfl, rfl⟩
    | succ i =>
      have := ih i (by simp at hi; omega)
      have e3 : (i + 1) * 2 = i * 2 + 2 := by omega
      rw [e3]
      exact this
theorem tks_one (l : List Tok) : ∀ u ∈ tks l, u.oneCell' = true := by
  intro u hu
  simp only [tks, List.mem_flatMap] at hu
  obtain ⟨o, _, ho⟩ := hu
  simp at ho
  rcases ho with rfl | rfl <;> rfl
theorem tyT : RowTy Tryd.prog 25 46 (.agg #[.int .i64 0, .int .i64 0]) 2 16 := ⟨Tryd.underlying25, by kernel_rfl, rfl, by omega⟩
theorem src_tok (w : World) (t : Tok) : SrcRow (w.alloc (.cells #[.int .i64 t.1, .int .i64 t.2] 46)) (some ⟨w.heap.size, 0, none⟩) 1 1 (tks [t]) 2 :=
  src_new w #[.int .i64 t.1, .int .i64 t.2] 46 1 1 2 rfl (by intro u hu; simp at hu; rcases hu with rfl | rfl <;> rfl)
/-- A slice of tokens that reads as l. -/
structure Ts2 (w : World) (a : Option Addr) (len cap : Nat) (l : List Tok) : Prop where
  hlen : l.length = len
  hle : len ≤ cap
  hnil : a = none → cap = 0
  at' : ∀ i, i < len → ∃ b off, a = some ⟨b, off, none⟩ ∧ b < w.heap.size ∧ w.cell? ⟨b, off + i * 2, none⟩ = some (.int .i64 (l.getD i (0, 0)).1) ∧ w.cell? ⟨b, off + i * 2 + 1, none⟩ = some (.int .i64 (l.getD i (0, 0)).2)
  wf : ∀ i, i < len → (Lit.int .i64 (l.getD i (0, 0)).1).wf = true ∧ (Lit.int .i64 (l.getD i (0, 0)).2).wf = true
theorem Ts2.mono {w w' : World} {a : Option Addr} {len cap : Nat} {l : List Tok} (h : Ts2 w a len cap l) (hb : Below w.heap.size w w') : Ts2 w' a len cap l :=
  ⟨h.hlen, h.hle, h.hnil, fun i hi => by
    obtain ⟨b, off, e, hlt, c0, c1⟩ := h.at' i hi
    exact ⟨b, off, e, Nat.lt_of_lt_of_le hlt hb.size, by rw [hb.cell (p := ⟨b, off + i * 2, none⟩) hlt]; exact c0, by rw [hb.cell (p := ⟨b, off + i * 2 + 1, none⟩) hlt]; exact c1⟩, h.wf⟩
theorem Ts2.src {w : World} {a : Option Addr} {len cap : Nat} {l : List Tok} (h : Ts2 w a len cap l) : SrcRow w a len cap (tks l) 2 := by
  refine ⟨by rw [tks_length, h.hlen], fun e => ?_, fun ad e j u hu => ?_, tks_one l⟩
  · have := h.hnil e; have := h.hle; omega
  · have hj : j < (tks l).length := (List.getElem?_eq_some_iff.1 hu).1
    rw [tks_length, h.hlen] at hj
    obtain ⟨b, off, e2, _, c0, c1⟩ := h.at' (j / 2) (by omega)
    rw [e] at e2
    obtain rfl := Option.some.inj e2
    obtain ⟨t0, t1⟩ := tks_get l (j / 2) (by rw [h.hlen]; omega)
    rw [Addr.add_mid]
    rcases Nat.mod_two_eq_zero_or_one j with h0 | h0
    · have ej : j = j / 2 * 2 := by omega
      rw [ej] at hu ⊢
      have e4 : j / 2 * 2 / 2 = j / 2 := by omega
      rw [t0] at hu
      rw [c0]; exact hu
    · have ej : j = j / 2 * 2 + 1 := by omega
      rw [ej] at hu ⊢
      rw [t1] at hu
      rw [← Nat.add_assoc, c1]; exact hu
/-- A row of tokens of the call's own reads as its tokens. -/
theorem own_ts2 {w : World} {base n : Nat} {v : Value} {l : List Tok} (h : w.ownsRow base 46 2 v n (tks l)) (hw : ∀ i, i < n → (Lit.int .i64 (l.getD i (0, 0)).1).wf = true ∧ (Lit.int .i64 (l.getD i (0, 0)).2).wf = true) :
    ∃ a cap, v = .slice a n cap ∧ Ts2 w a n cap l := by
  have hn : l.length = n := by have := h.1; rw [tks_length] at this; omega
  rcases own_nil_or h with ⟨rfl, rfl⟩ | ⟨g, cap, rfl, hle, _⟩
  · exact ⟨none, 0, rfl, hn, Nat.le_refl _, fun _ => rfl, fun i hi => absurd hi (by omega), hw⟩
  · refine ⟨_, cap, rfl, hn, hle, fun e => by simp at e, fun i hi => ⟨g, 0, rfl, (h.lt g rfl).2, ?_⟩, hw⟩
    obtain ⟨t0, t1⟩ := tks_get l i (by omega)
    rw [Nat.zero_add, h.cellAt (i * 2) (by omega), h.cellAt (i * 2 + 1) (by omega)]
    exact ⟨t0, t1⟩
end Go.Proofs.YtdojhglpiejfjaaDoor
end

section
namespace Go.Proofs.YtdojhglpiejfjaaDoor
open Go.RowKit

theorem refGood06_any (t : Tok) (w : World) (hw : (Lit.int .i64 t.1).wf = true ∧ (Lit.int .i64 t.2).wf = true) :
    Calls Tryd.prog 52 #[.agg #[.int .i64 t.1, .int .i64 t.2]] w fun e w' => e = .returned (.bool (Tk.isTok t)) ∧ Below w.heap.size w w' := by
  obtain ⟨x, y⟩ := t
  have hb := Lib.hid (below_alloc w (.cells #[.int .i64 x, .int .i64 y] 46))
  clear hw
  by_cases h0 : x = 0
  · by_cases h1 : 0 ≤ y
    · by_cases h2 : y ≤ 255
      · have E := Lib.hid (show Tk.isTok (x, y) = true by simp only [Tk.isTok, h0, if_true]; exact decide_eq_true ⟨h1, h2⟩)
        have d0 : (x == 0) = true := by simpa using h0
        have d1 : decide (0 ≤ y) = true := by simpa using h1
        have d2 : decide (y < 256) = true := by simp; omega
        clear h0
        go_enter Tryd.func52, Tryd.ntmps52
        go_wp2
        go_ret
        exact ⟨by rw [E.out]; rfl, hb.out⟩
      · have E := Lib.hid (show Tk.isTok (x, y) = false by simp only [Tk.isTok, h0, if_true]; exact decide_eq_false (fun h => h2 h.2))
        have d0 : (x == 0) = true := by simpa using h0
        have d1 : decide (0 ≤ y) = true := by simpa using h1
        have d2 : decide (y < 256) = false := by simp; omega
        clear h0
        go_enter Tryd.func52, Tryd.ntmps52
        go_wp2
        go_ret
        exact ⟨by rw [E.out]; rfl, hb.out⟩
    · have E := Lib.hid (show Tk.isTok (x, y) = false by simp only [Tk.isTok, h0, if_true]; exact decide_eq_false (fun h => h1 h.1))
      have d0 : (x == 0) = true := by simpa using h0
      have d1 : decide (0 ≤ y) = false := by simpa using h1
      clear h0
      go_enter Tryd.func52, Tryd.ntmps52
      go_wp2
      go_ret
      exact ⟨by rw [E.out]; rfl, hb.out⟩
  have d0 : (x == 0) = false := by simpa using h0
  have hi : Tk.isTok (x, y) = decide (3 ≤ x ∧ x ≤ 258 ∧ 1 ≤ y ∧ y ≤ 32768) := by simp only [Tk.isTok, if_neg h0]
  by_cases h1 : 3 ≤ x
  · have d1 : decide (3 ≤ x) = true := by simpa using h1
    by_cases h2 : x ≤ 258
    · have d2 : decide (x ≤ 258) = true := by simpa using h2
      by_cases h3 : 1 ≤ y
      · have d3 : decide (1 ≤ y) = true := by simpa using h3
        by_cases h4 : y ≤ 32768
        · have d4 : decide (y ≤ 32768) = true := by simpa using h4
          have E := Lib.hid (hi.trans (decide_eq_true ⟨h1, h2, h3, h4⟩))
          clear hi
          go_enter Tryd.func52, Tryd.ntmps52
          go_wp2
          go_ret
          exact ⟨by rw [E.out]; rfl, hb.out⟩
        · have d4 : decide (y ≤ 32768) = false := by simpa using h4
          have E := Lib.hid (hi.trans (decide_eq_false (fun h => h4 h.2.2.2)))
          clear hi
          go_enter Tryd.func52, Tryd.ntmps52
          go_wp2
          go_ret
          exact ⟨by rw [E.out]; rfl, hb.out⟩
      · have d3 : decide (1 ≤ y) = false := by simpa using h3
        have E := Lib.hid (hi.trans (decide_eq_false (fun h => h3 h.2.2.1)))
        clear hi
        go_enter Tryd.func52, Tryd.ntmps52
        go_wp2
        go_ret
        exact ⟨by rw [E.out]; rfl, hb.out⟩
    · have d2 : decide (x ≤ 258) = false := by simpa using h2
      have E := Lib.hid (hi.trans (decide_eq_false (fun h => h2 h.2.1)))
      clear hi
      go_enter Tryd.func52, Tryd.ntmps52
      go_wp2
      go_ret
      exact ⟨by rw [E.out]; rfl, hb.out⟩
  · have d1 : decide (3 ≤ x) = false := by simpa using h1
    have E := Lib.hid (hi.trans (decide_eq_false (fun h => h1 h.1)))
    clear hi
    go_enter Tryd.func52, Tryd.ntmps52
    go_wp2
    go_ret
    exact ⟨by rw [E.out]; rfl, hb.out⟩
end Go.Proofs.YtdojhglpiejfjaaDoor
end

section
namespace Go.Proofs.YtdojhglpiejfjaaDoor
open Go.RowKit

theorem drewN_is (w : World) (n : Nat) : Below w.heap.size w (w.drewN n) := ⟨rfl, rfl, rfl, Nat.le_refl _, fun _ _ => rfl⟩
theorem drewN_two (w : World) (a b : Nat) : (w.drewN a).drewN b = w.drewN (a + b) := by simp [World.drewN, Nat.add_assoc]
end Go.Proofs.YtdojhglpiejfjaaDoor
end

section
namespace Go.Proofs.YtdojhglpiejfjaaDoor
open Go.RowKit
namespace Sy
/-- How many bases behind the first one aren't beyond. -/
def cntB (f : Nat → Nat × Nat) (m n : Nat) : Nat := ((List.range m).filter fun s => decide ((f (s + 1)).1 ≤ n)).length
def lsy (n : Nat) : Nat := cntB lb 28 n
def dsy (n : Nat) : Nat := cntB db 29 n
theorem cnt_of {f : Nat → Nat × Nat} {m n s : Nat} (hs : s ≤ m) (h1 : ∀ k, k < s → (f (k + 1)).1 ≤ n) (h2 : ∀ k, s ≤ k → k < m → n < (f (k + 1)).1) : cntB f m n = s := by
  obtain ⟨d, rfl⟩ : ∃ d, m = s + d := ⟨m - s, by omega⟩
  unfold cntB
  rw [List.range_add, List.filter_append, List.filter_eq_self.2 (fun a ha => by simpa using h1 a (List.mem_range.1 ha)), List.filter_eq_nil_iff.2 (fun a ha => by
    obtain ⟨b, hb, rfl⟩ := List.mem_map.1 ha
    have := h2 (s + b) (by omega) (by have := List.mem_range.1 hb; omega)
    simpa using this)]
  simp
theorem lb_mono : ∀ j, j < 29 → ∀ i, i ≤ j → (lb i).1 ≤ (lb j).1 := by decide +kernel
theorem db_mono : ∀ j, j < 30 → ∀ i, i ≤ j → (db i).1 ≤ (db j).1 := by decide +kernel
theorem lsy_of {n s : Nat} (hs : s ≤ 28) (h1 : (lb s).1 ≤ n) (h2 : s < 28 → n < (lb (s + 1)).1) : lsy n = s :=
  cnt_of hs (fun k hk => Nat.le_trans (lb_mono s (by omega) (k + 1) hk) h1) (fun k hk hm => Nat.lt_of_lt_of_le (h2 (by omega)) (lb_mono (k + 1) (by omega) (s + 1) (by omega)))
theorem dsy_of {n s : Nat} (hs : s ≤ 29) (h1 : (db s).1 ≤ n) (h2 : s < 29 → n < (db (s + 1)).1) : dsy n = s :=
  cnt_of hs (fun k hk => Nat.le_trans (db_mono s (by omega) (k + 1) hk) h1) (fun k hk hm => Nat.lt_of_lt_of_le (h2 (by omega)) (db_mono (k + 1) (by omega) (s + 1) (by omega)))
theorem cnt_le (f : Nat → Nat × Nat) (m n : Nat) : cntB f m n ≤ m := by
  unfold cntB
  have := List.length_filter_le (fun s => decide ((f (s + 1)).1 ≤ n)) (List.range m)
  simpa using this
end Sy
set_option maxHeartbeats 1000000 in
theorem refDist_any (n : Nat) (w : World) (h3 : 1 ≤ n) (hn : n ≤ 32768) :
    Calls Tryd.prog 36 #[.int .i64 (n : Nat)] w fun e w' => e = .returned (.int .i64 ((Sy.dsy n : Nat) : Int)) ∧ Below w.heap.size w w' := by
  go_enter Tryd.func36, Tryd.ntmps36
  go_wp2_with fail
  refine (dists_any w).mono ?_
  rintro e w1 ⟨g, h, rfl, h2, hb1⟩
  have HB := Lib.hid hb1
  have H2 := Lib.hid h2
  clear hb1 h2
  go_wp2
  go_loopw [5] (fun i wr => ∃ s : Nat, s ≤ 29 ∧ i = .int .i64 ((s : Nat) : Int) ∧ w1 = wr ∧ Hid (∀ k, k < s → (Sy.db (k + 1)).1 ≤ n)) (fun i _ => 30 - (intOf i).toNat)
  case atStart => exact ⟨0, by omega, rfl, rfl, Lib.hid (fun k hk => by omega)⟩
  case round =>
    obtain ⟨s, hs, rfl, rfl, HK⟩ := hrel
    by_cases h28 : s < 29
    · have d1 : decide ((s : Int) + 1 < 30) = true := by simp; omega
      have c1 := H2.out.fst (s + 1) (by omega)
      have dx : decide (s + 1 < 30) = true := by simp; omega
      by_cases hb : (Sy.db (s + 1)).1 ≤ n
      · have HK2 : Hid (∀ k, k < s + 1 → (Sy.db (k + 1)).1 ≤ n) := Lib.hid (fun k hk => by
          rcases Nat.lt_or_ge k s with h | h
          · exact HK.out k h
          · obtain rfl : k = s := by omega
            exact hb)
        generalize (Sy.db (s + 1)).1 = q at *
        have d2 : decide (q ≤ n) = true := by simp; omega
        go_wp2
        go_roundw
        case rel => exact ⟨s + 1, by omega, by go_num, trivial, HK2⟩
        case measure => simp [intOf]; omega
      · have HF : Hid (Sy.dsy n = s) := Lib.hid (by
          rw [Sy.dsy, Sy.cnt_of (f := Sy.db) (m := 29) (n := n) (s := s) (by omega) HK.out (fun k h1 h2 => Nat.lt_of_lt_of_le (by omega) (Sy.db_mono (k + 1) (by omega) (s + 1) (by omega)))])
        generalize (Sy.db (s + 1)).1 = q at *
        have d2 : decide (q ≤ n) = false := by simp; omega
        go_wp2
        go_ret
        exact ⟨by rw [HF.out]; rfl, HB.out⟩
    · obtain rfl : s = 29 := by omega
      have HF : Hid (Sy.dsy n = 29) := Lib.hid (by
        rw [Sy.dsy, Sy.cnt_of (f := Sy.db) (m := 29) (n := n) (s := 29) (by omega) HK.out (fun k h1 h2 => by omega)])
      go_wp2
      go_ret
      exact ⟨by rw [HF.out]; rfl, HB.out⟩
/-- A token's symbols. -/
def SyPost (t : Tok) (v : Value) : Prop := ∃ sv dv : Int, v = .tuple #[.int .i64 sv, .int .i64 dv, .bool (Tk.isTok t)] ∧ (Tk.isTok t = true → (t.1 = 0 → sv = t.2 ∧ dv = 0) ∧ (t.1 ≠ 0 → sv = ((257 + Sy.lsy t.1.toNat : Nat) : Int) ∧ dv = ((Sy.dsy t.2.toNat : Nat) : Int)))
set_option maxHeartbeats 2000000 in
theorem symbols_any09 (t : Tok) (w : World) (hw : (Lit.int .i64 t.1).wf = true ∧ (Lit.int .i64 t.2).wf = true) :
    Calls Tryd.prog 51 #[.agg #[.int .i64 t.1, .int .i64 t.2]] w fun e w' => (∃ v, SyPost t v ∧ e = .returned v) ∧ Below w.heap.size w w' := by
  obtain ⟨x, y⟩ := t
  have HW := Lib.hid hw
  have hb := below_alloc w (.cells #[.int .i64 x, .int .i64 y] 46)
  have hrow : (w.alloc (.cells #[.int .i64 x, .int .i64 y] 46)).heap[w.heap.size]? = some (.cells #[.int .i64 x, .int .i64 y] 46 (0, 0)) := heap_alloc_last w _
  have HB := Lib.hid hb
  have c0 : (w.alloc (.cells #[.int .i64 x, .int .i64 y] 46)).cell? ⟨w.heap.size, 0, none⟩ = some (.int .i64 x) := by rw [cell_of_row _ _ _ _ _ (0, 0) hrow]; rfl
  have c1 : (w.alloc (.cells #[.int .i64 x, .int .i64 y] 46)).cell? ⟨w.heap.size, 1, none⟩ = some (.int .i64 y) := by rw [cell_of_row _ _ _ _ _ (0, 0) hrow]; rfl
  clear hw hb hrow
  by_cases h0 : x = 0
  · subst h0
    have HT : Hid (Tk.isTok (0, y) = (decide (0 ≤ y) && decide (y < 256))) := Lib.hid (by
      simp only [Tk.isTok, if_true]
      by_cases h1 : 0 ≤ y <;> by_cases h2 : y < 256 <;> simp [h1, h2] <;> omega)
    have HBn : Hid (∀ n, Below w.heap.size w ((w.alloc (.cells #[.int .i64 0, .int .i64 y] 46)).drewN n)) := Lib.hid (fun n => below_then HB.out (drewN_is _ n))
    by_cases h1 : 0 ≤ y
    · have d1 : decide (0 ≤ y) = true := by simpa using h1
      have HE : Hid (SyPost (0, y) (.tuple #[.int .i64 y, .int .i64 0, .bool (decide (y < 256))])) := Lib.hid ⟨y, 0, by rw [HT.out, d1, Bool.true_and], fun _ => ⟨fun _ => ⟨rfl, rfl⟩, fun h => absurd rfl h⟩⟩
      clear h1
      go_enter Tryd.func51, Tryd.ntmps51
      go_wp2
      go_quiet (fail)
      go_wp2
      go_ret3
      exact ⟨⟨_, HE.out, rfl⟩, HBn.out _⟩
    · have d1 : decide (0 ≤ y) = false := by simpa using h1
      have HE : Hid (SyPost (0, y) (.tuple #[.int .i64 y, .int .i64 0, .bool false])) := Lib.hid ⟨y, 0, by rw [HT.out, d1, Bool.false_and], fun _ => ⟨fun _ => ⟨rfl, rfl⟩, fun h => absurd rfl h⟩⟩
      clear h1
      go_enter Tryd.func51, Tryd.ntmps51
      go_wp2
      go_quiet (fail)
      go_wp2
      go_ret3
      exact ⟨⟨_, HE.out, rfl⟩, HBn.out _⟩
  · have d0 : (x == 0) = false := by simpa using h0
    have HT : Hid (Tk.isTok (x, y) = decide (3 ≤ x ∧ x ≤ 258 ∧ 1 ≤ y ∧ y ≤ 32768)) := Lib.hid (by simp only [Tk.isTok]; rw [if_neg h0])
    have HN0 := Lib.hid h0
    clear h0
    go_enter Tryd.func51, Tryd.ntmps51
    go_wp2_with fail
    refine (lengthSymbol_any x _ HW.out.1).mono ?_
    rintro e w' ⟨⟨v1, hv1, rfl⟩, rfl⟩
    have hv1' : ∃ (s1 : Int) (b1 : Bool), v1 = .tuple #[.int .i64 s1, .bool b1] ∧ (b1 = decide (3 ≤ x ∧ x ≤ 258)) ∧ (b1 = true → s1 = ((257 + Sy.lsy x.toNat : Nat) : Int)) := by
      rcases hv1 with ⟨h, rfl⟩ | ⟨rfl, rfl⟩ | ⟨a, r, rfl, ha, hh, rfl⟩
      · exact ⟨_, _, rfl, by simp; omega, fun h => by cases h⟩
      · exact ⟨_, _, rfl, by decide, fun _ => by rw [show (258 : Int).toNat = 258 from rfl, Sy.lsy_of (n := 258) (s := 28) (by omega) (by decide) (fun h => by omega)]; rfl⟩
      · obtain ⟨q1, q2, q3⟩ := Sy.held4 ha hh
        refine ⟨_, _, rfl, by simp; omega, fun _ => ?_⟩
        rw [show ((a : Int) + 3).toNat = a + 3 by omega, Sy.lsy_of (n := a + 3) (s := r) (by omega) q2 (fun _ => q3)]
        omega
    obtain ⟨s1, b1, rfl, hb1, hs1⟩ := hv1'
    have HB1 := Lib.hid hb1
    have HS1 := Lib.hid hs1
    clear hv1 hb1 hs1
    go_wp2_with fail
    refine (distSymbol_any y _ HW.out.2).mono ?_
    rintro e w' ⟨⟨v2, hv2, rfl⟩, rfl⟩
    have hv2' : ∃ (s2 : Int) (b2 : Bool), v2 = .tuple #[.int .i64 s2, .bool b2] ∧ (b2 = decide (1 ≤ y ∧ y ≤ 32768)) ∧ (b2 = true → s2 = ((Sy.dsy y.toNat : Nat) : Int)) := by
      rcases hv2 with ⟨h, rfl⟩ | ⟨a, r, rfl, ha, hh, rfl⟩
      · exact ⟨_, _, rfl, by simp; omega, fun h => by cases h⟩
      · obtain ⟨q1, q2, q3⟩ := Sy.held2 ha hh
        refine ⟨_, _, rfl, by simp; omega, fun _ => ?_⟩
        rw [show ((a : Int) + 1).toNat = a + 1 by omega, Sy.dsy_of (n := a + 1) (s := r) (by omega) q2 q3]
    obtain ⟨s2, b2, rfl, hb2, hs2⟩ := hv2'
    have HE : Hid (SyPost (x, y) (.tuple #[.int .i64 s1, .int .i64 s2, .bool (b1 && b2)])) := Lib.hid ⟨s1, s2, by
      rw [HT.out, HB1.out, hb2]
      congr 4
      by_cases q1 : 3 ≤ x <;> by_cases q2 : x ≤ 258 <;> by_cases q3 : 1 ≤ y <;> by_cases q4 : y ≤ 32768 <;> simp [q1, q2, q3, q4], fun ht => ⟨fun h => absurd h HN0.out, fun _ => by
      rw [HT.out] at ht
      have ht' := of_decide_eq_true ht
      exact ⟨HS1.out (by rw [HB1.out]; exact decide_eq_true ⟨ht'.1, ht'.2.1⟩), hs2 (by rw [hb2]; exact decide_eq_true ⟨ht'.2.2.1, ht'.2.2.2⟩)⟩⟩⟩
    clear hv2 HB1 hb2 HS1 hs2 c0 c1
    obtain rfl | rfl : b1 = true ∨ b1 = false := by cases b1 <;> simp
    · rw [Bool.true_and] at HE
      go_wp2
      go_ret3
      exact ⟨⟨_, HE.out, rfl⟩, HB.out⟩
    · rw [Bool.false_and] at HE
      go_wp2
      go_ret3
      exact ⟨⟨_, HE.out, rfl⟩, HB.out⟩
end Go.Proofs.YtdojhglpiejfjaaDoor
end
