/- append to a row of the call's own, as one step of a drawn region. Appends to rows of the call's own, as one step of a drawn region; a byte as a source. inflate's symbols: their bases, in words. Slices of numbers of the call's own. Numbers as a literal. The document's tables of bases: their contracts. inflate.holder: which symbol holds a number. inflate's symbols: which one a length and a distance have. Which symbol holds a length or a distance. The document's Good. Drawn worlds. Which symbols a token has: parse.symbols, and the document's Length and Dist. The document's table of lengths: its contract. The document's symbol of a length. -/
import Derived.Test.YtpoilaappcjbeaaGreatDoorZ2
import Derived.Deep.RegionLaw
import Derived.Deep.QuietTactic
import Derived.BigQuiet
import Derived.Test.YtpoilaappcjbeaaGreatDoorProg
set_option linter.unusedSimpArgs false
set_option linter.unusedVariables false
section
namespace Go.Proofs.YtpoilaappcjbeaaGreatDoor
open Go.RowKit
set_option linter.unusedSimpArgs false
set_option linter.unusedVariables false

section
variable {P : Program} {w : World} {ops : Array Oper} {o : Oper} {a : Act} {Q : Exit → Act → World → Prop} {K : Act → World → Prop} {E : Prop}
variable {t e : TypeId} {z : Value} {size by' : Nat}
/-- append, as one step of a region that draws. -/
theorem step_app (R : RowTy P t e z size by') (hg : o.guard = none) (s x : Operand) (hop : o.op = Op.call { callee := Callee.builtin Builtin.append, args := #[s, x], argTypes := #[t, t] })
    {base n : Nat} {v : Value} {xs : List Value} (hown : w.ownsRow base e size v n xs) {ad : Addr} {m c : Nat} {news : List Value} (hsrc : SrcRow w (some ad) m c news size)
    (hs : a.eval s = v) (hx : a.eval x = .slice (some ad) m c) (hm : 0 < m) (h63 : n + m ≤ 9223372036854775807) (hbytes : (n + m) * by' ≤ 140737488355328) (hbase : base ≤ w.heap.size)
    (hK : ∀ v' w', w'.ownsRow base e size v' (n + m) (xs ++ news) → Step w w' v v' → K (a.put o.dst v') w') :
    if Region.wanted o (yielded ops a.tmps) = true then Oper.wp P o a w K Q else E := by
  have hw : Region.wanted o (yielded ops a.tmps) = true := by simp [Region.wanted, hg]
  rw [if_pos hw]
  obtain ⟨v', w', hrun, r1, r2⟩ := run_app R o.type hown hsrc hm h63 hbytes hbase
  unfold Oper.wp
  simp [execOp, hop, resolve, invoke, builtin, hs, hx, hrun, Result.andThen]
  exact hK _ _ r1 r2
end
end Go.Proofs.YtpoilaappcjbeaaGreatDoor
end

section
namespace Go.Proofs.YtpoilaappcjbeaaGreatDoor
open Go.RowKit
set_option linter.unusedSimpArgs false
set_option linter.unusedVariables false

/-- What an append leaves of the elder row. -/
theorem step_keeps {w w' : World} {base gv n cap m : Nat} {e : TypeId} {xs news : List Value} {v' : Value} (h : w.ownsRow base e 1 (.slice (some ⟨gv, 0, none⟩) n cap) n xs) (h' : w'.ownsRow base e 1 v' (n + m) (xs ++ news)) (r : Step w w' (.slice (some ⟨gv, 0, none⟩) n cap) v') (q : Nat) (hq : q < n) :
    w'.cell? ⟨gv, q, none⟩ = w.cell? ⟨gv, q, none⟩ := by
  have hx : xs.length = n := by have := h.1; simpa using this
  have h0 := h.cellAt q (by omega)
  rcases r with ⟨g, k, c, k', e1, e2, _⟩ | ⟨_, hg⟩
  · simp only [Value.slice.injEq, Option.some.injEq, Addr.mk.injEq, and_true] at e1
    obtain ⟨rfl, _, rfl⟩ := e1
    rcases own_nil_or h' with ⟨e3, _⟩ | ⟨g2, c2, e3, _⟩
    · rw [e3] at e2; simp at e2
    rw [e3] at e2 h'
    simp only [Value.slice.injEq, Option.some.injEq, Addr.mk.injEq, and_true] at e2
    obtain ⟨rfl, _, rfl⟩ := e2
    have h1 := h'.cellAt q (by omega)
    rw [h0, h1, List.getElem?_append_left (by omega)]
  · have hlt := (h.lt gv rfl).2
    exact World.cell?_of_block (hg.block gv hlt (by simp))
theorem dn_is (w : World) (n : Nat) : Below w.heap.size w (w.drewN n) := ⟨rfl, rfl, rfl, Nat.le_refl _, fun _ _ => rfl⟩
theorem tyU : RowTy Tryz.prog 22 5 (.int .u8 0) 1 1 := ⟨Tryz.underlying22, by kernel_rfl, rfl, by omega⟩
theorem src_b (w : World) (x : Nat) (hx : x < 256) : SrcRow (w.alloc (.cells #[Value.int .u8 (x : Nat)] 5)) (some ⟨w.heap.size, 0, none⟩) 1 1 (bvs [UInt8.ofNat x]) 1 := by
  have e : (bvs [UInt8.ofNat x]).toArray = #[Value.int .u8 (x : Nat)] := by simp [bvs, Nat.mod_eq_of_lt hx]
  have := (bs_new w w.heap.size rfl [UInt8.ofNat x] 5 (0, 0) 1 rfl (by omega) _ e).src
  exact this
end Go.Proofs.YtpoilaappcjbeaaGreatDoor
end

section
namespace Go.Proofs.YtpoilaappcjbeaaGreatDoor
open Go.RowKit
namespace Sy
def st (p g : Nat) : Nat × Nat := if p < g then (p, 0) else ((g + p % g) * 2 ^ (p / g - 1), p / g - 1)
end Sy
namespace Sy
/-- A length symbol's base and extra bits. -/
def lb (s : Nat) : Nat × Nat := if s = 28 then (258, 0) else (3 + (st s 4).1, (st s 4).2)
def db (s : Nat) : Nat × Nat := (1 + (st s 2).1, (st s 2).2)
def lbV (s : Int) : Value := if 257 ≤ s ∧ s ≤ 285 then .tuple #[.int .i64 ((lb (s - 257).toNat).1 : Nat), .int .i64 ((lb (s - 257).toNat).2 : Nat), .bool true] else .tuple #[.int .i64 0, .int .i64 0, .bool false]
def dbV (s : Int) : Value := if 0 ≤ s ∧ s ≤ 29 then .tuple #[.int .i64 ((db s.toNat).1 : Nat), .int .i64 ((db s.toNat).2 : Nat), .bool true] else .tuple #[.int .i64 0, .int .i64 0, .bool false]
theorem st_lt (p g : Nat) (hp : p < 30) (hg : g = 2 ∨ g = 4) : (st p g).1 ≤ 131072 ∧ (st p g).2 ≤ 14 := by
  unfold st
  split
  · exact ⟨by show p ≤ _; omega, by show 0 ≤ _; omega⟩
  · have hp2 : 2 ^ (p / g - 1) ≤ 2 ^ 14 := Nat.pow_le_pow_right (by omega) (by rcases hg with rfl | rfl <;> omega)
    exact ⟨Nat.mul_le_mul (show g + p % g ≤ 8 by rcases hg with rfl | rfl <;> omega) hp2, by rcases hg with rfl | rfl <;> (show _ / _ - 1 ≤ 14; omega)⟩
end Sy
end Go.Proofs.YtpoilaappcjbeaaGreatDoor
end

section
namespace Go.Proofs.YtpoilaappcjbeaaGreatDoor
open Go.RowKit

/-- Numbers as cells. -/
def ivs (l : List Int) : List Value := l.map fun n => .int .i64 n
theorem ivs_length (l : List Int) : (ivs l).length = l.length := by simp [ivs]
theorem ivs_append (l m : List Int) : ivs (l ++ m) = ivs l ++ ivs m := by simp [ivs]
theorem ivs_one (l : List Int) : ∀ u ∈ ivs l, u.oneCell' = true := by
  intro u hu
  simp only [ivs, List.mem_map] at hu
  obtain ⟨x, _, rfl⟩ := hu
  rfl
theorem ivs_get (l : List Int) (i : Nat) (h : i < l.length) : (ivs l)[i]? = some (.int .i64 (l.getD i 0)) := by
  simp [ivs, List.getD, List.getElem?_eq_getElem h]
theorem ivs_set (l : List Int) (j : Nat) (n : Int) : (ivs l).set j (.int .i64 n) = ivs (l.set j n) := by simp [ivs, List.map_set]
/-- All of them are numbers of a machine. -/
def Wf (l : List Int) : Prop := ∀ n ∈ l, (Lit.int .i64 n).wf = true
theorem tyI : RowTy Tryz.prog 53 3 (.int .i64 0) 1 8 := ⟨Tryz.underlying53, by kernel_rfl, rfl, by omega⟩
theorem Is.mono {k : IntKind} {w w' : World} {a : Option Addr} {len cap : Nat} {l : List Int} (h : Is k w a len cap l) (hb : Below w.heap.size w w') : Is k w' a len cap l :=
  ⟨h.hlen, h.hle, h.hnil, fun i hi => by
    obtain ⟨b, off, e, hlt, hc⟩ := h.at' i hi
    exact ⟨b, off, e, Nat.lt_of_lt_of_le hlt hb.size, by rw [hb.cell (p := ⟨b, off + i, none⟩) hlt]; exact hc⟩, h.wf⟩
theorem Is.src {w : World} {a : Option Addr} {len cap : Nat} {l : List Int} (h : Is .i64 w a len cap l) : SrcRow w a len cap (ivs l) 1 := by
  refine ⟨by rw [ivs_length, h.hlen, Nat.mul_one], fun e => ?_, fun ad e j u hu => ?_, ivs_one l⟩
  · have := h.hnil e; have := h.hle; omega
  · have hj : j < l.length := by have := (List.getElem?_eq_some_iff.1 hu).1; simpa [ivs] using this
    obtain ⟨b, off, e2, _, hc⟩ := h.at' j (by rw [← h.hlen]; exact hj)
    rw [e] at e2
    obtain rfl := Option.some.inj e2
    rw [Addr.add_mid, hc, ← ivs_get l j hj]
    exact hu
/-- A row that the call owns reads as its numbers, any part of it. -/
theorem is_of_own {w : World} {base : Nat} {e : TypeId} {g n cap : Nat} {l : List Int} (h : w.ownsRow base e 1 (.slice (some ⟨g, 0, none⟩) n cap) n (ivs l)) (hw : Wf l) (s k c : Nat) (hk : s + k ≤ n) (hc : k ≤ c) :
    Is .i64 w (some ⟨g, s, none⟩) k c ((l.drop s).take k) := by
  have hn : l.length = n := by have := h.1; rw [ivs_length] at this; omega
  have hlt : g < w.heap.size := (h.lt g rfl).2
  refine ⟨by simp; omega, hc, fun h => by simp at h, fun i hi => ⟨g, s, rfl, hlt, ?_⟩, fun n hn => hw n (List.mem_of_mem_drop (List.mem_of_mem_take hn))⟩
  rw [h.cellAt (s + i) (by omega), ivs_get l (s + i) (by omega)]
  simp [List.getD, List.getElem?_take, hi, List.getElem?_drop]
theorem own_is {w : World} {base : Nat} {e : TypeId} {v : Value} {n : Nat} {l : List Int} (h : w.ownsRow base e 1 v n (ivs l)) (hw : Wf l) :
    ∃ a cap, v = .slice a n cap ∧ Is .i64 w a n cap l := by
  have hn : l.length = n := by have := h.1; rw [ivs_length] at this; omega
  rcases own_nil_or h with ⟨rfl, rfl⟩ | ⟨g, cap, rfl, hle, _⟩
  · have : l = [] := List.eq_nil_of_length_eq_zero hn
    subst this
    exact ⟨none, 0, rfl, rfl, Nat.le_refl _, fun _ => rfl, fun i hi => absurd hi (by omega), fun n hn => by simp at hn⟩
  · have := is_of_own h hw 0 n cap (by omega) hle
    rw [List.drop_zero, List.take_of_length_le (by omega)] at this
    exact ⟨_, cap, rfl, this⟩
theorem is_nil (w : World) : Is .i64 w none 0 0 [] := ⟨rfl, Nat.le_refl _, fun _ => rfl, fun i hi => absurd hi (by omega), fun n hn => by simp at hn⟩
/-- One number, as what is appended. -/
theorem src_int (w : World) (n : Int) : SrcRow (w.alloc (.cells #[Value.int .i64 n] 3)) (some ⟨w.heap.size, 0, none⟩) 1 1 (ivs [n]) 1 :=
  src_new w #[Value.int .i64 n] 3 1 1 1 rfl (ivs_one [n])
theorem own_int (w : World) (base : Nat) (n : Int) (hb : base ≤ w.heap.size) : (w.alloc (.cells #[Value.int .i64 n] 3)).ownsRow base 3 1 (.slice (some ⟨w.heap.size, 0, none⟩) 1 1) 1 (ivs [n]) :=
  ⟨by simp [ivs], .inr ⟨w.heap.size, 1, #[Value.int .i64 n], rfl, hb, heap_alloc_last w _, by omega, by unfold maxLen; omega, rfl, rfl⟩⟩
/-- Bits as numbers. -/
def bi (l : List Bool) : List Int := l.map fun b => (b.toNat : Int)
theorem bi_length (l : List Bool) : (bi l).length = l.length := by simp [bi]
theorem bi_append (l m : List Bool) : bi (l ++ m) = bi l ++ bi m := by simp [bi]
theorem bi_getD (l : List Bool) (i : Nat) : (bi l).getD i 0 = ((l.getD i false).toNat : Int) := by
  by_cases h : i < l.length
  · simp [bi, List.getD, List.getElem?_eq_getElem h]
  · simp [bi, List.getD, List.getElem?_eq_none (Nat.le_of_not_lt h)]
theorem bi_wf (l : List Bool) : Wf (bi l) := by
  intro n hn
  simp only [bi, List.mem_map] at hn
  obtain ⟨b, _, rfl⟩ := hn
  cases b <;> rfl
end Go.Proofs.YtpoilaappcjbeaaGreatDoor
end

section
namespace Go.Proofs.YtpoilaappcjbeaaGreatDoor
open Go.RowKit

theorem is_lit (w : World) (l : List Int) (n : Nat) (t : TypeId) (cs : Array Value) (hcs : (ivs l).toArray = cs) (hn : l.length = n) (hw : Wf l) : Is .i64 (w.alloc (.cells cs t)) (some ⟨w.heap.size, 0, none⟩) n n l := by
  subst hcs
  refine ⟨hn, Nat.le_refl _, fun h => by simp at h, fun i hi => ⟨w.heap.size, 0, rfl, by simp, ?_⟩, hw⟩
  rw [cell_of_row _ _ _ _ t (0, 0) (heap_alloc_last w _), Nat.zero_add, List.getElem?_toArray]
  exact ivs_get l i (by omega)
/-- The same, at an address that is spelled otherwise (w.heap.size + 1 behind one alloc: Array.size_push). -/
theorem is_lit_at (w : World) (g : Nat) (hg : w.heap.size = g) (l : List Int) (n : Nat) (t : TypeId) (cs : Array Value) (hcs : (ivs l).toArray = cs) (hn : l.length = n) (hw : Wf l) : Is .i64 (w.alloc (.cells cs t)) (some ⟨g, 0, none⟩) n n l := by
  subst hg; exact is_lit w l n t cs hcs hn hw
end Go.Proofs.YtpoilaappcjbeaaGreatDoor
end

section
namespace Go.Proofs.YtpoilaappcjbeaaGreatDoor
open Go.RowKit
namespace Sy
def lensL : List Int := [3, 4, 5, 6, 7, 8, 9, 10, 11, 13, 15, 17, 19, 23, 27, 31, 35, 43, 51, 59, 67, 83, 99, 115, 131, 163, 195, 227, 258]
def lensX : List Int := [0, 0, 0, 0, 0, 0, 0, 0, 1, 1, 1, 1, 2, 2, 2, 2, 3, 3, 3, 3, 4, 4, 4, 4, 5, 5, 5, 5, 0]
def distL : List Int := [1, 2, 3, 4, 5, 7, 9, 13, 17, 25, 33, 49, 65, 97, 129, 193, 257, 385, 513, 769, 1025, 1537, 2049, 3073, 4097, 6145, 8193, 12289, 16385, 24577]
def distX : List Int := [0, 0, 0, 0, 1, 1, 2, 2, 3, 3, 4, 4, 5, 5, 6, 6, 7, 7, 8, 8, 9, 9, 10, 10, 11, 11, 12, 12, 13, 13]
theorem lens_eq : ∀ p, p < 29 → lensL.getD p 0 = ((lb p).1 : Int) ∧ lensX.getD p 0 = ((lb p).2 : Int) := by decide +kernel
theorem dist_eq : ∀ p, p < 30 → distL.getD p 0 = ((db p).1 : Int) ∧ distX.getD p 0 = ((db p).2 : Int) := by decide +kernel
/-- Two rows of numbers in memory. -/
structure Two (w : World) (g h n : Nat) (f : Nat → Nat × Nat) : Prop where
  lg : g < w.heap.size
  lh : h < w.heap.size
  fst : ∀ i, i < n → w.cell? ⟨g, i, none⟩ = some (.int .i64 ((f i).1 : Nat))
  snd : ∀ i, i < n → w.cell? ⟨h, i, none⟩ = some (.int .i64 ((f i).2 : Nat))
theorem Two.mono {w w' : World} {g h n : Nat} {f : Nat → Nat × Nat} (H : Two w g h n f) (hb : Below w.heap.size w w') : Two w' g h n f :=
  ⟨Nat.lt_of_lt_of_le H.lg hb.size, Nat.lt_of_lt_of_le H.lh hb.size, fun i hi => (hb.cell (p := ⟨g, i, none⟩) H.lg).trans (H.fst i hi), fun i hi => (hb.cell (p := ⟨h, i, none⟩) H.lh).trans (H.snd i hi)⟩
theorem two_new (w : World) (n : Nat) (f : Nat → Nat × Nat) (x y : List Int) (t : TypeId) (hx : x.length = n) (hy : y.length = n) (h : ∀ p, p < n → x.getD p 0 = ((f p).1 : Int) ∧ y.getD p 0 = ((f p).2 : Int)) (cs ds : Array Value) (hc : (ivs x).toArray = cs) (hd : (ivs y).toArray = ds) :
    Two ((w.alloc (.cells cs t)).alloc (.cells ds t)) w.heap.size (w.heap.size + 1) n f := by
  subst hc
  subst hd
  have e2 : (w.alloc (.cells (ivs x).toArray t)).heap.size = w.heap.size + 1 := by simp
  refine ⟨by simp; omega, by simp, fun i hi => ?_, fun i hi => ?_⟩
  · have hb := below_alloc (w.alloc (.cells (ivs x).toArray t)) (.cells (ivs y).toArray t)
    rw [hb.cell (p := ⟨w.heap.size, i, none⟩) (by show w.heap.size < _; rw [e2]; omega), cell_of_row _ _ _ _ t (0, 0) (heap_alloc_last w _), List.getElem?_toArray, ivs_get _ _ (by omega), (h i hi).1]
  · rw [← e2, cell_of_row _ _ _ _ t (0, 0) (heap_alloc_last _ _), List.getElem?_toArray, ivs_get _ _ (by omega), (h i hi).2]
def TwoPost (w : World) (n : Nat) (f : Nat → Nat × Nat) (e : Ending) (w' : World) : Prop := ∃ g h, e = .returned (.tuple #[.slice (some ⟨g, 0, none⟩) n n, .slice (some ⟨h, 0, none⟩) n n]) ∧ Two w' g h n f ∧ Below w.heap.size w w'
end Sy
theorem dists_any (w : World) : Calls Tryz.prog 28 #[] w (Sy.TwoPost w 30 Sy.db) := by
  have HT := Lib.hid (Sy.two_new w 30 Sy.db Sy.distL Sy.distX 3 rfl rfl Sy.dist_eq _ _ rfl rfl)
  go_enter Tryz.func28, Tryz.ntmps28
  go_wp2
  go_ret2
  exact ⟨_, _, rfl, HT.out, below_alloc2 _ _ _⟩
end Go.Proofs.YtpoilaappcjbeaaGreatDoor
end

section
namespace Go.Proofs.YtpoilaappcjbeaaGreatDoor
open Go.RowKit
namespace Sy
/-- Which symbol holds a number: by its leading bits. -/
def Held (a g r : Nat) : Prop := ∃ e, r = e * g + a / 2 ^ e ∧ a / 2 ^ e < 2 * g ∧ (e = 0 ∨ g ≤ a / 2 ^ e) ∧ e ≤ 15
theorem div_next (a e : Nat) : a / 2 ^ (e + 1) = a / 2 ^ e / 2 := by rw [Nat.pow_succ, Nat.div_div_eq_div_mul]
theorem div_small (a : Nat) (h : a < 32768) : a / 2 ^ 15 = 0 := by omega
end Sy
theorem holder_any (a g : Nat) (w : World) (ha : a < 32768) (hg : g = 2 ∨ g = 4) :
    Calls Tryz.prog 80 #[.int .i64 (a : Nat), .int .i64 (g : Nat)] w fun e w' => (∃ r, Sy.Held a g r ∧ e = .returned (.int .i64 (r : Nat))) ∧ w = w' := by
  go_enter Tryz.func80, Tryz.ntmps80
  go_wp2
  go_loop [5] (fun x => ∃ e : Nat, e ≤ 15 ∧ (e = 0 ∨ g ≤ a / 2 ^ e) ∧ x = .int .i64 (e : Nat)) (fun x => 15 - (intOf x).toNat)
  case atStart => exact ⟨0, by omega, .inl rfl, rfl⟩
  case round =>
    obtain ⟨e, he, hge, rfl⟩ := hrel
    have hqa : a / 2 ^ e ≤ a := Nat.div_le_self _ _
    have hqi : (a : Int) / 2 ^ e = ((a / 2 ^ e : Nat) : Int) := by simp
    have hnx := Sy.div_next a e
    have h15 : e = 15 → a / 2 ^ e = 0 := fun h => by subst h; exact Sy.div_small a ha
    by_cases hlt : a / 2 ^ e < 2 * g
    · have HH : Hid (Sy.Held a g (e * g + a / 2 ^ e)) := Lib.hid ⟨e, rfl, hlt, hge, he⟩
      have d0 : decide (2 * (g : Int) ≤ (a : Int) / 2 ^ e) = false := by rw [hqi]; simp; omega
      have hge' : 2 * g ≤ 8 := by omega
      generalize a / 2 ^ e = q at *
      have hm : (e : Int) * (g : Int) ≤ 60 ∧ 0 ≤ (e : Int) * (g : Int) := by rcases hg with rfl | rfl <;> omega
      have hc : ((e * g + q : Nat) : Int) = (e : Int) * (g : Int) + (q : Int) := by simp
      go_wp2
      go_ret
      exact ⟨⟨_, HH.out, by rw [hc]; rfl⟩, rfl⟩
    · have d0 : decide (2 * (g : Int) ≤ (a : Int) / 2 ^ e) = true := by rw [hqi]; simp; omega
      have he15 : e < 15 := by
        rcases Nat.lt_or_ge e 15 with h | h
        · exact h
        · have := h15 (by omega); omega
      have HR : Hid (g ≤ a / 2 ^ (e + 1)) := Lib.hid (by rw [hnx]; omega)
      clear hnx h15
      generalize a / 2 ^ e = q at *
      go_wp2
      go_round
      case rel => exact ⟨e + 1, by omega, .inr HR.out, by go_num⟩
      case measure => simp [intOf]; omega
end Go.Proofs.YtpoilaappcjbeaaGreatDoor
end

section
namespace Go.Proofs.YtpoilaappcjbeaaGreatDoor
open Go.RowKit
namespace Sy
def LsPost (n : Int) (v : Value) : Prop := (¬ (3 ≤ n ∧ n ≤ 258) ∧ v = .tuple #[.int .i64 0, .bool false]) ∨ (n = 258 ∧ v = .tuple #[.int .i64 285, .bool true]) ∨
  (∃ a r : Nat, n = (a : Int) + 3 ∧ a < 255 ∧ Held a 4 r ∧ v = .tuple #[.int .i64 (257 + (r : Int)), .bool true])
def DsPost (n : Int) (v : Value) : Prop := (¬ (1 ≤ n ∧ n ≤ 32768) ∧ v = .tuple #[.int .i64 0, .bool false]) ∨
  (∃ a r : Nat, n = (a : Int) + 1 ∧ a < 32768 ∧ Held a 2 r ∧ v = .tuple #[.int .i64 (r : Int), .bool true])
theorem held_lt {a g r : Nat} (h : Held a g r) (hg : g = 2 ∨ g = 4) : r < 80 := by
  obtain ⟨e, rfl, h1, _, h2⟩ := h
  generalize a / 2 ^ e = q at *
  rcases hg with rfl | rfl <;> omega
end Sy
theorem lengthSymbol_any (n : Int) (w : World) (hw : (Lit.int .i64 n).wf = true) :
    Calls Tryz.prog 54 #[.int .i64 n] w fun e w' => (∃ v, Sy.LsPost n v ∧ e = .returned v) ∧ w = w' := by
  go_enter Tryz.func54, Tryz.ntmps54
  by_cases h1 : n < 3
  · have HP := Lib.hid (show Sy.LsPost n (.tuple #[.int .i64 0, .bool false]) from .inl ⟨by omega, rfl⟩)
    have d1 : decide (n < 3) = true := by simpa using h1
    go_wp2
    go_ret2
    exact ⟨⟨_, HP.out, rfl⟩, rfl⟩
  have d1 : decide (n < 3) = false := by simpa using h1
  by_cases h2 : 258 < n
  · have HP := Lib.hid (show Sy.LsPost n (.tuple #[.int .i64 0, .bool false]) from .inl ⟨by omega, rfl⟩)
    have d2 : decide (258 < n) = true := by simpa using h2
    go_wp2
    go_ret2
    exact ⟨⟨_, HP.out, rfl⟩, rfl⟩
  have d2 : decide (258 < n) = false := by simpa using h2
  obtain ⟨a, rfl⟩ : ∃ a : Nat, n = (a : Int) + 3 := ⟨(n - 3).toNat, by omega⟩
  by_cases h3 : a = 255
  · subst h3
    have HP := Lib.hid (show Sy.LsPost (((255 : Nat) : Int) + 3) (.tuple #[.int .i64 285, .bool true]) from .inr (.inl ⟨rfl, rfl⟩))
    go_wp2
    go_ret2
    exact ⟨⟨_, HP.out, rfl⟩, rfl⟩
  have d3 : ((a : Int) + 3 == 258) = false := by simp; omega
  have es : (a : Int) + 3 - 3 = (a : Int) := by omega
  go_wp2_with fail
  refine (holder_any a 4 w (by omega) (.inr rfl)).mono ?_
  rintro e w' ⟨⟨r, hr, rfl⟩, rfl⟩
  have hrl := Sy.held_lt hr (.inr rfl)
  have HP := Lib.hid (show Sy.LsPost ((a : Int) + 3) (.tuple #[.int .i64 (257 + (r : Int)), .bool true]) from .inr (.inr ⟨a, r, rfl, by omega, hr, rfl⟩))
  clear hr
  go_wp2
  go_ret2
  exact ⟨⟨_, HP.out, rfl⟩, rfl⟩
theorem distSymbol_any (n : Int) (w : World) (hw : (Lit.int .i64 n).wf = true) :
    Calls Tryz.prog 63 #[.int .i64 n] w fun e w' => (∃ v, Sy.DsPost n v ∧ e = .returned v) ∧ w = w' := by
  go_enter Tryz.func63, Tryz.ntmps63
  by_cases h1 : n < 1
  · have HP := Lib.hid (show Sy.DsPost n (.tuple #[.int .i64 0, .bool false]) from .inl ⟨by omega, rfl⟩)
    have d1 : decide (n < 1) = true := by simpa using h1
    go_wp2
    go_ret2
    exact ⟨⟨_, HP.out, rfl⟩, rfl⟩
  have d1 : decide (n < 1) = false := by simpa using h1
  by_cases h2 : 32768 < n
  · have HP := Lib.hid (show Sy.DsPost n (.tuple #[.int .i64 0, .bool false]) from .inl ⟨by omega, rfl⟩)
    have d2 : decide (32768 < n) = true := by simpa using h2
    go_wp2
    go_ret2
    exact ⟨⟨_, HP.out, rfl⟩, rfl⟩
  have d2 : decide (32768 < n) = false := by simpa using h2
  obtain ⟨a, rfl⟩ : ∃ a : Nat, n = (a : Int) + 1 := ⟨(n - 1).toNat, by omega⟩
  have es : (a : Int) + 1 - 1 = (a : Int) := by omega
  go_wp2_with fail
  refine (holder_any a 2 w (by omega) (.inl rfl)).mono ?_
  rintro e w' ⟨⟨r, hr, rfl⟩, rfl⟩
  have hrl := Sy.held_lt hr (.inl rfl)
  have HP := Lib.hid (show Sy.DsPost ((a : Int) + 1) (.tuple #[.int .i64 (r : Int), .bool true]) from .inr ⟨a, r, rfl, by omega, hr, rfl⟩)
  clear hr
  go_wp2
  go_ret2
  exact ⟨⟨_, HP.out, rfl⟩, rfl⟩
end Go.Proofs.YtpoilaappcjbeaaGreatDoor
end

section
namespace Go.Proofs.YtpoilaappcjbeaaGreatDoor
open Go.RowKit
namespace Sy
theorem held4 {a r : Nat} (ha : a < 255) (h : Held a 4 r) : r ≤ 27 ∧ (lb r).1 ≤ a + 3 ∧ a + 3 < (lb (r + 1)).1 := by
  obtain ⟨e, he, h1, h2, h3⟩ := h
  have T : ∀ e, e < 6 → ∀ q, q < 8 → (e = 0 ∨ 4 ≤ q) → (lb (e * 4 + q)).1 = 3 + q * 2 ^ e ∧ (e * 4 + q < 27 → (lb (e * 4 + q + 1)).1 = 3 + 2 ^ e * (q + 1)) := by decide +kernel
  have l1 := Nat.div_mul_le_self a (2 ^ e)
  have l2 := Nat.lt_mul_div_succ a (Nat.two_pow_pos e)
  have h6 : e < 6 := by
    rcases Nat.lt_or_ge e 6 with h | h
    · exact h
    · have p : 2 ^ 6 ≤ 2 ^ e := Nat.pow_le_pow_right (by omega) h
      have := Nat.mul_le_mul (show 4 ≤ a / 2 ^ e by omega) p
      omega
  generalize a / 2 ^ e = q at *
  obtain ⟨t1, t2⟩ := T e h6 q h1 h2
  subst he
  refine ⟨by omega, by omega, ?_⟩
  by_cases h27 : e * 4 + q = 27
  · rw [h27]; have : (lb (27 + 1)).1 = 258 := by decide
    omega
  · rw [t2 (by omega)]; omega
theorem held2 {a r : Nat} (ha : a < 32768) (h : Held a 2 r) : r ≤ 29 ∧ (db r).1 ≤ a + 1 ∧ (r < 29 → a + 1 < (db (r + 1)).1) := by
  obtain ⟨e, he, h1, h2, h3⟩ := h
  have T : ∀ e, e < 14 → ∀ q, q < 4 → (e = 0 ∨ 2 ≤ q) → (db (e * 2 + q)).1 = 1 + q * 2 ^ e ∧ (e * 2 + q < 29 → (db (e * 2 + q + 1)).1 = 1 + 2 ^ e * (q + 1)) := by decide +kernel
  have l1 := Nat.div_mul_le_self a (2 ^ e)
  have l2 := Nat.lt_mul_div_succ a (Nat.two_pow_pos e)
  have h6 : e < 14 := by
    rcases Nat.lt_or_ge e 14 with h | h
    · exact h
    · have p : 2 ^ 14 ≤ 2 ^ e := Nat.pow_le_pow_right (by omega) h
      have := Nat.mul_le_mul (show 2 ≤ a / 2 ^ e by omega) p
      omega
  generalize a / 2 ^ e = q at *
  obtain ⟨t1, t2⟩ := T e h6 q h1 h2
  subst he
  exact ⟨by omega, by omega, fun h => by rw [t2 h]; omega⟩
end Sy
end Go.Proofs.YtpoilaappcjbeaaGreatDoor
end

section
namespace Go.Proofs.YtpoilaappcjbeaaGreatDoor
open Go.RowKit

theorem refGood06_any (t : Tok) (w : World) (hw : (Lit.int .i64 t.1).wf = true ∧ (Lit.int .i64 t.2).wf = true) :
    Calls Tryz.prog 24 #[.agg #[.int .i64 t.1, .int .i64 t.2]] w fun e w' => e = .returned (.bool (Tk.isTok t)) ∧ Below w.heap.size w w' := by
  obtain ⟨x, y⟩ := t
  have hb := Lib.hid (below_alloc w (.cells #[.int .i64 x, .int .i64 y] 59))
  clear hw
  by_cases h0 : x = 0
  · by_cases h1 : 0 ≤ y
    · by_cases h2 : y ≤ 255
      · have E := Lib.hid (show Tk.isTok (x, y) = true by simp only [Tk.isTok, h0, if_true]; exact decide_eq_true ⟨h1, h2⟩)
        have d0 : (x == 0) = true := by simpa using h0
        have d1 : decide (0 ≤ y) = true := by simpa using h1
        have d2 : decide (y < 256) = true := by simp; omega
        clear h0
        go_enter Tryz.func24, Tryz.ntmps24
        go_wp2
        go_ret
        exact ⟨by rw [E.out]; rfl, hb.out⟩
      · have E := Lib.hid (show Tk.isTok (x, y) = false by simp only [Tk.isTok, h0, if_true]; exact decide_eq_false (fun h => h2 h.2))
        have d0 : (x == 0) = true := by simpa using h0
        have d1 : decide (0 ≤ y) = true := by simpa using h1
        have d2 : decide (y < 256) = false := by simp; omega
        clear h0
        go_enter Tryz.func24, Tryz.ntmps24
        go_wp2
        go_ret
        exact ⟨by rw [E.out]; rfl, hb.out⟩
    · have E := Lib.hid (show Tk.isTok (x, y) = false by simp only [Tk.isTok, h0, if_true]; exact decide_eq_false (fun h => h1 h.1))
      have d0 : (x == 0) = true := by simpa using h0
      have d1 : decide (0 ≤ y) = false := by simpa using h1
      clear h0
      go_enter Tryz.func24, Tryz.ntmps24
      go_wp2
      go_ret
      exact ⟨by rw [E.out]; rfl, hb.out⟩
  have d0 : (x == 0) = false := by simpa using h0
  have hi : Tk.isTok (x, y) = decide (3 ≤ x ∧ x ≤ 258 ∧ 1 ≤ y ∧ y ≤ 32768) := by simp only [Tk.isTok, if_neg h0]
  by_cases h1 : 3 ≤ x
  · have d1 : decide (3 ≤ x) = true := by simpa using h1
    by_cases h2 : x ≤ 258
    · have d2 : decide (x ≤ 258) = true := by simpa using h2
      by_cases h3 : 1 ≤ y
      · have d3 : decide (1 ≤ y) = true := by simpa using h3
        by_cases h4 : y ≤ 32768
        · have d4 : decide (y ≤ 32768) = true := by simpa using h4
          have E := Lib.hid (hi.trans (decide_eq_true ⟨h1, h2, h3, h4⟩))
          clear hi
          go_enter Tryz.func24, Tryz.ntmps24
          go_wp2
          go_ret
          exact ⟨by rw [E.out]; rfl, hb.out⟩
        · have d4 : decide (y ≤ 32768) = false := by simpa using h4
          have E := Lib.hid (hi.trans (decide_eq_false (fun h => h4 h.2.2.2)))
          clear hi
          go_enter Tryz.func24, Tryz.ntmps24
          go_wp2
          go_ret
          exact ⟨by rw [E.out]; rfl, hb.out⟩
      · have d3 : decide (1 ≤ y) = false := by simpa using h3
        have E := Lib.hid (hi.trans (decide_eq_false (fun h => h3 h.2.2.1)))
        clear hi
        go_enter Tryz.func24, Tryz.ntmps24
        go_wp2
        go_ret
        exact ⟨by rw [E.out]; rfl, hb.out⟩
    · have d2 : decide (x ≤ 258) = false := by simpa using h2
      have E := Lib.hid (hi.trans (decide_eq_false (fun h => h2 h.2.1)))
      clear hi
      go_enter Tryz.func24, Tryz.ntmps24
      go_wp2
      go_ret
      exact ⟨by rw [E.out]; rfl, hb.out⟩
  · have d1 : decide (3 ≤ x) = false := by simpa using h1
    have E := Lib.hid (hi.trans (decide_eq_false (fun h => h1 h.1)))
    clear hi
    go_enter Tryz.func24, Tryz.ntmps24
    go_wp2
    go_ret
    exact ⟨by rw [E.out]; rfl, hb.out⟩
end Go.Proofs.YtpoilaappcjbeaaGreatDoor
end

section
namespace Go.Proofs.YtpoilaappcjbeaaGreatDoor
open Go.RowKit

theorem drewN_is (w : World) (n : Nat) : Below w.heap.size w (w.drewN n) := ⟨rfl, rfl, rfl, Nat.le_refl _, fun _ _ => rfl⟩
theorem drewN_two (w : World) (a b : Nat) : (w.drewN a).drewN b = w.drewN (a + b) := by simp [World.drewN, Nat.add_assoc]
end Go.Proofs.YtpoilaappcjbeaaGreatDoor
end

section
namespace Go.Proofs.YtpoilaappcjbeaaGreatDoor
open Go.RowKit
namespace Sy
/-- How many bases behind the first one aren't beyond. -/
def cntB (f : Nat → Nat × Nat) (m n : Nat) : Nat := ((List.range m).filter fun s => decide ((f (s + 1)).1 ≤ n)).length
def lsy (n : Nat) : Nat := cntB lb 28 n
def dsy (n : Nat) : Nat := cntB db 29 n
theorem cnt_of {f : Nat → Nat × Nat} {m n s : Nat} (hs : s ≤ m) (h1 : ∀ k, k < s → (f (k + 1)).1 ≤ n) (h2 : ∀ k, s ≤ k → k < m → n < (f (k + 1)).1) : cntB f m n = s := by
  obtain ⟨d, rfl⟩ : ∃ d, m = s + d := ⟨m - s, by omega⟩
  unfold cntB
  rw [List.range_add, List.filter_append, List.filter_eq_self.2 (fun a ha => by simpa using h1 a (List.mem_range.1 ha)), List.filter_eq_nil_iff.2 (fun a ha => by
    obtain ⟨b, hb, rfl⟩ := List.mem_map.1 ha
    have := h2 (s + b) (by omega) (by have := List.mem_range.1 hb; omega)
    simpa using this)]
  simp
theorem lb_mono : ∀ j, j < 29 → ∀ i, i ≤ j → (lb i).1 ≤ (lb j).1 := by decide +kernel
theorem db_mono : ∀ j, j < 30 → ∀ i, i ≤ j → (db i).1 ≤ (db j).1 := by decide +kernel
theorem lsy_of {n s : Nat} (hs : s ≤ 28) (h1 : (lb s).1 ≤ n) (h2 : s < 28 → n < (lb (s + 1)).1) : lsy n = s :=
  cnt_of hs (fun k hk => Nat.le_trans (lb_mono s (by omega) (k + 1) hk) h1) (fun k hk hm => Nat.lt_of_lt_of_le (h2 (by omega)) (lb_mono (k + 1) (by omega) (s + 1) (by omega)))
theorem dsy_of {n s : Nat} (hs : s ≤ 29) (h1 : (db s).1 ≤ n) (h2 : s < 29 → n < (db (s + 1)).1) : dsy n = s :=
  cnt_of hs (fun k hk => Nat.le_trans (db_mono s (by omega) (k + 1) hk) h1) (fun k hk hm => Nat.lt_of_lt_of_le (h2 (by omega)) (db_mono (k + 1) (by omega) (s + 1) (by omega)))
theorem cnt_le (f : Nat → Nat × Nat) (m n : Nat) : cntB f m n ≤ m := by
  unfold cntB
  have := List.length_filter_le (fun s => decide ((f (s + 1)).1 ≤ n)) (List.range m)
  simpa using this
end Sy
set_option maxHeartbeats 1000000 in
theorem refDist_any (n : Nat) (w : World) (h3 : 1 ≤ n) (hn : n ≤ 32768) :
    Calls Tryz.prog 26 #[.int .i64 (n : Nat)] w fun e w' => e = .returned (.int .i64 ((Sy.dsy n : Nat) : Int)) ∧ Below w.heap.size w w' := by
  go_enter Tryz.func26, Tryz.ntmps26
  go_wp2_with fail
  refine (dists_any w).mono ?_
  rintro e w1 ⟨g, h, rfl, h2, hb1⟩
  have HB := Lib.hid hb1
  have H2 := Lib.hid h2
  clear hb1 h2
  go_wp2
  go_loopw [5] (fun i wr => ∃ s : Nat, s ≤ 29 ∧ i = .int .i64 ((s : Nat) : Int) ∧ w1 = wr ∧ Hid (∀ k, k < s → (Sy.db (k + 1)).1 ≤ n)) (fun i _ => 30 - (intOf i).toNat)
  case atStart => exact ⟨0, by omega, rfl, rfl, Lib.hid (fun k hk => by omega)⟩
  case round =>
    obtain ⟨s, hs, rfl, rfl, HK⟩ := hrel
    by_cases h28 : s < 29
    · have d1 : decide ((s : Int) + 1 < 30) = true := by simp; omega
      have c1 := H2.out.fst (s + 1) (by omega)
      have dx : decide (s + 1 < 30) = true := by simp; omega
      by_cases hb : (Sy.db (s + 1)).1 ≤ n
      · have HK2 : Hid (∀ k, k < s + 1 → (Sy.db (k + 1)).1 ≤ n) := Lib.hid (fun k hk => by
          rcases Nat.lt_or_ge k s with h | h
          · exact HK.out k h
          · obtain rfl : k = s := by omega
            exact hb)
        generalize (Sy.db (s + 1)).1 = q at *
        have d2 : decide (q ≤ n) = true := by simp; omega
        go_wp2
        go_roundw
        case rel => exact ⟨s + 1, by omega, by go_num, trivial, HK2⟩
        case measure => simp [intOf]; omega
      · have HF : Hid (Sy.dsy n = s) := Lib.hid (by
          rw [Sy.dsy, Sy.cnt_of (f := Sy.db) (m := 29) (n := n) (s := s) (by omega) HK.out (fun k h1 h2 => Nat.lt_of_lt_of_le (by omega) (Sy.db_mono (k + 1) (by omega) (s + 1) (by omega)))])
        generalize (Sy.db (s + 1)).1 = q at *
        have d2 : decide (q ≤ n) = false := by simp; omega
        go_wp2
        go_ret
        exact ⟨by rw [HF.out]; rfl, HB.out⟩
    · obtain rfl : s = 29 := by omega
      have HF : Hid (Sy.dsy n = 29) := Lib.hid (by
        rw [Sy.dsy, Sy.cnt_of (f := Sy.db) (m := 29) (n := n) (s := 29) (by omega) HK.out (fun k h1 h2 => by omega)])
      go_wp2
      go_ret
      exact ⟨by rw [HF.out]; rfl, HB.out⟩
/-- A token's symbols. -/
def SyPost (t : Tok) (v : Value) : Prop := ∃ sv dv : Int, v = .tuple #[.int .i64 sv, .int .i64 dv, .bool (Tk.isTok t)] ∧ (Tk.isTok t = true → (t.1 = 0 → sv = t.2 ∧ dv = 0) ∧ (t.1 ≠ 0 → sv = ((257 + Sy.lsy t.1.toNat : Nat) : Int) ∧ dv = ((Sy.dsy t.2.toNat : Nat) : Int)))
set_option maxHeartbeats 2000000 in
theorem symbols_any09 (t : Tok) (w : World) (hw : (Lit.int .i64 t.1).wf = true ∧ (Lit.int .i64 t.2).wf = true) :
    Calls Tryz.prog 95 #[.agg #[.int .i64 t.1, .int .i64 t.2]] w fun e w' => (∃ v, SyPost t v ∧ e = .returned v) ∧ Below w.heap.size w w' := by
  obtain ⟨x, y⟩ := t
  have HW := Lib.hid hw
  have hb := below_alloc w (.cells #[.int .i64 x, .int .i64 y] 59)
  have hrow : (w.alloc (.cells #[.int .i64 x, .int .i64 y] 59)).heap[w.heap.size]? = some (.cells #[.int .i64 x, .int .i64 y] 59 (0, 0)) := heap_alloc_last w _
  have HB := Lib.hid hb
  have c0 : (w.alloc (.cells #[.int .i64 x, .int .i64 y] 59)).cell? ⟨w.heap.size, 0, none⟩ = some (.int .i64 x) := by rw [cell_of_row _ _ _ _ _ (0, 0) hrow]; rfl
  have c1 : (w.alloc (.cells #[.int .i64 x, .int .i64 y] 59)).cell? ⟨w.heap.size, 1, none⟩ = some (.int .i64 y) := by rw [cell_of_row _ _ _ _ _ (0, 0) hrow]; rfl
  clear hw hb hrow
  by_cases h0 : x = 0
  · subst h0
    have HT : Hid (Tk.isTok (0, y) = (decide (0 ≤ y) && decide (y < 256))) := Lib.hid (by
      simp only [Tk.isTok, if_true]
      by_cases h1 : 0 ≤ y <;> by_cases h2 : y < 256 <;> simp [h1, h2] <;> omega)
    have HBn : Hid (∀ n, Below w.heap.size w ((w.alloc (.cells #[.int .i64 0, .int .i64 y] 59)).drewN n)) := Lib.hid (fun n => below_then HB.out (drewN_is _ n))
    by_cases h1 : 0 ≤ y
    · have d1 : decide (0 ≤ y) = true := by simpa using h1
      have HE : Hid (SyPost (0, y) (.tuple #[.int .i64 y, .int .i64 0, .bool (decide (y < 256))])) := Lib.hid ⟨y, 0, by rw [HT.out, d1, Bool.true_and], fun _ => ⟨fun _ => ⟨rfl, rfl⟩, fun h => absurd rfl h⟩⟩
      clear h1
      go_enter Tryz.func95, Tryz.ntmps95
      go_wp2
      go_quiet (fail)
      go_wp2
      go_ret3
      exact ⟨⟨_, HE.out, rfl⟩, HBn.out _⟩
    · have d1 : decide (0 ≤ y) = false := by simpa using h1
      have HE : Hid (SyPost (0, y) (.tuple #[.int .i64 y, .int .i64 0, .bool false])) := Lib.hid ⟨y, 0, by rw [HT.out, d1, Bool.false_and], fun _ => ⟨fun _ => ⟨rfl, rfl⟩, fun h => absurd rfl h⟩⟩
      clear h1
      go_enter Tryz.func95, Tryz.ntmps95
      go_wp2
      go_quiet (fail)
      go_wp2
      go_ret3
      exact ⟨⟨_, HE.out, rfl⟩, HBn.out _⟩
  · have d0 : (x == 0) = false := by simpa using h0
    have HT : Hid (Tk.isTok (x, y) = decide (3 ≤ x ∧ x ≤ 258 ∧ 1 ≤ y ∧ y ≤ 32768)) := Lib.hid (by simp only [Tk.isTok]; rw [if_neg h0])
    have HN0 := Lib.hid h0
    clear h0
    go_enter Tryz.func95, Tryz.ntmps95
    go_wp2_with fail
    refine (lengthSymbol_any x _ HW.out.1).mono ?_
    rintro e w' ⟨⟨v1, hv1, rfl⟩, rfl⟩
    have hv1' : ∃ (s1 : Int) (b1 : Bool), v1 = .tuple #[.int .i64 s1, .bool b1] ∧ (b1 = decide (3 ≤ x ∧ x ≤ 258)) ∧ (b1 = true → s1 = ((257 + Sy.lsy x.toNat : Nat) : Int)) := by
      rcases hv1 with ⟨h, rfl⟩ | ⟨rfl, rfl⟩ | ⟨a, r, rfl, ha, hh, rfl⟩
      · exact ⟨_, _, rfl, by simp; omega, fun h => by cases h⟩
      · exact ⟨_, _, rfl, by decide, fun _ => by rw [show (258 : Int).toNat = 258 from rfl, Sy.lsy_of (n := 258) (s := 28) (by omega) (by decide) (fun h => by omega)]; rfl⟩
      · obtain ⟨q1, q2, q3⟩ := Sy.held4 ha hh
        refine ⟨_, _, rfl, by simp; omega, fun _ => ?_⟩
        rw [show ((a : Int) + 3).toNat = a + 3 by omega, Sy.lsy_of (n := a + 3) (s := r) (by omega) q2 (fun _ => q3)]
        omega
    obtain ⟨s1, b1, rfl, hb1, hs1⟩ := hv1'
    have HB1 := Lib.hid hb1
    have HS1 := Lib.hid hs1
    clear hv1 hb1 hs1
    go_wp2_with fail
    refine (distSymbol_any y _ HW.out.2).mono ?_
    rintro e w' ⟨⟨v2, hv2, rfl⟩, rfl⟩
    have hv2' : ∃ (s2 : Int) (b2 : Bool), v2 = .tuple #[.int .i64 s2, .bool b2] ∧ (b2 = decide (1 ≤ y ∧ y ≤ 32768)) ∧ (b2 = true → s2 = ((Sy.dsy y.toNat : Nat) : Int)) := by
      rcases hv2 with ⟨h, rfl⟩ | ⟨a, r, rfl, ha, hh, rfl⟩
      · exact ⟨_, _, rfl, by simp; omega, fun h => by cases h⟩
      · obtain ⟨q1, q2, q3⟩ := Sy.held2 ha hh
        refine ⟨_, _, rfl, by simp; omega, fun _ => ?_⟩
        rw [show ((a : Int) + 1).toNat = a + 1 by omega, Sy.dsy_of (n := a + 1) (s := r) (by omega) q2 q3]
    obtain ⟨s2, b2, rfl, hb2, hs2⟩ := hv2'
    have HE : Hid (SyPost (x, y) (.tuple #[.int .i64 s1, .int .i64 s2, .bool (b1 && b2)])) := Lib.hid ⟨s1, s2, by
      rw [HT.out, HB1.out, hb2]
      congr 4
      by_cases q1 : 3 ≤ x <;> by_cases q2 : x ≤ 258 <;> by_cases q3 : 1 ≤ y <;> by_cases q4 : y ≤ 32768 <;> simp [q1, q2, q3, q4], fun ht => ⟨fun h => absurd h HN0.out, fun _ => by
      rw [HT.out] at ht
      have ht' := of_decide_eq_true ht
      exact ⟨HS1.out (by rw [HB1.out]; exact decide_eq_true ⟨ht'.1, ht'.2.1⟩), hs2 (by rw [hb2]; exact decide_eq_true ⟨ht'.2.2.1, ht'.2.2.2⟩)⟩⟩⟩
    clear hv2 HB1 hb2 HS1 hs2 c0 c1
    obtain rfl | rfl : b1 = true ∨ b1 = false := by cases b1 <;> simp
    · rw [Bool.true_and] at HE
      go_wp2
      go_ret3
      exact ⟨⟨_, HE.out, rfl⟩, HB.out⟩
    · rw [Bool.false_and] at HE
      go_wp2
      go_ret3
      exact ⟨⟨_, HE.out, rfl⟩, HB.out⟩
end Go.Proofs.YtpoilaappcjbeaaGreatDoor
end

section
namespace Go.Proofs.YtpoilaappcjbeaaGreatDoor
open Go.RowKit
theorem lens_any (w : World) : Calls Tryz.prog 27 #[] w (Sy.TwoPost w 29 Sy.lb) := by
  have HT := Lib.hid (Sy.two_new w 29 Sy.lb Sy.lensL Sy.lensX 3 rfl rfl Sy.lens_eq _ _ rfl rfl)
  go_enter Tryz.func27, Tryz.ntmps27
  go_wp2
  go_ret2
  exact ⟨_, _, rfl, HT.out, below_alloc2 _ _ _⟩
end Go.Proofs.YtpoilaappcjbeaaGreatDoor
end

section
namespace Go.Proofs.YtpoilaappcjbeaaGreatDoor
open Go.RowKit
set_option maxHeartbeats 1000000 in
theorem refLength_any (n : Nat) (w : World) (h3 : 3 ≤ n) (hn : n ≤ 258) :
    Calls Tryz.prog 25 #[.int .i64 (n : Nat)] w fun e w' => e = .returned (.int .i64 ((257 + Sy.lsy n : Nat) : Int)) ∧ Below w.heap.size w w' := by
  go_enter Tryz.func25, Tryz.ntmps25
  go_wp2_with fail
  refine (lens_any w).mono ?_
  rintro e w1 ⟨g, h, rfl, h2, hb1⟩
  have HB := Lib.hid hb1
  have H2 := Lib.hid h2
  clear hb1 h2
  go_wp2
  go_loopw [5] (fun i wr => ∃ s : Nat, s ≤ 28 ∧ i = .int .i64 ((s : Nat) : Int) ∧ w1 = wr ∧ Hid (∀ k, k < s → (Sy.lb (k + 1)).1 ≤ n)) (fun i _ => 29 - (intOf i).toNat)
  case atStart => exact ⟨0, by omega, rfl, rfl, Lib.hid (fun k hk => by omega)⟩
  case round =>
    obtain ⟨s, hs, rfl, rfl, HK⟩ := hrel
    by_cases h28 : s < 28
    · have d1 : decide ((s : Int) + 1 < 29) = true := by simp; omega
      have c1 := H2.out.fst (s + 1) (by omega)
      have dx : decide (s + 1 < 29) = true := by simp; omega
      by_cases hb : (Sy.lb (s + 1)).1 ≤ n
      · have HK2 : Hid (∀ k, k < s + 1 → (Sy.lb (k + 1)).1 ≤ n) := Lib.hid (fun k hk => by
          rcases Nat.lt_or_ge k s with h | h
          · exact HK.out k h
          · obtain rfl : k = s := by omega
            exact hb)
        generalize (Sy.lb (s + 1)).1 = q at *
        have d2 : decide (q ≤ n) = true := by simp; omega
        go_wp2
        go_roundw
        case rel => exact ⟨s + 1, by omega, by go_num, trivial, HK2⟩
        case measure => simp [intOf]; omega
      · have HF : Hid (257 + Sy.lsy n = 257 + s) := Lib.hid (by
          rw [Sy.lsy, Sy.cnt_of (f := Sy.lb) (m := 28) (n := n) (s := s) (by omega) HK.out (fun k h1 h2 => Nat.lt_of_lt_of_le (by omega) (Sy.lb_mono (k + 1) (by omega) (s + 1) (by omega)))])
        generalize (Sy.lb (s + 1)).1 = q at *
        have d2 : decide (q ≤ n) = false := by simp; omega
        go_wp2
        go_ret
        exact ⟨by rw [HF.out]; congr 2, HB.out⟩
    · obtain rfl : s = 28 := by omega
      have HF : Hid (257 + Sy.lsy n = 257 + 28) := Lib.hid (by
        rw [Sy.lsy, Sy.cnt_of (f := Sy.lb) (m := 28) (n := n) (s := 28) (by omega) HK.out (fun k h1 h2 => by omega)])
      go_wp2
      go_ret
      exact ⟨by rw [HF.out]; rfl, HB.out⟩
end Go.Proofs.YtpoilaappcjbeaaGreatDoor
end
