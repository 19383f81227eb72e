/- A region that draws its order and ends in one store: loads are taken first under a condition on the world that the last operation may break. append to a row of the call's own, as one step of a drawn region. Appends to rows of the call's own, as one step of a drawn region; a byte as a source. inflate's symbols: their bases, in words. The document's tables of bases: their contracts. inflate.holder: which symbol holds a number. inflate's symbols: which one a length and a distance have. Which symbol holds a length or a distance. The document's Good. Which symbols a token has: parse.symbols, and the document's Length and Dist. The document's table of lengths: its contract. The document's symbol of a length. -/
import Derived.Test.YtpoilaappcjbeaaGreatDoorZ4
import Derived.Deep.RegionHeld3
import Derived.StillTail
import Derived.Deep.RegionLaw
import Derived.Deep.QuietTactic
import Derived.BigQuiet
import Derived.Test.YtpoilaappcjbeaaGreatDoorProg
set_option linter.unusedSimpArgs false
set_option linter.unusedVariables false
section
namespace Go.Proofs.YtpoilaappcjbeaaGreatDoor
open Go

section
variable {P : Program} {ops : Array Oper} {Q : Exit → Act → World → Prop} {md : Region.Mode} {S : World → Prop} {n : Nat}
/-- Whatever order is picked; S holds behind every operation but the n-th. -/
def anyJ (P : Program) (md : Region.Mode) (ops : Array Oper) (Q : Exit → Act → World → Prop) (S : World → Prop) (n : Nat) : Nat → Array Bool → Act → World → Prop
  | 0, listed, a, w => Region.ready md ops listed = [] ∧ Q .normal a w
  | fuel + 1, listed, a, w =>
    (Region.ready md ops listed = [] → Q .normal a w) ∧
    ∀ i ∈ Region.ready md ops listed, wpOp P ops Q i (fun a' w' => (i ≠ n → S w') ∧ anyJ P md ops Q S n fuel (listed.setIfInBounds i true) a' w') a w
theorem any_of_J : ∀ (fuel : Nat) (listed : Array Bool) (a : Act) (w : World), anyJ P md ops Q S n fuel listed a w → wpAny P md ops Q fuel listed a w
  | 0, _, _, _, h => h
  | fuel + 1, _, _, _, h => ⟨h.1, fun i hi => wpOp_mono (fun a' w' h' => any_of_J fuel _ a' w' h'.2) (h.2 i hi)⟩
theorem J_first {i : Nat} {oi : Oper} {v : Value} (hi : ops[i]? = some oi) (hsel : ∀ (j : Nat) (o : Oper) cs b, ops[j]? = some o → o.op ≠ .select cs b)
    (hQ : ∀ c a w, Q (.panic c) (a.put oi.dst v) w → Q (.panic c) a w) (hn : Region.waitsFor md ops n i = true) :
    ∀ (fuel : Nat) (listed : Array Bool) (a : Act) (w : World),
      (∀ j oj, ops[j]? = some oj → j ≠ i → listed.getD j true = false → (∀ e ∈ oj.after, Region.binds md e = true → e.on ≠ i) → oi.apart ops oj = true) →
      i ∈ Region.ready md ops listed → YieldsIf P ops S oi v a → S w →
      anyJ P md ops Q S n fuel (listed.setIfInBounds i true) (a.put oi.dst v) w → anyJ P md ops Q S n (fuel + 1) listed a w := by
  intro fuel
  induction fuel with
  | zero =>
    intro listed a w _ hr hy hS H
    refine ⟨fun h => (by rw [h] at hr; cases hr), fun j hj => ?_⟩
    by_cases hji : j = i
    · subst hji; exact hy.wpOp hi hS ⟨fun _ => hS, H⟩
    · have := ready_mono hj hji
      rw [H.1] at this
      cases this
  | succ fuel ih =>
    intro listed a w hfree hr hy hS H
    refine ⟨fun h => (by rw [h] at hr; cases hr), fun j hj => ?_⟩
    by_cases hji : j = i
    · subst hji; exact hy.wpOp hi hS ⟨fun _ => hS, H⟩
    · have h1 := H.2 j (ready_mono hj hji)
      obtain ⟨hjun, oj, hoj, hall⟩ := mem_ready.1 hj
      have hnot : ∀ e ∈ oj.after, Region.binds md e = true → e.on ≠ i := fun e he hb heq => by
        have h1 := hall e he hb
        have h0 := (mem_ready.1 hr).1
        rw [heq] at h1
        rcases Nat.lt_or_ge i listed.size with h' | h'
        · simp [h'] at h0 h1; rw [h0] at h1; cases h1
        · simp [Array.getElem?_eq_none h'] at h1
      have hjn : j ≠ n := fun e => by
        subst e
        obtain ⟨o2, ho2, e2, he2, hb2, hon⟩ := Region.waitsFor_spec hn
        rw [hoj] at ho2
        cases ho2
        exact hnot e2 he2 hb2 hon
      have h2 := wpOp_putIf hoj (hfree j oj hoj hji hjun hnot) (fun cs b => hsel i oi cs b hi) (fun cs b => hsel j oj cs b hoj) hQ hy h1
      have hfree' : ∀ k ok, ops[k]? = some ok → k ≠ i → (listed.setIfInBounds j true).getD k true = false →
          (∀ e ∈ ok.after, Region.binds md e = true → e.on ≠ i) → oi.apart ops ok = true := fun k ok hk hki hun hno => by
        refine hfree k ok hk hki ?_ hno
        by_cases hjk : j = k
        · subst hjk; exact hjun
        · rw [getD_set_ne true hjk] at hun; exact hun
      refine wpOp_mono (fun a' w' h3 => ⟨h3.2.1, ih (listed.setIfInBounds j true) a' w' hfree' (ready_mono hr (Ne.symm hji)) h3.1 (h3.2.1 hjn) ?_⟩) h2
      rw [Array.setIfInBounds_comm _ _ hji]
      exact h3.2.2
/-- Number i is taken first. -/
theorem J_take {i : Nat} {oi : Oper} {v : Value} {fuel : Nat} {listed : Array Bool} {a : Act} {w : World} (hi : ops[i]? = some oi)
    (hs : Region.noSelect ops = true) (hf : Region.free md ops listed i = true) (hr : (Region.ready md ops listed).contains i = true) (hn : Region.waitsFor md ops n i = true)
    (hQ : ∀ c a w, Q (.panic c) (a.put oi.dst v) w → Q (.panic c) a w) (hS : S w) (hw : Region.wanted oi (yielded ops a.tmps) = true) (hy : ∀ w, S w → (execOp a.eval oi).run P w = .ok (.value v) w)
    (h : anyJ P md ops Q S n fuel (listed.setIfInBounds i true) (a.put oi.dst v) w) : anyJ P md ops Q S n (fuel + 1) listed a w :=
  J_first hi (Region.noSelect_spec hs) hQ hn fuel listed a w (Region.free_spec hi hf) (by simpa using hr) (.inl ⟨hw, hy⟩) hS h
/-- One alone may come up. -/
theorem J_step {i : Nat} {o : Oper} {fuel : Nat} {listed : Array Bool} {a : Act} {w : World} (hr : Region.ready md ops listed = [i]) (ho : ops[i]? = some o)
    (h : ∀ K' : Act → World → Prop, Shut (∀ a w, (i ≠ n → S w) → ((i ≠ n → S w) → anyJ P md ops Q S n fuel (listed.setIfInBounds i true) a w) → K' a w) → if Region.wanted o (yielded ops a.tmps) = true then Oper.wp P o a w K' Q else K' (a.put o.dst undef) w) :
    anyJ P md ops Q S n (fuel + 1) listed a w := by
  refine ⟨fun h0 => (by rw [hr] at h0; cases h0), fun j hj => ?_⟩
  rw [hr] at hj
  obtain rfl : j = i := by simpa using hj
  exact wpOp_step ho (fun K' hK => h K' (fun a w hS hW => hK a w ⟨hS, hW hS⟩))
theorem J_done {listed : Array Bool} {a : Act} {w : World} (hr : Region.ready md ops listed = []) (h : Q .normal a w) : ∀ fuel, anyJ P md ops Q S n fuel listed a w
  | 0 => ⟨hr, h⟩
  | _ + 1 => ⟨fun _ => h, by rw [hr]; simp⟩
theorem region_J {id : Nat} {a : Act} {w : World} (n : Nat) (S : World → Prop) (hm : P.follows .mixedOrders = true) (h : anyJ P .any ops Q S n ops.size (Array.replicate ops.size false) a w.drew) : (Code.region id ops true).wp P Q a w :=
  wp_region_any hm (any_of_J _ _ _ _ h)
end
end Go.Proofs.YtpoilaappcjbeaaGreatDoor
end

section
namespace Go.Proofs.YtpoilaappcjbeaaGreatDoor
open Go.RowKit
set_option linter.unusedSimpArgs false
set_option linter.unusedVariables false

section
variable {P : Program} {w : World} {ops : Array Oper} {o : Oper} {a : Act} {Q : Exit → Act → World → Prop} {K : Act → World → Prop} {E : Prop}
variable {t e : TypeId} {z : Value} {size by' : Nat}
/-- append, as one step of a region that draws. -/
theorem step_app (R : RowTy P t e z size by') (hg : o.guard = none) (s x : Operand) (hop : o.op = Op.call { callee := Callee.builtin Builtin.append, args := #[s, x], argTypes := #[t, t] })
    {base n : Nat} {v : Value} {xs : List Value} (hown : w.ownsRow base e size v n xs) {ad : Addr} {m c : Nat} {news : List Value} (hsrc : SrcRow w (some ad) m c news size)
    (hs : a.eval s = v) (hx : a.eval x = .slice (some ad) m c) (hm : 0 < m) (h63 : n + m ≤ 9223372036854775807) (hbytes : (n + m) * by' ≤ 140737488355328) (hbase : base ≤ w.heap.size)
    (hK : ∀ v' w', w'.ownsRow base e size v' (n + m) (xs ++ news) → Step w w' v v' → K (a.put o.dst v') w') :
    if Region.wanted o (yielded ops a.tmps) = true then Oper.wp P o a w K Q else E := by
  have hw : Region.wanted o (yielded ops a.tmps) = true := by simp [Region.wanted, hg]
  rw [if_pos hw]
  obtain ⟨v', w', hrun, r1, r2⟩ := run_app R o.type hown hsrc hm h63 hbytes hbase
  unfold Oper.wp
  simp [execOp, hop, resolve, invoke, builtin, hs, hx, hrun, Result.andThen]
  exact hK _ _ r1 r2
end
end Go.Proofs.YtpoilaappcjbeaaGreatDoor
end

section
namespace Go.Proofs.YtpoilaappcjbeaaGreatDoor
open Go.RowKit
set_option linter.unusedSimpArgs false
set_option linter.unusedVariables false

/-- What an append leaves of the elder row. -/
theorem step_keeps {w w' : World} {base gv n cap m : Nat} {e : TypeId} {xs news : List Value} {v' : Value} (h : w.ownsRow base e 1 (.slice (some ⟨gv, 0, none⟩) n cap) n xs) (h' : w'.ownsRow base e 1 v' (n + m) (xs ++ news)) (r : Step w w' (.slice (some ⟨gv, 0, none⟩) n cap) v') (q : Nat) (hq : q < n) :
    w'.cell? ⟨gv, q, none⟩ = w.cell? ⟨gv, q, none⟩ := by
  have hx : xs.length = n := by have := h.1; simpa using this
  have h0 := h.cellAt q (by omega)
  rcases r with ⟨g, k, c, k', e1, e2, _⟩ | ⟨_, hg⟩
  · simp only [Value.slice.injEq, Option.some.injEq, Addr.mk.injEq, and_true] at e1
    obtain ⟨rfl, _, rfl⟩ := e1
    rcases own_nil_or h' with ⟨e3, _⟩ | ⟨g2, c2, e3, _⟩
    · rw [e3] at e2; simp at e2
    rw [e3] at e2 h'
    simp only [Value.slice.injEq, Option.some.injEq, Addr.mk.injEq, and_true] at e2
    obtain ⟨rfl, _, rfl⟩ := e2
    have h1 := h'.cellAt q (by omega)
    rw [h0, h1, List.getElem?_append_left (by omega)]
  · have hlt := (h.lt gv rfl).2
    exact World.cell?_of_block (hg.block gv hlt (by simp))
theorem dn_is (w : World) (n : Nat) : Below w.heap.size w (w.drewN n) := ⟨rfl, rfl, rfl, Nat.le_refl _, fun _ _ => rfl⟩
theorem tyU : RowTy Tryz.prog 22 5 (.int .u8 0) 1 1 := ⟨Tryz.underlying22, by kernel_rfl, rfl, by omega⟩
theorem src_b (w : World) (x : Nat) (hx : x < 256) : SrcRow (w.alloc (.cells #[Value.int .u8 (x : Nat)] 5)) (some ⟨w.heap.size, 0, none⟩) 1 1 (bvs [UInt8.ofNat x]) 1 := by
  have e : (bvs [UInt8.ofNat x]).toArray = #[Value.int .u8 (x : Nat)] := by simp [bvs, Nat.mod_eq_of_lt hx]
  have := (bs_new w w.heap.size rfl [UInt8.ofNat x] 5 (0, 0) 1 rfl (by omega) _ e).src
  exact this
end Go.Proofs.YtpoilaappcjbeaaGreatDoor
end

section
namespace Go.Proofs.YtpoilaappcjbeaaGreatDoor
open Go.RowKit
namespace Sy
def st (p g : Nat) : Nat × Nat := if p < g then (p, 0) else ((g + p % g) * 2 ^ (p / g - 1), p / g - 1)
end Sy
namespace Sy
/-- A length symbol's base and extra bits. -/
def lb (s : Nat) : Nat × Nat := if s = 28 then (258, 0) else (3 + (st s 4).1, (st s 4).2)
def db (s : Nat) : Nat × Nat := (1 + (st s 2).1, (st s 2).2)
def lbV (s : Int) : Value := if 257 ≤ s ∧ s ≤ 285 then .tuple #[.int .i64 ((lb (s - 257).toNat).1 : Nat), .int .i64 ((lb (s - 257).toNat).2 : Nat), .bool true] else .tuple #[.int .i64 0, .int .i64 0, .bool false]
def dbV (s : Int) : Value := if 0 ≤ s ∧ s ≤ 29 then .tuple #[.int .i64 ((db s.toNat).1 : Nat), .int .i64 ((db s.toNat).2 : Nat), .bool true] else .tuple #[.int .i64 0, .int .i64 0, .bool false]
theorem st_lt (p g : Nat) (hp : p < 30) (hg : g = 2 ∨ g = 4) : (st p g).1 ≤ 131072 ∧ (st p g).2 ≤ 14 := by
  unfold st
  split
  · exact ⟨by show p ≤ _; omega, by show 0 ≤ _; omega⟩
  · have hp2 : 2 ^ (p / g - 1) ≤ 2 ^ 14 := Nat.pow_le_pow_right (by omega) (by rcases hg with rfl | rfl <;> omega)
    exact ⟨Nat.mul_le_mul (show g + p % g ≤ 8 by rcases hg with rfl | rfl <;> omega) hp2, by rcases hg with rfl | rfl <;> (show _ / _ - 1 ≤ 14; omega)⟩
end Sy
end Go.Proofs.YtpoilaappcjbeaaGreatDoor
end

section
namespace Go.Proofs.YtpoilaappcjbeaaGreatDoor
open Go.RowKit
namespace Sy
def lensL : List Int := [3, 4, 5, 6, 7, 8, 9, 10, 11, 13, 15, 17, 19, 23, 27, 31, 35, 43, 51, 59, 67, 83, 99, 115, 131, 163, 195, 227, 258]
def lensX : List Int := [0, 0, 0, 0, 0, 0, 0, 0, 1, 1, 1, 1, 2, 2, 2, 2, 3, 3, 3, 3, 4, 4, 4, 4, 5, 5, 5, 5, 0]
def distL : List Int := [1, 2, 3, 4, 5, 7, 9, 13, 17, 25, 33, 49, 65, 97, 129, 193, 257, 385, 513, 769, 1025, 1537, 2049, 3073, 4097, 6145, 8193, 12289, 16385, 24577]
def distX : List Int := [0, 0, 0, 0, 1, 1, 2, 2, 3, 3, 4, 4, 5, 5, 6, 6, 7, 7, 8, 8, 9, 9, 10, 10, 11, 11, 12, 12, 13, 13]
theorem lens_eq : ∀ p, p < 29 → lensL.getD p 0 = ((lb p).1 : Int) ∧ lensX.getD p 0 = ((lb p).2 : Int) := by decide +kernel
theorem dist_eq : ∀ p, p < 30 → distL.getD p 0 = ((db p).1 : Int) ∧ distX.getD p 0 = ((db p).2 : Int) := by decide +kernel
/-- Two rows of numbers in memory. -/
structure Two (w : World) (g h n : Nat) (f : Nat → Nat × Nat) : Prop where
  lg : g < w.heap.size
  lh : h < w.heap.size
  fst : ∀ i, i < n → w.cell? ⟨g, i, none⟩ = some (.int .i64 ((f i).1 : Nat))
  snd : ∀ i, i < n → w.cell? ⟨h, i, none⟩ = some (.int .i64 ((f i).2 : Nat))
theorem Two.mono {w w' : World} {g h n : Nat} {f : Nat → Nat × Nat} (H : Two w g h n f) (hb : Below w.heap.size w w') : Two w' g h n f :=
  ⟨Nat.lt_of_lt_of_le H.lg hb.size, Nat.lt_of_lt_of_le H.lh hb.size, fun i hi => (hb.cell (p := ⟨g, i, none⟩) H.lg).trans (H.fst i hi), fun i hi => (hb.cell (p := ⟨h, i, none⟩) H.lh).trans (H.snd i hi)⟩
theorem two_new (w : World) (n : Nat) (f : Nat → Nat × Nat) (x y : List Int) (t : TypeId) (hx : x.length = n) (hy : y.length = n) (h : ∀ p, p < n → x.getD p 0 = ((f p).1 : Int) ∧ y.getD p 0 = ((f p).2 : Int)) (cs ds : Array Value) (hc : (ivs x).toArray = cs) (hd : (ivs y).toArray = ds) :
    Two ((w.alloc (.cells cs t)).alloc (.cells ds t)) w.heap.size (w.heap.size + 1) n f := by
  subst hc
  subst hd
  have e2 : (w.alloc (.cells (ivs x).toArray t)).heap.size = w.heap.size + 1 := by simp
  refine ⟨by simp; omega, by simp, fun i hi => ?_, fun i hi => ?_⟩
  · have hb := below_alloc (w.alloc (.cells (ivs x).toArray t)) (.cells (ivs y).toArray t)
    rw [hb.cell (p := ⟨w.heap.size, i, none⟩) (by show w.heap.size < _; rw [e2]; omega), cell_of_row _ _ _ _ t (0, 0) (heap_alloc_last w _), List.getElem?_toArray, ivs_get _ _ (by omega), (h i hi).1]
  · rw [← e2, cell_of_row _ _ _ _ t (0, 0) (heap_alloc_last _ _), List.getElem?_toArray, ivs_get _ _ (by omega), (h i hi).2]
def TwoPost (w : World) (n : Nat) (f : Nat → Nat × Nat) (e : Ending) (w' : World) : Prop := ∃ g h, e = .returned (.tuple #[.slice (some ⟨g, 0, none⟩) n n, .slice (some ⟨h, 0, none⟩) n n]) ∧ Two w' g h n f ∧ Below w.heap.size w w'
end Sy
theorem dists_any (w : World) : Calls Tryz.prog 28 #[] w (Sy.TwoPost w 30 Sy.db) := by
  have HT := Lib.hid (Sy.two_new w 30 Sy.db Sy.distL Sy.distX 3 rfl rfl Sy.dist_eq _ _ rfl rfl)
  go_enter Tryz.func28, Tryz.ntmps28
  go_wp2
  go_ret2
  exact ⟨_, _, rfl, HT.out, below_alloc2 _ _ _⟩
end Go.Proofs.YtpoilaappcjbeaaGreatDoor
end

section
namespace Go.Proofs.YtpoilaappcjbeaaGreatDoor
open Go.RowKit
namespace Sy
/-- Which symbol holds a number: by its leading bits. -/
def Held (a g r : Nat) : Prop := ∃ e, r = e * g + a / 2 ^ e ∧ a / 2 ^ e < 2 * g ∧ (e = 0 ∨ g ≤ a / 2 ^ e) ∧ e ≤ 15
theorem div_next (a e : Nat) : a / 2 ^ (e + 1) = a / 2 ^ e / 2 := by rw [Nat.pow_succ, Nat.div_div_eq_div_mul]
theorem div_small (a : Nat) (h : a < 32768) : a / 2 ^ 15 = 0 := by omega
end Sy
theorem holder_any (a g : Nat) (w : World) (ha : a < 32768) (hg : g = 2 ∨ g = 4) :
    Calls Tryz.prog 80 #[.int .i64 (a : Nat), .int .i64 (g : Nat)] w fun e w' => (∃ r, Sy.Held a g r ∧ e = .returned (.int .i64 (r : Nat))) ∧ w = w' := by
  go_enter Tryz.func80, Tryz.ntmps80
  go_wp2
  go_loop [5] (fun x => ∃ e : Nat, e ≤ 15 ∧ (e = 0 ∨ g ≤ a / 2 ^ e) ∧ x = .int .i64 (e : Nat)) (fun x => 15 - (intOf x).toNat)
  case atStart => exact ⟨0, by omega, .inl rfl, rfl⟩
  case round =>
    obtain ⟨e, he, hge, rfl⟩ := hrel
    have hqa : a / 2 ^ e ≤ a := Nat.div_le_self _ _
    have hqi : (a : Int) / 2 ^ e = ((a / 2 ^ e : Nat) : Int) := by simp
    have hnx := Sy.div_next a e
    have h15 : e = 15 → a / 2 ^ e = 0 := fun h => by subst h; exact Sy.div_small a ha
    by_cases hlt : a / 2 ^ e < 2 * g
    · have HH : Hid (Sy.Held a g (e * g + a / 2 ^ e)) := Lib.hid ⟨e, rfl, hlt, hge, he⟩
      have d0 : decide (2 * (g : Int) ≤ (a : Int) / 2 ^ e) = false := by rw [hqi]; simp; omega
      have hge' : 2 * g ≤ 8 := by omega
      generalize a / 2 ^ e = q at *
      have hm : (e : Int) * (g : Int) ≤ 60 ∧ 0 ≤ (e : Int) * (g : Int) := by rcases hg with rfl | rfl <;> omega
      have hc : ((e * g + q : Nat) : Int) = (e : Int) * (g : Int) + (q : Int) := by simp
      go_wp2
      go_ret
      exact ⟨⟨_, HH.out, by rw [hc]; rfl⟩, rfl⟩
    · have d0 : decide (2 * (g : Int) ≤ (a : Int) / 2 ^ e) = true := by rw [hqi]; simp; omega
      have he15 : e < 15 := by
        rcases Nat.lt_or_ge e 15 with h | h
        · exact h
        · have := h15 (by omega); omega
      have HR : Hid (g ≤ a / 2 ^ (e + 1)) := Lib.hid (by rw [hnx]; omega)
      clear hnx h15
      generalize a / 2 ^ e = q at *
      go_wp2
      go_round
      case rel => exact ⟨e + 1, by omega, .inr HR.out, by go_num⟩
      case measure => simp [intOf]; omega
end Go.Proofs.YtpoilaappcjbeaaGreatDoor
end

section
namespace Go.Proofs.YtpoilaappcjbeaaGreatDoor
open Go.RowKit
namespace Sy
def LsPost (n : Int) (v : Value) : Prop := (¬ (3 ≤ n ∧ n ≤ 258) ∧ v = .tuple #[.int .i64 0, .bool false]) ∨ (n = 258 ∧ v = .tuple #[.int .i64 285, .bool true]) ∨
  (∃ a r : Nat, n = (a : Int) + 3 ∧ a < 255 ∧ Held a 4 r ∧ v = .tuple #[.int .i64 (257 + (r : Int)), .bool true])
def DsPost (n : Int) (v : Value) : Prop := (¬ (1 ≤ n ∧ n ≤ 32768) ∧ v = .tuple #[.int .i64 0, .bool false]) ∨
  (∃ a r : Nat, n = (a : Int) + 1 ∧ a < 32768 ∧ Held a 2 r ∧ v = .tuple #[.int .i64 (r : Int), .bool true])
theorem held_lt {a g r : Nat} (h : Held a g r) (hg : g = 2 ∨ g = 4) : r < 80 := by
  obtain ⟨e, rfl, h1, _, h2⟩ := h
  generalize a / 2 ^ e = q at *
  rcases hg with rfl | rfl <;> omega
end Sy
theorem lengthSymbol_any (n : Int) (w : World) (hw : (Lit.int .i64 n).wf = true) :
    Calls Tryz.prog 54 #[.int .i64 n] w fun e w' => (∃ v, Sy.LsPost n v ∧ e = .returned v) ∧ w = w' := by
  go_enter Tryz.func54, Tryz.ntmps54
  by_cases h1 : n < 3
  · have HP := Lib.hid (show Sy.LsPost n (.tuple #[.int .i64 0, .bool false]) from .inl ⟨by omega, rfl⟩)
    have d1 : decide (n < 3) = true := by simpa using h1
    go_wp2
    go_ret2
    exact ⟨⟨_, HP.out, rfl⟩, rfl⟩
  have d1 : decide (n < 3) = false := by simpa using h1
  by_cases h2 : 258 < n
  · have HP := Lib.hid (show Sy.LsPost n (.tuple #[.int .i64 0, .bool false]) from .inl ⟨by omega, rfl⟩)
    have d2 : decide (258 < n) = true := by simpa using h2
    go_wp2
    go_ret2
    exact ⟨⟨_, HP.out, rfl⟩, rfl⟩
  have d2 : decide (258 < n) = false := by simpa using h2
  obtain ⟨a, rfl⟩ : ∃ a : Nat, n = (a : Int) + 3 := ⟨(n - 3).toNat, by omega⟩
  by_cases h3 : a = 255
  · subst h3
    have HP := Lib.hid (show Sy.LsPost (((255 : Nat) : Int) + 3) (.tuple #[.int .i64 285, .bool true]) from .inr (.inl ⟨rfl, rfl⟩))
    go_wp2
    go_ret2
    exact ⟨⟨_, HP.out, rfl⟩, rfl⟩
  have d3 : ((a : Int) + 3 == 258) = false := by simp; omega
  have es : (a : Int) + 3 - 3 = (a : Int) := by omega
  go_wp2_with fail
  refine (holder_any a 4 w (by omega) (.inr rfl)).mono ?_
  rintro e w' ⟨⟨r, hr, rfl⟩, rfl⟩
  have hrl := Sy.held_lt hr (.inr rfl)
  have HP := Lib.hid (show Sy.LsPost ((a : Int) + 3) (.tuple #[.int .i64 (257 + (r : Int)), .bool true]) from .inr (.inr ⟨a, r, rfl, by omega, hr, rfl⟩))
  clear hr
  go_wp2
  go_ret2
  exact ⟨⟨_, HP.out, rfl⟩, rfl⟩
theorem distSymbol_any (n : Int) (w : World) (hw : (Lit.int .i64 n).wf = true) :
    Calls Tryz.prog 63 #[.int .i64 n] w fun e w' => (∃ v, Sy.DsPost n v ∧ e = .returned v) ∧ w = w' := by
  go_enter Tryz.func63, Tryz.ntmps63
  by_cases h1 : n < 1
  · have HP := Lib.hid (show Sy.DsPost n (.tuple #[.int .i64 0, .bool false]) from .inl ⟨by omega, rfl⟩)
    have d1 : decide (n < 1) = true := by simpa using h1
    go_wp2
    go_ret2
    exact ⟨⟨_, HP.out, rfl⟩, rfl⟩
  have d1 : decide (n < 1) = false := by simpa using h1
  by_cases h2 : 32768 < n
  · have HP := Lib.hid (show Sy.DsPost n (.tuple #[.int .i64 0, .bool false]) from .inl ⟨by omega, rfl⟩)
    have d2 : decide (32768 < n) = true := by simpa using h2
    go_wp2
    go_ret2
    exact ⟨⟨_, HP.out, rfl⟩, rfl⟩
  have d2 : decide (32768 < n) = false := by simpa using h2
  obtain ⟨a, rfl⟩ : ∃ a : Nat, n = (a : Int) + 1 := ⟨(n - 1).toNat, by omega⟩
  have es : (a : Int) + 1 - 1 = (a : Int) := by omega
  go_wp2_with fail
  refine (holder_any a 2 w (by omega) (.inl rfl)).mono ?_
  rintro e w' ⟨⟨r, hr, rfl⟩, rfl⟩
  have hrl := Sy.held_lt hr (.inl rfl)
  have HP := Lib.hid (show Sy.DsPost ((a : Int) + 1) (.tuple #[.int .i64 (r : Int), .bool true]) from .inr ⟨a, r, rfl, by omega, hr, rfl⟩)
  clear hr
  go_wp2
  go_ret2
  exact ⟨⟨_, HP.out, rfl⟩, rfl⟩
end Go.Proofs.YtpoilaappcjbeaaGreatDoor
end

section
namespace Go.Proofs.YtpoilaappcjbeaaGreatDoor
open Go.RowKit
namespace Sy
theorem held4 {a r : Nat} (ha : a < 255) (h : Held a 4 r) : r ≤ 27 ∧ (lb r).1 ≤ a + 3 ∧ a + 3 < (lb (r + 1)).1 := by
  obtain ⟨e, he, h1, h2, h3⟩ := h
  have T : ∀ e, e < 6 → ∀ q, q < 8 → (e = 0 ∨ 4 ≤ q) → (lb (e * 4 + q)).1 = 3 + q * 2 ^ e ∧ (e * 4 + q < 27 → (lb (e * 4 + q + 1)).1 = 3 + 2 ^ e * (q + 1)) := by decide +kernel
  have l1 := Nat.div_mul_le_self a (2 ^ e)
  have l2 := Nat.lt_mul_div_succ a (Nat.two_pow_pos e)
  have h6 : e < 6 := by
    rcases Nat.lt_or_ge e 6 with h | h
    · exact h
    · have p : 2 ^ 6 ≤ 2 ^ e := Nat.pow_le_pow_right (by omega) h
      have := Nat.mul_le_mul (show 4 ≤ a / 2 ^ e by omega) p
      omega
  generalize a / 2 ^ e = q at *
  obtain ⟨t1, t2⟩ := T e h6 q h1 h2
  subst he
  refine ⟨by omega, by omega, ?_⟩
  by_cases h27 : e * 4 + q = 27
  · rw [h27]; have : (lb (27 + 1)).1 = 258 := by decide
    omega
  · rw [t2 (by omega)]; omega
theorem held2 {a r : Nat} (ha : a < 32768) (h : Held a 2 r) : r ≤ 29 ∧ (db r).1 ≤ a + 1 ∧ (r < 29 → a + 1 < (db (r + 1)).1) := by
  obtain ⟨e, he, h1, h2, h3⟩ := h
  have T : ∀ e, e < 14 → ∀ q, q < 4 → (e = 0 ∨ 2 ≤ q) → (db (e * 2 + q)).1 = 1 + q * 2 ^ e ∧ (e * 2 + q < 29 → (db (e * 2 + q + 1)).1 = 1 + 2 ^ e * (q + 1)) := by decide +kernel
  have l1 := Nat.div_mul_le_self a (2 ^ e)
  have l2 := Nat.lt_mul_div_succ a (Nat.two_pow_pos e)
  have h6 : e < 14 := by
    rcases Nat.lt_or_ge e 14 with h | h
    · exact h
    · have p : 2 ^ 14 ≤ 2 ^ e := Nat.pow_le_pow_right (by omega) h
      have := Nat.mul_le_mul (show 2 ≤ a / 2 ^ e by omega) p
      omega
  generalize a / 2 ^ e = q at *
  obtain ⟨t1, t2⟩ := T e h6 q h1 h2
  subst he
  exact ⟨by omega, by omega, fun h => by rw [t2 h]; omega⟩
end Sy
end Go.Proofs.YtpoilaappcjbeaaGreatDoor
end

section
namespace Go.Proofs.YtpoilaappcjbeaaGreatDoor
open Go.RowKit

theorem refGood06_any (t : Tok) (w : World) (hw : (Lit.int .i64 t.1).wf = true ∧ (Lit.int .i64 t.2).wf = true) :
    Calls Tryz.prog 24 #[.agg #[.int .i64 t.1, .int .i64 t.2]] w fun e w' => e = .returned (.bool (Tk.isTok t)) ∧ Below w.heap.size w w' := by
  obtain ⟨x, y⟩ := t
  have hb := Lib.hid (below_alloc w (.cells #[.int .i64 x, .int .i64 y] 59))
  clear hw
  by_cases h0 : x = 0
  · by_cases h1 : 0 ≤ y
    · by_cases h2 : y ≤ 255
      · have E := Lib.hid (show Tk.isTok (x, y) = true by simp only [Tk.isTok, h0, if_true]; exact decide_eq_true ⟨h1, h2⟩)
        have d0 : (x == 0) = true := by simpa using h0
        have d1 : decide (0 ≤ y) = true := by simpa using h1
        have d2 : decide (y < 256) = true := by simp; omega
        clear h0
        go_enter Tryz.func24, Tryz.ntmps24
        go_wp2
        go_ret
        exact ⟨by rw [E.out]; rfl, hb.out⟩
      · have E := Lib.hid (show Tk.isTok (x, y) = false by simp only [Tk.isTok, h0, if_true]; exact decide_eq_false (fun h => h2 h.2))
        have d0 : (x == 0) = true := by simpa using h0
        have d1 : decide (0 ≤ y) = true := by simpa using h1
        have d2 : decide (y < 256) = false := by simp; omega
        clear h0
        go_enter Tryz.func24, Tryz.ntmps24
        go_wp2
        go_ret
        exact ⟨by rw [E.out]; rfl, hb.out⟩
    · have E := Lib.hid (show Tk.isTok (x, y) = false by simp only [Tk.isTok, h0, if_true]; exact decide_eq_false (fun h => h1 h.1))
      have d0 : (x == 0) = true := by simpa using h0
      have d1 : decide (0 ≤ y) = false := by simpa using h1
      clear h0
      go_enter Tryz.func24, Tryz.ntmps24
      go_wp2
      go_ret
      exact ⟨by rw [E.out]; rfl, hb.out⟩
  have d0 : (x == 0) = false := by simpa using h0
  have hi : Tk.isTok (x, y) = decide (3 ≤ x ∧ x ≤ 258 ∧ 1 ≤ y ∧ y ≤ 32768) := by simp only [Tk.isTok, if_neg h0]
  by_cases h1 : 3 ≤ x
  · have d1 : decide (3 ≤ x) = true := by simpa using h1
    by_cases h2 : x ≤ 258
    · have d2 : decide (x ≤ 258) = true := by simpa using h2
      by_cases h3 : 1 ≤ y
      · have d3 : decide (1 ≤ y) = true := by simpa using h3
        by_cases h4 : y ≤ 32768
        · have d4 : decide (y ≤ 32768) = true := by simpa using h4
          have E := Lib.hid (hi.trans (decide_eq_true ⟨h1, h2, h3, h4⟩))
          clear hi
          go_enter Tryz.func24, Tryz.ntmps24
          go_wp2
          go_ret
          exact ⟨by rw [E.out]; rfl, hb.out⟩
        · have d4 : decide (y ≤ 32768) = false := by simpa using h4
          have E := Lib.hid (hi.trans (decide_eq_false (fun h => h4 h.2.2.2)))
          clear hi
          go_enter Tryz.func24, Tryz.ntmps24
          go_wp2
          go_ret
          exact ⟨by rw [E.out]; rfl, hb.out⟩
      · have d3 : decide (1 ≤ y) = false := by simpa using h3
        have E := Lib.hid (hi.trans (decide_eq_false (fun h => h3 h.2.2.1)))
        clear hi
        go_enter Tryz.func24, Tryz.ntmps24
        go_wp2
        go_ret
        exact ⟨by rw [E.out]; rfl, hb.out⟩
    · have d2 : decide (x ≤ 258) = false := by simpa using h2
      have E := Lib.hid (hi.trans (decide_eq_false (fun h => h2 h.2.1)))
      clear hi
      go_enter Tryz.func24, Tryz.ntmps24
      go_wp2
      go_ret
      exact ⟨by rw [E.out]; rfl, hb.out⟩
  · have d1 : decide (3 ≤ x) = false := by simpa using h1
    have E := Lib.hid (hi.trans (decide_eq_false (fun h => h1 h.1)))
    clear hi
    go_enter Tryz.func24, Tryz.ntmps24
    go_wp2
    go_ret
    exact ⟨by rw [E.out]; rfl, hb.out⟩
end Go.Proofs.YtpoilaappcjbeaaGreatDoor
end

section
namespace Go.Proofs.YtpoilaappcjbeaaGreatDoor
open Go.RowKit
namespace Sy
/-- How many bases behind the first one aren't beyond. -/
def cntB (f : Nat → Nat × Nat) (m n : Nat) : Nat := ((List.range m).filter fun s => decide ((f (s + 1)).1 ≤ n)).length
def lsy (n : Nat) : Nat := cntB lb 28 n
def dsy (n : Nat) : Nat := cntB db 29 n
theorem cnt_of {f : Nat → Nat × Nat} {m n s : Nat} (hs : s ≤ m) (h1 : ∀ k, k < s → (f (k + 1)).1 ≤ n) (h2 : ∀ k, s ≤ k → k < m → n < (f (k + 1)).1) : cntB f m n = s := by
  obtain ⟨d, rfl⟩ : ∃ d, m = s + d := ⟨m - s, by omega⟩
  unfold cntB
  rw [List.range_add, List.filter_append, List.filter_eq_self.2 (fun a ha => by simpa using h1 a (List.mem_range.1 ha)), List.filter_eq_nil_iff.2 (fun a ha => by
    obtain ⟨b, hb, rfl⟩ := List.mem_map.1 ha
    have := h2 (s + b) (by omega) (by have := List.mem_range.1 hb; omega)
    simpa using this)]
  simp
theorem lb_mono : ∀ j, j < 29 → ∀ i, i ≤ j → (lb i).1 ≤ (lb j).1 := by decide +kernel
theorem db_mono : ∀ j, j < 30 → ∀ i, i ≤ j → (db i).1 ≤ (db j).1 := by decide +kernel
theorem lsy_of {n s : Nat} (hs : s ≤ 28) (h1 : (lb s).1 ≤ n) (h2 : s < 28 → n < (lb (s + 1)).1) : lsy n = s :=
  cnt_of hs (fun k hk => Nat.le_trans (lb_mono s (by omega) (k + 1) hk) h1) (fun k hk hm => Nat.lt_of_lt_of_le (h2 (by omega)) (lb_mono (k + 1) (by omega) (s + 1) (by omega)))
theorem dsy_of {n s : Nat} (hs : s ≤ 29) (h1 : (db s).1 ≤ n) (h2 : s < 29 → n < (db (s + 1)).1) : dsy n = s :=
  cnt_of hs (fun k hk => Nat.le_trans (db_mono s (by omega) (k + 1) hk) h1) (fun k hk hm => Nat.lt_of_lt_of_le (h2 (by omega)) (db_mono (k + 1) (by omega) (s + 1) (by omega)))
theorem cnt_le (f : Nat → Nat × Nat) (m n : Nat) : cntB f m n ≤ m := by
  unfold cntB
  have := List.length_filter_le (fun s => decide ((f (s + 1)).1 ≤ n)) (List.range m)
  simpa using this
end Sy
set_option maxHeartbeats 1000000 in
theorem refDist_any (n : Nat) (w : World) (h3 : 1 ≤ n) (hn : n ≤ 32768) :
    Calls Tryz.prog 26 #[.int .i64 (n : Nat)] w fun e w' => e = .returned (.int .i64 ((Sy.dsy n : Nat) : Int)) ∧ Below w.heap.size w w' := by
  go_enter Tryz.func26, Tryz.ntmps26
  go_wp2_with fail
  refine (dists_any w).mono ?_
  rintro e w1 ⟨g, h, rfl, h2, hb1⟩
  have HB := Lib.hid hb1
  have H2 := Lib.hid h2
  clear hb1 h2
  go_wp2
  go_loopw [5] (fun i wr => ∃ s : Nat, s ≤ 29 ∧ i = .int .i64 ((s : Nat) : Int) ∧ w1 = wr ∧ Hid (∀ k, k < s → (Sy.db (k + 1)).1 ≤ n)) (fun i _ => 30 - (intOf i).toNat)
  case atStart => exact ⟨0, by omega, rfl, rfl, Lib.hid (fun k hk => by omega)⟩
  case round =>
    obtain ⟨s, hs, rfl, rfl, HK⟩ := hrel
    by_cases h28 : s < 29
    · have d1 : decide ((s : Int) + 1 < 30) = true := by simp; omega
      have c1 := H2.out.fst (s + 1) (by omega)
      have dx : decide (s + 1 < 30) = true := by simp; omega
      by_cases hb : (Sy.db (s + 1)).1 ≤ n
      · have HK2 : Hid (∀ k, k < s + 1 → (Sy.db (k + 1)).1 ≤ n) := Lib.hid (fun k hk => by
          rcases Nat.lt_or_ge k s with h | h
          · exact HK.out k h
          · obtain rfl : k = s := by omega
            exact hb)
        generalize (Sy.db (s + 1)).1 = q at *
        have d2 : decide (q ≤ n) = true := by simp; omega
        go_wp2
        go_roundw
        case rel => exact ⟨s + 1, by omega, by go_num, trivial, HK2⟩
        case measure => simp [intOf]; omega
      · have HF : Hid (Sy.dsy n = s) := Lib.hid (by
          rw [Sy.dsy, Sy.cnt_of (f := Sy.db) (m := 29) (n := n) (s := s) (by omega) HK.out (fun k h1 h2 => Nat.lt_of_lt_of_le (by omega) (Sy.db_mono (k + 1) (by omega) (s + 1) (by omega)))])
        generalize (Sy.db (s + 1)).1 = q at *
        have d2 : decide (q ≤ n) = false := by simp; omega
        go_wp2
        go_ret
        exact ⟨by rw [HF.out]; rfl, HB.out⟩
    · obtain rfl : s = 29 := by omega
      have HF : Hid (Sy.dsy n = 29) := Lib.hid (by
        rw [Sy.dsy, Sy.cnt_of (f := Sy.db) (m := 29) (n := n) (s := 29) (by omega) HK.out (fun k h1 h2 => by omega)])
      go_wp2
      go_ret
      exact ⟨by rw [HF.out]; rfl, HB.out⟩
/-- A token's symbols. -/
def SyPost (t : Tok) (v : Value) : Prop := ∃ sv dv : Int, v = .tuple #[.int .i64 sv, .int .i64 dv, .bool (Tk.isTok t)] ∧ (Tk.isTok t = true → (t.1 = 0 → sv = t.2 ∧ dv = 0) ∧ (t.1 ≠ 0 → sv = ((257 + Sy.lsy t.1.toNat : Nat) : Int) ∧ dv = ((Sy.dsy t.2.toNat : Nat) : Int)))
set_option maxHeartbeats 2000000 in
theorem symbols_any09 (t : Tok) (w : World) (hw : (Lit.int .i64 t.1).wf = true ∧ (Lit.int .i64 t.2).wf = true) :
    Calls Tryz.prog 95 #[.agg #[.int .i64 t.1, .int .i64 t.2]] w fun e w' => (∃ v, SyPost t v ∧ e = .returned v) ∧ Below w.heap.size w w' := by
  obtain ⟨x, y⟩ := t
  have HW := Lib.hid hw
  have hb := below_alloc w (.cells #[.int .i64 x, .int .i64 y] 59)
  have hrow : (w.alloc (.cells #[.int .i64 x, .int .i64 y] 59)).heap[w.heap.size]? = some (.cells #[.int .i64 x, .int .i64 y] 59 (0, 0)) := heap_alloc_last w _
  have HB := Lib.hid hb
  have c0 : (w.alloc (.cells #[.int .i64 x, .int .i64 y] 59)).cell? ⟨w.heap.size, 0, none⟩ = some (.int .i64 x) := by rw [cell_of_row _ _ _ _ _ (0, 0) hrow]; rfl
  have c1 : (w.alloc (.cells #[.int .i64 x, .int .i64 y] 59)).cell? ⟨w.heap.size, 1, none⟩ = some (.int .i64 y) := by rw [cell_of_row _ _ _ _ _ (0, 0) hrow]; rfl
  clear hw hb hrow
  by_cases h0 : x = 0
  · subst h0
    have HT : Hid (Tk.isTok (0, y) = (decide (0 ≤ y) && decide (y < 256))) := Lib.hid (by
      simp only [Tk.isTok, if_true]
      by_cases h1 : 0 ≤ y <;> by_cases h2 : y < 256 <;> simp [h1, h2] <;> omega)
    have HBn : Hid (∀ n, Below w.heap.size w ((w.alloc (.cells #[.int .i64 0, .int .i64 y] 59)).drewN n)) := Lib.hid (fun n => below_then HB.out (drewN_is _ n))
    by_cases h1 : 0 ≤ y
    · have d1 : decide (0 ≤ y) = true := by simpa using h1
      have HE : Hid (SyPost (0, y) (.tuple #[.int .i64 y, .int .i64 0, .bool (decide (y < 256))])) := Lib.hid ⟨y, 0, by rw [HT.out, d1, Bool.true_and], fun _ => ⟨fun _ => ⟨rfl, rfl⟩, fun h => absurd rfl h⟩⟩
      clear h1
      go_enter Tryz.func95, Tryz.ntmps95
      go_wp2
      go_quiet (fail)
      go_wp2
      go_ret3
      exact ⟨⟨_, HE.out, rfl⟩, HBn.out _⟩
    · have d1 : decide (0 ≤ y) = false := by simpa using h1
      have HE : Hid (SyPost (0, y) (.tuple #[.int .i64 y, .int .i64 0, .bool false])) := Lib.hid ⟨y, 0, by rw [HT.out, d1, Bool.false_and], fun _ => ⟨fun _ => ⟨rfl, rfl⟩, fun h => absurd rfl h⟩⟩
      clear h1
      go_enter Tryz.func95, Tryz.ntmps95
      go_wp2
      go_quiet (fail)
      go_wp2
      go_ret3
      exact ⟨⟨_, HE.out, rfl⟩, HBn.out _⟩
  · have d0 : (x == 0) = false := by simpa using h0
    have HT : Hid (Tk.isTok (x, y) = decide (3 ≤ x ∧ x ≤ 258 ∧ 1 ≤ y ∧ y ≤ 32768)) := Lib.hid (by simp only [Tk.isTok]; rw [if_neg h0])
    have HN0 := Lib.hid h0
    clear h0
    go_enter Tryz.func95, Tryz.ntmps95
    go_wp2_with fail
    refine (lengthSymbol_any x _ HW.out.1).mono ?_
    rintro e w' ⟨⟨v1, hv1, rfl⟩, rfl⟩
    have hv1' : ∃ (s1 : Int) (b1 : Bool), v1 = .tuple #[.int .i64 s1, .bool b1] ∧ (b1 = decide (3 ≤ x ∧ x ≤ 258)) ∧ (b1 = true → s1 = ((257 + Sy.lsy x.toNat : Nat) : Int)) := by
      rcases hv1 with ⟨h, rfl⟩ | ⟨rfl, rfl⟩ | ⟨a, r, rfl, ha, hh, rfl⟩
      · exact ⟨_, _, rfl, by simp; omega, fun h => by cases h⟩
      · exact ⟨_, _, rfl, by decide, fun _ => by rw [show (258 : Int).toNat = 258 from rfl, Sy.lsy_of (n := 258) (s := 28) (by omega) (by decide) (fun h => by omega)]; rfl⟩
      · obtain ⟨q1, q2, q3⟩ := Sy.held4 ha hh
        refine ⟨_, _, rfl, by simp; omega, fun _ => ?_⟩
        rw [show ((a : Int) + 3).toNat = a + 3 by omega, Sy.lsy_of (n := a + 3) (s := r) (by omega) q2 (fun _ => q3)]
        omega
    obtain ⟨s1, b1, rfl, hb1, hs1⟩ := hv1'
    have HB1 := Lib.hid hb1
    have HS1 := Lib.hid hs1
    clear hv1 hb1 hs1
    go_wp2_with fail
    refine (distSymbol_any y _ HW.out.2).mono ?_
    rintro e w' ⟨⟨v2, hv2, rfl⟩, rfl⟩
    have hv2' : ∃ (s2 : Int) (b2 : Bool), v2 = .tuple #[.int .i64 s2, .bool b2] ∧ (b2 = decide (1 ≤ y ∧ y ≤ 32768)) ∧ (b2 = true → s2 = ((Sy.dsy y.toNat : Nat) : Int)) := by
      rcases hv2 with ⟨h, rfl⟩ | ⟨a, r, rfl, ha, hh, rfl⟩
      · exact ⟨_, _, rfl, by simp; omega, fun h => by cases h⟩
      · obtain ⟨q1, q2, q3⟩ := Sy.held2 ha hh
        refine ⟨_, _, rfl, by simp; omega, fun _ => ?_⟩
        rw [show ((a : Int) + 1).toNat = a + 1 by omega, Sy.dsy_of (n := a + 1) (s := r) (by omega) q2 q3]
    obtain ⟨s2, b2, rfl, hb2, hs2⟩ := hv2'
    have HE : Hid (SyPost (x, y) (.tuple #[.int .i64 s1, .int .i64 s2, .bool (b1 && b2)])) := Lib.hid ⟨s1, s2, by
      rw [HT.out, HB1.out, hb2]
      congr 4
      by_cases q1 : 3 ≤ x <;> by_cases q2 : x ≤ 258 <;> by_cases q3 : 1 ≤ y <;> by_cases q4 : y ≤ 32768 <;> simp [q1, q2, q3, q4], fun ht => ⟨fun h => absurd h HN0.out, fun _ => by
      rw [HT.out] at ht
      have ht' := of_decide_eq_true ht
      exact ⟨HS1.out (by rw [HB1.out]; exact decide_eq_true ⟨ht'.1, ht'.2.1⟩), hs2 (by rw [hb2]; exact decide_eq_true ⟨ht'.2.2.1, ht'.2.2.2⟩)⟩⟩⟩
    clear hv2 HB1 hb2 HS1 hs2 c0 c1
    obtain rfl | rfl : b1 = true ∨ b1 = false := by cases b1 <;> simp
    · rw [Bool.true_and] at HE
      go_wp2
      go_ret3
      exact ⟨⟨_, HE.out, rfl⟩, HB.out⟩
    · rw [Bool.false_and] at HE
      go_wp2
      go_ret3
      exact ⟨⟨_, HE.out, rfl⟩, HB.out⟩
end Go.Proofs.YtpoilaappcjbeaaGreatDoor
end

section
namespace Go.Proofs.YtpoilaappcjbeaaGreatDoor
open Go.RowKit
theorem lens_any (w : World) : Calls Tryz.prog 27 #[] w (Sy.TwoPost w 29 Sy.lb) := by
  have HT := Lib.hid (Sy.two_new w 29 Sy.lb Sy.lensL Sy.lensX 3 rfl rfl Sy.lens_eq _ _ rfl rfl)
  go_enter Tryz.func27, Tryz.ntmps27
  go_wp2
  go_ret2
  exact ⟨_, _, rfl, HT.out, below_alloc2 _ _ _⟩
end Go.Proofs.YtpoilaappcjbeaaGreatDoor
end

section
namespace Go.Proofs.YtpoilaappcjbeaaGreatDoor
open Go.RowKit
set_option maxHeartbeats 1000000 in
theorem refLength_any (n : Nat) (w : World) (h3 : 3 ≤ n) (hn : n ≤ 258) :
    Calls Tryz.prog 25 #[.int .i64 (n : Nat)] w fun e w' => e = .returned (.int .i64 ((257 + Sy.lsy n : Nat) : Int)) ∧ Below w.heap.size w w' := by
  go_enter Tryz.func25, Tryz.ntmps25
  go_wp2_with fail
  refine (lens_any w).mono ?_
  rintro e w1 ⟨g, h, rfl, h2, hb1⟩
  have HB := Lib.hid hb1
  have H2 := Lib.hid h2
  clear hb1 h2
  go_wp2
  go_loopw [5] (fun i wr => ∃ s : Nat, s ≤ 28 ∧ i = .int .i64 ((s : Nat) : Int) ∧ w1 = wr ∧ Hid (∀ k, k < s → (Sy.lb (k + 1)).1 ≤ n)) (fun i _ => 29 - (intOf i).toNat)
  case atStart => exact ⟨0, by omega, rfl, rfl, Lib.hid (fun k hk => by omega)⟩
  case round =>
    obtain ⟨s, hs, rfl, rfl, HK⟩ := hrel
    by_cases h28 : s < 28
    · have d1 : decide ((s : Int) + 1 < 29) = true := by simp; omega
      have c1 := H2.out.fst (s + 1) (by omega)
      have dx : decide (s + 1 < 29) = true := by simp; omega
      by_cases hb : (Sy.lb (s + 1)).1 ≤ n
      · have HK2 : Hid (∀ k, k < s + 1 → (Sy.lb (k + 1)).1 ≤ n) := Lib.hid (fun k hk => by
          rcases Nat.lt_or_ge k s with h | h
          · exact HK.out k h
          · obtain rfl : k = s := by omega
            exact hb)
        generalize (Sy.lb (s + 1)).1 = q at *
        have d2 : decide (q ≤ n) = true := by simp; omega
        go_wp2
        go_roundw
        case rel => exact ⟨s + 1, by omega, by go_num, trivial, HK2⟩
        case measure => simp [intOf]; omega
      · have HF : Hid (257 + Sy.lsy n = 257 + s) := Lib.hid (by
          rw [Sy.lsy, Sy.cnt_of (f := Sy.lb) (m := 28) (n := n) (s := s) (by omega) HK.out (fun k h1 h2 => Nat.lt_of_lt_of_le (by omega) (Sy.lb_mono (k + 1) (by omega) (s + 1) (by omega)))])
        generalize (Sy.lb (s + 1)).1 = q at *
        have d2 : decide (q ≤ n) = false := by simp; omega
        go_wp2
        go_ret
        exact ⟨by rw [HF.out]; congr 2, HB.out⟩
    · obtain rfl : s = 28 := by omega
      have HF : Hid (257 + Sy.lsy n = 257 + 28) := Lib.hid (by
        rw [Sy.lsy, Sy.cnt_of (f := Sy.lb) (m := 28) (n := n) (s := 28) (by omega) HK.out (fun k h1 h2 => by omega)])
      go_wp2
      go_ret
      exact ⟨by rw [HF.out]; rfl, HB.out⟩
end Go.Proofs.YtpoilaappcjbeaaGreatDoor
end
