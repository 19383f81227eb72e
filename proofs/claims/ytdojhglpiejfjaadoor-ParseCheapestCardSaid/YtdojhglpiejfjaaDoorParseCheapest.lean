/- For all bytes (of at most 200) and all prices (of at most 1000 of each sort, as the law itself asks), the cheapest parse is a parse of nearest matches and literals, and costs what the document's Least tells, so none costs less; prices that aren't in form are refused; text and prices are left as they were. math/bits.deBruijn64tab holds what the library's text lays (the tied card). -/
import Derived.Test.YtdojhglpiejfjaaDoorCards
import Derived.Test.YtdojhglpiejfjaaDoorTie
import Derived.ProofKit
import Derived.Handy
import Derived.Lay
import Derived.SevenTiedAt
import Derived.Test.YtdojhglpiejfjaaDoorRows
import Derived.Test.YtdojhglpiejfjaaDoorZ19
namespace Go.Proofs.YtdojhglpiejfjaaDoor.ParseCheapest
open Go.ChangeShapes Go.WideShapes Go.ChangeAt Go.RowKit
open Go.ChangeMaps (open_string shut_string)
set_option linter.unusedVariables false
theorem own : ownKnob Tryd.prog.godebug = none := by kernel_rfl
theorem laidOut : laidOutB Tryd.prog = true := by kernel_rfl
theorem toks_own {w : World} {B N K : Nat} {F : Nat → Tok} {v : Value} (h : w.ownsRow B 46 2 v K (tks (Pz.toks F K))) (hF : ∀ p, p < N → Tk.isTok (F p) = true) (hj : ∀ j, j < K → Pz.pos F j < N) : ∃ a cap, v = .slice a K cap ∧ Ts2 w a K cap (Pz.toks F K) :=
  own_ts2 h (by have := tks_wf (toks_tok hF hj); rwa [Pz.toks_length] at this)
theorem own_ne {w : World} {base gc g n cap : Nat} {e t : TypeId} {size : Nat} {xs : List Value} {C : Array Value} {fr : Nat × Nat} (h : w.ownsRow base e size (.slice (some ⟨gc, 0, none⟩) n cap) n xs) (hr : w.heap[g]? = some (.cells C t fr)) (ht : t ≠ e) : gc ≠ g := by
  rintro rfl
  rcases h.2 with ⟨h', _⟩ | ⟨g', cap', cur, h', hb, hg, _⟩
  · simp at h'
  · simp only [Value.slice.injEq, Option.some.injEq, Addr.mk.injEq, and_true, true_and] at h'
    obtain ⟨rfl, rfl⟩ := h'
    rw [hr] at hg
    simp at hg
    exact ht hg.2.1
theorem row_three {w4 : World} {g : Nat} {x y z : Value} {t : TypeId} (h : w4.heap[g]? = some (.cells #[x, y, z] t (0, 0))) (p q r : Value) : (((w4.setCell ⟨g, 0, none⟩ p).setCell ⟨g, 1, none⟩ q).setCell ⟨g, 2, none⟩ r).heap[g]? = some (.cells #[p, q, r] t (0, 0)) :=
  heap_setCell_same _ g 2 _ _ _ (heap_setCell_same _ g 1 _ _ _ (heap_setCell_same w4 g 0 _ _ _ h))
theorem own_three {w4 : World} {base gc g n cap : Nat} {e : TypeId} {size : Nat} {xs : List Value} (h : w4.ownsRow base e size (.slice (some ⟨gc, 0, none⟩) n cap) n xs) (hn : gc ≠ g) (p q r : Value) : (((w4.setCell ⟨g, 0, none⟩ p).setCell ⟨g, 1, none⟩ q).setCell ⟨g, 2, none⟩ r).ownsRow base e size (.slice (some ⟨gc, 0, none⟩) n cap) n xs := by
  have k : ∀ b, (Value.slice (some ⟨gc, 0, none⟩) n cap).ownBlock = some b → b ≠ g := fun b hb => by simp [Value.ownBlock] at hb; rw [← hb]; exact hn
  exact og_ot (og_ot (og_ot h k) k) k
theorem row_newd {w3 w4 : World} {o : Obj} (hx : Below (w3.alloc o).drew.heap.size (w3.alloc o).drew w4) : w4.heap[w3.heap.size]? = some o := (hx.block w3.heap.size (by show w3.heap.size < (w3.alloc o).heap.size; simp)).trans (heap_alloc_last w3 o)
theorem keep3 {w4 : World} {x g : Nat} {u0 u1 u2 : Value} (h : x ≠ g) (p q r : Value) (h0 : w4.cell? ⟨x, 0, none⟩ = some u0) (h1 : w4.cell? ⟨x, 1, none⟩ = some u1) (h2 : w4.cell? ⟨x, 2, none⟩ = some u2) :
    (((w4.setCell ⟨g, 0, none⟩ p).setCell ⟨g, 1, none⟩ q).setCell ⟨g, 2, none⟩ r).cell? ⟨x, 0, none⟩ = some u0 ∧ (((w4.setCell ⟨g, 0, none⟩ p).setCell ⟨g, 1, none⟩ q).setCell ⟨g, 2, none⟩ r).cell? ⟨x, 1, none⟩ = some u1 ∧ (((w4.setCell ⟨g, 0, none⟩ p).setCell ⟨g, 1, none⟩ q).setCell ⟨g, 2, none⟩ r).cell? ⟨x, 2, none⟩ = some u2 :=
  ⟨cellb_keep h (cellb_keep h (cellb_keep h h0)), cellb_keep h (cellb_keep h (cellb_keep h h1)), cellb_keep h (cellb_keep h (cellb_keep h h2))⟩
theorem box3 {w4 : World} {g : Nat} {x y z : Value} {t : TypeId} (h : w4.heap[g]? = some (.cells #[x, y, z] t (0, 0))) : w4.cell? ⟨g, 0, none⟩ = some x ∧ w4.cell? ⟨g, 1, none⟩ = some y ∧ w4.cell? ⟨g, 2, none⟩ = some z ∧ w4.frozen? ⟨g, 0, none⟩ = false ∧ w4.frozen? ⟨g, 1, none⟩ = false ∧ w4.frozen? ⟨g, 2, none⟩ = false :=
  ⟨by rw [cell_of_row _ _ _ _ _ (0, 0) h]; rfl, by rw [cell_of_row _ _ _ _ _ (0, 0) h]; rfl, by rw [cell_of_row _ _ _ _ _ (0, 0) h]; rfl, frozen_of_row _ _ 0 _ _ h, frozen_of_row _ _ 1 _ _ h, frozen_of_row _ _ 2 _ _ h⟩
theorem row_new {w3 w4 : World} {o : Obj} (hx : Below (w3.alloc o).heap.size (w3.alloc o) w4) : w4.heap[w3.heap.size]? = some o := (hx.block w3.heap.size (by simp)).trans (heap_alloc_last w3 o)
set_option maxRecDepth 100000 in
set_option maxHeartbeats 8000000 in
theorem walk (a : Option Addr) (len cap : Nat) (l : List UInt8) (a1 : Option Addr) (n1 c1 : Nat) (l1 : List Int) (a2 : Option Addr) (n2 c2 : Nat) (l2 : List Int) (a3 : Option Addr) (n3 c3 : Nat) (l3 : List Int) (w : World) (h : Bs w a len cap l) (hr : cap ≤ 140737488351232)
    (h1 : Is .i64 w a1 n1 c1 l1) (r1 : c1 * 8 ≤ 140737488351232) (h2 : Is .i64 w a2 n2 c2 l2) (r2 : c2 * 8 ≤ 140737488351232) (h3 : Is .i64 w a3 n3 c3 l3) (r3 : c3 * 8 ≤ 140737488351232) (hL : laidMetH Tryd.prog [("math/bits.deBruijn64tab", Rows.laid_math_bits_deBruijn64tab)] w) :
    Calls Tryd.prog 4 #[.slice a len cap, .agg #[.slice a1 n1 c1, .slice a2 n2 c2, .slice a3 n3 c3]] w fun e w' => e = .returned (.bool true) ∧ Below w.heap.size w w' := by
  obtain ⟨hdb, hdl⟩ := db_of_laid hL
  have HDB : Hid (∀ w', Below w.heap.size w w' → Db w' ∧ 0 < w'.heap.size) := Lib.hid (fun w' hb => ⟨hdb.kept hb hdl, Nat.lt_of_lt_of_le hdl hb.size⟩)
  have hle := h.hle
  have H := Lib.hid h
  have HP : Hid (Pa.Pr w a1 n1 c1 l1 a2 n2 c2 l2 a3 n3 c3 l3) := Lib.hid ⟨h1, h2, h3, by have := h1.hle; omega, by have := h2.hle; omega, by have := h3.hle; omega⟩
  have hb0 := below_alloc w (.cells #[.slice a1 n1 c1, .slice a2 n2 c2, .slice a3 n3 c3] 36)
  have hr0 : (w.alloc (.cells #[.slice a1 n1 c1, .slice a2 n2 c2, .slice a3 n3 c3] 36)).heap[w.heap.size]? = some (.cells #[.slice a1 n1 c1, .slice a2 n2 c2, .slice a3 n3 c3] 36 (0, 0)) := heap_alloc_last w _
  have HB0 := Lib.hid hb0
  have HR0 := Lib.hid hr0
  have hdb0 := HDB.out _ hb0
  have HAL := Lib.hid (alive09_any _ hdb0.1 hdb0.2)
  have HZ0 : Hid (w.heap.size < (w.alloc (.cells #[.slice a1 n1 c1, .slice a2 n2 c2, .slice a3 n3 c3] 36)).heap.size) := Lib.hid (by simp)
  clear h h1 h2 h3 hL hdb hdl hb0 hr0 hdb0 r1 r2 r3
  go_enter Tryd.func4, Tryd.ntmps4
  go_wp2_with fail
  refine HAL.out.mono ?_
  rintro e w1 ⟨rfl, hb1⟩
  have HB1 := Lib.hid (below_then HB0.out hb1)
  have HR1 := Lib.hid ((hb1.block w.heap.size HZ0.out).trans HR0.out)
  clear hb1 HAL HB0 HR0 HZ0
  by_cases hbig : 200 < len
  · have d1 : decide ((200 : Int) < (len : Int)) = true := by simp; omega
    go_wp2
    go_ret
    exact ⟨rfl, HB1.out⟩
  have d1 : decide ((200 : Int) < (len : Int)) = false := by simp; omega
  have p0 : w1.cell? ⟨w.heap.size, 0, none⟩ = some (.slice a1 n1 c1) := by rw [cell_of_row _ _ _ _ _ (0, 0) HR1.out]; rfl
  have p1 : w1.cell? ⟨w.heap.size, 1, none⟩ = some (.slice a2 n2 c2) := by rw [cell_of_row _ _ _ _ _ (0, 0) HR1.out]; rfl
  have p2 : w1.cell? ⟨w.heap.size, 2, none⟩ = some (.slice a3 n3 c3) := by rw [cell_of_row _ _ _ _ _ (0, 0) HR1.out]; rfl
  have HLG := Lib.hid (large_any (HP.out.mono HB1.out))
  go_wp2_with fail
  refine HLG.out.mono ?_
  rintro e w2 ⟨rfl, hb2⟩
  have HB2 := Lib.hid (below_then HB1.out hb2)
  have HR2 := Lib.hid ((hb2.block w.heap.size (Array.getElem?_eq_some_iff.1 HR1.out).1).trans HR1.out)
  clear hb2 HLG p0 p1 p2 HB1 HR1
  by_cases hlg : n1 ≤ 1000 ∧ n2 ≤ 1000 ∧ n3 ≤ 1000
  rotate_left
  · rw [show (decide (1000 < n1) || decide (1000 < n2) || decide (1000 < n3)) = true by
      by_cases e1 : 1000 < n1 <;> by_cases e2 : 1000 < n2 <;> by_cases e3 : 1000 < n3 <;> simp [e1, e2, e3] <;> omega]
    go_wp2
    go_ret
    exact ⟨rfl, HB2.out⟩
  obtain ⟨g1, g2, g3⟩ := hlg
  rw [show (decide (1000 < n1) || decide (1000 < n2) || decide (1000 < n3)) = false by
    rw [decide_eq_false (by omega), decide_eq_false (by omega), decide_eq_false (by omega)]; rfl]
  have p0 : w2.cell? ⟨w.heap.size, 0, none⟩ = some (.slice a1 n1 c1) := by rw [cell_of_row _ _ _ _ _ (0, 0) HR2.out]; rfl
  have p1 : w2.cell? ⟨w.heap.size, 1, none⟩ = some (.slice a2 n2 c2) := by rw [cell_of_row _ _ _ _ _ (0, 0) HR2.out]; rfl
  have p2 : w2.cell? ⟨w.heap.size, 2, none⟩ = some (.slice a3 n3 c3) := by rw [cell_of_row _ _ _ _ _ (0, 0) HR2.out]; rfl
  have HZ2 : Hid (w.heap.size < w2.heap.size) := Lib.hid (Array.getElem?_eq_some_iff.1 HR2.out).1
  have nw2 : w.heap.size ≠ w2.heap.size := Nat.ne_of_lt HZ2.out
  have HCY : Hid (∀ X, Below w2.heap.size w2 X → Calls Tryd.prog 7 #[.slice a len cap] X fun e w' => ∃ g, e = .returned (.slice (some ⟨g, 0, none⟩) len (len + 2)) ∧ w'.ownsRow w2.heap.size 5 1 (.slice (some ⟨g, 0, none⟩) (len + 2) (len + 2)) (len + 2) (bvs (l ++ [165, 90])) ∧ Below w2.heap.size w2 w' ∧ Below X.heap.size X w') :=
    Lib.hid (fun X hb => (copy_any a len cap l X (H.out.mono (below_then HB2.out hb)) (by omega)).mono (by
      rintro e w' ⟨g, rfl, h1, h2⟩
      exact ⟨g, rfl, own_base h1 (fun q hq => Nat.le_trans hb.size (h1.lt q hq).1), below_then hb h2, h2⟩))
  have HPC : Hid (∀ X, Below w2.heap.size w2 X → Calls Tryd.prog 13 #[.agg #[.slice a1 n1 c1, .slice a2 n2 c2, .slice a3 n3 c3]] X fun e w' => ∃ g1 g2 g3, e = .returned (.agg #[.slice (some ⟨g1, 0, none⟩) n1 (n1 + 1), .slice (some ⟨g2, 0, none⟩) n2 (n2 + 1), .slice (some ⟨g3, 0, none⟩) n3 (n3 + 1)]) ∧ (∃ w0, Pa.Cp3 w0 w' g1 n1 l1 g2 n2 l2 g3 n3 l3 ∧ X.heap.size ≤ w0.heap.size) ∧ Below w2.heap.size w2 w' ∧ Below X.heap.size X w') := Lib.hid (fun X hb => (prices_any (HP.out.mono (below_then HB2.out hb)) g1 g2 g3).mono (by
      rintro e w' ⟨y1, y2, y3, rfl, h1, h2⟩
      exact ⟨y1, y2, y3, rfl, ⟨X, h1, Nat.le_refl _⟩, below_then hb h2, h2⟩))
  go_wp2_with fail
  go_region_held3 (fun w' => w'.cell? ⟨w.heap.size, 0, none⟩ = some (.slice a1 n1 c1) ∧ w'.cell? ⟨w.heap.size, 1, none⟩ = some (.slice a2 n2 c2) ∧ w'.cell? ⟨w.heap.size, 2, none⟩ = some (.slice a3 n3 c3)) (first | (with_reducible exact S1) | go_keep)
    (first | (go_at_call 7; refine Calls.mono (HCY.out _ (by first | exact Below.drew (Below.refl _ w2) | exact (Below.drew (Below.refl _ w2)).alloc (Nat.le_refl _) _)) ?_; rintro e w3 ⟨gc, rfl, hown3, hb3, hx3⟩; have HOW3 := Lib.hid hown3; have HB3 := Lib.hid hb3; have s0 := (hb3.cell (p := ⟨w.heap.size, 0, none⟩) HZ2.out).trans p0; have s1 := (hb3.cell (p := ⟨w.heap.size, 1, none⟩) HZ2.out).trans p1; have s2 := (hb3.cell (p := ⟨w.heap.size, 2, none⟩) HZ2.out).trans p2; have nw3 : w.heap.size ≠ w3.heap.size := Nat.ne_of_lt (Nat.lt_of_lt_of_le HZ2.out hb3.size); try (have q0 := Lib.hid (row_newd hx3)); clear hb3 hown3 hx3) | (go_at_call 13; refine Calls.mono (HPC.out _ (by first | exact HB3.out | exact below_then HB3.out (below_alloc _ _))) ?_; rintro e w4 ⟨y1, y2, y3, rfl, hcp4, hb4, hx4⟩; have HCP4 := Lib.hid hcp4; have HB4 := Lib.hid hb4; have t0 := (hb4.cell (p := ⟨w.heap.size, 0, none⟩) HZ2.out).trans p0; have t1 := (hb4.cell (p := ⟨w.heap.size, 1, none⟩) HZ2.out).trans p1; have t2 := (hb4.cell (p := ⟨w.heap.size, 2, none⟩) HZ2.out).trans p2; have HOW4 : Hid (w4.ownsRow w2.heap.size 5 1 (.slice (some ⟨gc, 0, none⟩) (len + 2) (len + 2)) (len + 2) (bvs (l ++ [165, 90]))) := Lib.hid (by first | exact own_below HOW3.out hx4 | exact own_below (own_below HOW3.out (below_alloc _ _)) hx4); (first | (have qn := row_new hx4; obtain ⟨v0, v1, v2, u0, u1, u2⟩ := box3 qn; have S1 := keep3 nw3 (.slice (some ⟨y1, 0, none⟩) n1 (n1 + 1)) (.slice (some ⟨y2, 0, none⟩) n2 (n2 + 1)) (.slice (some ⟨y3, 0, none⟩) n3 (n3 + 1)) t0 t1 t2) | (have qn := (hx4.block w2.heap.size (Array.getElem?_eq_some_iff.1 q0.out).1).trans q0.out; obtain ⟨v0, v1, v2, u0, u1, u2⟩ := box3 qn; have S1 := keep3 nw2 (.slice (some ⟨y1, 0, none⟩) n1 (n1 + 1)) (.slice (some ⟨y2, 0, none⟩) n2 (n2 + 1)) (.slice (some ⟨y3, 0, none⟩) n3 (n3 + 1)) t0 t1 t2) | skip); clear hb4 hcp4 hx4))
  have HZ : Hid ((w4.alloc (.cells #[.slice (some ⟨y1, 0, none⟩) n1 (n1 + 1), .slice (some ⟨y2, 0, none⟩) n2 (n2 + 1), .slice (some ⟨y3, 0, none⟩) n3 (n3 + 1)] 38)).ownsRow w.heap.size 5 1 (.slice (some ⟨gc, 0, none⟩) (len + 2) (len + 2)) (len + 2) (bvs (l ++ [165, 90])) ∧ (∃ w0, Pa.Cp3 w0 (w4.alloc (.cells #[.slice (some ⟨y1, 0, none⟩) n1 (n1 + 1), .slice (some ⟨y2, 0, none⟩) n2 (n2 + 1), .slice (some ⟨y3, 0, none⟩) n3 (n3 + 1)] 38)) y1 n1 l1 y2 n2 l2 y3 n3 l3) ∧ (w4.alloc (.cells #[.slice (some ⟨y1, 0, none⟩) n1 (n1 + 1), .slice (some ⟨y2, 0, none⟩) n2 (n2 + 1), .slice (some ⟨y3, 0, none⟩) n3 (n3 + 1)] 38)).heap[w4.heap.size]? = some (.cells #[.slice (some ⟨y1, 0, none⟩) n1 (n1 + 1), .slice (some ⟨y2, 0, none⟩) n2 (n2 + 1), .slice (some ⟨y3, 0, none⟩) n3 (n3 + 1)] 38 (0, 0)) ∧ Below w.heap.size w (w4.alloc (.cells #[.slice (some ⟨y1, 0, none⟩) n1 (n1 + 1), .slice (some ⟨y2, 0, none⟩) n2 (n2 + 1), .slice (some ⟨y3, 0, none⟩) n3 (n3 + 1)] 38)) ∧ (w4.alloc (.cells #[.slice (some ⟨y1, 0, none⟩) n1 (n1 + 1), .slice (some ⟨y2, 0, none⟩) n2 (n2 + 1), .slice (some ⟨y3, 0, none⟩) n3 (n3 + 1)] 38)).heap[w.heap.size]? = some (.cells #[.slice a1 n1 c1, .slice a2 n2 c2, .slice a3 n3 c3] 36 (0, 0))) := Lib.hid (by
    obtain ⟨w0, ⟨o1, o2, o3⟩, _⟩ := HCP4.out
    have ho := own_base (base' := w.heap.size) HOW4.out (fun q hq => Nat.le_trans HB2.out.size (HOW4.out.lt q hq).1)
    have hbw : Below w2.heap.size w2 (w4.alloc (.cells #[.slice (some ⟨y1, 0, none⟩) n1 (n1 + 1), .slice (some ⟨y2, 0, none⟩) n2 (n2 + 1), .slice (some ⟨y3, 0, none⟩) n3 (n3 + 1)] 38)) := below_then HB4.out (below_alloc w4 _)
    exact ⟨own_below ho (below_alloc w4 _), ⟨w0, ⟨own_below o1 (below_alloc w4 _), own_below o2 (below_alloc w4 _), own_below o3 (below_alloc w4 _)⟩⟩, heap_alloc_last w4 _, below_then HB2.out hbw, (hbw.block w.heap.size HZ2.out).trans HR2.out⟩)
  clear HOW3 HOW4 HCP4 HB4 HB3 t0 t1 t2 s0 s1 s2  nw3 nw2 HCY HPC p0 p1 p2
  revert HZ
  generalize (w4.alloc (.cells #[.slice (some ⟨y1, 0, none⟩) n1 (n1 + 1), .slice (some ⟨y2, 0, none⟩) n2 (n2 + 1), .slice (some ⟨y3, 0, none⟩) n3 (n3 + 1)] 38)) = wz
  generalize w4.heap.size = qb
  intro HZ
  rotate_left
  have HZ : Hid ((((w4.setCell ⟨w3.heap.size, 0, none⟩ (.slice (some ⟨y1, 0, none⟩) n1 (n1 + 1))).setCell ⟨w3.heap.size, 1, none⟩ (.slice (some ⟨y2, 0, none⟩) n2 (n2 + 1))).setCell ⟨w3.heap.size, 2, none⟩ (.slice (some ⟨y3, 0, none⟩) n3 (n3 + 1))).ownsRow w.heap.size 5 1 (.slice (some ⟨gc, 0, none⟩) (len + 2) (len + 2)) (len + 2) (bvs (l ++ [165, 90])) ∧ (∃ w0, Pa.Cp3 w0 (((w4.setCell ⟨w3.heap.size, 0, none⟩ (.slice (some ⟨y1, 0, none⟩) n1 (n1 + 1))).setCell ⟨w3.heap.size, 1, none⟩ (.slice (some ⟨y2, 0, none⟩) n2 (n2 + 1))).setCell ⟨w3.heap.size, 2, none⟩ (.slice (some ⟨y3, 0, none⟩) n3 (n3 + 1))) y1 n1 l1 y2 n2 l2 y3 n3 l3) ∧ (((w4.setCell ⟨w3.heap.size, 0, none⟩ (.slice (some ⟨y1, 0, none⟩) n1 (n1 + 1))).setCell ⟨w3.heap.size, 1, none⟩ (.slice (some ⟨y2, 0, none⟩) n2 (n2 + 1))).setCell ⟨w3.heap.size, 2, none⟩ (.slice (some ⟨y3, 0, none⟩) n3 (n3 + 1))).heap[w3.heap.size]? = some (.cells #[.slice (some ⟨y1, 0, none⟩) n1 (n1 + 1), .slice (some ⟨y2, 0, none⟩) n2 (n2 + 1), .slice (some ⟨y3, 0, none⟩) n3 (n3 + 1)] 38 (0, 0)) ∧ Below w.heap.size w (((w4.setCell ⟨w3.heap.size, 0, none⟩ (.slice (some ⟨y1, 0, none⟩) n1 (n1 + 1))).setCell ⟨w3.heap.size, 1, none⟩ (.slice (some ⟨y2, 0, none⟩) n2 (n2 + 1))).setCell ⟨w3.heap.size, 2, none⟩ (.slice (some ⟨y3, 0, none⟩) n3 (n3 + 1))) ∧ (((w4.setCell ⟨w3.heap.size, 0, none⟩ (.slice (some ⟨y1, 0, none⟩) n1 (n1 + 1))).setCell ⟨w3.heap.size, 1, none⟩ (.slice (some ⟨y2, 0, none⟩) n2 (n2 + 1))).setCell ⟨w3.heap.size, 2, none⟩ (.slice (some ⟨y3, 0, none⟩) n3 (n3 + 1))).heap[w.heap.size]? = some (.cells #[.slice a1 n1 c1, .slice a2 n2 c2, .slice a3 n3 c3] 36 (0, 0))) := Lib.hid (by
    obtain ⟨w0, ⟨o1, o2, o3⟩, _⟩ := HCP4.out
    have ho := own_base (base' := w.heap.size) HOW4.out (fun q hq => Nat.le_trans HB2.out.size (HOW4.out.lt q hq).1)
    have hr := qn
    have hbw : Below w2.heap.size w2 (((w4.setCell ⟨w3.heap.size, 0, none⟩ (.slice (some ⟨y1, 0, none⟩) n1 (n1 + 1))).setCell ⟨w3.heap.size, 1, none⟩ (.slice (some ⟨y2, 0, none⟩) n2 (n2 + 1))).setCell ⟨w3.heap.size, 2, none⟩ (.slice (some ⟨y3, 0, none⟩) n3 (n3 + 1))) := ((HB4.out.setCell (p := ⟨w3.heap.size, 0, none⟩) HB3.out.size _).setCell (p := ⟨w3.heap.size, 1, none⟩) HB3.out.size _).setCell (p := ⟨w3.heap.size, 2, none⟩) HB3.out.size _
    exact ⟨own_three ho (own_ne ho hr (by decide)) _ _ _, ⟨w0, ⟨own_three o1 (own_ne o1 hr (by decide)) _ _ _, own_three o2 (own_ne o2 hr (by decide)) _ _ _, own_three o3 (own_ne o3 hr (by decide)) _ _ _⟩⟩, row_three hr _ _ _, below_then HB2.out hbw, (hbw.block w.heap.size HZ2.out).trans HR2.out⟩)
  clear HOW3 HOW4 HCP4 HB4 HB3 t0 t1 t2 s0 s1 s2 v0 v1 v2 u0 u1 u2 qn nw3 nw2 HCY HPC p0 p1 p2
  revert HZ
  generalize (((w4.setCell ⟨w3.heap.size, 0, none⟩ (.slice (some ⟨y1, 0, none⟩) n1 (n1 + 1))).setCell ⟨w3.heap.size, 1, none⟩ (.slice (some ⟨y2, 0, none⟩) n2 (n2 + 1))).setCell ⟨w3.heap.size, 2, none⟩ (.slice (some ⟨y3, 0, none⟩) n3 (n3 + 1))) = wz
  generalize w3.heap.size = qb
  intro HZ
  rotate_left
  have HZ : Hid ((((w4.setCell ⟨w2.heap.size, 0, none⟩ (.slice (some ⟨y1, 0, none⟩) n1 (n1 + 1))).setCell ⟨w2.heap.size, 1, none⟩ (.slice (some ⟨y2, 0, none⟩) n2 (n2 + 1))).setCell ⟨w2.heap.size, 2, none⟩ (.slice (some ⟨y3, 0, none⟩) n3 (n3 + 1))).ownsRow w.heap.size 5 1 (.slice (some ⟨gc, 0, none⟩) (len + 2) (len + 2)) (len + 2) (bvs (l ++ [165, 90])) ∧ (∃ w0, Pa.Cp3 w0 (((w4.setCell ⟨w2.heap.size, 0, none⟩ (.slice (some ⟨y1, 0, none⟩) n1 (n1 + 1))).setCell ⟨w2.heap.size, 1, none⟩ (.slice (some ⟨y2, 0, none⟩) n2 (n2 + 1))).setCell ⟨w2.heap.size, 2, none⟩ (.slice (some ⟨y3, 0, none⟩) n3 (n3 + 1))) y1 n1 l1 y2 n2 l2 y3 n3 l3) ∧ (((w4.setCell ⟨w2.heap.size, 0, none⟩ (.slice (some ⟨y1, 0, none⟩) n1 (n1 + 1))).setCell ⟨w2.heap.size, 1, none⟩ (.slice (some ⟨y2, 0, none⟩) n2 (n2 + 1))).setCell ⟨w2.heap.size, 2, none⟩ (.slice (some ⟨y3, 0, none⟩) n3 (n3 + 1))).heap[w2.heap.size]? = some (.cells #[.slice (some ⟨y1, 0, none⟩) n1 (n1 + 1), .slice (some ⟨y2, 0, none⟩) n2 (n2 + 1), .slice (some ⟨y3, 0, none⟩) n3 (n3 + 1)] 38 (0, 0)) ∧ Below w.heap.size w (((w4.setCell ⟨w2.heap.size, 0, none⟩ (.slice (some ⟨y1, 0, none⟩) n1 (n1 + 1))).setCell ⟨w2.heap.size, 1, none⟩ (.slice (some ⟨y2, 0, none⟩) n2 (n2 + 1))).setCell ⟨w2.heap.size, 2, none⟩ (.slice (some ⟨y3, 0, none⟩) n3 (n3 + 1))) ∧ (((w4.setCell ⟨w2.heap.size, 0, none⟩ (.slice (some ⟨y1, 0, none⟩) n1 (n1 + 1))).setCell ⟨w2.heap.size, 1, none⟩ (.slice (some ⟨y2, 0, none⟩) n2 (n2 + 1))).setCell ⟨w2.heap.size, 2, none⟩ (.slice (some ⟨y3, 0, none⟩) n3 (n3 + 1))).heap[w.heap.size]? = some (.cells #[.slice a1 n1 c1, .slice a2 n2 c2, .slice a3 n3 c3] 36 (0, 0))) := Lib.hid (by
    obtain ⟨w0, ⟨o1, o2, o3⟩, _⟩ := HCP4.out
    have ho := own_base (base' := w.heap.size) HOW4.out (fun q hq => Nat.le_trans HB2.out.size (HOW4.out.lt q hq).1)
    have hr := qn
    have hbw : Below w2.heap.size w2 (((w4.setCell ⟨w2.heap.size, 0, none⟩ (.slice (some ⟨y1, 0, none⟩) n1 (n1 + 1))).setCell ⟨w2.heap.size, 1, none⟩ (.slice (some ⟨y2, 0, none⟩) n2 (n2 + 1))).setCell ⟨w2.heap.size, 2, none⟩ (.slice (some ⟨y3, 0, none⟩) n3 (n3 + 1))) := ((HB4.out.setCell (p := ⟨w2.heap.size, 0, none⟩) (Nat.le_refl _) _).setCell (p := ⟨w2.heap.size, 1, none⟩) (Nat.le_refl _) _).setCell (p := ⟨w2.heap.size, 2, none⟩) (Nat.le_refl _) _
    exact ⟨own_three ho (own_ne ho hr (by decide)) _ _ _, ⟨w0, ⟨own_three o1 (own_ne o1 hr (by decide)) _ _ _, own_three o2 (own_ne o2 hr (by decide)) _ _ _, own_three o3 (own_ne o3 hr (by decide)) _ _ _⟩⟩, row_three hr _ _ _, below_then HB2.out hbw, (hbw.block w.heap.size HZ2.out).trans HR2.out⟩)
  clear HOW3 HOW4 HCP4 HB4 HB3 t0 t1 t2 s0 s1 s2 v0 v1 v2 u0 u1 u2 qn nw3 nw2 HCY HPC p0 p1 p2
  revert HZ
  generalize (((w4.setCell ⟨w2.heap.size, 0, none⟩ (.slice (some ⟨y1, 0, none⟩) n1 (n1 + 1))).setCell ⟨w2.heap.size, 1, none⟩ (.slice (some ⟨y2, 0, none⟩) n2 (n2 + 1))).setCell ⟨w2.heap.size, 2, none⟩ (.slice (some ⟨y3, 0, none⟩) n3 (n3 + 1))) = wz
  generalize w2.heap.size = qb
  intro HZ
  rotate_left
  all_goals
    obtain ⟨w0, hcpz⟩ := HZ.out.2.1
    have HCPZ := Lib.hid hcpz
    have HPQ := Lib.hid (Pa.pr_of_cp hcpz HP.out.h1.wf HP.out.h2.wf HP.out.h3.wf g1 g2 g3)
    have HBC : Hid (Bs wz (some ⟨gc, 0, none⟩) len (len + 2) l) := Lib.hid (by
      have := bs_of_own HZ.out.1 (by omega) len (by omega)
      have e : (l ++ [165, 90]).take len = l := by rw [← H.out.hlen]; simp
      rwa [e] at this)
    have HBW := Lib.hid HZ.out.2.2.2.1
    have hdbz := HDB.out wz HBW.out
    have HCHP := Lib.hid (cheapest_any _ len (len + 2) l HBC.out (by omega) HPQ.out hdbz.1 hdbz.2)
    have q0 : wz.cell? ⟨qb, 0, none⟩ = some (.slice (some ⟨y1, 0, none⟩) n1 (n1 + 1)) := by rw [cell_of_row _ _ _ _ _ (0, 0) HZ.out.2.2.1]; rfl
    have q1 : wz.cell? ⟨qb, 1, none⟩ = some (.slice (some ⟨y2, 0, none⟩) n2 (n2 + 1)) := by rw [cell_of_row _ _ _ _ _ (0, 0) HZ.out.2.2.1]; rfl
    have q2 : wz.cell? ⟨qb, 2, none⟩ = some (.slice (some ⟨y3, 0, none⟩) n3 (n3 + 1)) := by rw [cell_of_row _ _ _ _ _ (0, 0) HZ.out.2.2.1]; rfl
    have HRZ := Lib.hid HZ.out.2.2.2.2
    clear hcpz hdbz
    go_wp2_with fail
    refine HCHP.out.mono ?_
    rintro e w5 hch
    have hcv : ∃ tv er, e = .returned (.tuple #[tv, er]) ∧ Below wz.heap.size wz w5 ∧ ((Pa.good l1 l2 l3 = false ∧ tv = .slice none 0 0 ∧ er = .iface 43 (.int .i64 6)) ∨ (Pa.good l1 l2 l3 = true ∧ er = .nilIface ∧ ∃ K Rs C T ta tc, tv = .slice ta K tc ∧ Recs l len len Rs ∧ Pz.Dn (Pa.pr l1 l2 l3) (gb l) len (fun p => ra Rs (p : Int)) 0 C T ∧ Ts2 w5 ta K tc (Pz.toks (fun p => T.getD p (0, 0)) K) ∧ Pz.pos (fun p => T.getD p (0, 0)) K = len ∧ (∀ j, j < K → Pz.pos (fun p => T.getD p (0, 0)) j < len))) := by
      rcases hch with ⟨h1, rfl, h2⟩ | ⟨h1, v5, K, Rs, C, T, rfl, h3, h4, h5, h6, h7, h8⟩
      · exact ⟨_, _, rfl, h2, .inl ⟨h1, rfl, rfl⟩⟩
      · have htx := Pz.txt_of h3
        obtain ⟨ta, tc, rfl, h9⟩ := toks_own h5 (fun p hp => Pz.Cho.tok htx hp (h4.cho p (Nat.zero_le _) hp)) h7
        exact ⟨_, _, rfl, h8, .inr ⟨h1, rfl, K, Rs, C, T, ta, tc, rfl, h3, h4, h9, h6, h7⟩⟩
    obtain ⟨tv, er, rfl, hb5, hcv⟩ := hcv
    have HCV := Lib.hid hcv
    have HB5 := Lib.hid (below_then HBW.out hb5)
    have HKP := Lib.hid (kept_any gc len a cap l w5 _ (by omega) (own_below HZ.out.1 hb5) (H.out.mono HB5.out))
    have HQ5 := Lib.hid ((hb5.block qb (Array.getElem?_eq_some_iff.1 HZ.out.2.2.1).1).trans HZ.out.2.2.1)
    have HR5 := Lib.hid ((hb5.block w.heap.size (Array.getElem?_eq_some_iff.1 HRZ.out).1).trans HRZ.out)
    have HCP5 := Lib.hid (HCPZ.out.mono hb5)
    clear hch hcv hb5 q0 q1 q2 HCHP HBC HPQ HCPZ HZ HRZ HBW
    have q0 : w5.cell? ⟨qb, 0, none⟩ = some (.slice (some ⟨y1, 0, none⟩) n1 (n1 + 1)) := by rw [cell_of_row _ _ _ _ _ (0, 0) HQ5.out]; rfl
    have q1 : w5.cell? ⟨qb, 1, none⟩ = some (.slice (some ⟨y2, 0, none⟩) n2 (n2 + 1)) := by rw [cell_of_row _ _ _ _ _ (0, 0) HQ5.out]; rfl
    have q2 : w5.cell? ⟨qb, 2, none⟩ = some (.slice (some ⟨y3, 0, none⟩) n3 (n3 + 1)) := by rw [cell_of_row _ _ _ _ _ (0, 0) HQ5.out]; rfl
    have p0 : w5.cell? ⟨w.heap.size, 0, none⟩ = some (.slice a1 n1 c1) := by rw [cell_of_row _ _ _ _ _ (0, 0) HR5.out]; rfl
    have p1 : w5.cell? ⟨w.heap.size, 1, none⟩ = some (.slice a2 n2 c2) := by rw [cell_of_row _ _ _ _ _ (0, 0) HR5.out]; rfl
    have p2 : w5.cell? ⟨w.heap.size, 2, none⟩ = some (.slice a3 n3 c3) := by rw [cell_of_row _ _ _ _ _ (0, 0) HR5.out]; rfl
    go_wp2_with fail
    refine HKP.out.mono ?_
    rintro e w6 ⟨rfl, rfl⟩
    have HKQ := Lib.hid (keptP_any HCP5.out (HP.out.mono HB5.out) g1 g2 g3)
    clear HKP
    go_wp2_with fail
    refine HKQ.out.mono ?_
    rintro e w7 ⟨rfl, hb7⟩
    have HB7 := Lib.hid (below_then HB5.out hb7)
    have HR7 := Lib.hid ((hb7.block w.heap.size (Array.getElem?_eq_some_iff.1 HR5.out).1).trans HR5.out)
    have HCV7 : Hid ((Pa.good l1 l2 l3 = false ∧ tv = .slice none 0 0 ∧ er = .iface 43 (.int .i64 6)) ∨ (Pa.good l1 l2 l3 = true ∧ er = .nilIface ∧ ∃ K Rs C T ta tc, tv = .slice ta K tc ∧ Recs l len len Rs ∧ Pz.Dn (Pa.pr l1 l2 l3) (gb l) len (fun p => ra Rs (p : Int)) 0 C T ∧ Ts2 w7 ta K tc (Pz.toks (fun p => T.getD p (0, 0)) K) ∧ Pz.pos (fun p => T.getD p (0, 0)) K = len ∧ (∀ j, j < K → Pz.pos (fun p => T.getD p (0, 0)) j < len))) := Lib.hid (by
      rcases HCV.out with h | ⟨h1, h2, K, Rs, C, T, ta, tc, h3, h4, h5, h6, h7, h8⟩
      · exact .inl h
      · exact .inr ⟨h1, h2, K, Rs, C, T, ta, tc, h3, h4, h5, h6.mono hb7, h7, h8⟩)
    clear hb7 HCV HKQ HCP5 HQ5 HR5 q0 q1 q2 p0 p1 p2
    have p0 : w7.cell? ⟨w.heap.size, 0, none⟩ = some (.slice a1 n1 c1) := by rw [cell_of_row _ _ _ _ _ (0, 0) HR7.out]; rfl
    have p1 : w7.cell? ⟨w.heap.size, 1, none⟩ = some (.slice a2 n2 c2) := by rw [cell_of_row _ _ _ _ _ (0, 0) HR7.out]; rfl
    have p2 : w7.cell? ⟨w.heap.size, 2, none⟩ = some (.slice a3 n3 c3) := by rw [cell_of_row _ _ _ _ _ (0, 0) HR7.out]; rfl
    have HGO := Lib.hid (refGood_any (HP.out.mono HB7.out))
    go_wp2_with fail
    refine HGO.out.mono ?_
    rintro e w8 ⟨rfl, hb8⟩
    have HB8 := Lib.hid (below_then HB7.out hb8)
    have HR8 := Lib.hid ((hb8.block w.heap.size (Array.getElem?_eq_some_iff.1 HR7.out).1).trans HR7.out)
    have HBB8 := Lib.hid hb8
    clear hb8 HGO p0 p1 p2
    rcases HCV7.out with ⟨hgf, rfl, rfl⟩ | ⟨hgt, rfl, K, Rs, C, T, ta, tc, rfl, hrc, hdn, hts, hK, hJ⟩
    · rw [hgf]
      clear hgf HCV7
      go_wp2_with fail
      refine (is_yes 6 rfl w8).mono ?_
      rintro e w' ⟨rfl, rfl⟩
      go_wp2
      go_ret
      exact ⟨rfl, HB8.out⟩
    · have htx := Pz.txt_of hrc
      have HTX := Lib.hid htx
      have HDN := Lib.hid hdn
      have HKJ := Lib.hid (And.intro hK hJ)
      have hkl : K ≤ len := by have := Pz.pos_ge (fun p => T.getD p (0, 0)) K; omega
      have HTS := Lib.hid (hts.mono HBB8.out)
      have HG := Lib.hid hgt
      have HGD := Lib.hid (Pa.good_parts hgt)
      have HRC := Lib.hid hrc
      have HPS := Lib.hid (parses_any a len cap l Rs (fun p => T.getD p (0, 0)) ta K tc w8 (H.out.mono HB8.out) (by omega) hrc HTS.out (fun p hp => hdn.cho p (Nat.zero_le _) hp) hK hJ)
      rw [hgt]
      clear hgt HCV7 htx hdn hK hJ hts hrc HBB8
      go_wp2_with fail
      refine HPS.out.mono ?_
      rintro e w9 ⟨rfl, hb9⟩
      have HB9 := Lib.hid (below_then HB8.out hb9)
      have HR9 := Lib.hid ((hb9.block w.heap.size (Array.getElem?_eq_some_iff.1 HR8.out).1).trans HR8.out)
      have HTS9 := Lib.hid (HTS.out.mono hb9)
      have HTL : Hid (∀ k, k < K → Tk.isTok ((Pz.toks (fun p => T.getD p (0, 0)) K).getD k (0, 0)) = true) := Lib.hid (fun k hk => by
        rw [Pz.toks_getD _ hk]
        exact Pz.Cho.tok HTX.out (HKJ.out.2 k hk) (HDN.out.cho _ (Nat.zero_le _) (HKJ.out.2 k hk)))
      have HSUM : Hid (Pa.sm l1 l2 l3 (Pz.toks (fun p => T.getD p (0, 0)) K) K = C.getD 0 0) := Lib.hid (by
        have := Pz.cost_eq (l1 := l1) (l2 := l2) (l3 := l3) (C := fun p => C.getD p 0) (F := fun p => T.getD p (0, 0)) (N := len) (fun p hp => HDN.out.eq p (Nat.zero_le _) hp) K HKJ.out.2
        have hfin : C.getD len 0 = 0 := HDN.out.fin
        rw [HKJ.out.1] at this
        simp only [hfin] at this
        omega)
      clear hb9 HPS HTS HR8 HB8 HR7 HB7
      generalize Pz.toks (fun p => T.getD p (0, 0)) K = ts at *
      go_wp2
      go_loopw [9, 61] (fun sv i wr => ∃ k : Nat, k ≤ K ∧ i = .int .i64 ((k : Nat) : Int) ∧ sv = .int .i64 (Pa.sm l1 l2 l3 ts k) ∧ Hid (Below w9.heap.size w9 wr)) (fun _ i _ => K - (intOf i).toNat)
      case atStart => exact ⟨0, by omega, rfl, rfl, Lib.hid (Below.refl _ _)⟩
      case round =>
        obtain ⟨k, hk, rfl, rfl, HBR⟩ := hrel
        have hsm := Pa.sm_in HGD.out.1 HGD.out.2.1 HGD.out.2.2.1 ts k
        by_cases hlt : k < K
        · obtain ⟨b, off, rfl, hbl, t0, t1⟩ := (HTS9.out.mono HBR.out).at' k hlt
          have hpr := Pa.pr_in HGD.out.1 HGD.out.2.1 HGD.out.2.2.1 (ts.getD k (0, 0))
          have HSM : Hid (Pa.sm l1 l2 l3 ts (k + 1) = Pa.sm l1 l2 l3 ts k + Pa.pr l1 l2 l3 (ts.getD k (0, 0))) := Lib.hid rfl
          have htk := HTL.out k hlt
          generalize ts.getD k (0, 0) = t at *
          obtain ⟨x, y⟩ := t
          simp only at t0 t1
          have hb5 := below_alloc wr (.cells #[.int .i64 x, .int .i64 y] 46)
          have HB5x := Lib.hid (below_then HBR.out hb5)
          have hrp := (HB5x.out.block w.heap.size (Array.getElem?_eq_some_iff.1 HR9.out).1).trans HR9.out
          have p0 : (wr.alloc (.cells #[.int .i64 x, .int .i64 y] 46)).cell? ⟨w.heap.size, 0, none⟩ = some (.slice a1 n1 c1) := by rw [cell_of_row _ _ _ _ _ (0, 0) hrp]; rfl
          have p1 : (wr.alloc (.cells #[.int .i64 x, .int .i64 y] 46)).cell? ⟨w.heap.size, 1, none⟩ = some (.slice a2 n2 c2) := by rw [cell_of_row _ _ _ _ _ (0, 0) hrp]; rfl
          have p2 : (wr.alloc (.cells #[.int .i64 x, .int .i64 y] 46)).cell? ⟨w.heap.size, 2, none⟩ = some (.slice a3 n3 c3) := by rw [cell_of_row _ _ _ _ _ (0, 0) hrp]; rfl
          have HS := Lib.hid (refPrice_any x y htk HG.out ((HP.out.mono HB9.out).mono HB5x.out))
          clear hb5 hbl hrp htk
          generalize Pa.pr l1 l2 l3 (x, y) = z at *
          generalize Pa.sm l1 l2 l3 ts k = S at *
          go_wp2_with fail
          refine HS.out.mono ?_
          rintro e wB ⟨rfl, hbB⟩
          have HB6 := Lib.hid (below_then HB5x.out hbB)
          clear hbB HS p0 p1 p2
          go_wp2
          go_roundw
          case rel => exact ⟨k + 1, by omega, by go_num, by rw [HSM.out], HB6⟩
          case measure => simp [intOf]; omega
        · obtain rfl : k = K := by omega
          have hrp := (HBR.out.block w.heap.size (Array.getElem?_eq_some_iff.1 HR9.out).1).trans HR9.out
          have p0 : wr.cell? ⟨w.heap.size, 0, none⟩ = some (.slice a1 n1 c1) := by rw [cell_of_row _ _ _ _ _ (0, 0) hrp]; rfl
          have p1 : wr.cell? ⟨w.heap.size, 1, none⟩ = some (.slice a2 n2 c2) := by rw [cell_of_row _ _ _ _ _ (0, 0) hrp]; rfl
          have p2 : wr.cell? ⟨w.heap.size, 2, none⟩ = some (.slice a3 n3 c3) := by rw [cell_of_row _ _ _ _ _ (0, 0) hrp]; rfl
          have HBX := Lib.hid (below_then HB9.out HBR.out)
          have HLS := Lib.hid (least_any a len cap l Rs (H.out.mono HBX.out) (by omega) HRC.out (HP.out.mono HBX.out) HG.out)
          have hsx := HSUM.out
          generalize Pa.sm l1 l2 l3 ts k = S at *
          have HSX := Lib.hid hsx
          clear hrp hsx
          go_wp2_with fail
          refine HLS.out.mono ?_
          rintro e wL ⟨⟨C', hls, rfl⟩, hbL⟩
          have heq : C.getD 0 0 = C'.getD 0 0 := Pz.Least.one HTX.out HDN.out.least hls.least len 0 (Nat.le_refl _) (by omega)
          have HE := Lib.hid (HSX.out.trans heq)
          have HBL := Lib.hid (below_then HBX.out hbL)
          clear hls heq hbL HLS p0 p1 p2
          generalize C'.getD 0 0 = c' at *
          go_wp2
          go_ret
          exact ⟨by simp [HE.out], HBL.out⟩
set_option maxRecDepth 100000 in
theorem lifted (os : Os) (started : os.Started) (H : Type) (enc : TypeId × Value → H) :
    ReturnsInHanded {} Tryd.checked os 4 .any (fun w args => (Rows.parseCheapestSpec.pre enc Tryd.prog Tryd.f4 Rows.parseCheapestRow.domain false w args ∧ laidMetH Tryd.prog [("math/bits.deBruijn64tab", Rows.laid_math_bits_deBruijn64tab)] w) ∧ sizedMet enc Tryd.prog Tryd.f4 (OpenSpec.ofChange Rows.parseCheapestSpec) false w args)
      (Rows.parseCheapestSpec.post enc Tryd.prog Tryd.f4 false true false false) := by
  refine returnsInHanded_of_change_and (C := Tryd.checked) (X := fun w _ => laidMetH Tryd.prog [("math/bits.deBruijn64tab", Rows.laid_math_bits_deBruijn64tab)] w) (fun _ _ _ hh h => h.of_heap hh) own started (by kernel_rfl) Tryd.func4
    (ChangeSpec.witness_shaped (enc := enc) (C := Tryd.checked) (os := os) (X := fun w _ => laidMetH Tryd.prog [("math/bits.deBruijn64tab", Rows.laid_math_bits_deBruijn64tab)] w) false (World.laidAll Tryd.prog os [("math/bits.deBruijn64tab", Rows.laid_math_bits_deBruijn64tab)]) #[.slice none 0 0, .agg #[.slice none 0 0, .slice none 0 0, .slice none 0 0]] 8 (World.laidAll_os _ _ _)
      (World.shaped_of_ZipB (by kernel_rfl) (by kernel_rfl)) (by kernel_rfl) (by kernel_rfl) (by kernel_rfl)
      (by rw [MakeChecks.laidMetH_plain _ _ _ (by kernel_rfl)]; exact laidMet_laidAll _ (by kernel_rfl) (by kernel_rfl))) ?_
  intro W base args ds gs before hval0 hW _ hsz0 hL _
  have hval : ∀ (j : Nat) t v, Tryd.f4.params[j]? = some t → args[j]? = some v → Value.okWide Tryd.prog W .any base t v := hval0
  have hsz : (DataW.weightsEach Tryd.prog (Tryd.f4.params.toList ++ Rows.parseCheapestSpec.plain.varTypes Tryd.prog) (ds ++ gs)).all (· ≤ reachBytes) = true := hsz0
  have hW' := hW
  obtain ⟨p, q, hA0, hV, rfl, hfz, hnd⟩ := hW
  have hA : DataW.TrodAll enc Tryd.prog W 0 (fun _ => true) true Tryd.f4.params.toList args.toList ds p := hA0
  rw [Tryd.params4] at hA hval hsz
  obtain ⟨v0, vs0, d0, ds0, p0, q0, hargs, rfl, rfl, h0, r0⟩ := trodAll_cons hA
  obtain ⟨v1, vs1, d1, ds1, p1, q1, rfl, rfl, rfl, h1, r1⟩ := trodAll_cons r0
  obtain ⟨rfl, rfl, rfl⟩ := trodAll_nil r1
  obtain rfl : args = #[v0, v1] := by cases args; simp_all
  obtain ⟨rfl, rfl⟩ := trodVars_none hV
  clear hsz0
  obtain ⟨a0, len0, cap0, rfl⟩ := okWide_slice Tryd.underlying22 (hval 0 22 v0 rfl rfl)
  have k0 := h0
  have lt0 : ∀ x ∈ p0, x.block < W.heap.size := by obtain ⟨m, hm⟩ := k0; exact DataW.trod_lt m _ _ _ hm
  obtain ⟨l0, w0, c0⟩ := open_bs Tryd.underlying22 Tryd.underlying5 (by kernel_rfl) (by kernel_rfl) h0 hsz 0 rfl rfl
  have k1 := h1
  have lt1 : ∀ x ∈ p1, x.block < W.heap.size := by obtain ⟨m, hm⟩ := k1; exact DataW.trod_lt m _ _ _ hm
  obtain ⟨a1, len1, cap1, l1, b1, blen1, bcap1, m1, g1, glen1, gcap1, q1, rfl, w1, c1, x1, y1, z1, s1⟩ := open_pr3 Tryd.underlying36 (by kernel_rfl) Tryd.underlying34 Tryd.underlying3 (by kernel_rfl) (by kernel_rfl) Tryd.underlying34 Tryd.underlying3 (by kernel_rfl) (by kernel_rfl) Tryd.underlying34 Tryd.underlying3 (by kernel_rfl) (by kernel_rfl) (by kernel_rfl) (by kernel_rfl) (by kernel_rfl) rfl rfl rfl (hval 1 36 v1 rfl rfl) h1 hsz 1 rfl rfl
  clear hA0 hval0 hsz
  refine (walk a0 len0 cap0 l0 a1 len1 cap1 l1 b1 blen1 bcap1 m1 g1 glen1 gcap1 q1 W w0 c0 w1 c1 x1 y1 z1 s1 hL).mono fun e W' ⟨he, bel⟩ => ?_
  subst he
  exact ⟨_, rfl, _, _, _, [], _, [], hW', trodAll_mk1 (shut_bool Tryd.underlying4 _), (trodAll_cons_mk (Below.trod laidOut (by kernel_rfl) (of_decide_eq_true (by kernel_rfl)) k0 bel lt0) (trodAll_cons_mk (Below.trod laidOut (by kernel_rfl) (of_decide_eq_true (by kernel_rfl)) k1 bel lt1) trodAll_mk0)), rfl, bel.frame _, fun h => by cases h⟩

theorem proved : Rows.ParseCheapestSaid :=
  OpenClaim.holds_of_wide 4 Tryd.f4 rfl rfl rfl rfl rfl rfl rfl ⟨rfl, rfl, rfl, rfl, rfl⟩ rfl rfl rfl rfl rfl (by kernel_rfl) Tryd.func4 (by kernel_rfl)
    (of_decide_eq_true (by kernel_rfl)) (by unfold Func.isWrapper; first | (rw [if_pos (by decide +kernel)]; kernel_rfl) | (rw [if_neg (by decide +kernel)]; exact ⟨rfl, rfl⟩))
    (fun os started H enc _ => lifted os started H enc)
theorem card : Rows.ParseCheapestCardSaid :=
  Claim7.holds_tied_plain_at .later [] [.data] true (true, "b60a876480dfcbdad663fbe850670d4a1a6d5e66d8b82965952b64b2b6ab7e45") true proved (fun _ h => by cases h) (by kernel_rfl) (fun _ h => by cases h) parseCheapest_row_tie rfl ⟨rfl, rfl⟩ (by kernel_rfl) rfl
    (fun f fn hf hfn => by
      obtain rfl : f = 4 := Option.some.inj ((show Tryd.prog.funcNamed "burnish/burnishlaw09.ParseCheapest" = some 4 by kernel_rfl).symm.trans hf) |>.symm
      obtain rfl : fn = Tryd.f4 := (Option.some.inj (Tryd.func4.symm.trans hfn)).symm
      exact ⟨by kernel_rfl, fun j t ht => by
        rw [Tryd.params4] at ht
        have hm : t ∈ [22, 36] := by simpa using Array.mem_of_getElem? ht
        have hall : ([22, 36].all fun u => !Tryd.prog.wantsStandIn u) = true := by kernel_rfl
        exact (show Tryd.prog.wantsStandIn t = false by simpa using List.all_eq_true.1 hall t hm)⟩)
    (by kernel_rfl)
#print axioms proved
#print axioms card
end Go.Proofs.YtdojhglpiejfjaaDoor.ParseCheapest
