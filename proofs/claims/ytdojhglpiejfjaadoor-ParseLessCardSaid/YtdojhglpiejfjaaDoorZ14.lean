/- burnishnum.Ints, CopyInts, KeptInts: their contracts. The law's prices: copies. Prices of the call's own, as prices in memory. parse.Prices.choose's own function, which takes a token where it costs no more: its contract. A range over an iterator that keeps boxes of its own: its contract, and the caller's law. -/
import Derived.Test.YtdojhglpiejfjaaDoorZ13
import Derived.Deep.QuietTactic
import Derived.BigQuiet
import Derived.Deep.RegionHeld3
set_option linter.unusedSimpArgs false
set_option linter.unusedVariables false
section
namespace Go.Proofs.YtdojhglpiejfjaaDoor
open Go.RowKit

theorem ints_any (a b : Option Addr) (len cap len' cap' : Nat) (l m : List Int) (w : World) (h : Is .i64 w a len cap l) (h' : Is .i64 w b len' cap' m) (hr : len ≤ 140737488355328) (hr' : len' ≤ 140737488355328) :
    Calls Tryd.prog 49 #[.slice a len cap, .slice b len' cap'] w fun e w' => e = .returned (.bool (decide (l = m))) ∧ ∃ n, w' = w.drewN n := by
  have HL := Lib.hid h.hlen
  have HL' := Lib.hid h'.hlen
  have H := Lib.hid h
  have H' := Lib.hid h'
  clear h h'
  by_cases hne : len = len'
  · subst hne
    go_enter Tryd.func49, Tryd.ntmps49
    go_wp2
    go_loopw [13] (fun i wr => ∃ k : Nat, k ≤ len ∧ i = .int .i64 k ∧ (∃ n, wr = w.drewN n) ∧ Hid (l.take k = m.take k)) (fun i _ => len - (intOf i).toNat)
    case atStart => exact ⟨0, by omega, rfl, ⟨0, rfl⟩, Lib.hid (by simp)⟩
    case round =>
      obtain ⟨k, hk, rfl, ⟨dn, rfl⟩, HT⟩ := hrel
      by_cases hlt : k < len
      · obtain ⟨b1, off1, rfl, _, c1⟩ := H.out.at' k hlt
        obtain ⟨b2, off2, rfl, _, c2⟩ := H'.out.at' k hlt
        have hkl : k < l.length := by rw [HL.out]; exact hlt
        have hkm : k < m.length := by rw [HL'.out]; exact hlt
        have t1 : l.take (k + 1) = l.take k ++ [l.getD k 0] := by rw [List.take_succ_eq_append_getElem hkl]; simp [List.getD, List.getElem?_eq_getElem hkl]
        have t2 : m.take (k + 1) = m.take k ++ [m.getD k 0] := by rw [List.take_succ_eq_append_getElem hkm]; simp [List.getD, List.getElem?_eq_getElem hkm]
        have T1 := Lib.hid t1
        have T2 := Lib.hid t2
        have HLM := Lib.hid (show l = m → l.getD k 0 = m.getD k 0 from fun e => by rw [e])
        clear t1 t2 hkl hkm
        generalize l.getD k 0 = x at *
        generalize m.getD k 0 = y at *
        by_cases hxy : x = y
        · subst hxy
          go_wp2
          go_quiet (fail)
          go_wp2
          go_roundw
          case rel => exact ⟨k + 1, by omega, by go_num, ⟨_, rfl⟩, Lib.hid (by rw [T1.out, T2.out, HT.out])⟩
          case measure => simp [intOf]; omega
        · have dxy : (x != y) = true := by simpa using hxy
          have HF := Lib.hid (show decide (l = m) = false from decide_eq_false (fun e => hxy (HLM.out e)))
          clear hxy
          go_wp2
          go_quiet (fail)
          go_wp2
          go_ret
          exact ⟨by rw [HF.out]; rfl, _, drewN_two _ _ _⟩
      · obtain rfl : len = k := by omega
        have HF := Lib.hid (show decide (l = m) = true from decide_eq_true (by have := HT.out; rwa [List.take_of_length_le (by rw [HL.out]; exact Nat.le_refl _), List.take_of_length_le (by rw [HL'.out]; exact Nat.le_refl _)] at this))
        go_wp2
        go_ret
        exact ⟨by rw [HF.out]; rfl, _, rfl⟩
  · have dne : (len != len') = true := by simpa using hne
    have HF := Lib.hid (show decide (l = m) = false from decide_eq_false (fun e => hne (by rw [← HL.out, ← HL'.out, e])))
    have dni : ((len : Int) != (len' : Int)) = true := by simp; omega
    clear hne
    go_enter Tryd.func49, Tryd.ntmps49
    go_wp2
    go_ret
    exact ⟨by rw [HF.out]; rfl, 0, rfl⟩
def CopyIPost (w : World) (len : Nat) (l : List Int) (e : Ending) (w' : World) : Prop :=
  ∃ g, e = .returned (.slice (some ⟨g, 0, none⟩) len (len + 1)) ∧ w'.ownsRow w.heap.size 3 1 (.slice (some ⟨g, 0, none⟩) (len + 1) (len + 1)) (len + 1) (ivs (l ++ [-77])) ∧ Below w.heap.size w w'
set_option maxHeartbeats 400000 in
theorem copyI_any (a : Option Addr) (len cap : Nat) (l : List Int) (w : World) (h : Is .i64 w a len cap l) (hr : len * 8 ≤ 140737488351232) :
    Calls Tryd.prog 29 #[.slice a len cap] w (CopyIPost w len l) := by
  have HL := Lib.hid h.hlen
  go_enter Tryd.func29, Tryd.ntmps29
  go_wp2_with (at_make; refine wpl_make tyI rfl _ _ rfl w.heap.size .i64 .i64 _ (len + 1) rfl rfl (by omega) (by omega) (by omega) (Nat.le_refl _) ?_)
  intro w1 hown1 hg1
  have hb1 : Below w.heap.size w w1 := (Below.refl _ _).grown hg1 (Nat.le_refl _) (by simp)
  have hz1 := hb1.size
  have hs1 := (h.mono hb1).src
  go_wp2_with (at_builtin; refine wpl_fits tyI rfl _ _ rfl hown1 hs1 rfl rfl (by omega) ?_)
  intro w2 hown2 hg2
  have hb2 : Below w.heap.size w w2 := hb1.grown hg2 hz1 (by simp)
  have hz2 := hb2.size
  have hs2 : SrcRow (w2.alloc (.cells #[Value.int .i64 (-77)] 3)) (some ⟨w2.heap.size, 0, none⟩) 1 1 (ivs [-77]) 1 := src_int w2 (-77)
  go_wp2_with (at_builtin; refine wpl_fits tyI rfl _ _ rfl (hown2.alloc _) hs2 rfl rfl (by omega) ?_)
  intro w3 hown3 hg3
  have hb3 : Below w.heap.size w w3 := (hb2.alloc hz2 _).grown hg3 (by simp; omega) (by simp)
  rw [← ivs_append] at hown3
  clear hg1 hg2 hg3 hown1 hown2 hs1 hs2
  go_wp2
  go_ret
  exact ⟨_, rfl, hown3, hb3⟩
theorem wf_mark {l : List Int} (h : Wf l) : Wf (l ++ [-77]) := by
  intro n hn
  rcases List.mem_append.1 hn with h1 | h1
  · exact h n h1
  · simp only [List.mem_singleton] at h1
    subst h1; rfl
theorem keptI_any (g len : Nat) (a : Option Addr) (cap : Nat) (l : List Int) (w : World) (base : Nat) (hr : len * 8 ≤ 140737488351232) (hw : Wf l)
    (hown : w.ownsRow base 3 1 (.slice (some ⟨g, 0, none⟩) (len + 1) (len + 1)) (len + 1) (ivs (l ++ [-77]))) (h : Is .i64 w a len cap l) :
    Calls Tryd.prog 33 #[.slice (some ⟨g, 0, none⟩) len (len + 1), .slice a len cap] w fun e w' => e = .returned (.bool true) ∧ ∃ n, w' = w.drewN n := by
  have hlen := h.hlen
  have hm := is_of_own hown (l := l ++ [-77]) (wf_mark hw) 0 len (len + 1) (by omega) (by omega)
  rw [List.drop_zero, List.take_append_of_le_length (by omega), List.take_of_length_le (by omega)] at hm
  have e1 : w.cell? ⟨g, len, none⟩ = some (.int .i64 (-77)) := by
    rw [hown.cellAt len (by omega), ivs_get _ _ (by simp; omega)]; simp [← hlen]
  have HM := Lib.hid hm
  have HA := Lib.hid h
  clear hm hown hlen h
  go_enter Tryd.func33, Tryd.ntmps33
  go_wp2_with fail
  refine (ints_any _ _ _ _ _ _ l l w HM.out HA.out (by omega) (by omega)).mono ?_
  rintro e w' ⟨rfl, dn, rfl⟩
  rw [show decide (l = l) = true from decide_eq_true rfl]
  go_wp2
  go_ret
  exact ⟨rfl, _, rfl⟩
end Go.Proofs.YtdojhglpiejfjaaDoor
end

section
namespace Go.Proofs.YtdojhglpiejfjaaDoor
open Go.RowKit
namespace Pa
/-- Copies of prices, with a mark behind each. -/
structure Cp3 (w0 w : World) (g1 n1 : Nat) (l1 : List Int) (g2 n2 : Nat) (l2 : List Int) (g3 n3 : Nat) (l3 : List Int) : Prop where
  o1 : w.ownsRow w0.heap.size 3 1 (.slice (some ⟨g1, 0, none⟩) (n1 + 1) (n1 + 1)) (n1 + 1) (ivs (l1 ++ [-77]))
  o2 : w.ownsRow w0.heap.size 3 1 (.slice (some ⟨g2, 0, none⟩) (n2 + 1) (n2 + 1)) (n2 + 1) (ivs (l2 ++ [-77]))
  o3 : w.ownsRow w0.heap.size 3 1 (.slice (some ⟨g3, 0, none⟩) (n3 + 1) (n3 + 1)) (n3 + 1) (ivs (l3 ++ [-77]))
end Pa
variable {w : World} {a1 a2 a3 : Option Addr} {n1 c1 n2 c2 n3 c3 : Nat} {l1 l2 l3 : List Int}
set_option maxRecDepth 100000 in
set_option maxHeartbeats 4000000 in
theorem prices_any (h : Pa.Pr w a1 n1 c1 l1 a2 n2 c2 l2 a3 n3 c3 l3) (k1 : n1 ≤ 1000) (k2 : n2 ≤ 1000) (k3 : n3 ≤ 1000) :
    Calls Tryd.prog 13 #[.agg #[.slice a1 n1 c1, .slice a2 n2 c2, .slice a3 n3 c3]] w fun e w' => ∃ g1 g2 g3, e = .returned (.agg #[.slice (some ⟨g1, 0, none⟩) n1 (n1 + 1), .slice (some ⟨g2, 0, none⟩) n2 (n2 + 1), .slice (some ⟨g3, 0, none⟩) n3 (n3 + 1)]) ∧ Pa.Cp3 w w' g1 n1 l1 g2 n2 l2 g3 n3 l3 ∧ Below w.heap.size w w' := by
  have hb := below_alloc2 w (.cells #[.slice a1 n1 c1, .slice a2 n2 c2, .slice a3 n3 c3] 36) (.cells #[.slice none 0 0, .slice none 0 0, .slice none 0 0] 38)
  have hrp : ((w.alloc (.cells #[.slice a1 n1 c1, .slice a2 n2 c2, .slice a3 n3 c3] 36)).alloc (.cells #[.slice none 0 0, .slice none 0 0, .slice none 0 0] 38)).heap[w.heap.size]? = some (.cells #[.slice a1 n1 c1, .slice a2 n2 c2, .slice a3 n3 c3] 36 (0, 0)) := heap_alloc2_old w _ _
  have hrr : ((w.alloc (.cells #[.slice a1 n1 c1, .slice a2 n2 c2, .slice a3 n3 c3] 36)).alloc (.cells #[.slice none 0 0, .slice none 0 0, .slice none 0 0] 38)).heap[w.heap.size + 1]? = some (.cells #[.slice none 0 0, .slice none 0 0, .slice none 0 0] 38 (0, 0)) := heap_alloc2_new w _ _
  have hP := h.mono hb
  have HB := Lib.hid hb
  go_enter Tryd.func13, Tryd.ntmps13
  go_wp2_with fail
  revert hrp hrr hP HB
  clear hb h
  generalize (w.alloc (.cells #[.slice a1 n1 c1, .slice a2 n2 c2, .slice a3 n3 c3] 36)).alloc (.cells #[.slice none 0 0, .slice none 0 0, .slice none 0 0] 38) = w1
  intro hrp hrr hP HB
  have HRR := Lib.hid hrr
  have HZ : Hid (w.heap.size + 1 < w1.heap.size ∧ w.heap.size < w1.heap.size) := Lib.hid (by have := (Array.getElem?_eq_some_iff.1 hrr).1; exact ⟨this, by omega⟩)
  have HC1 : Hid (∀ X, Below w1.heap.size w1 X → Calls Tryd.prog 29 #[.slice a1 n1 c1] X (CopyIPost X n1 l1)) := Lib.hid (fun X hX => copyI_any a1 n1 c1 l1 X (hP.h1.mono hX) (by omega))
  have HC2 : Hid (∀ X, Below w1.heap.size w1 X → Calls Tryd.prog 29 #[.slice a2 n2 c2] X (CopyIPost X n2 l2)) := Lib.hid (fun X hX => copyI_any a2 n2 c2 l2 X (hP.h2.mono hX) (by omega))
  have HC3 : Hid (∀ X, Below w1.heap.size w1 X → Calls Tryd.prog 29 #[.slice a3 n3 c3] X (CopyIPost X n3 l3)) := Lib.hid (fun X hX => copyI_any a3 n3 c3 l3 X (hP.h3.mono hX) (by omega))
  have p0 : w1.cell? ⟨w.heap.size, 0, none⟩ = some (.slice a1 n1 c1) := by rw [cell_of_row _ _ _ _ _ (0, 0) hrp]; rfl
  have p1 : w1.cell? ⟨w.heap.size, 1, none⟩ = some (.slice a2 n2 c2) := by rw [cell_of_row _ _ _ _ _ (0, 0) hrp]; rfl
  have p2 : w1.cell? ⟨w.heap.size, 2, none⟩ = some (.slice a3 n3 c3) := by rw [cell_of_row _ _ _ _ _ (0, 0) hrp]; rfl
  have HDD : Hid (Below w1.heap.size w1 w1.drew) := Lib.hid (Below.drew (Below.refl _ _))
  clear hrp hrr hP
  go_region_held3 (fun w' => w'.cell? ⟨w.heap.size, 0, none⟩ = some (.slice a1 n1 c1) ∧ w'.cell? ⟨w.heap.size, 1, none⟩ = some (.slice a2 n2 c2) ∧ w'.cell? ⟨w.heap.size, 2, none⟩ = some (.slice a3 n3 c3)) (go_keep)
    (first
      | (go_at_call 29; (with_reducible refine (HC1.out _ HDD.out).mono ?_); rintro e w3 ⟨g1, rfl, o1, hb3⟩; have HB3 := Lib.hid (below_then HDD.out hb3); have HO1 := Lib.hid o1; have HW3 := Lib.hid HDD.out.size; have s0 := (HB3.out.cell (p := ⟨w.heap.size, 0, none⟩) HZ.out.2).trans p0; have s1 := (HB3.out.cell (p := ⟨w.heap.size, 1, none⟩) HZ.out.2).trans p1; have s2 := (HB3.out.cell (p := ⟨w.heap.size, 2, none⟩) HZ.out.2).trans p2; clear hb3 o1)
      | (go_at_call 29; (with_reducible refine (HC2.out _ HB3.out).mono ?_); rintro e w4 ⟨g2, rfl, o2, hb4⟩; have HB4 := Lib.hid (below_then HB3.out hb4); have HO2 := Lib.hid o2; have HO12 := Lib.hid (own_below HO1.out hb4); have u0 := (HB4.out.cell (p := ⟨w.heap.size, 0, none⟩) HZ.out.2).trans p0; have u1 := (HB4.out.cell (p := ⟨w.heap.size, 1, none⟩) HZ.out.2).trans p1; have u2 := (HB4.out.cell (p := ⟨w.heap.size, 2, none⟩) HZ.out.2).trans p2; clear hb4 o2)
      | (go_at_call 29; (with_reducible refine (HC3.out _ HB4.out).mono ?_); rintro e w5 ⟨g3, rfl, o3, hb5⟩; have HB5 := Lib.hid (below_then HB4.out hb5); have HO3 := Lib.hid o3; have HO13 := Lib.hid (own_below HO12.out hb5); have HO23 := Lib.hid (own_below HO2.out hb5); have v0 := (HB5.out.cell (p := ⟨w.heap.size, 0, none⟩) HZ.out.2).trans p0; have v1 := (HB5.out.cell (p := ⟨w.heap.size, 1, none⟩) HZ.out.2).trans p1; have v2 := (HB5.out.cell (p := ⟨w.heap.size, 2, none⟩) HZ.out.2).trans p2; have hr5 := (HB5.out.block (w.heap.size + 1) HZ.out.1).trans HRR.out; have x0 : w5.cell? ⟨w.heap.size + 1, 0, none⟩ = some (.slice none 0 0) := (by rw [cell_of_row _ _ _ _ _ (0, 0) hr5]; rfl); have x1 : w5.cell? ⟨w.heap.size + 1, 1, none⟩ = some (.slice none 0 0) := (by rw [cell_of_row _ _ _ _ _ (0, 0) hr5]; rfl); have x2 : w5.cell? ⟨w.heap.size + 1, 2, none⟩ = some (.slice none 0 0) := (by rw [cell_of_row _ _ _ _ _ (0, 0) hr5]; rfl); have y0 := frozen_of_row w5 (w.heap.size + 1) 0 _ _ hr5; have y1 := frozen_of_row w5 (w.heap.size + 1) 1 _ _ hr5; have y2 := frozen_of_row w5 (w.heap.size + 1) 2 _ _ hr5; have HR5 := Lib.hid hr5; clear hb5 o3 hr5))
  go_wp2
  have r1 := heap_setCell_same w5 (w.heap.size + 1) 0 _ _ (.slice (some ⟨g1, 0, none⟩) n1 (n1 + 1)) HR5.out
  have r2 := heap_setCell_same _ (w.heap.size + 1) 1 _ _ (.slice (some ⟨g2, 0, none⟩) n2 (n2 + 1)) r1
  have r3 := heap_setCell_same _ (w.heap.size + 1) 2 _ _ (.slice (some ⟨g3, 0, none⟩) n3 (n3 + 1)) r2
  have hc : Ch w5 (((w5.setCell ⟨w.heap.size + 1, 0, none⟩ (.slice (some ⟨g1, 0, none⟩) n1 (n1 + 1))).setCell ⟨w.heap.size + 1, 1, none⟩ (.slice (some ⟨g2, 0, none⟩) n2 (n2 + 1))).setCell ⟨w.heap.size + 1, 2, none⟩ (.slice (some ⟨g3, 0, none⟩) n3 (n3 + 1))) (fun j => j = w.heap.size + 1) :=
    (((Ch.refl w5 (fun j => j = w.heap.size + 1)).set (p := ⟨w.heap.size + 1, 0, none⟩) (.inl rfl) _).set (p := ⟨w.heap.size + 1, 1, none⟩) (.inl rfl) _).set (p := ⟨w.heap.size + 1, 2, none⟩) (.inl rfl) _
  have z1 := HZ.out.1
  have z2 : w1.heap.size ≤ w1.drew.heap.size := HDD.out.size
  have z3 := HB3.out.size
  have z4 := HB4.out.size
  have hb5 := below_then HB.out HB5.out
  refine bodyPost_ret (results_cell_row (fn := Tryd.f13) (p := 2) rfl _ _ (w.heap.size + 1) _ _ (0, 0) _ rfl r3 Tryd.underlying38 rfl (by kernel_rfl)) rfl ⟨g1, g2, g3, rfl, ⟨?_, ?_, ?_⟩, hb5.trans (hc.below hb5.size (fun j hj => by rw [hj]; omega))⟩
  · exact own_base (hc.own HO13.out (fun b e => by have := (HO13.out.lt b e).1; omega)) (fun b e => by have := (HO13.out.lt b e).1; omega)
  · exact own_base (hc.own HO23.out (fun b e => by have := (HO23.out.lt b e).1; omega)) (fun b e => by have := (HO23.out.lt b e).1; omega)
  · exact own_base (hc.own HO3.out (fun b e => by have := (HO3.out.lt b e).1; omega)) (fun b e => by have := (HO3.out.lt b e).1; omega)
end Go.Proofs.YtdojhglpiejfjaaDoor
end

section
namespace Go.Proofs.YtdojhglpiejfjaaDoor
open Go.RowKit

theorem Pa.wf_of_rng {l : List Int} (h : Pa.rng l = true) : Wf l := by
  intro x hx
  obtain ⟨i, hi, rfl⟩ := List.getElem_of_mem hx
  have := Pa.rng_get h i
  rw [List.getD, List.getElem?_eq_getElem hi] at this
  simp only [Option.getD_some] at this
  simp only [Lit.wf, IntKind.min, IntKind.max, IntKind.signed, IntKind.bits, Bool.and_eq_true, decide_eq_true_eq, if_true]
  simp; omega
theorem Pa.pr_of_own {w : World} {B : Nat} {v1 v2 v3 : Value} {n1 n2 n3 : Nat} {l1 l2 l3 : List Int} (o1 : w.ownsRow B 3 1 v1 n1 (ivs l1)) (o2 : w.ownsRow B 3 1 v2 n2 (ivs l2)) (o3 : w.ownsRow B 3 1 v3 n3 (ivs l3)) (hg : Pa.good l1 l2 l3 = true) (s1 : n1 ≤ 1000) (s2 : n2 ≤ 1000) (s3 : n3 ≤ 1000) :
    ∃ a1 c1 a2 c2 a3 c3, v1 = .slice a1 n1 c1 ∧ v2 = .slice a2 n2 c2 ∧ v3 = .slice a3 n3 c3 ∧ Pa.Pr w a1 n1 c1 l1 a2 n2 c2 l2 a3 n3 c3 l3 := by
  obtain ⟨h1, h2, h3, _⟩ := Pa.good_parts hg
  obtain ⟨a1, c1, e1, i1⟩ := own_is o1 (Pa.wf_of_rng h1)
  obtain ⟨a2, c2, e2, i2⟩ := own_is o2 (Pa.wf_of_rng h2)
  obtain ⟨a3, c3, e3, i3⟩ := own_is o3 (Pa.wf_of_rng h3)
  exact ⟨a1, c1, a2, c2, a3, c3, e1, e2, e3, i1, i2, i3, by omega, by omega, by omega⟩
theorem Pa.pr_of_cp {w0 w : World} {g1 g2 g3 n1 n2 n3 : Nat} {l1 l2 l3 : List Int} (h : Pa.Cp3 w0 w g1 n1 l1 g2 n2 l2 g3 n3 l3) (w1 : Wf l1) (w2 : Wf l2) (w3 : Wf l3) (s1 : n1 ≤ 1000) (s2 : n2 ≤ 1000) (s3 : n3 ≤ 1000) :
    Pa.Pr w (some ⟨g1, 0, none⟩) n1 (n1 + 1) l1 (some ⟨g2, 0, none⟩) n2 (n2 + 1) l2 (some ⟨g3, 0, none⟩) n3 (n3 + 1) l3 := by
  have q : ∀ {g n : Nat} {l : List Int}, w.ownsRow w0.heap.size 3 1 (.slice (some ⟨g, 0, none⟩) (n + 1) (n + 1)) (n + 1) (ivs (l ++ [-77])) → Wf l → Is .i64 w (some ⟨g, 0, none⟩) n (n + 1) l := fun {g n l} h hw => by
    have hl : l.length = n := by have := h.1; rw [ivs_length] at this; simp at this; omega
    have := is_of_own h (wf_mark hw) 0 n (n + 1) (by omega) (by omega)
    rwa [List.drop_zero, List.take_append_of_le_length (by omega), List.take_of_length_le (by omega)] at this
  exact ⟨q h.o1 w1, q h.o2 w2, q h.o3 w3, by omega, by omega, by omega⟩
end Go.Proofs.YtdojhglpiejfjaaDoor
end

section
namespace Go.Proofs.YtdojhglpiejfjaaDoor
open Go.RowKit

namespace Pz
/-- Costs and first tokens, by the place, in memory. -/
structure Cz (w : World) (base cb cc fb fc N : Nat) (C : List Int) (T : List Tok) : Prop where
  o1 : w.ownsRow base 3 1 (.slice (some ⟨cb, 0, none⟩) (N + 1) cc) (N + 1) (ivs C)
  o2 : w.ownsRow base 46 2 (.slice (some ⟨fb, 0, none⟩) N fc) N (tks T)
  ne : cb ≠ fb
theorem Cz.mono {w w' : World} {base cb cc fb fc N : Nat} {C : List Int} {T : List Tok} (h : Cz w base cb cc fb fc N C T) (hb : Below w.heap.size w w') : Cz w' base cb cc fb fc N C T := ⟨own_below h.o1 hb, own_below h.o2 hb, h.ne⟩
theorem Cz.ch {w w' : World} {base cb cc fb fc N : Nat} {C : List Int} {T : List Tok} {U : Nat → Prop} (h : Cz w base cb cc fb fc N C T) (c : Ch w w' U) (h1 : ¬ U cb) (h2 : ¬ U fb) : Cz w' base cb cc fb fc N C T :=
  ⟨c.own h.o1 (fun g hg => by simp [Value.ownBlock] at hg; rw [← hg]; exact h1), c.own h.o2 (fun g hg => by simp [Value.ownBlock] at hg; rw [← hg]; exact h2), h.ne⟩
theorem Cz.set {w : World} {base cb cc fb fc N : Nat} {C : List Int} {T : List Tok} (h : Cz w base cb cc fb fc N C T) (p : Nat) (z : Int) (t : Tok) :
    Cz (((w.setCell ⟨cb, p, none⟩ (.int .i64 z)).setCell ⟨fb, p * 2, none⟩ (.int .i64 t.1)).setCell ⟨fb, p * 2 + 1, none⟩ (.int .i64 t.2)) base cb cc fb fc N (C.set p z) (T.set p t) := by
  have a : (w.setCell ⟨cb, p, none⟩ (.int .i64 z)).ownsRow base 3 1 (.slice (some ⟨cb, 0, none⟩) (N + 1) cc) (N + 1) (ivs (C.set p z)) := own_set h.o1 p z
  have b : (w.setCell ⟨cb, p, none⟩ (.int .i64 z)).ownsRow base 46 2 (.slice (some ⟨fb, 0, none⟩) N fc) N (tks T) := og_ot h.o2 (fun g hg => by simp [Value.ownBlock] at hg; rw [← hg]; exact fun e => h.ne e.symm)
  refine ⟨og_ot (og_ot a ?_) ?_, og_settok b p t, h.ne⟩ <;> (intro g hg; simp [Value.ownBlock] at hg; rw [← hg]; exact h.ne)
theorem Cz.setc {w : World} {base cb cc fb fc N : Nat} {C : List Int} {T : List Tok} (h : Cz w base cb cc fb fc N C T) (p : Nat) (z : Int) : Cz (w.setCell ⟨cb, p, none⟩ (.int .i64 z)) base cb cc fb fc N (C.set p z) T :=
  ⟨own_set h.o1 p z, og_ot h.o2 (fun g hg => by simp [Value.ownBlock] at hg; rw [← hg]; exact fun e => h.ne e.symm), h.ne⟩
end Pz
theorem cellb_keep {w : World} {b o b' o' : Nat} {u v : Value} (h : b' ≠ b) (hc : w.cell? ⟨b', o', none⟩ = some u) : (w.setCell ⟨b, o, none⟩ v).cell? ⟨b', o', none⟩ = some u := by
  rw [World.cell?_of_block (Below.heap_setCell w ⟨b, o, none⟩ v b' h)]; exact hc
def TryPost (w : World) (base cb cc fb fc N : Nat) (C : List Int) (T : List Tok) (p : Nat) (all : Int) (t : Tok) (e : Ending) (w' : World) : Prop :=
  e = .returned (.tuple #[]) ∧ Ch w w' (fun k => k = cb ∨ k = fb) ∧
    ((all ≤ C.getD p 0 ∧ Pz.Cz w' base cb cc fb fc N (C.set p all) (T.set p t)) ∨ (C.getD p 0 < all ∧ Pz.Cz w' base cb cc fb fc N C T))
set_option maxHeartbeats 4000000 in
theorem try_any (B8 B10 B9 base cb cc fb fc N : Nat) (C : List Int) (T : List Tok) (p x : Nat) (y z : Int) (w : World)
    (h8 : Boxed w B8 34 (.slice (some ⟨cb, 0, none⟩) (N + 1) cc)) (h10 : Boxed w B10 3 (.int .i64 (p : Nat))) (h9 : Boxed w B9 25 (.slice (some ⟨fb, 0, none⟩) N fc))
    (hz : Pz.Cz w base cb cc fb fc N C T) (hN : N ≤ 1048576) (hp : p < N) (hx : x ≤ 258) (hq : p + Pz.sp ((x : Int), y) ≤ N) (z0 : 0 ≤ z) (z1 : z ≤ 100000000)
    (hc : 0 ≤ C.getD (p + Pz.sp ((x : Int), y)) 0 ∧ C.getD (p + Pz.sp ((x : Int), y)) 0 ≤ 1000000000000000)
    (ne : (B8 ≠ cb ∧ B8 ≠ fb) ∧ (B9 ≠ cb ∧ B9 ≠ fb) ∧ (B10 ≠ cb ∧ B10 ≠ fb)) :
    Calls Tryd.prog 47 #[.agg #[.int .i64 (x : Nat), .int .i64 y], .int .i64 z, .pointer (some ⟨B8, 0, none⟩), .pointer (some ⟨B10, 0, none⟩), .pointer (some ⟨B9, 0, none⟩)] w
      (TryPost w base cb cc fb fc N C T p (z + C.getD (p + Pz.sp ((x : Int), y)) 0) ((x : Int), y)) := by
  have hb1 := below_alloc w (.cells #[.int .i64 (x : Nat), .int .i64 y] 46)
  have hr1 : (w.alloc (.cells #[.int .i64 (x : Nat), .int .i64 y] 46)).heap[w.heap.size]? = some (.cells #[.int .i64 (x : Nat), .int .i64 y] 46 (0, 0)) := heap_alloc_last w _
  have HZ := Lib.hid (hz.mono hb1)
  have hlt8 := h8.lt
  have hlt9 := h9.lt
  have hlt10 := h10.lt
  have hlc := (hz.o1.lt cb rfl).2
  have hlf := (hz.o2.lt fb rfl).2
  have h8' := (hb1.block B8 hlt8).trans h8
  have h9' := (hb1.block B9 hlt9).trans h9
  have h10' := (hb1.block B10 hlt10).trans h10
  have HNE := Lib.hid ne
  have HB1 := Lib.hid hb1
  have HSP : Hid (∀ w', Calls Tryd.prog 42 #[.agg #[.int .i64 (x : Nat), .int .i64 y]] w' fun e w'' => e = .returned (.int .i64 ((Pz.sp ((x : Int), y) : Nat) : Int)) ∧ Below w'.heap.size w' w'') := Lib.hid (fun w' => span_any x y w' hx)
  have HS1 : Hid (1 ≤ Pz.sp ((x : Int), y)) := Lib.hid (by unfold Pz.sp; omega)
  generalize Pz.sp ((x : Int), y) = sn at *
  have HLT : Hid (B8 < w.heap.size ∧ B9 < w.heap.size ∧ B10 < w.heap.size ∧ cb < w.heap.size ∧ fb < w.heap.size) := Lib.hid ⟨hlt8, hlt9, hlt10, hlc, hlf⟩
  have HW : Hid (w.heap.size < (w.alloc (.cells #[.int .i64 (x : Nat), .int .i64 y] 46)).heap.size) := Lib.hid (by simp)
  obtain ⟨q, hqe⟩ : ∃ q, p + sn = q := ⟨_, rfl⟩
  rw [hqe] at hq hc ⊢
  have HC1 : Hid (C.getD p 0 = C.getD p 0) := Lib.hid rfl
  clear hb1 h8 h9 h10 hz ne hlt8 hlt9 hlt10 hlc hlf hx
  go_enter Tryd.func47, Tryd.ntmps47
  go_wp2_with fail
  revert h8' h9' h10' hr1 HB1 HZ HW
  generalize w.alloc (.cells #[.int .i64 (x : Nat), .int .i64 y] 46) = w1
  intro hr1 HZ h8' h9' h10' HB1 HW
  have k8 := Boxed.cell h8'
  have k9 := Boxed.cell h9'
  have k10 := Boxed.cell h10'
  have kt0 : w1.cell? ⟨w.heap.size, 0, none⟩ = some (.int .i64 (x : Nat)) := by rw [cell_of_row _ _ _ _ _ (0, 0) hr1]; rfl
  have kt1 : w1.cell? ⟨w.heap.size, 1, none⟩ = some (.int .i64 y) := by rw [cell_of_row _ _ _ _ _ (0, 0) hr1]; rfl
  have kq := og_int HZ.out.o1 q (by omega)
  have HZB : Hid (B8 < w1.heap.size ∧ B9 < w1.heap.size ∧ B10 < w1.heap.size ∧ w.heap.size < w1.heap.size ∧ cb < w1.heap.size) := Lib.hid (by have := HLT.out; have := HW.out; omega)
  generalize C.getD q 0 = cq at *
  have i0 : (0 : Int) ≤ (q : Int) := by omega
  have i1 : (q : Int) < (N : Int) + 1 := by omega
  have wq : IntKind.i64.wrap ((p : Int) + (sn : Int)) = (q : Int) := by rw [IntWalk.i64_in _ ⟨by omega, by omega⟩]; omega
  have wa : IntKind.i64.wrap (z + cq) = z + cq := IntWalk.i64_in _ ⟨by omega, by omega⟩
  go_region_held3 (fun w' => w'.cell? ⟨B8, 0, none⟩ = some (.slice (some ⟨cb, 0, none⟩) (N + 1) cc) ∧ w'.cell? ⟨B10, 0, none⟩ = some (.int .i64 (p : Nat)) ∧ w'.cell? ⟨w.heap.size, 0, none⟩ = some (.int .i64 (x : Nat)) ∧ w'.cell? ⟨w.heap.size, 1, none⟩ = some (.int .i64 y) ∧ w'.cell? ⟨cb, q, none⟩ = some (.int .i64 cq)) (go_keep)
    (first | (go_at_call 42; refine (HSP.out _).mono ?_; rintro e w3 ⟨rfl, hb3⟩; have HB3 := Lib.hid hb3; have s1 := (hb3.cell (p := ⟨B8, 0, none⟩) HZB.out.1).trans k8; have s2 := (hb3.cell (p := ⟨B10, 0, none⟩) HZB.out.2.2.1).trans k10; have s3 := (hb3.cell (p := ⟨w.heap.size, 0, none⟩) HZB.out.2.2.2.1).trans kt0; have s4 := (hb3.cell (p := ⟨w.heap.size, 1, none⟩) HZB.out.2.2.2.1).trans kt1; have s5 := (hb3.cell (p := ⟨cb, q, none⟩) HZB.out.2.2.2.2).trans kq; clear hb3))
  have HBX := Lib.hid (below_then (Below.drew (Below.refl w1.heap.size w1)) HB3.out)
  have hr3 := (HBX.out.block w.heap.size HZB.out.2.2.2.1).trans hr1
  have h83 := (HBX.out.block B8 HZB.out.1).trans h8'
  have h93 := (HBX.out.block B9 HZB.out.2.1).trans h9'
  have h103 := (HBX.out.block B10 HZB.out.2.2.1).trans h10'
  have HZ3 := Lib.hid (HZ.out.mono HBX.out)
  have HB4 := Lib.hid (below_then HB1.out HBX.out)
  have HZW : Hid (w.heap.size < w3.heap.size) := Lib.hid (Array.getElem?_eq_some_iff.1 hr3).1
  clear k8 k9 k10 kt0 kt1 kq s1 s2 s3 s4 s5 HB3 HBX HB1 HZ h8' h9' h10' hr1 HZB HW wq i0 i1 hqe
  have k8 := Boxed.cell h83
  have k9 := Boxed.cell h93
  have k10 := Boxed.cell h103
  have kt0 : w3.cell? ⟨w.heap.size, 0, none⟩ = some (.int .i64 (x : Nat)) := by rw [cell_of_row _ _ _ _ _ (0, 0) hr3]; rfl
  have kt1 : w3.cell? ⟨w.heap.size, 1, none⟩ = some (.int .i64 y) := by rw [cell_of_row _ _ _ _ _ (0, 0) hr3]; rfl
  have kp := og_int HZ3.out.o1 p (by omega)
  have HTP : Hid (∀ w', Ch w w' (fun k => k = cb ∨ k = fb) → ((z + cq ≤ C.getD p 0 ∧ Pz.Cz w' base cb cc fb fc N (C.set p (z + cq)) (T.set p ((x : Int), y))) ∨ (C.getD p 0 < z + cq ∧ Pz.Cz w' base cb cc fb fc N C T)) → TryPost w base cb cc fb fc N C T p (z + cq) ((x : Int), y) (.returned (.tuple #[])) w') := Lib.hid (fun w' h1 h2 => ⟨rfl, h1, h2⟩)
  have HCH : Hid (Ch w w3 (fun k => k = cb ∨ k = fb)) := Lib.hid (Ch.of_below HB4.out)
  generalize C.getD p 0 = cp at *
  by_cases hle : z + cq ≤ cp
  · have d1 : decide (z + cq ≤ cp) = true := decide_eq_true hle
    have HLE := Lib.hid hle
    clear hle
    go_wp2_with fail
    have hpM : (p : Int) < (N : Int) + 1 := by omega
    have hpN : (p : Int) < (N : Int) := by omega
    have hp0 : (0 : Int) ≤ (p : Int) := by omega
    have kf8 := og_fz HZ3.out.o1 p
    have kf9 := og_fz HZ3.out.o2 (p * 2)
    have kf9' := og_fz HZ3.out.o2 (p * 2 + 1)
    obtain ⟨kp0, kp1⟩ := og_tok HZ3.out.o2 p hp
    clear d1
    obtain ⟨⟨n1, n2⟩, ⟨n3, n4⟩, n5, n6⟩ := HNE.out
    have n7 : w.heap.size ≠ cb := by have := HLT.out; omega
    have n8 : w.heap.size ≠ fb := by have := HLT.out; omega
    have HS : Hid (∀ W, (fun w' : World => w'.cell? ⟨B8, 0, none⟩ = some (.slice (some ⟨cb, 0, none⟩) (N + 1) cc) ∧ w'.cell? ⟨B10, 0, none⟩ = some (.int .i64 (p : Nat)) ∧ w'.cell? ⟨B9, 0, none⟩ = some (.slice (some ⟨fb, 0, none⟩) N fc) ∧ w'.cell? ⟨w.heap.size, 0, none⟩ = some (.int .i64 (x : Nat)) ∧ w'.cell? ⟨w.heap.size, 1, none⟩ = some (.int .i64 y)) W → ∀ b o v, b = cb ∨ b = fb → (fun w' : World => w'.cell? ⟨B8, 0, none⟩ = some (.slice (some ⟨cb, 0, none⟩) (N + 1) cc) ∧ w'.cell? ⟨B10, 0, none⟩ = some (.int .i64 (p : Nat)) ∧ w'.cell? ⟨B9, 0, none⟩ = some (.slice (some ⟨fb, 0, none⟩) N fc) ∧ w'.cell? ⟨w.heap.size, 0, none⟩ = some (.int .i64 (x : Nat)) ∧ w'.cell? ⟨w.heap.size, 1, none⟩ = some (.int .i64 y)) (W.setCell ⟨b, o, none⟩ v)) := Lib.hid (fun W h b o v hb => by
      obtain ⟨h1, h2, h3, h4, h5⟩ := h
      rcases hb with rfl | rfl
      · exact ⟨cellb_keep n1 h1, cellb_keep n5 h2, cellb_keep n3 h3, cellb_keep n7 h4, cellb_keep n7 h5⟩
      · exact ⟨cellb_keep n2 h1, cellb_keep n6 h2, cellb_keep n4 h3, cellb_keep n8 h4, cellb_keep n8 h5⟩)
    have t0 := HS.out w3 ⟨k8, k10, k9, kt0, kt1⟩ cb p (.int .i64 (z + cq)) (.inl rfl)
    have t1 := HS.out _ (HS.out _ t0 fb (p * 2) (.int .i64 (x : Nat)) (.inr rfl)) fb (p * 2 + 1) (.int .i64 y) (.inr rfl)
    have HT : Hid ((w3.setCell ⟨cb, p, none⟩ (.int .i64 (z + cq))).drew.cell? ⟨B8, 0, none⟩ = some (.slice (some ⟨cb, 0, none⟩) (N + 1) cc) ∧ (w3.setCell ⟨cb, p, none⟩ (.int .i64 (z + cq))).drew.cell? ⟨B10, 0, none⟩ = some (.int .i64 (p : Nat)) ∧ (w3.setCell ⟨cb, p, none⟩ (.int .i64 (z + cq))).drew.cell? ⟨B9, 0, none⟩ = some (.slice (some ⟨fb, 0, none⟩) N fc) ∧ (w3.setCell ⟨cb, p, none⟩ (.int .i64 (z + cq))).drew.cell? ⟨w.heap.size, 0, none⟩ = some (.int .i64 (x : Nat)) ∧ (w3.setCell ⟨cb, p, none⟩ (.int .i64 (z + cq))).drew.cell? ⟨w.heap.size, 1, none⟩ = some (.int .i64 y)) := Lib.hid t0
    have HT1 : Hid ((((w3.setCell ⟨cb, p, none⟩ (.int .i64 (z + cq))).setCell ⟨fb, p * 2, none⟩ (.int .i64 (x : Nat))).setCell ⟨fb, p * 2 + 1, none⟩ (.int .i64 y)).drew.cell? ⟨B8, 0, none⟩ = some (.slice (some ⟨cb, 0, none⟩) (N + 1) cc) ∧ (((w3.setCell ⟨cb, p, none⟩ (.int .i64 (z + cq))).setCell ⟨fb, p * 2, none⟩ (.int .i64 (x : Nat))).setCell ⟨fb, p * 2 + 1, none⟩ (.int .i64 y)).drew.cell? ⟨B10, 0, none⟩ = some (.int .i64 (p : Nat)) ∧ (((w3.setCell ⟨cb, p, none⟩ (.int .i64 (z + cq))).setCell ⟨fb, p * 2, none⟩ (.int .i64 (x : Nat))).setCell ⟨fb, p * 2 + 1, none⟩ (.int .i64 y)).drew.cell? ⟨B9, 0, none⟩ = some (.slice (some ⟨fb, 0, none⟩) N fc) ∧ (((w3.setCell ⟨cb, p, none⟩ (.int .i64 (z + cq))).setCell ⟨fb, p * 2, none⟩ (.int .i64 (x : Nat))).setCell ⟨fb, p * 2 + 1, none⟩ (.int .i64 y)).drew.cell? ⟨w.heap.size, 0, none⟩ = some (.int .i64 (x : Nat)) ∧ (((w3.setCell ⟨cb, p, none⟩ (.int .i64 (z + cq))).setCell ⟨fb, p * 2, none⟩ (.int .i64 (x : Nat))).setCell ⟨fb, p * 2 + 1, none⟩ (.int .i64 y)).drew.cell? ⟨w.heap.size, 1, none⟩ = some (.int .i64 y)) := Lib.hid t1
    have HT2 : Hid ((((w3.setCell ⟨cb, p, none⟩ (.int .i64 (z + cq))).drew.setCell ⟨fb, p * 2, none⟩ (.int .i64 (x : Nat))).setCell ⟨fb, p * 2 + 1, none⟩ (.int .i64 y)).drew.cell? ⟨B8, 0, none⟩ = some (.slice (some ⟨cb, 0, none⟩) (N + 1) cc) ∧ (((w3.setCell ⟨cb, p, none⟩ (.int .i64 (z + cq))).drew.setCell ⟨fb, p * 2, none⟩ (.int .i64 (x : Nat))).setCell ⟨fb, p * 2 + 1, none⟩ (.int .i64 y)).drew.cell? ⟨B10, 0, none⟩ = some (.int .i64 (p : Nat)) ∧ (((w3.setCell ⟨cb, p, none⟩ (.int .i64 (z + cq))).drew.setCell ⟨fb, p * 2, none⟩ (.int .i64 (x : Nat))).setCell ⟨fb, p * 2 + 1, none⟩ (.int .i64 y)).drew.cell? ⟨B9, 0, none⟩ = some (.slice (some ⟨fb, 0, none⟩) N fc) ∧ (((w3.setCell ⟨cb, p, none⟩ (.int .i64 (z + cq))).drew.setCell ⟨fb, p * 2, none⟩ (.int .i64 (x : Nat))).setCell ⟨fb, p * 2 + 1, none⟩ (.int .i64 y)).drew.cell? ⟨w.heap.size, 0, none⟩ = some (.int .i64 (x : Nat)) ∧ (((w3.setCell ⟨cb, p, none⟩ (.int .i64 (z + cq))).drew.setCell ⟨fb, p * 2, none⟩ (.int .i64 (x : Nat))).setCell ⟨fb, p * 2 + 1, none⟩ (.int .i64 y)).drew.cell? ⟨w.heap.size, 1, none⟩ = some (.int .i64 y)) := Lib.hid t1
    have HSZ := Lib.hid (HZ3.out.set p (z + cq) ((x : Int), y))
    have HSC : Hid (Ch w (((w3.setCell ⟨cb, p, none⟩ (.int .i64 (z + cq))).setCell ⟨fb, p * 2, none⟩ (.int .i64 (x : Nat))).setCell ⟨fb, p * 2 + 1, none⟩ (.int .i64 y)) (fun k => k = cb ∨ k = fb)) := Lib.hid (((HCH.out.set (p := ⟨cb, p, none⟩) (.inl (.inl rfl)) _).set (p := ⟨fb, p * 2, none⟩) (.inl (.inr rfl)) _).set (p := ⟨fb, p * 2 + 1, none⟩) (.inl (.inr rfl)) _)
    have kp0' := cellb_keep (b := cb) (o := p) (v := .int .i64 (z + cq)) (fun e => HZ3.out.ne e.symm) kp0
    have kp1' := cellb_keep (b := cb) (o := p) (v := .int .i64 (z + cq)) (fun e => HZ3.out.ne e.symm) kp1
    obtain ⟨ta1, ta2, ta3, ta4, ta5⟩ := HT.out
    obtain ⟨tb1, tb2, tb3, tb4, tb5⟩ := HT1.out
    obtain ⟨tc1, tc2, tc3, tc4, tc5⟩ := HT2.out
    clear t0 t1 n1 n2 n3 n4 n5 n6 n7 n8
    go_region_held3 (fun w' => w'.cell? ⟨B8, 0, none⟩ = some (.slice (some ⟨cb, 0, none⟩) (N + 1) cc) ∧ w'.cell? ⟨B10, 0, none⟩ = some (.int .i64 (p : Nat)) ∧ w'.cell? ⟨B9, 0, none⟩ = some (.slice (some ⟨fb, 0, none⟩) N fc) ∧ w'.cell? ⟨w.heap.size, 0, none⟩ = some (.int .i64 (x : Nat)) ∧ w'.cell? ⟨w.heap.size, 1, none⟩ = some (.int .i64 y)) (first | exact ⟨ta1, ta2, ta3, ta4, ta5⟩ | exact ⟨tb1, tb2, tb3, tb4, tb5⟩ | exact ⟨tc1, tc2, tc3, tc4, tc5⟩ | go_keep) (fail)
    exact bodyPost_ret (results_none (by kernel_rfl) _ _ _) rfl (HTP.out _ HSC.out.drew (.inl ⟨HLE.out, HSZ.out.ch (Ch.refl _ (fun _ => False)).drew (fun h => h) (fun h => h)⟩))
  · have d1 : decide (z + cq ≤ cp) = false := decide_eq_false hle
    have HLE : Hid (cp < z + cq) := Lib.hid (by omega)
    clear hle
    go_wp2
    exact bodyPost_ret (results_none (by kernel_rfl) _ _ _) rfl (HTP.out _ HCH.out (.inr ⟨HLE.out, HZ3.out⟩))
end Go.Proofs.YtdojhglpiejfjaaDoor
end

section
namespace Go.Proofs.YtdojhglpiejfjaaDoor
open Go.RowKit

/-- What stays, whatever becomes of blocks from B on. -/
def FreeFrom {β : Type} (B : Nat) (I : β → World → Prop) : Prop :=
  ∀ s W W' row, I s W → W.grownBy W' row → (∀ r, row = some r → B ≤ r) → I s W'
theorem FreeFrom.own {β : Type} {B : Nat} {I : β → World → Prop} (h : FreeFrom B I) : OwnFrom B I := fun s W W' row hs hg hr => h s W W' row hs hg (fun r e => (hr r e).1)
theorem FreeFrom.putObj {β : Type} {B : Nat} {I : β → World → Prop} (h : FreeFrom B I) {s : β} {W : World} {l : Nat} {o : Obj} (o' : Obj) (hs : I s W) (hB : B ≤ l) (_ : W.heap[l]? = some o) (_ : o.isCells = false) : I s (W.putObj l o') :=
  h s W _ (some l) hs (grownBy_putObj' W l o') (fun r e => by cases e; exact hB)
theorem FreeFrom.alloc {β : Type} {B : Nat} {I : β → World → Prop} (h : FreeFrom B I) {s : β} {W : World} (o : Obj) (hs : I s W) : I s (W.alloc o) :=
  h s W _ none hs (World.grownBy_alloc W o none) (fun r e => by cases e)
theorem FreeFrom.set {β : Type} {B : Nat} {I : β → World → Prop} (h : FreeFrom B I) {s : β} {W : World} (b : Nat) (u : Value) (hs : I s W) (hB : B ≤ b) : I s (W.setCell ⟨b, 0, none⟩ u) :=
  h s W _ (some b) hs (grownBy_setCell' W b u) (fun r e => by cases e; exact hB)
/-- An iterator that may turn whatever is its own between two rounds, and tells each round what it may be handed next (Nx). -/
def IterF {α : Type} (F : Fence) (n : Nat) (P : Program) (g : Nat) (lb : Array Value) (encs : α → Array Value) (Kp : World → World → Prop) (S Sp : List α → Prop) (Nx : List α → α → Prop) (w : World) : Prop :=
  ∀ (y : Nat) (J Jx : List α → World → Prop) (V : World), Below w.heap.size w V → FreeFrom V.heap.size J → FreeFrom V.heap.size Jx → J [] V →
    (∀ pre x A, J pre A → Nx pre x → YieldAt F (n - 1) P y (encs x) A fun e A' => KeepsFrom V.heap.size A A' ∧
      ((e = .returned (.bool true) ∧ J (pre ++ [x]) A' ∧ Kp A A') ∨ (e = .returned (.bool false) ∧ Jx (pre ++ [x]) A'))) →
    CallsIn F n P g (#[.func (.yield y) #[] #[]] ++ lb) V fun e A' => (∃ v, e = .returned v) ∧ ((∃ xs, S xs ∧ J xs A') ∨ (∃ pre, Sp pre ∧ Jx pre A'))
theorem range_iterF {F : Fence} {n : Nat} {P : Program} {α : Type} {g : Operand} {ps : Array Tmp} {assign body : Code} {Q : Exit → Act → World → Prop} {a : Act} {w : World}
    (hro : F.round = none) (h1 : 1 ≤ n) {gf : Nat} {lb : Array Value} (hg : a.eval g = .func (.func gf) #[] lb) (hF : F.fn gf) (eg : ∀ args w, (callFunc gf args).run P w = .ok (.enter gf args) w)
    {encs : α → Array Value} {Kp : World → World → Prop} {S Sp : List α → Prop} {Nx : List α → α → Prop} (hseq : IterF F (n - 1) P gf lb encs Kp S Sp Nx w)
    (hKt : ∀ {A B C : World}, Kp A B → Kp B C → Kp A C) (hKb : ∀ (A : World) (k : Nat) (o o' : Obj), A.heap[k]? = some o → o.isCells = false → Kp A (A.putObj k o')) (hps : ∀ x, (encs x).size = ps.size)
    (I : List α → World → Prop) (Ix : Code → List α → World → Prop) (hI : FreeFrom w.heap.size I) (hX : ∀ c, FreeFrom w.heap.size (Ix c)) (h0 : I [] w) (act : α → Act)
    (has : ∀ (k : Nat) (x : α) (A : World) (K : Act → World → Prop), K (act x) A → assign.wpIn (F.inRound k) (n - 1 - 1) P (Exit.then K (fun _ _ _ => False)) { tmps := (ps.zip (encs x)).foldl (fun t (p, v) => t.setIfInBounds p v) a.tmps, defers := [] } A)
    (hbo : ∀ (k : Nat) (pre : List α) (x : α) (A : World), I pre A → Nx pre x → body.wpIn (F.inRound k) (n - 1 - 1) P (ownPostG w.heap.size Kp I Ix (pre ++ [x]) A) (act x) A)
    (hend : ∀ (xs : List α) (A : World), S xs → I xs A → A.heap[w.heap.size]? = some (.deferred (some [])) → Q .normal { a with defers := { target := .collected w.heap.size, args := #[] } :: a.defers } A)
    (hout : ∀ (c : Code) (pre : List α) (A : World), Sp pre → Ix c pre A → A.heap[w.heap.size]? = some (.deferred (some [])) → c.wpIn F n P Q { a with defers := { target := .collected w.heap.size, args := #[] } :: a.defers } A) :
    (Code.rangeFunc g ps assign body).wpIn F n P Q a w := by
  refine wpIn_rangeFunc fun fn hfn => ?_
  rw [hro]
  obtain ⟨d, hd⟩ : ∃ d, w.heap.size = d := ⟨_, rfl⟩
  rw [hd] at hI hX hbo hend hout
  obtain ⟨L, hL⟩ : ∃ L : LoopState → Option Code → Loop, L = fun s c => { state := s, pending := c, fn, tmps := a.tmps, params := ps, assign, body, defers := d } := ⟨_, rfl⟩
  have hV : ∃ V, (w.alloc (.deferred (some []))).alloc (.loop (L .ready none)) = V := ⟨_, rfl⟩
  obtain ⟨V, hV⟩ := hV
  have vz : V.heap.size = d + 2 := by rw [← hV, ← hd]; simp
  have v1 : V.heap[d + 1]? = some (.loop (L .ready none)) := by
    have := World.alloc_heap_new (w.alloc (.deferred (some []))) (.loop (L .ready none))
    rw [World.size_alloc, hd, hV] at this
    exact this
  have v0 : V.heap[d]? = some (.deferred (some [])) := by
    have := (Below.heap_alloc (w.alloc (.deferred (some []))) (.loop (L .ready none)) d (by simp; omega))
    rw [hV] at this
    rw [this, ← hd]; exact World.alloc_heap_new w _
  have vI : I [] V := by rw [← hV]; exact hI.alloc _ (hI.alloc _ h0)
  have vb : Below w.heap.size w V := by rw [← hV]; exact ((Below.refl _ w).alloc (Nat.le_refl _) _).alloc (by simp) _
  refine ⟨d + 1, [{ target := .collected d, args := #[] }], V, { target := .fn (.func gf) lb, args := #[.func (.yield (d + 1)) #[] #[]] }, V, gf, #[.func (.yield (d + 1)) #[] #[]] ++ lb, V, ?_, ?_, ?_, ?_, fun _ => h1, ?_⟩
  · have := run_enterLoop_outer (P := P) (w := w) fn a.tmps ps assign body
    rw [hd] at this
    rw [this, ← hV, hL]
  · simp only [resolve, hg]; simp [go_sem]
  · intro f' hf'
    simp [Target.leads] at hf'
    subst hf'; exact hF
  · simp [invoke, go_sem, eg]
  have two : ∀ {A A' : World} {row : Option Nat} {s : LoopState} {c : Option Code}, A.grownBy A' row → (∀ r, row = some r → V.heap.size ≤ r) →
      A.heap[d + 1]? = some (.loop (L s c)) ∧ A.heap[d]? = some (.deferred (some [])) → A'.heap[d + 1]? = some (.loop (L s c)) ∧ A'.heap[d]? = some (.deferred (some [])) := fun hgr hr h =>
    ⟨(hgr.block _ (Array.getElem?_eq_some_iff.1 h.1).1 (fun e => by have := hr _ e.symm; omega)).trans h.1, (hgr.block _ (Array.getElem?_eq_some_iff.1 h.2).1 (fun e => by have := hr _ e.symm; omega)).trans h.2⟩
  have up : ∀ {row : Option Nat}, (∀ r, row = some r → V.heap.size ≤ r) → ∀ r, row = some r → d ≤ r := fun hr r e => by have := hr r e; omega
  refine (hseq (d + 1) (fun pre A => I pre A ∧ A.heap[d + 1]? = some (.loop (L .ready none)) ∧ A.heap[d]? = some (.deferred (some [])))
    (fun pre A => ∃ c, Ix c pre A ∧ A.heap[d + 1]? = some (.loop (L .done (some c))) ∧ A.heap[d]? = some (.deferred (some []))) V vb
    (fun s A A' row h hgr hr => ⟨hI s A A' row h.1 hgr (up hr), two hgr hr h.2⟩) (fun s A A' row ⟨c, h1, h2⟩ hgr hr => ⟨c, hX c s A A' row h1 hgr (up hr), two hgr hr h2⟩) ⟨vI, v1, v0⟩ ?_).mono ?_
  · rintro pre x A ⟨aI, a1, a0⟩ hlen
    have hy := run_yield (P := P) (args := encs x) a1 (by rw [hL]; exact hps x)
    rw [hL] at hy
    refine ⟨fn, _, assign, body, hy, roundIn_of_wpIn hfn (has _ x A _ ⟨_, run_beginRound a1 (by rw [hL]), ?_⟩)⟩
    obtain ⟨Z, hZ⟩ : ∃ Z, A.putObj (d + 1) (.loop { L .ready none with state := .busy }) = Z := ⟨_, rfl⟩
    have z1 : Z.heap[d + 1]? = some (.loop { L .ready none with state := .busy }) := by rw [← hZ]; exact putN_same a1
    have z0 : Z.heap[d]? = some (.deferred (some [])) := by rw [← hZ]; exact (World.putObj_heap_other (by omega)).trans a0
    have zI : I pre Z := by rw [← hZ]; exact hI.putObj _ aI (by omega) a1 rfl
    have zK : Kp A Z := by rw [← hZ]; exact hKb _ _ _ _ a1 rfl
    have zF : KeepsFrom V.heap.size A Z := by rw [← hZ]; exact putN_keeps _ (by omega)
    rw [hZ]
    have leave : ∀ (c : Option Code) (Y : World), KeepsFrom d Z Y → ∃ Y', (Instr.endRound (d + 1) c).run P Y = .ok (.bool c.isNone) Y' ∧ Y' = Y.putObj (d + 1) (.loop (L (if c.isNone then .ready else .done) c)) ∧ Y.heap[d + 1]? = some (.loop { L .ready none with state := .busy }) ∧
        (Y'.heap[d + 1]? = some (.loop (L (if c.isNone then .ready else .done) c)) ∧ Y'.heap[d]? = some (.deferred (some []))) ∧ KeepsFrom V.heap.size A Y' := fun c Y hY => by
      have y1 := hY.same _ _ (by omega) z1 rfl
      have y0 := hY.same _ _ (Nat.le_refl _) z0 rfl
      have r := run_endRound (P := P) c y1
      rw [hL] at r ⊢
      rw [hL] at y1
      refine ⟨_, r, rfl, y1, ⟨putN_same y1, (World.putObj_heap_other (by omega)).trans y0⟩, ?_⟩
      exact ⟨Nat.le_trans zF.size (by simpa using hY.size), fun k o hk hb hc => (World.putObj_heap_other (by omega)).trans (hY.same k o (by omega) (zF.same k o hk hb hc) hc)⟩
    refine wpIn_mono (hbo _ pre x Z zI hlen) ?_
    intro e a' Y hp
    have stop : ∀ c, KeepsFrom d Z Y → Ix c (pre ++ [x]) Y → ∃ v Y', (Instr.endRound (d + 1) (some c)).run P Y = .ok v Y' ∧ KeepsFrom V.heap.size A Y' ∧ ((Ending.returned v = .returned (.bool true) ∧ (I (pre ++ [x]) Y' ∧ Y'.heap[d + 1]? = some (.loop (L .ready none)) ∧ Y'.heap[d]? = some (.deferred (some []))) ∧ Kp A Y') ∨
        (Ending.returned v = .returned (.bool false) ∧ ∃ c, Ix c (pre ++ [x]) Y' ∧ Y'.heap[d + 1]? = some (.loop (L .done (some c))) ∧ Y'.heap[d]? = some (.deferred (some [])))) := fun c hk hx => by
      obtain ⟨Y', r, rfl, y1, yy, yk⟩ := leave (some c) Y hk
      exact ⟨_, _, r, yk, .inr ⟨rfl, c, (hX c).putObj _ hx (by omega) y1 rfl, yy⟩⟩
    cases e with
    | normal =>
      obtain ⟨hk, hkp, hi⟩ := hp
      obtain ⟨Y', r, rfl, y1, yy, yk⟩ := leave none Y hk
      exact ⟨_, _, r, yk, .inl ⟨rfl, ⟨hI.putObj _ hi (by omega) y1 rfl, yy⟩, hKt (hKt zK hkp) (hKb _ _ _ _ y1 rfl)⟩⟩
    | ret => exact stop _ hp.1 hp.2
    | exit id => exact stop _ hp.1 hp.2
    | goto t => exact stop _ hp.1 hp.2
    | panic ch => exact hp.elim
    | outgrown => exact hp.elim
  · rintro e Y ⟨⟨v, rfl⟩, (⟨xs, hS, hi, y1, y0⟩ | ⟨pre, hSp, c, hi, y1, y0⟩)⟩
    · have r := run_endLoop (P := P) y1 (by rw [hL]; simp)
      rw [hL] at r
      exact ⟨none, _, r, hend xs _ hS (hI.putObj _ hi (by omega) y1 rfl) ((World.putObj_heap_other (by omega)).trans y0)⟩
    · have r := run_endLoop (P := P) y1 (by rw [hL]; simp)
      rw [hL] at r
      exact ⟨some c, _, r, hout c pre _ hSp ((hX c).putObj _ hi (by omega) y1 rfl) ((World.putObj_heap_other (by omega)).trans y0)⟩
end Go.Proofs.YtdojhglpiejfjaaDoor
end
