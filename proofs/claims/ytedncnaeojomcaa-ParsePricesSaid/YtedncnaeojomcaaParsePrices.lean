/- For all tokens (at most 3000) and all prices (at most 1000 of each sort, as the law itself asks), parse.Price tells what the tokens cost, as the document's definition does, and refuses prices that aren't in form and tokens that aren't valid; prices are left as they were. No conditions but those of the law itself. -/
import Derived.Test.YtedncnaeojomcaaRows
import Derived.Test.YtedncnaeojomcaaOpen
import Derived.Test.YtedncnaeojomcaaParKept
import Derived.Test.YtedncnaeojomcaaParFlat
import Derived.Test.YtedncnaeojomcaaParRefPrice
import Derived.Test.YtedncnaeojomcaaOpenToks
import Derived.Test.YtedncnaeojomcaaOpenPr
import Derived.Test.YtedncnaeojomcaaNumIs
import Derived.Test.YtedncnaeojomcaaNumErr
namespace Go.Proofs.Ytedncnaeojomcaa.ParsePrices
open Go.ChangeShapes Go.WideShapes Go.ChangeAt Go.RowKit
open Go.ChangeMaps (open_string shut_string)
set_option linter.unusedVariables false
theorem own : ownKnob Try.prog.godebug = none := by kernel_rfl
theorem laidOut : laidOutB Try.prog = true := by kernel_rfl
theorem flat_ex : Pa.good (Pa.fl1 ((9 : Nat) : Int) 256) (Pa.fl2 ((3 : Nat) : Int) 259) (Pa.fl3 ((1 : Nat) : Int) 30) = true ∧ Pa.sm (Pa.fl1 ((9 : Nat) : Int) 256) (Pa.fl2 ((3 : Nat) : Int) 259) (Pa.fl3 ((1 : Nat) : Int) 30) [(0, 1)] 1 = 9 ∧ Tk.isTok (0, 1) = true := by decide +kernel
theorem tok1_ts {w : World} {g : Nat} (h : w.heap[g]? = some (.cells #[.int .i64 0, .int .i64 1] 31 (0, 0))) : Ts2 w (some ⟨g, 0, none⟩) 1 1 [(0, 1)] := by
  refine ⟨rfl, Nat.le_refl _, fun e => by simp at e, fun i hi => ?_, fun i hi => ?_⟩
  · obtain rfl : i = 0 := by omega
    exact ⟨g, 0, rfl, (Array.getElem?_eq_some_iff.1 h).1, by rw [cell_of_row _ _ _ _ _ (0, 0) h]; rfl, by rw [cell_of_row _ _ _ _ _ (0, 0) h]; rfl⟩
  · obtain rfl : i = 0 := by omega
    exact ⟨by decide, by decide⟩
/-- In form so far. -/
def gk (l1 l2 l3 : List Int) (ts : List Tok) : Nat → Bool
  | 0 => Pa.good l1 l2 l3
  | k + 1 => gk l1 l2 l3 ts k && Tk.isTok (ts.getD k (0, 0))
theorem gk_iff {l1 l2 l3 : List Int} {ts : List Tok} : ∀ k, gk l1 l2 l3 ts k = true ↔ Pa.good l1 l2 l3 = true ∧ ∀ i, i < k → Tk.isTok (ts.getD i (0, 0)) = true
  | 0 => by simp [gk]
  | k + 1 => by
    simp only [gk, Bool.and_eq_true]
    rw [gk_iff k]
    constructor
    · rintro ⟨⟨h1, h2⟩, h3⟩
      refine ⟨h1, fun i hi => ?_⟩
      rcases Nat.lt_or_ge i k with h | h
      · exact h2 i h
      · obtain rfl : i = k := by omega
        exact h3
    · rintro ⟨h1, h2⟩
      exact ⟨⟨h1, fun i hi => h2 i (by omega)⟩, h2 k (by omega)⟩
theorem wf_of_rng {l : List Int} (h : Pa.rng l = true) : Wf l := by
  intro x hx
  obtain ⟨i, hi, rfl⟩ := List.getElem_of_mem hx
  have := Pa.rng_get h i
  rw [List.getD, List.getElem?_eq_getElem hi] at this
  simp only [Option.getD_some] at this
  simp only [Lit.wf, IntKind.min, IntKind.max, IntKind.signed, IntKind.bits, Bool.and_eq_true, decide_eq_true_eq, if_true]
  simp; omega
theorem pr_of_own {w : World} {B : Nat} {v1 v2 v3 : Value} {n1 n2 n3 : Nat} {l1 l2 l3 : List Int} (o1 : w.ownsRow B 3 1 v1 n1 (ivs l1)) (o2 : w.ownsRow B 3 1 v2 n2 (ivs l2)) (o3 : w.ownsRow B 3 1 v3 n3 (ivs l3)) (hg : Pa.good l1 l2 l3 = true) (s1 : n1 ≤ 1000) (s2 : n2 ≤ 1000) (s3 : n3 ≤ 1000) :
    ∃ a1 c1 a2 c2 a3 c3, v1 = .slice a1 n1 c1 ∧ v2 = .slice a2 n2 c2 ∧ v3 = .slice a3 n3 c3 ∧ Pa.Pr w a1 n1 c1 l1 a2 n2 c2 l2 a3 n3 c3 l3 := by
  obtain ⟨h1, h2, h3, _⟩ := Pa.good_parts hg
  obtain ⟨a1, c1, e1, i1⟩ := own_is o1 (wf_of_rng h1)
  obtain ⟨a2, c2, e2, i2⟩ := own_is o2 (wf_of_rng h2)
  obtain ⟨a3, c3, e3, i3⟩ := own_is o3 (wf_of_rng h3)
  exact ⟨a1, c1, a2, c2, a3, c3, e1, e2, e3, i1, i2, i3, by omega, by omega, by omega⟩
theorem pr_of_cp {w0 w : World} {g1 g2 g3 n1 n2 n3 : Nat} {l1 l2 l3 : List Int} (h : Pa.Cp3 w0 w g1 n1 l1 g2 n2 l2 g3 n3 l3) (w1 : Wf l1) (w2 : Wf l2) (w3 : Wf l3) (s1 : n1 ≤ 1000) (s2 : n2 ≤ 1000) (s3 : n3 ≤ 1000) :
    Pa.Pr w (some ⟨g1, 0, none⟩) n1 (n1 + 1) l1 (some ⟨g2, 0, none⟩) n2 (n2 + 1) l2 (some ⟨g3, 0, none⟩) n3 (n3 + 1) l3 := by
  have q : ∀ {g n : Nat} {l : List Int}, w.ownsRow w0.heap.size 3 1 (.slice (some ⟨g, 0, none⟩) (n + 1) (n + 1)) (n + 1) (ivs (l ++ [-77])) → Wf l → Is .i64 w (some ⟨g, 0, none⟩) n (n + 1) l := fun {g n l} h hw => by
    have hl : l.length = n := by have := h.1; rw [ivs_length] at this; simp at this; omega
    have := is_of_own h (wf_mark hw) 0 n (n + 1) (by omega) (by omega)
    rwa [List.drop_zero, List.take_append_of_le_length (by omega), List.take_of_length_le (by omega)] at this
  exact ⟨q h.o1 w1, q h.o2 w2, q h.o3 w3, by omega, by omega, by omega⟩
set_option maxRecDepth 100000 in
set_option maxHeartbeats 8000000 in
theorem walk (a : Option Addr) (len cap : Nat) (ts : List Tok) (a1 : Option Addr) (n1 c1 : Nat) (l1 : List Int) (a2 : Option Addr) (n2 c2 : Nat) (l2 : List Int) (a3 : Option Addr) (n3 c3 : Nat) (l3 : List Int) (w : World) (h : Ts2 w a len cap ts) (hr : cap * 16 ≤ 140737488351232)
    (h1 : Is .i64 w a1 n1 c1 l1) (r1 : c1 * 8 ≤ 140737488351232) (h2 : Is .i64 w a2 n2 c2 l2) (r2 : c2 * 8 ≤ 140737488351232) (h3 : Is .i64 w a3 n3 c3 l3) (r3 : c3 * 8 ≤ 140737488351232) :
    Calls Try.prog 3 #[.slice a len cap, .agg #[.slice a1 n1 c1, .slice a2 n2 c2, .slice a3 n3 c3]] w fun e w' => e = .returned (.bool true) ∧ Below w.heap.size w w' := by
  have hle := h.hle
  have H := Lib.hid h
  have HLN := Lib.hid h.hlen
  have q1 := h1.hle
  have q2 := h2.hle
  have q3 := h3.hle
  have HP : Hid (Pa.Pr w a1 n1 c1 l1 a2 n2 c2 l2 a3 n3 c3 l3) := Lib.hid ⟨h1, h2, h3, by omega, by omega, by omega⟩
  have hb0 := below_alloc w (.cells #[.slice a1 n1 c1, .slice a2 n2 c2, .slice a3 n3 c3] 25)
  have hrow : (w.alloc (.cells #[.slice a1 n1 c1, .slice a2 n2 c2, .slice a3 n3 c3] 25)).heap[w.heap.size]? = some (.cells #[.slice a1 n1 c1, .slice a2 n2 c2, .slice a3 n3 c3] 25 (0, 0)) := heap_alloc_last w _
  have HR := Lib.hid hrow
  have HB := Lib.hid hb0
  clear h h1 h2 h3 q1 q2 q3 hb0 hrow
  go_enter Try.func3, Try.ntmps3
  go_wp2_with fail
  have hb1 := below_alloc (w.alloc (.cells #[.slice a1 n1 c1, .slice a2 n2 c2, .slice a3 n3 c3] 25)) (.cells #[.int .i64 0, .int .i64 1] 31)
  have hrt : ((w.alloc (.cells #[.slice a1 n1 c1, .slice a2 n2 c2, .slice a3 n3 c3] 25)).alloc (.cells #[.int .i64 0, .int .i64 1] 31)).heap[w.heap.size + 1]? = some (.cells #[.int .i64 0, .int .i64 1] 31 (0, 0)) := heap_alloc2_new w _ _
  have HB1 := Lib.hid (below_then HB.out hb1)
  have HR1 := Lib.hid ((hb1.block w.heap.size (by simp)).trans HR.out)
  revert hrt HB1 HR1
  clear HB HR hb1
  generalize (w.alloc (.cells #[.slice a1 n1 c1, .slice a2 n2 c2, .slice a3 n3 c3] 25)).alloc (.cells #[.int .i64 0, .int .i64 1] 31) = w1
  intro hrt HB1 HR1
  have HT1 := Lib.hid (tok1_ts hrt)
  have HF : Hid (Calls Try.prog 7 #[.int .i64 9, .int .i64 3, .int .i64 1] w1 fun e w' => ∃ v1 v2 v3, e = .returned (.agg #[v1, v2, v3]) ∧ w'.ownsRow w1.heap.size 3 1 v1 256 (ivs (Pa.fl1 ((9 : Nat) : Int) 256)) ∧ w'.ownsRow w1.heap.size 3 1 v2 259 (ivs (Pa.fl2 ((3 : Nat) : Int) 259)) ∧ w'.ownsRow w1.heap.size 3 1 v3 30 (ivs (Pa.fl3 ((1 : Nat) : Int) 30)) ∧ Below w1.heap.size w1 w') := Lib.hid (flat_any 9 3 1 w1 (by omega) (by omega) (by omega))
  have HZ : Hid (w.heap.size < w1.heap.size) := Lib.hid (Array.getElem?_eq_some_iff.1 HR1.out).1
  clear hrt
  refine HF.out.mono ?_
  rintro e w2 ⟨v1, v2, v3, rfl, o1, o2, o3, hb2⟩
  obtain ⟨fe1, fe2, fe3⟩ := flat_ex
  obtain ⟨fa1, fc1, fa2, fc2, fa3, fc3, rfl, rfl, rfl, hpr⟩ := pr_of_own o1 o2 o3 fe1 (by omega) (by omega) (by omega)
  have HPF := Lib.hid hpr
  have HT2 := Lib.hid (HT1.out.mono hb2)
  have HB2 := Lib.hid (below_then HB1.out hb2)
  have HR2 := Lib.hid ((hb2.block w.heap.size HZ.out).trans HR1.out)
  have HWF := Lib.hid (Pa.good_parts fe1)
  have HFE := Lib.hid (And.intro fe1 (And.intro fe2 fe3))
  clear o1 o2 o3 hb2 hpr HF HT1 fe1 fe2 fe3
  generalize Pa.fl1 ((9 : Nat) : Int) 256 = L1 at *
  generalize Pa.fl2 ((3 : Nat) : Int) 259 = L2 at *
  generalize Pa.fl3 ((1 : Nat) : Int) 30 = L3 at *
  go_wp2_with fail
  refine (prices_any HPF.out (by omega) (by omega) (by omega)).mono ?_
  rintro e w3 ⟨y1, y2, y3, rfl, hcp, hb3⟩
  have HPQ := Lib.hid (pr_of_cp hcp (wf_of_rng HWF.out.1) (wf_of_rng HWF.out.2.1) (wf_of_rng HWF.out.2.2.1) (by omega) (by omega) (by omega))
  have HT3 := Lib.hid (HT2.out.mono hb3)
  have HB3 := Lib.hid (below_then HB2.out hb3)
  have HZ2 : Hid (w.heap.size < w2.heap.size) := Lib.hid (Array.getElem?_eq_some_iff.1 HR2.out).1
  have HR3 := Lib.hid ((hb3.block w.heap.size HZ2.out).trans HR2.out)
  clear hcp hb3 HPF HT2
  go_wp2_with fail
  refine (price_any _ 1 1 _ HT3.out (by omega) HPQ.out).mono ?_
  rintro e w4 ⟨hpc, hb4⟩
  obtain rfl : e = .returned (.tuple #[.int .i64 9, .nilIface]) := by
    rcases hpc with ⟨_, _, rfl⟩ | ⟨hn, _⟩
    · rw [HFE.out.2.1]
    · refine absurd ⟨HFE.out.1, fun i hi => ?_⟩ hn
      obtain rfl : i = 0 := by omega
      exact HFE.out.2.2
  have HB4 := Lib.hid (below_then HB3.out hb4)
  have HZ3 : Hid (w.heap.size < w3.heap.size) := Lib.hid (Array.getElem?_eq_some_iff.1 HR3.out).1
  have HR4 := Lib.hid ((hb4.block w.heap.size HZ3.out).trans HR3.out)
  clear hpc hb4 HT3 HPQ HFE HWF HB3 HR3 HZ3 HB2 HR2 HZ2 HB1 HR1 HZ
  by_cases hbig : 3000 < len
  · have d1 : decide ((3000 : Int) < (len : Int)) = true := by simp; omega
    go_wp2
    go_ret
    exact ⟨rfl, HB4.out⟩
  have d1 : decide ((3000 : Int) < (len : Int)) = false := by simp; omega
  have p0 : w4.cell? ⟨w.heap.size, 0, none⟩ = some (.slice a1 n1 c1) := by rw [cell_of_row _ _ _ _ _ (0, 0) HR4.out]; rfl
  have p1 : w4.cell? ⟨w.heap.size, 1, none⟩ = some (.slice a2 n2 c2) := by rw [cell_of_row _ _ _ _ _ (0, 0) HR4.out]; rfl
  have p2 : w4.cell? ⟨w.heap.size, 2, none⟩ = some (.slice a3 n3 c3) := by rw [cell_of_row _ _ _ _ _ (0, 0) HR4.out]; rfl
  have HLG := Lib.hid (large_any (HP.out.mono HB4.out))
  go_wp2_with fail
  refine HLG.out.mono ?_
  rintro e w5 ⟨rfl, hb5⟩
  have HB5 := Lib.hid (below_then HB4.out hb5)
  have HZ4 : Hid (w.heap.size < w4.heap.size) := Lib.hid (Array.getElem?_eq_some_iff.1 HR4.out).1
  have HR5 := Lib.hid ((hb5.block w.heap.size HZ4.out).trans HR4.out)
  clear hb5 HLG p0 p1 p2
  by_cases hlg : n1 ≤ 1000 ∧ n2 ≤ 1000 ∧ n3 ≤ 1000
  rotate_left
  · rw [show (decide (1000 < n1) || decide (1000 < n2) || decide (1000 < n3)) = true by
      by_cases e1 : 1000 < n1 <;> by_cases e2 : 1000 < n2 <;> by_cases e3 : 1000 < n3 <;> simp [e1, e2, e3] <;> omega]
    go_wp2
    go_ret
    exact ⟨rfl, HB5.out⟩
  obtain ⟨g1, g2, g3⟩ := hlg
  rw [show (decide (1000 < n1) || decide (1000 < n2) || decide (1000 < n3)) = false by
    rw [decide_eq_false (by omega), decide_eq_false (by omega), decide_eq_false (by omega)]; rfl]
  have p0 : w5.cell? ⟨w.heap.size, 0, none⟩ = some (.slice a1 n1 c1) := by rw [cell_of_row _ _ _ _ _ (0, 0) HR5.out]; rfl
  have p1 : w5.cell? ⟨w.heap.size, 1, none⟩ = some (.slice a2 n2 c2) := by rw [cell_of_row _ _ _ _ _ (0, 0) HR5.out]; rfl
  have p2 : w5.cell? ⟨w.heap.size, 2, none⟩ = some (.slice a3 n3 c3) := by rw [cell_of_row _ _ _ _ _ (0, 0) HR5.out]; rfl
  have HPC := Lib.hid (prices_any (HP.out.mono HB5.out) g1 g2 g3)
  go_wp2_with fail
  refine HPC.out.mono ?_
  rintro e w6 ⟨y1', y2', y3', rfl, hcp, hb6⟩
  clear p0 p1 p2
  go_wp2_with fail
  have hb7 := below_alloc w6 (.cells #[.slice (some ⟨y1', 0, none⟩) n1 (n1 + 1), .slice (some ⟨y2', 0, none⟩) n2 (n2 + 1), .slice (some ⟨y3', 0, none⟩) n3 (n3 + 1)] 32)
  have hrq : (w6.alloc (.cells #[.slice (some ⟨y1', 0, none⟩) n1 (n1 + 1), .slice (some ⟨y2', 0, none⟩) n2 (n2 + 1), .slice (some ⟨y3', 0, none⟩) n3 (n3 + 1)] 32)).heap[w6.heap.size]? = some (.cells #[.slice (some ⟨y1', 0, none⟩) n1 (n1 + 1), .slice (some ⟨y2', 0, none⟩) n2 (n2 + 1), .slice (some ⟨y3', 0, none⟩) n3 (n3 + 1)] 32 (0, 0)) := heap_alloc_last w6 _
  have HB6 := Lib.hid (below_then HB5.out hb6)
  have HZ5 : Hid (w.heap.size < w5.heap.size) := Lib.hid (Array.getElem?_eq_some_iff.1 HR5.out).1
  have HR7 := Lib.hid (((below_then hb6 hb7).block w.heap.size HZ5.out).trans HR5.out)
  have HB7 := Lib.hid (below_then HB6.out hb7)
  have HCP7 := Lib.hid (hcp.mono hb7)
  have HRQ7 := Lib.hid hrq
  revert HR7 HB7 HCP7 HRQ7
  clear hb7 hrq hb6 hcp HB6 HB5 HR5 HB4 HR4 HZ4 HPC
  generalize w6.alloc (.cells #[.slice (some ⟨y1', 0, none⟩) n1 (n1 + 1), .slice (some ⟨y2', 0, none⟩) n2 (n2 + 1), .slice (some ⟨y3', 0, none⟩) n3 (n3 + 1)] 32) = w7
  generalize w6.heap.size = qb
  intro HR7 HB7 HCP7 HRQ7
  have HPQ := Lib.hid (pr_of_cp HCP7.out HP.out.h1.wf HP.out.h2.wf HP.out.h3.wf g1 g2 g3)
  refine (price_any a len cap ts (H.out.mono HB7.out) (by omega) HPQ.out).mono ?_
  rintro e w8 ⟨hpc, hb8⟩
  have hpv : ∃ pn er, e = .returned (.tuple #[pn, er]) ∧ ((gk l1 l2 l3 ts len = true ∧ pn = .int .i64 (Pa.sm l1 l2 l3 ts len) ∧ er = .nilIface) ∨ (gk l1 l2 l3 ts len = false ∧ pn = .int .i64 0 ∧ er = .iface 40 (.int .i64 6))) := by
    rcases hpc with ⟨k1, k2, rfl⟩ | ⟨k1, rfl⟩
    · exact ⟨_, _, rfl, .inl ⟨(gk_iff len).2 ⟨k1, k2⟩, rfl, rfl⟩⟩
    · refine ⟨_, _, rfl, .inr ⟨?_, rfl, rfl⟩⟩
      cases hgk : gk l1 l2 l3 ts len with
      | false => rfl
      | true => exact absurd ((gk_iff len).1 hgk) k1
  obtain ⟨pn, er, rfl, hpv⟩ := hpv
  have HPV := Lib.hid hpv
  have HB8 := Lib.hid (below_then HB7.out hb8)
  have HZ7 : Hid (w.heap.size < w7.heap.size ∧ qb < w7.heap.size) := Lib.hid ⟨(Array.getElem?_eq_some_iff.1 HR7.out).1, (Array.getElem?_eq_some_iff.1 HRQ7.out).1⟩
  have HR8 := Lib.hid ((hb8.block w.heap.size HZ7.out.1).trans HR7.out)
  have HRQ8 := Lib.hid ((hb8.block qb HZ7.out.2).trans HRQ7.out)
  have HCP8 := Lib.hid (HCP7.out.mono hb8)
  clear hpc hpv hb8 HR7 HRQ7 HCP7 HB7 HZ7 HPQ
  have p0 : w8.cell? ⟨w.heap.size, 0, none⟩ = some (.slice a1 n1 c1) := by rw [cell_of_row _ _ _ _ _ (0, 0) HR8.out]; rfl
  have p1 : w8.cell? ⟨w.heap.size, 1, none⟩ = some (.slice a2 n2 c2) := by rw [cell_of_row _ _ _ _ _ (0, 0) HR8.out]; rfl
  have p2 : w8.cell? ⟨w.heap.size, 2, none⟩ = some (.slice a3 n3 c3) := by rw [cell_of_row _ _ _ _ _ (0, 0) HR8.out]; rfl
  have HGO := Lib.hid (refGood_any (HP.out.mono HB8.out))
  go_wp2_with fail
  refine HGO.out.mono ?_
  rintro e w9 ⟨rfl, hb9⟩
  have HB9 := Lib.hid (below_then HB8.out hb9)
  have HZ8 : Hid (w.heap.size < w8.heap.size ∧ qb < w8.heap.size) := Lib.hid ⟨(Array.getElem?_eq_some_iff.1 HR8.out).1, (Array.getElem?_eq_some_iff.1 HRQ8.out).1⟩
  have HR9 := Lib.hid ((hb9.block w.heap.size HZ8.out.1).trans HR8.out)
  have HRQ9 := Lib.hid ((hb9.block qb HZ8.out.2).trans HRQ8.out)
  have HCP9 := Lib.hid (HCP8.out.mono hb9)
  clear hb9 HR8 HRQ8 HCP8 HB8 HZ8 HGO p0 p1 p2
  go_wp2
  go_loopw [10, 49] (fun gv i wr => ∃ k : Nat, k ≤ len ∧ i = .int .i64 ((k : Nat) : Int) ∧ gv = .bool (gk l1 l2 l3 ts k) ∧ Hid (Below w9.heap.size w9 wr)) (fun _ i _ => len - (intOf i).toNat)
  case atStart => exact ⟨0, by omega, rfl, rfl, Lib.hid (Below.refl _ _)⟩
  case round =>
    obtain ⟨k, hk, rfl, rfl, HBR⟩ := hrel
    by_cases hlt : k < len
    · obtain ⟨b, off, rfl, hbl, t0, t1⟩ := ((H.out.mono HB9.out).mono HBR.out).at' k hlt
      have hwf := H.out.wf k hlt
      have HG1 : Hid (gk l1 l2 l3 ts (k + 1) = (gk l1 l2 l3 ts k && Tk.isTok (ts.getD k (0, 0)))) := Lib.hid rfl
      generalize ts.getD k (0, 0) = t at *
      obtain ⟨x, y⟩ := t
      simp only at t0 t1 hwf
      have hb5 := below_alloc wr (.cells #[.int .i64 x, .int .i64 y] 31)
      have hr5 : (wr.alloc (.cells #[.int .i64 x, .int .i64 y] 31)).heap[wr.heap.size]? = some (.cells #[.int .i64 x, .int .i64 y] 31 (0, 0)) := heap_alloc_last wr _
      have HS := Lib.hid (refGood06_any (x, y) (wr.alloc (.cells #[.int .i64 x, .int .i64 y] 31)) hwf)
      have HB5 := Lib.hid (below_then HBR.out hb5)
      clear hb5 hbl hwf hr5
      simp only at HS
      cases hgk : gk l1 l2 l3 ts k
      · rw [hgk, Bool.false_and] at HG1
        clear hgk
        go_wp2
        go_roundw
        case rel => exact ⟨k + 1, by omega, by go_num, by rw [HG1.out], HB5⟩
        case measure => simp [intOf]; omega
      · rw [hgk, Bool.true_and] at HG1
        clear hgk
        go_wp2_with fail
        refine HS.out.mono ?_
        rintro e wB ⟨rfl, hbB⟩
        have HB6 := Lib.hid (below_then HB5.out hbB)
        clear hbB HS
        go_wp2
        go_roundw
        case rel => exact ⟨k + 1, by omega, by go_num, by rw [HG1.out], HB6⟩
        case measure => simp [intOf]; omega
    · obtain rfl : len = k := by omega
      have HZ9 : Hid (w.heap.size < w9.heap.size ∧ qb < w9.heap.size) := Lib.hid ⟨(Array.getElem?_eq_some_iff.1 HR9.out).1, (Array.getElem?_eq_some_iff.1 HRQ9.out).1⟩
      have hrp := (HBR.out.block w.heap.size HZ9.out.1).trans HR9.out
      have hrq := (HBR.out.block qb HZ9.out.2).trans HRQ9.out
      have p0 : wr.cell? ⟨w.heap.size, 0, none⟩ = some (.slice a1 n1 c1) := by rw [cell_of_row _ _ _ _ _ (0, 0) hrp]; rfl
      have p1 : wr.cell? ⟨w.heap.size, 1, none⟩ = some (.slice a2 n2 c2) := by rw [cell_of_row _ _ _ _ _ (0, 0) hrp]; rfl
      have p2 : wr.cell? ⟨w.heap.size, 2, none⟩ = some (.slice a3 n3 c3) := by rw [cell_of_row _ _ _ _ _ (0, 0) hrp]; rfl
      have q0 : wr.cell? ⟨qb, 0, none⟩ = some (.slice (some ⟨y1', 0, none⟩) n1 (n1 + 1)) := by rw [cell_of_row _ _ _ _ _ (0, 0) hrq]; rfl
      have q1 : wr.cell? ⟨qb, 1, none⟩ = some (.slice (some ⟨y2', 0, none⟩) n2 (n2 + 1)) := by rw [cell_of_row _ _ _ _ _ (0, 0) hrq]; rfl
      have q2 : wr.cell? ⟨qb, 2, none⟩ = some (.slice (some ⟨y3', 0, none⟩) n3 (n3 + 1)) := by rw [cell_of_row _ _ _ _ _ (0, 0) hrq]; rfl
      have HBX := Lib.hid (below_then HB9.out HBR.out)
      have HKP := Lib.hid (keptP_any (HCP9.out.mono HBR.out) (HP.out.mono HBX.out) g1 g2 g3)
      have HRX := Lib.hid hrp
      have HZX : Hid (w.heap.size < wr.heap.size) := Lib.hid (Array.getElem?_eq_some_iff.1 hrp).1
      clear hrp hrq HR9 HRQ9 HCP9 HZ9 HBR
      go_wp2_with fail
      refine HKP.out.mono ?_
      rintro e wA ⟨rfl, hbA⟩
      have HBA := Lib.hid (below_then HBX.out hbA)
      have HRA := Lib.hid ((hbA.block w.heap.size HZX.out).trans HRX.out)
      have HZA : Hid (w.heap.size < wA.heap.size) := Lib.hid (Array.getElem?_eq_some_iff.1 HRA.out).1
      clear hbA HKP HBX HRX HZX p0 p1 p2 q0 q1 q2
      rcases HPV.out with ⟨hgt, rfl, rfl⟩ | ⟨hgf, rfl, rfl⟩
      rotate_left
      · rw [hgf]
        clear hgf HPV
        go_wp2_with fail
        refine (is_yes 6 rfl wA).mono ?_
        rintro e w' ⟨rfl, rfl⟩
        go_wp2
        go_ret
        exact ⟨rfl, HBA.out⟩
      · have hgi := (gk_iff len).1 hgt
        have HGI := Lib.hid hgi
        have HGD := Lib.hid (Pa.good_parts hgi.1)
        rw [hgt]
        clear hgt hgi HPV
        go_wp2
        go_loopw [13, 73] (fun sv i wr => ∃ k : Nat, k ≤ len ∧ i = .int .i64 ((k : Nat) : Int) ∧ sv = .int .i64 (Pa.sm l1 l2 l3 ts k) ∧ Hid (Below wA.heap.size wA wr)) (fun _ i _ => len - (intOf i).toNat)
        case atStart => exact ⟨0, by omega, rfl, rfl, Lib.hid (Below.refl _ _)⟩
        case round =>
          obtain ⟨k, hk, rfl, rfl, HBR⟩ := hrel
          have hsm := Pa.sm_in HGD.out.1 HGD.out.2.1 HGD.out.2.2.1 ts k
          by_cases hlt : k < len
          · obtain ⟨b, off, rfl, hbl, t0, t1⟩ := ((H.out.mono HBA.out).mono HBR.out).at' k hlt
            have hpr := Pa.pr_in HGD.out.1 HGD.out.2.1 HGD.out.2.2.1 (ts.getD k (0, 0))
            have HSM : Hid (Pa.sm l1 l2 l3 ts (k + 1) = Pa.sm l1 l2 l3 ts k + Pa.pr l1 l2 l3 (ts.getD k (0, 0))) := Lib.hid rfl
            have htk := HGI.out.2 k hlt
            generalize ts.getD k (0, 0) = t at *
            obtain ⟨x, y⟩ := t
            simp only at t0 t1
            have hb5 := below_alloc wr (.cells #[.int .i64 x, .int .i64 y] 31)
            have HB5 := Lib.hid (below_then HBR.out hb5)
            have hrp := (HB5.out.block w.heap.size HZA.out).trans HRA.out
            have p0 : (wr.alloc (.cells #[.int .i64 x, .int .i64 y] 31)).cell? ⟨w.heap.size, 0, none⟩ = some (.slice a1 n1 c1) := by rw [cell_of_row _ _ _ _ _ (0, 0) hrp]; rfl
            have p1 : (wr.alloc (.cells #[.int .i64 x, .int .i64 y] 31)).cell? ⟨w.heap.size, 1, none⟩ = some (.slice a2 n2 c2) := by rw [cell_of_row _ _ _ _ _ (0, 0) hrp]; rfl
            have p2 : (wr.alloc (.cells #[.int .i64 x, .int .i64 y] 31)).cell? ⟨w.heap.size, 2, none⟩ = some (.slice a3 n3 c3) := by rw [cell_of_row _ _ _ _ _ (0, 0) hrp]; rfl
            have HS := Lib.hid (refPrice_any x y htk HGI.out.1 ((HP.out.mono HBA.out).mono HB5.out))
            clear hb5 hbl hrp htk
            generalize Pa.pr l1 l2 l3 (x, y) = z at *
            generalize Pa.sm l1 l2 l3 ts k = S at *
            go_wp2_with fail
            refine HS.out.mono ?_
            rintro e wB ⟨rfl, hbB⟩
            have HB6 := Lib.hid (below_then HB5.out hbB)
            clear hbB HS p0 p1 p2
            go_wp2
            go_roundw
            case rel => exact ⟨k + 1, by omega, by go_num, by rw [HSM.out], HB6⟩
            case measure => simp [intOf]; omega
          · obtain rfl : len = k := by omega
            have HBZ := Lib.hid (below_then HBA.out HBR.out)
            generalize Pa.sm l1 l2 l3 ts len = S at *
            go_wp2
            go_ret
            exact ⟨by simp, HBZ.out⟩
set_option maxRecDepth 100000 in
theorem lifted (os : Os) (started : os.Started) (H : Type) (enc : TypeId × Value → H) :
    ReturnsInHanded {} Try.checked os 3 .any (Rows.parsePricesSpec.pre6 enc Try.prog Try.f3 Rows.parsePricesRow.domain false) (Rows.parsePricesSpec.post enc Try.prog Try.f3 false true false false) := by
  refine returnsInHanded_of_change_sized (C := Try.checked) own started (by kernel_rfl) Try.func3
    (ChangeSpec.witness6 (enc := enc) (C := Try.checked) false ⟨#[], #[.slice none 0 0, .agg #[.slice none 0 0, .slice none 0 0, .slice none 0 0]], []⟩ 8 (by kernel_rfl) (by kernel_rfl) (by kernel_rfl) (by kernel_rfl)) ?_
  intro W base args ds gs before hval0 hW _ hsz0 _
  have hval : ∀ (j : Nat) t v, Try.f3.params[j]? = some t → args[j]? = some v → Value.okWide Try.prog W .any base t v := hval0
  have hsz : (DataW.weightsEach Try.prog (Try.f3.params.toList ++ Rows.parsePricesSpec.plain.varTypes Try.prog) (ds ++ gs)).all (· ≤ reachBytes) = true := hsz0
  have hW' := hW
  obtain ⟨p, q, hA0, hV, rfl, hfz, hnd⟩ := hW
  have hA : DataW.TrodAll enc Try.prog W 0 (fun _ => true) true Try.f3.params.toList args.toList ds p := hA0
  rw [Try.params3] at hA hval hsz
  obtain ⟨v0, vs0, d0, ds0, p0, q0, hargs, rfl, rfl, h0, r0⟩ := trodAll_cons hA
  obtain ⟨v1, vs1, d1, ds1, p1, q1, rfl, rfl, rfl, h1, r1⟩ := trodAll_cons r0
  obtain ⟨rfl, rfl, rfl⟩ := trodAll_nil r1
  obtain rfl : args = #[v0, v1] := by cases args; simp_all
  obtain ⟨rfl, rfl⟩ := trodVars_none hV
  clear hsz0
  obtain ⟨a0, len0, cap0, rfl⟩ := okWide_slice Try.underlying22 (hval 0 22 v0 rfl rfl)
  have k0 := h0
  have lt0 : ∀ x ∈ p0, x.block < W.heap.size := by obtain ⟨m, hm⟩ := k0; exact DataW.trod_lt m _ _ _ hm
  obtain ⟨l0, w0, c0⟩ := open_toks Try.underlying22 Try.underlying31 Try.underlying3 Try.underlying3 (by kernel_rfl) (by kernel_rfl) rfl rfl (by kernel_rfl) (by kernel_rfl) h0 hsz 0 rfl rfl
  have k1 := h1
  have lt1 : ∀ x ∈ p1, x.block < W.heap.size := by obtain ⟨m, hm⟩ := k1; exact DataW.trod_lt m _ _ _ hm
  obtain ⟨a1, len1, cap1, l1, b1, blen1, bcap1, m1, g1, glen1, gcap1, q1, rfl, w1, c1, x1, y1, z1, s1⟩ := open_pr3 Try.underlying25 (by kernel_rfl) Try.underlying23 Try.underlying3 (by kernel_rfl) (by kernel_rfl) Try.underlying23 Try.underlying3 (by kernel_rfl) (by kernel_rfl) Try.underlying23 Try.underlying3 (by kernel_rfl) (by kernel_rfl) (by kernel_rfl) (by kernel_rfl) (by kernel_rfl) rfl rfl rfl (hval 1 25 v1 rfl rfl) h1 hsz 1 rfl rfl
  clear hA0 hval0 hsz
  refine (walk a0 len0 cap0 l0 a1 len1 cap1 l1 b1 blen1 bcap1 m1 g1 glen1 gcap1 q1 W w0 c0 w1 c1 x1 y1 z1 s1).mono fun e W' ⟨he, bel⟩ => ?_
  subst he
  exact ⟨_, rfl, _, _, _, [], _, [], hW', trodAll_mk1 (shut_bool Try.underlying4 _), (trodAll_cons_mk (Below.trod laidOut (by kernel_rfl) (of_decide_eq_true (by kernel_rfl)) k0 bel lt0) (trodAll_cons_mk (Below.trod laidOut (by kernel_rfl) (of_decide_eq_true (by kernel_rfl)) k1 bel lt1) trodAll_mk0)), rfl, bel.frame _, fun h => by cases h⟩

theorem proved : Rows.ParsePricesSaid :=
  OpenClaim.holds_of_wide 3 Try.f3 rfl rfl rfl rfl rfl rfl rfl ⟨rfl, rfl, rfl, rfl, rfl⟩ rfl rfl rfl rfl rfl (by kernel_rfl) Try.func3 (by kernel_rfl)
    (of_decide_eq_true (by kernel_rfl)) (by unfold Func.isWrapper; first | (rw [if_pos (by decide +kernel)]; kernel_rfl) | (rw [if_neg (by decide +kernel)]; exact ⟨rfl, rfl⟩))
    (fun os started H enc _ => lifted os started H enc)
#print axioms proved
end Go.Proofs.Ytedncnaeojomcaa.ParsePrices
