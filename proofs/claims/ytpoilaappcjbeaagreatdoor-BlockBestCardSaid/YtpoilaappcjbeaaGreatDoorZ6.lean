/- block's tokens: isToken, areTokens; a length's and a distance's symbol. A draw changes no memory. bytes.Equal: its contract. block's tokens and a text: agrees, standFor, isValid. burnishref10.Literals: its contract; and what literals ahead of tokens come to. The document's Expand: its contract. burnishref10.Literals: its contract. -/
import Derived.Test.YtpoilaappcjbeaaGreatDoorZ5
import Derived.Test.YtpoilaappcjbeaaGreatDoorProg
import Derived.BigQuiet
import Derived.Deep.RegionHeld3
import Derived.Deep.QuietTactic
set_option linter.unusedSimpArgs false
set_option linter.unusedVariables false
section
namespace Go.Proofs.YtpoilaappcjbeaaGreatDoor
open Go.RowKit

namespace Bc
def LsV (x : Int) (e : Ending) : Prop := ∃ s : Int, e = .returned (.tuple #[.int .i64 s, .bool (decide (3 ≤ x ∧ x ≤ 258))]) ∧ (3 ≤ x ∧ x ≤ 258 → s = ((257 + Sy.lsy x.toNat : Nat) : Int))
def DsV (y : Int) (e : Ending) : Prop := ∃ s : Int, e = .returned (.tuple #[.int .i64 s, .bool (decide (1 ≤ y ∧ y ≤ 32768))]) ∧ (1 ≤ y ∧ y ≤ 32768 → s = ((Sy.dsy y.toNat : Nat) : Int))
theorem lsym_any (x : Int) (w : World) (hw : (Lit.int .i64 x).wf = true) : Calls Tryz.prog 54 #[.int .i64 x] w fun e w' => LsV x e ∧ w = w' := by
  refine (lengthSymbol_any x w hw).mono ?_
  rintro e w' ⟨⟨v1, hv1, rfl⟩, rfl⟩
  refine ⟨?_, rfl⟩
  rcases hv1 with ⟨h, rfl⟩ | ⟨rfl, rfl⟩ | ⟨a, r, rfl, ha, hh, rfl⟩
  · exact ⟨0, by rw [decide_eq_false h], fun h' => absurd h' h⟩
  · exact ⟨285, rfl, fun _ => by rw [show (258 : Int).toNat = 258 from rfl, Sy.lsy_of (n := 258) (s := 28) (by omega) (by decide) (fun h => by omega)]; rfl⟩
  · obtain ⟨q1, q2, q3⟩ := Sy.held4 ha hh
    refine ⟨_, by rw [decide_eq_true (show 3 ≤ (a : Int) + 3 ∧ (a : Int) + 3 ≤ 258 by omega)], fun _ => ?_⟩
    rw [show ((a : Int) + 3).toNat = a + 3 by omega, Sy.lsy_of (n := a + 3) (s := r) (by omega) q2 (fun _ => q3)]
    omega
theorem dsym_any (y : Int) (w : World) (hw : (Lit.int .i64 y).wf = true) : Calls Tryz.prog 63 #[.int .i64 y] w fun e w' => DsV y e ∧ w = w' := by
  refine (distSymbol_any y w hw).mono ?_
  rintro e w' ⟨⟨v2, hv2, rfl⟩, rfl⟩
  refine ⟨?_, rfl⟩
  rcases hv2 with ⟨h, rfl⟩ | ⟨a, r, rfl, ha, hh, rfl⟩
  · exact ⟨0, by rw [decide_eq_false h], fun h' => absurd h' h⟩
  · obtain ⟨q1, q2, q3⟩ := Sy.held2 ha hh
    refine ⟨_, by rw [decide_eq_true (show 1 ≤ (a : Int) + 1 ∧ (a : Int) + 1 ≤ 32768 by omega)], fun _ => ?_⟩
    rw [show ((a : Int) + 1).toNat = a + 1 by omega, Sy.dsy_of (n := a + 1) (s := r) (by omega) q2 q3]
end Bc
set_option maxHeartbeats 2000000 in
theorem isToken_any (t : Tok) (w : World) (hw : (Lit.int .i64 t.1).wf = true ∧ (Lit.int .i64 t.2).wf = true) :
    Calls Tryz.prog 72 #[.agg #[.int .i64 t.1, .int .i64 t.2]] w fun e w' => e = .returned (.bool (Tk.isTok t)) ∧ Below w.heap.size w w' := by
  obtain ⟨x, y⟩ := t
  have HW := Lib.hid hw
  have HB := Lib.hid (below_alloc w (.cells #[.int .i64 x, .int .i64 y] 59))
  have hrow : (w.alloc (.cells #[.int .i64 x, .int .i64 y] 59)).heap[w.heap.size]? = some (.cells #[.int .i64 x, .int .i64 y] 59 (0, 0)) := heap_alloc_last w _
  have c0 : (w.alloc (.cells #[.int .i64 x, .int .i64 y] 59)).cell? ⟨w.heap.size, 0, none⟩ = some (.int .i64 x) := by rw [cell_of_row _ _ _ _ _ (0, 0) hrow]; rfl
  have c1 : (w.alloc (.cells #[.int .i64 x, .int .i64 y] 59)).cell? ⟨w.heap.size, 1, none⟩ = some (.int .i64 y) := by rw [cell_of_row _ _ _ _ _ (0, 0) hrow]; rfl
  clear hw hrow
  by_cases h0 : x = 0
  · subst h0
    have HT : Hid (Tk.isTok (0, y) = (decide (0 ≤ y) && decide (y ≤ 255))) := Lib.hid (by
      simp only [Tk.isTok, if_true]
      by_cases h1 : 0 ≤ y <;> by_cases h2 : y ≤ 255 <;> simp [h1, h2])
    by_cases h1 : 0 ≤ y
    · have d1 : decide (0 ≤ y) = true := by simpa using h1
      have HE : Hid (Tk.isTok (0, y) = decide (y ≤ 255)) := Lib.hid (by rw [HT.out, d1, Bool.true_and])
      clear h1
      go_enter Tryz.func72, Tryz.ntmps72
      go_wp2
      go_ret
      exact ⟨by rw [HE.out]; rfl, HB.out⟩
    · have d1 : decide (0 ≤ y) = false := by simpa using h1
      have HE : Hid (Tk.isTok (0, y) = false) := Lib.hid (by rw [HT.out, d1, Bool.false_and])
      clear h1
      go_enter Tryz.func72, Tryz.ntmps72
      go_wp2
      go_ret
      exact ⟨by rw [HE.out]; rfl, HB.out⟩
  · have d0 : (x == 0) = false := by simpa using h0
    have HT : Hid (Tk.isTok (x, y) = (decide (3 ≤ x ∧ x ≤ 258) && decide (1 ≤ y ∧ y ≤ 32768))) := Lib.hid (by
      simp only [Tk.isTok]; rw [if_neg h0]
      by_cases h1 : 3 ≤ x ∧ x ≤ 258 <;> by_cases h2 : 1 ≤ y ∧ y ≤ 32768
      · rw [decide_eq_true h1, decide_eq_true h2, decide_eq_true (by omega)]; rfl
      · rw [decide_eq_true h1, decide_eq_false h2, decide_eq_false (by omega)]; rfl
      · rw [decide_eq_false h1, decide_eq_true h2, decide_eq_false (by omega)]; rfl
      · rw [decide_eq_false h1, decide_eq_false h2, decide_eq_false (by omega)]; rfl)
    clear h0
    go_enter Tryz.func72, Tryz.ntmps72
    go_wp2_with fail
    refine (Bc.lsym_any x _ HW.out.1).mono ?_
    rintro e w' ⟨⟨s1, rfl, _⟩, rfl⟩
    have HT2 := HT
    clear HT
    generalize decide (3 ≤ x ∧ x ≤ 258) = b1 at *
    go_wp2_with fail
    refine (Bc.dsym_any y _ HW.out.2).mono ?_
    rintro e w' ⟨⟨s2, rfl, _⟩, rfl⟩
    generalize decide (1 ≤ y ∧ y ≤ 32768) = b2 at *
    cases b1
    · have HE : Hid (Tk.isTok (x, y) = false) := Lib.hid (by rw [HT2.out, Bool.false_and])
      clear HT2
      go_wp2
      go_ret
      exact ⟨by rw [HE.out]; rfl, HB.out⟩
    · have HE : Hid (Tk.isTok (x, y) = b2) := Lib.hid (by rw [HT2.out, Bool.true_and])
      clear HT2
      go_wp2
      go_ret
      exact ⟨by rw [HE.out]; rfl, HB.out⟩
set_option maxHeartbeats 2000000 in
theorem areTokens_any (a : Option Addr) (len cap : Nat) (ts : List Tok) (w : World) (h : Ts2 w a len cap ts) (hlen : len ≤ 1000000000) :
    Calls Tryz.prog 51 #[.slice a len cap] w fun e w' => e = .returned (.bool (ts.all Tk.isTok)) ∧ Below w.heap.size w w' := by
  have H := Lib.hid h
  have HLN := Lib.hid h.hlen
  clear h
  go_enter Tryz.func51, Tryz.ntmps51
  go_wp2
  go_loopw [7] (fun i wr => ∃ k : Nat, k ≤ len ∧ i = .int .i64 k ∧ Hid (Below w.heap.size w wr) ∧ Hid (∀ j, j < k → Tk.isTok (ts.getD j (0, 0)) = true)) (fun i _ => len - (intOf i).toNat)
  case atStart => exact ⟨0, by omega, rfl, Lib.hid (Below.refl _ _), Lib.hid (fun j hj => by omega)⟩
  case round =>
    obtain ⟨k, hk, rfl, HB, HA⟩ := hrel
    by_cases hlt : k < len
    · obtain ⟨b, off, rfl, _, t0, t1⟩ := (H.out.mono HB.out).at' k hlt
      have hwf := H.out.wf k hlt
      have HN : Hid (Tk.isTok (ts.getD k (0, 0)) = true → ∀ j, j < k + 1 → Tk.isTok (ts.getD j (0, 0)) = true) := Lib.hid (fun h j hj => by
        rcases Nat.lt_succ_iff_lt_or_eq.1 hj with h1 | rfl
        · exact HA.out j h1
        · exact h)
      have HF : Hid (Tk.isTok (ts.getD k (0, 0)) = false → ts.all Tk.isTok = false) := Lib.hid (fun h => by
        rw [List.all_eq_false]
        exact ⟨ts.getD k (0, 0), by simp [List.getD, List.getElem?_eq_getElem (show k < ts.length by rw [HLN.out]; exact hlt)], by rw [h]; exact Bool.false_ne_true⟩)
      clear HA
      generalize ts.getD k (0, 0) = t at *
      obtain ⟨x, y⟩ := t
      simp only at t0 t1 hwf
      have HWF := Lib.hid hwf
      have hb5 := below_alloc wr (.cells #[.int .i64 x, .int .i64 y] 59)
      have HB5 := Lib.hid (below_then HB.out hb5)
      clear hwf hb5
      go_wp2_with fail
      refine (isToken_any (x, y) _ HWF.out).mono ?_
      rintro e w6 ⟨rfl, hb6⟩
      have HB6 := Lib.hid (below_then HB5.out hb6)
      clear hb6 HB5 HB t0 t1
      cases hc : Tk.isTok (x, y)
      · have HF2 := Lib.hid (HF.out hc)
        clear hc HF HN
        go_wp2
        go_ret
        exact ⟨by rw [HF2.out]; rfl, HB6.out⟩
      · have HN2 := Lib.hid (HN.out hc)
        clear hc HF HN
        go_wp2
        go_roundw
        case rel => exact ⟨k + 1, by omega, by go_num, HB6, HN2⟩
        case measure => simp [intOf]; omega
    · obtain rfl : len = k := by omega
      have HE : Hid (ts.all Tk.isTok = true) := Lib.hid (by
        rw [List.all_eq_true]
        intro t ht
        obtain ⟨i, hi, rfl⟩ := List.getElem_of_mem ht
        have := HA.out i (by rw [← HLN.out]; exact hi)
        simpa [List.getD, List.getElem?_eq_getElem hi] using this)
      go_wp2
      go_ret
      exact ⟨by rw [HE.out]; rfl, HB.out⟩
end Go.Proofs.YtpoilaappcjbeaaGreatDoor
end

section
namespace Go.Proofs.YtpoilaappcjbeaaGreatDoor
open Go.RowKit
theorem dn_below (w : World) (n : Nat) : Below w.heap.size w (w.drewN n) := ⟨rfl, rfl, rfl, Nat.le_refl _, fun _ _ => rfl⟩
end Go.Proofs.YtpoilaappcjbeaaGreatDoor
end

section
namespace Go.Proofs.YtpoilaappcjbeaaGreatDoor
open Go.RowKit

theorem equal_any (a b : Option Addr) (len cap len' cap' : Nat) (l m : List UInt8) (w : World) (h : Bs w a len cap l) (h' : Bs w b len' cap' m) :
    Calls Tryz.prog 100 #[.slice a len cap, .slice b len' cap'] w fun e w' => e = .returned (.bool (l == m)) ∧ w = w' := by
  have c1 := conv_bs (P := Tryz.prog) h 22 9 5 Tryz.underlying22 Tryz.underlying5 Tryz.underlying9
  have c2 := conv_bs (P := Tryz.prog) h' 22 9 5 Tryz.underlying22 Tryz.underlying5 Tryz.underlying9
  clear h h'
  have HE : Hid (((str l).toList == (str m).toList) = (l == m)) := Lib.hid (by rw [str_list, str_list])
  go_enter Tryz.func100, Tryz.ntmps100
  go_wp2
  go_ret
  exact ⟨by show Ending.returned (.bool ((str l).toList == (str m).toList)) = _; rw [HE.out], rfl⟩
end Go.Proofs.YtpoilaappcjbeaaGreatDoor
end

section
namespace Go.Proofs.YtpoilaappcjbeaaGreatDoor
open Go.RowKit

namespace Bc
/-- Does a token stand for n bytes of a text from a place on? -/
def agB (tx : List UInt8) (t : Tok) (at' n : Nat) : Bool :=
  if t.1 = 0 then decide ((gb tx at' : Int) = t.2) else decide (∀ k, k < n → t.2.toNat ≤ at' + k → gb tx (at' + k) = gb tx (at' + k - t.2.toNat))
/-- Do tokens stand for a text from a place on? -/
def fit (tx : List UInt8) : List Tok → Nat → Bool
  | [], a => decide (a = tx.length)
  | t :: ts, a => Tk.isTok t && (decide (a + Tk.size t ≤ tx.length) && (agB tx t a (Tk.size t) && fit tx ts (a + Tk.size t)))
theorem gb_ext {l m : List UInt8} (h : l.length = m.length) (h2 : ∀ i, i < l.length → gb l i = gb m i) : l = m := by
  apply List.ext_getElem h
  intro i h1 h3
  have := h2 i h1
  unfold gb at this
  rw [List.getD, List.getD, List.getElem?_eq_getElem h1, List.getElem?_eq_getElem h3] at this
  exact UInt8.toNat_inj.1 this
theorem gb_cut (l : List UInt8) (s n i : Nat) (hi : i < n) : gb ((l.drop s).take n) i = gb l (s + i) := by
  simp [gb, List.getD, List.getElem?_take, hi, List.getElem?_drop]
/-- Two pieces of a text are the same. -/
theorem cut_eq (tx : List UInt8) (f d n : Nat) (hd : d ≤ f) (hl : f + n ≤ tx.length) : (((tx.drop f).take n) == ((tx.drop (f - d)).take n)) = decide (∀ k, k < n → gb tx (f + k) = gb tx (f + k - d)) := by
  by_cases h : ∀ k, k < n → gb tx (f + k) = gb tx (f + k - d)
  · rw [decide_eq_true h]
    apply beq_of_eq
    refine gb_ext (by simp; omega) (fun i hi => ?_)
    have hi2 : i < n := by simp at hi; omega
    rw [gb_cut _ _ _ _ hi2, gb_cut _ _ _ _ hi2, h i hi2]
    congr 1; omega
  · rw [decide_eq_false h]
    apply beq_false_of_ne
    intro e
    apply h
    intro k hk
    have : gb ((tx.drop f).take n) k = gb ((tx.drop (f - d)).take n) k := by rw [e]
    rw [gb_cut _ _ _ _ hk, gb_cut _ _ _ _ hk] at this
    rw [this]; congr 1; omega
end Bc
theorem Bs.mid {w : World} {b off len cap : Nat} {l : List UInt8} (h : Bs w (some ⟨b, off, none⟩) len cap l) (s n : Nat) (hs : s + n ≤ len) : Bs w (some ⟨b, off + s, none⟩) n (cap - s) ((l.drop s).take n) := by
  have h1 := h.hlen
  have h2 := h.hle
  have h3 := h.hcap
  have h4 := h.hmax
  refine ⟨by simp; omega, by omega, by omega, by omega, fun e => by simp at e, fun i hi => ?_⟩
  obtain ⟨b', off', e', hb', hc⟩ := h.at' (s + i) (by omega)
  simp only [Option.some.injEq, Addr.mk.injEq, and_true] at e'
  obtain ⟨rfl, rfl⟩ := e'
  refine ⟨b, off + s, rfl, hb', ?_⟩
  rw [Nat.add_assoc, hc, Bc.gb_cut _ _ _ _ hi]
set_option maxHeartbeats 2000000 in
theorem agrees_any (t : Tok) (a : Option Addr) (len cap : Nat) (tx : List UInt8) (at' n en : Nat) (w : World) (hw : Tk.isTok t = true) (h : Bs w a len cap tx) (hn : n = Tk.size t) (he : en = at' + n) (hl : en ≤ len) :
    Calls Tryz.prog 81 #[.agg #[.int .i64 t.1, .int .i64 t.2], .slice a len cap, .int .i64 (at' : Nat), .int .i64 (en : Nat)] w fun e w' => e = .returned (.bool (Bc.agB tx t at' n)) ∧ Below w.heap.size w w' := by
  obtain ⟨x, y⟩ := t
  have htr := Tk.tok_range hw
  simp only at htr
  have hcap := h.hcap
  have hle := h.hle
  have hn1 : 1 ≤ n := by
    subst hn; unfold Tk.size; simp only; split <;> omega
  have HB := Lib.hid (below_alloc w (.cells #[.int .i64 x, .int .i64 y] 59))
  have HBn : Hid (∀ n, Below w.heap.size w ((w.alloc (.cells #[.int .i64 x, .int .i64 y] 59)).drewN n)) := Lib.hid (fun n => below_then HB.out (drewN_is _ n))
  have hrow : (w.alloc (.cells #[.int .i64 x, .int .i64 y] 59)).heap[w.heap.size]? = some (.cells #[.int .i64 x, .int .i64 y] 59 (0, 0)) := heap_alloc_last w _
  have c0 : (w.alloc (.cells #[.int .i64 x, .int .i64 y] 59)).cell? ⟨w.heap.size, 0, none⟩ = some (.int .i64 x) := by rw [cell_of_row _ _ _ _ _ (0, 0) hrow]; rfl
  have c1 : (w.alloc (.cells #[.int .i64 x, .int .i64 y] 59)).cell? ⟨w.heap.size, 1, none⟩ = some (.int .i64 y) := by rw [cell_of_row _ _ _ _ _ (0, 0) hrow]; rfl
  have H := Lib.hid (h.mono HB.out)
  have HLN := Lib.hid h.hlen
  obtain ⟨b, off, rfl, hbl, e0⟩ := h.at' at' (by omega)
  clear h hrow
  by_cases h0 : x = 0
  · subst h0
    have e1 : (w.alloc (.cells #[.int .i64 0, .int .i64 y] 59)).cell? ⟨b, off + at', none⟩ = some (.int .u8 (gb tx at')) := (HB.out.cell (p := ⟨b, off + at', none⟩) hbl).trans e0
    have HE : Hid (Bc.agB tx (0, y) at' n = ((gb tx at' : Int) == y)) := Lib.hid (by
      unfold Bc.agB
      rw [if_pos rfl]
      by_cases h : (gb tx at' : Int) = y <;> simp [h])
    have hg := gb_lt tx at'
    have dl : at' < len := by omega
    clear hw hn htr e0 H HB he
    generalize gb tx at' = z at *
    go_enter Tryz.func81, Tryz.ntmps81
    go_wp2
    go_quiet (fail)
    go_wp2
    go_ret
    exact ⟨by rw [HE.out]; rfl, HBn.out _⟩
  · have d0 : (x == 0) = false := by simpa using h0
    have hy := htr.2.2.2.2.2 h0
    obtain ⟨d, rfl⟩ := Int.eq_ofNat_of_zero_le (show 0 ≤ y by omega)
    have HE : Hid (Bc.agB tx (x, (d : Int)) at' n = decide (∀ k, k < n → d ≤ at' + k → gb tx (at' + k) = gb tx (at' + k - d))) := Lib.hid (by
      unfold Bc.agB
      rw [if_neg h0]; rfl)
    have hen := Lib.hid he
    have hlo : at' < en := by omega
    clear hw hn h0 e0 hbl
    by_cases hge : en ≤ d
    · have HT : Hid (Bc.agB tx (x, (d : Int)) at' n = true) := Lib.hid (by
        rw [HE.out]
        apply decide_eq_true
        intro k hk hd
        omega)
      have dge : decide (en ≤ d) = true := decide_eq_true hge
      have hlt : at' < d := by omega
      clear HE hge he
      go_enter Tryz.func81, Tryz.ntmps81
      go_wp2
      go_quiet (fail)
      go_wp2
      go_ret
      exact ⟨by rw [HT.out]; rfl, HBn.out _⟩
    · have dge : decide (en ≤ d) = false := decide_eq_false hge
      obtain ⟨f, hf⟩ : ∃ f, f = max at' d := ⟨_, rfl⟩
      have hfd : d ≤ f := by omega
      have hfe : f < en := by omega
      have HQ : Hid (∀ N, Calls Tryz.prog 100 #[.slice (some ⟨b, off + f, none⟩) (en - f) (cap - f), .slice (some ⟨b, off + (f - d), none⟩) (en - f) (cap - (f - d))] ((w.alloc (.cells #[.int .i64 x, .int .i64 (d : Nat)] 59)).drewN N) fun e w' => e = .returned (.bool (Bc.agB tx (x, (d : Int)) at' n)) ∧ w' = (w.alloc (.cells #[.int .i64 x, .int .i64 (d : Nat)] 59)).drewN N) := Lib.hid (fun N => by
        have m1 := (H.out.mono (drewN_is _ N)).mid f (en - f) (by omega)
        have m2 := (H.out.mono (drewN_is _ N)).mid (f - d) (en - f) (by omega)
        refine (equal_any _ _ _ _ _ _ _ _ _ m1 m2).mono ?_
        rintro e w' ⟨rfl, rfl⟩
        refine ⟨?_, rfl⟩
        rw [Bc.cut_eq tx f d (en - f) hfd (by rw [HLN.out]; omega), HE.out]
        congr 2
        apply decide_eq_decide.2
        constructor
        · intro h k hk hd
          have e : at' + k = f + (at' + k - f) := by omega
          rw [e]
          exact h (at' + k - f) (by omega)
        · intro h k hk
          have e : f + k = at' + (f + k - at') := by omega
          rw [e]
          exact h (f + k - at') (by omega) (by omega))
      clear HE H htr hy dge
      have hcl : en ≤ cap := by omega
      have hcf : (cap = f) = False := by simp; omega
      by_cases hmx : at' < d
      · obtain rfl : f = d := by omega
        have dge : decide (en ≤ f) = false := decide_eq_false hge
        have w1 : IntKind.i64.wrap ((f : Int) - (f : Int)) = 0 := by rw [IntWalk.i64_in _ (by omega)]; omega
        have w2 : IntKind.i64.wrap ((en : Int) - (f : Int)) = ((en - f : Nat) : Int) := by rw [IntWalk.i64_in _ (by omega)]; omega
        have i1 : (f : Int) ≤ (en : Int) := by omega
        have i2 : (en : Int) ≤ (cap : Int) := by omega
        rw [Nat.sub_self] at HQ
        clear hge hf he hlo hfe hl hn1 hfd
        go_enter Tryz.func81, Tryz.ntmps81
        go_wp2
        go_quiet (first | (go_at_call 100; exact Calls.quiet_of_same (HQ.out _)))
        go_wp2
        go_ret
        exact ⟨rfl, HBn.out _⟩
      · obtain rfl : f = at' := by omega
        have dge : decide (en ≤ f) = false := decide_eq_false (by omega)
        have w1 : IntKind.i64.wrap ((f : Int) - (d : Int)) = ((f - d : Nat) : Int) := by rw [IntWalk.i64_in _ (by omega)]; omega
        have w2 : IntKind.i64.wrap ((en : Int) - (d : Int)) = ((en - d : Nat) : Int) := by rw [IntWalk.i64_in _ (by omega)]; omega
        have e3 : en - d - (f - d) = en - f := by omega
        have hcf2 : (cap = f - d) = False := by simp; omega
        have i1 : (f : Int) ≤ (en : Int) := by omega
        have i2 : (en : Int) ≤ (cap : Int) := by omega
        have i3 : ((f - d : Nat) : Int) ≤ ((en - d : Nat) : Int) := by omega
        have i4 : ((en - d : Nat) : Int) ≤ (cap : Int) := by omega
        clear hge hf he hlo hfe hl hn1
        go_enter Tryz.func81, Tryz.ntmps81
        go_wp2
        go_quiet (first | (go_at_call 100; exact Calls.quiet_of_same (HQ.out _)))
        go_wp2
        go_ret
        exact ⟨rfl, HBn.out _⟩
end Go.Proofs.YtpoilaappcjbeaaGreatDoor
end

section
namespace Go.Proofs.YtpoilaappcjbeaaGreatDoor
open Go.RowKit

namespace Bc
/-- Bytes as tokens. -/
def lits (l : List UInt8) : List Tok := l.map fun x => (0, ((x.toNat : Nat) : Int))
theorem lits_length (l : List UInt8) : (lits l).length = l.length := by unfold lits; rw [List.length_map]
theorem lits_get (l : List UInt8) (i : Nat) (h : i < l.length) : (lits l).getD i (0, 0) = (0, ((gb l i : Nat) : Int)) := by
  unfold lits gb
  simp [List.getD, List.getElem?_map, List.getElem?_eq_getElem h]
theorem lits_next (l : List UInt8) (k : Nat) (h : k < l.length) : lits (l.take (k + 1)) = lits (l.take k) ++ [(0, ((gb l k : Nat) : Int))] := by
  rw [List.take_succ_eq_append_getElem h]
  unfold lits gb
  rw [List.map_append]
  simp [List.getD, List.getElem?_eq_getElem h]
theorem isTok_lit (x : UInt8) : Tk.isTok (0, ((x.toNat : Nat) : Int)) = true := by
  have := x.toNat_lt
  simp only [Tk.isTok, if_true]
  exact decide_eq_true ⟨by omega, by omega⟩
/-- What the first tokens come to, by one list behind another. -/
theorem upto_lits (most : Nat) (l : List UInt8) (ts : List Tok) (hm : l.length ≤ most) : ∀ k, k ≤ l.length → Tk.upto most (lits l ++ ts) k = (0, l.take k)
  | 0, _ => rfl
  | k + 1, h => by
    rw [Tk.upto_next (upto_lits most l ts hm k (by omega))]
    have hk : k < l.length := by omega
    have e : (lits l ++ ts).getD k (0, 0) = (0, ((gb l k : Nat) : Int)) := by
      rw [← lits_get l k hk, List.getD, List.getD, List.getElem?_append_left (by rw [lits_length]; exact hk)]
    have eg : gb l k = (l[k]).toNat := by unfold gb; simp [List.getD, List.getElem?_eq_getElem hk]
    rw [e, eg]
    unfold Tk.stp
    rw [if_pos (isTok_lit _)]
    unfold Tk.add
    rw [if_neg (by simp), if_neg (by unfold Tk.size; simp; omega)]
    unfold Tk.put
    rw [if_pos rfl, List.take_succ_eq_append_getElem hk]
    simp
/-- What holds of what tokens come to behind a text. -/
theorem stp_inv {most : Nat} {l m : List UInt8} {t : Tok} (h : Tk.stp most l t = (0, m)) : Tk.isTok t = true ∧ (t.1 ≠ 0 → t.2 ≤ (l.length : Int)) ∧ l.length + Tk.size t ≤ most ∧ m = Tk.put l t := by
  unfold Tk.stp at h
  split at h
  · rename_i ht
    unfold Tk.add at h
    split at h
    · simp at h
    · rename_i h1
      split at h
      · simp at h
      · rename_i h2
        simp only [Prod.mk.injEq, true_and] at h
        refine ⟨ht, fun h0 => ?_, by omega, h.symm⟩
        by_cases e : t.2 ≤ (l.length : Int)
        · exact e
        · exact absurd ⟨h0, by omega⟩ h1
  · simp at h
theorem upto_pre {most : Nat} {ts : List Tok} : ∀ (n k : Nat) (m : List UInt8), n = k → Tk.upto most ts k = (0, m) → ∀ j, j ≤ k → ∃ l, Tk.upto most ts j = (0, l) ∧ l = m.take l.length
  | 0, k, m, hn, h, j, hj => by
    obtain rfl : j = k := by omega
    exact ⟨m, h, by rw [List.take_length]⟩
  | n + 1, k, m, hn, h, j, hj => by
    subst hn
    by_cases e : j = n + 1
    · subst e; exact ⟨m, h, by rw [List.take_length]⟩
    · rw [Tk.upto] at h
      split at h
      · rename_i h0
        obtain ⟨p, hp⟩ : ∃ p, Tk.upto most ts n = (0, p) := ⟨_, Prod.ext h0 rfl⟩
        rw [hp] at h
        obtain ⟨_, _, _, rfl⟩ := stp_inv h
        obtain ⟨l, e1, e2⟩ := upto_pre n n p rfl hp j (by omega)
        refine ⟨l, e1, ?_⟩
        have hle : l.length ≤ p.length := by rw [e2, List.length_take]; omega
        have hpre : ∃ q, Tk.put p (ts.getD n (0, 0)) = p ++ q := by
          unfold Tk.put
          split
          · exact ⟨_, rfl⟩
          · have : ∀ d c, ∃ q, Tk.cp d p c = p ++ q := fun d c => by
              induction c with
              | zero => exact ⟨[], by rw [List.append_nil]; rfl⟩
              | succ c ih =>
                obtain ⟨q, hq⟩ := ih
                exact ⟨q ++ [Tk.bk d (Tk.cp d p c)], by rw [← List.append_assoc, ← hq]; rfl⟩
            exact this _ _
        obtain ⟨q, hq⟩ := hpre
        rw [hq, List.take_append_of_le_length hle]
        exact e2
      · rename_i h0; rw [h] at h0; exact absurd rfl h0
end Bc
end Go.Proofs.YtpoilaappcjbeaaGreatDoor
end

section
namespace Go.Proofs.YtpoilaappcjbeaaGreatDoor
open Go.RowKit

/-- What the document's Expand answers. -/
def RefExpPost (w : World) (r : Int × List UInt8) (e : Ending) (w' : World) : Prop :=
  Below w.heap.size w w' ∧ ∃ v, e = .returned (.tuple #[v, .int .i64 r.1]) ∧ w'.ownsRow w.heap.size 5 1 v r.2.length (bvs r.2)
/-- The bytes, beside the box of a token. -/
structure RX (w wr : World) (v : Value) (l : List UInt8) (p : Nat) (x y : Int) : Prop where
  own : wr.ownsRow w.heap.size 5 1 v l.length (bvs l)
  bel : Below w.heap.size w wr
  box : wr.heap[p]? = some (.cells #[.int .i64 x, .int .i64 y] 59 (0, 0))
  np : ∀ q, v.ownBlock = some q → q ≠ p
theorem RX.app {w wr w1 w2 : World} {v v2 : Value} {l l2 : List UInt8} {p : Nat} {x y : Int} (h : RX w wr v l p x y) (hb : Below wr.heap.size wr w1) (o2 : w2.ownsRow w.heap.size 5 1 v2 l2.length (bvs l2)) (st : Step w1 w2 v v2) : RX w w2 v2 l2 p x y := by
  have hp := (Array.getElem?_eq_some_iff.1 h.box).1
  have hz := hb.size
  have h1 := hb.block p hp
  refine ⟨o2, st.below (h.bel.trans (hb.mono h.bel.size)) (by have := h.bel.size; omega) (fun g hg => (h.own.lt g hg).1), ?_, fun q hq e => ?_⟩
  · exact ((Ch.step st).block p (by omega) (fun e => h.np p e rfl)).trans (h1.trans h.box)
  · rcases st.block q hq with h' | h'
    · exact h.np q h' e
    · omega
set_option maxRecDepth 100000 in
set_option maxHeartbeats 4000000 in
theorem refExpand_any (a : Option Addr) (len cap : Nat) (ts : List Tok) (m : Int) (w : World) (h : Ts2 w a len cap ts) (hl : len ≤ 100000000) :
    Calls Tryz.prog 31 #[.slice a len cap, .int .i64 m] w (RefExpPost w (Tk.exp m ts)) := by
  have HL := Lib.hid h.hlen
  have H := Lib.hid h
  clear h
  have HNIL := Lib.hid (fun (wr : World) => World.ownsRow_nil wr w.heap.size 5 1)
  by_cases hm : 0 ≤ m ∧ m ≤ 4194304
  rotate_left
  · have HE : Hid (Tk.exp m ts = (7, [])) := Lib.hid (by unfold Tk.exp; rw [if_neg hm])
    by_cases h0 : m < 0
    · have d0 : decide (m < 0) = true := by simpa using h0
      clear hm
      go_enter Tryz.func31, Tryz.ntmps31
      go_wp2
      go_ret2
      exact ⟨Below.refl _ _, _, by rw [HE.out]; rfl, by rw [HE.out]; exact HNIL.out _⟩
    · have d0 : decide (m < 0) = false := by simpa using h0
      have d1 : decide (4194304 < m) = true := by simp; omega
      clear hm
      go_enter Tryz.func31, Tryz.ntmps31
      go_wp2
      go_ret2
      exact ⟨Below.refl _ _, _, by rw [HE.out]; rfl, by rw [HE.out]; exact HNIL.out _⟩
  obtain ⟨n, rfl⟩ := Int.eq_ofNat_of_zero_le hm.1
  have hn : n ≤ 4194304 := by omega
  have d0 : decide ((n : Int) < 0) = false := by simp
  have d1 : decide ((4194304 : Int) < (n : Int)) = false := by simp; omega
  have HE : Hid (Tk.exp (n : Int) ts = Tk.upto n ts len) := Lib.hid (by unfold Tk.exp; rw [if_pos hm, Int.toNat_natCast, HL.out])
  clear hm
  have HS : Hid (Tk.upto n ts 0 = (0, []) ∧ w.ownsRow w.heap.size 5 1 (.slice none 0 0) ([] : List UInt8).length (bvs []) ∧ Below w.heap.size w w) := Lib.hid ⟨rfl, HNIL.out _, Below.refl _ _⟩
  go_enter Tryz.func31, Tryz.ntmps31
  go_wp2
  go_loopw [6, 7] (fun v i wr => ∃ k : Nat, k ≤ len ∧ i = .int .i64 k ∧ ∃ l vv, v = vv ∧ Hid (Tk.upto n ts k = (0, l) ∧ wr.ownsRow w.heap.size 5 1 vv l.length (bvs l) ∧ Below w.heap.size w wr)) (fun _ i _ => len - (intOf i).toNat)
  case atStart => exact ⟨0, by omega, rfl, [], _, rfl, HS⟩
  case round =>
    obtain ⟨k, hk, rfl, l, vv, rfl, HK⟩ := hrel
    have hzr := HK.out.2.2.size
    by_cases hlt : k < len
    · obtain ⟨b, off, ea, _, c0, c1⟩ := (H.out.mono HK.out.2.2).at' k hlt
      subst ea
      have hwf := H.out.wf k hlt
      have HUP := Lib.hid (Tk.upto_next HK.out.1)
      have HER := Lib.hid (fun (x : Int) (y : List UInt8) (h2 : Tk.stp n l (ts.getD k (0, 0)) = (x, y)) (hx : x ≠ 0) => Tk.upto_err HK.out.1 h2 hx (by rw [HL.out]; exact hlt))
      have hlen := Tk.upto_le n ts k l HK.out.1
      obtain ⟨av, cv, rfl, hbs⟩ := own_bs HK.out.2.1 (by omega)
      generalize ts.getD k (0, 0) = t at *
      obtain ⟨x, y⟩ := t
      dsimp only at c0 c1 hwf
      have HRX : Hid (RX w (wr.alloc (.cells #[.int .i64 x, .int .i64 y] 59)) (.slice av l.length cv) l wr.heap.size x y) := Lib.hid ⟨own_below HK.out.2.1 (below_alloc _ _), HK.out.2.2.trans ((below_alloc _ _).mono hzr), heap_alloc_last wr _, fun q hq e => by have := (HK.out.2.1.lt q hq).2; omega⟩
      clear HK hbs
      go_wp2_with fail
      refine (refGood06_any (x, y) _ hwf).mono ?_
      rintro e w2 ⟨rfl, hb2⟩
      have HR2 : Hid (RX w w2 (.slice av l.length cv) l wr.heap.size x y) := Lib.hid ⟨own_below HRX.out.own hb2, HRX.out.bel.trans (hb2.mono HRX.out.bel.size), (hb2.block _ (by simp)).trans HRX.out.box, HRX.out.np⟩
      have g0 : w2.cell? ⟨wr.heap.size, 0, none⟩ = some (.int .i64 x) := by rw [cell_of_row _ _ _ _ _ (0, 0) HR2.out.box]; rfl
      have g1 : w2.cell? ⟨wr.heap.size, 1, none⟩ = some (.int .i64 y) := by rw [cell_of_row _ _ _ _ _ (0, 0) HR2.out.box]; rfl
      clear hb2 HRX c0 c1
      generalize wr.heap.size = p at *
      cases ht : Tk.isTok (x, y)
      · have HX : Hid (Tk.upto n ts len = (6, [])) := Lib.hid (by
          rw [← HL.out]
          refine HER.out 6 [] ?_ (by decide)
          unfold Tk.stp; rw [ht]; rfl)
        clear ht
        go_wp2
        go_ret2
        exact ⟨HR2.out.bel, _, by rw [HE.out, HX.out]; rfl, by rw [HE.out, HX.out]; exact HNIL.out _⟩
      · have htr := Tk.tok_range ht
        dsimp only at htr
        have HST : Hid (Tk.stp n l (x, y) = Tk.add n l (x, y)) := Lib.hid (by unfold Tk.stp; rw [ht]; rfl)
        clear ht
        by_cases hx : x = 0
        · subst hx
          obtain ⟨z, rfl⟩ := Int.eq_ofNat_of_zero_le htr.2.2.1
          have hz : z ≤ 255 := by have := htr.2.2.2.2.1 rfl; omega
          clear htr
          by_cases hbig : n < l.length + 1
          · have HX : Hid (Tk.upto n ts len = (4, [])) := Lib.hid (by
              rw [← HL.out]
              refine HER.out 4 [] ?_ (by decide)
              rw [HST.out]
              unfold Tk.add
              rw [if_neg (fun h => h.1 rfl), if_pos (by show n < l.length + 1; exact hbig)])
            have d3 : decide ((n : Int) < (l.length : Int) + 1) = true := by simp; omega
            go_wp2
            go_ret2
            exact ⟨HR2.out.bel, _, by rw [HE.out, HX.out]; rfl, by rw [HE.out, HX.out]; exact HNIL.out _⟩
          · have d3 : decide ((n : Int) < (l.length : Int) + 1) = false := by simp; omega
            have HX : Hid (Tk.upto n ts (k + 1) = (0, l ++ [UInt8.ofNat z])) := Lib.hid (by
              rw [HUP.out, HST.out]
              unfold Tk.add Tk.put
              rw [if_neg (fun h => h.1 rfl), if_neg (by show ¬ n < l.length + 1; exact hbig), if_pos rfl, Int.toNat_natCast])
            have hzw : IntKind.u8.wrap ((z : Nat) : Int) = (z : Int) := by simp only [IntKind.wrap, IntKind.signed, IntKind.bits]; first | omega | (simp; omega)
            have hzm : (z : Int) % 256 = (z : Int) := by omega
            clear HST HUP
            go_wp2
            go_loopw [6, 10] (fun v i wx => ∃ j : Nat, j ≤ 1 ∧ i = .int .i64 j ∧ ∃ vv, v = vv ∧ Hid (RX w wx vv (if j = 0 then l else l ++ [UInt8.ofNat z]) p 0 (z : Nat))) (fun _ i _ => 1 - (intOf i).toNat)
            case atStart => exact ⟨0, by omega, rfl, _, rfl, HR2⟩
            case round =>
              obtain ⟨j, hj, rfl, vv, rfl, HJ⟩ := hrel
              by_cases hj0 : j = 0
              · subst hj0
                rw [if_pos rfl] at HJ
                have e0 : wr.cell? ⟨p, 0, none⟩ = some (.int .i64 0) := by rw [cell_of_row _ _ _ _ _ (0, 0) HJ.out.box]; rfl
                have e1 : wr.cell? ⟨p, 1, none⟩ = some (.int .i64 (z : Nat)) := by rw [cell_of_row _ _ _ _ _ (0, 0) HJ.out.box]; rfl
                have hal := below_alloc wr (.cells #[.int .u8 (z : Nat)] 5)
                have OWN := Lib.hid (own_below HJ.out.own hal)
                have SRC := Lib.hid (src_b wr z (by omega))
                have hbs : w.heap.size ≤ (wr.alloc (.cells #[.int .u8 (z : Nat)] 5)).heap.size := by have := HJ.out.bel.size; simp; omega
                have HAL := Lib.hid hal
                clear hal
                go_wp2_with (at_builtin; refine wpl_append2 tyU rfl _ _ rfl OWN.out SRC.out rfl rfl (by omega) (by omega) (by omega) hbs ?_)
                intro v3 w3 own3 st3
                rw [← bvs_append] at own3
                have HX3 : Hid (RX w w3 v3 (if 0 + 1 = 0 then l else l ++ [UInt8.ofNat z]) p 0 (z : Nat)) := Lib.hid (HJ.out.app HAL.out (by rw [if_neg (by omega), List.length_append]; exact own3) st3)
                clear own3 st3 OWN SRC HAL HJ
                go_wp2
                go_roundw
                case rel => exact ⟨1, by omega, by go_num, _, rfl, HX3⟩
                case measure => simp [intOf]
              · obtain rfl : j = 1 := by omega
                rw [if_neg (by omega)] at HJ
                have HN : Hid (Tk.upto n ts (k + 1) = (0, l ++ [UInt8.ofNat z]) ∧ wr.ownsRow w.heap.size 5 1 u6 (l ++ [UInt8.ofNat z]).length (bvs (l ++ [UInt8.ofNat z])) ∧ Below w.heap.size w wr) := Lib.hid ⟨HX.out, HJ.out.own, HJ.out.bel⟩
                clear HJ
                go_wp2
                go_roundw
                case rel => exact ⟨k + 1, by omega, by go_num, _, _, rfl, HN⟩
                case measure => simp [intOf]; omega
        · have hk3 : 3 ≤ x ∧ 1 ≤ y := htr.2.2.2.2.2 hx
          have hk0 : x ≤ 258 ∧ y ≤ 32768 := ⟨htr.2.1, htr.2.2.2.1⟩
          clear htr
          obtain ⟨q, rfl⟩ := Int.eq_ofNat_of_zero_le (show 0 ≤ x by omega)
          obtain ⟨d, rfl⟩ := Int.eq_ofNat_of_zero_le (show 0 ≤ y by omega)
          have hxp : decide (0 < q) = true := by simp; omega
          by_cases hfar : l.length < d
          · have HX : Hid (Tk.upto n ts len = (2, [])) := Lib.hid (by
              rw [← HL.out]
              refine HER.out 2 [] ?_ (by decide)
              rw [HST.out]
              unfold Tk.add
              rw [if_pos ⟨hx, by show (l.length : Int) < (d : Int); omega⟩])
            have d3 : decide (l.length < d) = true := by simpa using hfar
            go_wp2
            go_ret2
            exact ⟨HR2.out.bel, _, by rw [HE.out, HX.out]; rfl, by rw [HE.out, HX.out]; exact HNIL.out _⟩
          have d3 : decide (l.length < d) = false := by simpa using hfar
          by_cases hbig : n < l.length + q
          · have HX : Hid (Tk.upto n ts len = (4, [])) := Lib.hid (by
              rw [← HL.out]
              refine HER.out 4 [] ?_ (by decide)
              rw [HST.out]
              unfold Tk.add Tk.size
              rw [if_neg (fun h => by have := h.2; dsimp only at this; omega), if_neg hx, if_pos (by show n < l.length + (q : Int).toNat; omega)])
            have d4 : decide ((n : Int) < (l.length : Int) + (q : Int)) = true := by simp; omega
            go_wp2
            go_ret2
            exact ⟨HR2.out.bel, _, by rw [HE.out, HX.out]; rfl, by rw [HE.out, HX.out]; exact HNIL.out _⟩
          have d4 : decide ((n : Int) < (l.length : Int) + (q : Int)) = false := by simp; omega
          have HX : Hid (Tk.upto n ts (k + 1) = (0, Tk.cp d l q)) := Lib.hid (by
            rw [HUP.out, HST.out]
            unfold Tk.add Tk.put Tk.size
            rw [if_neg (fun h => by have := h.2; dsimp only at this; omega), if_neg hx, if_neg (by show ¬ n < l.length + (q : Int).toNat; omega), if_neg hx, Int.toNat_natCast, Int.toNat_natCast])
          clear HST HUP
          go_wp2
          go_loopw [6, 10] (fun v i wx => ∃ j : Nat, j ≤ q ∧ i = .int .i64 j ∧ ∃ vv, v = vv ∧ Hid (RX w wx vv (Tk.cp d l j) p (q : Nat) (d : Nat))) (fun _ i _ => q - (intOf i).toNat)
          case atStart => exact ⟨0, by omega, rfl, _, rfl, HR2⟩
          case round =>
            obtain ⟨j, hj, rfl, vv, rfl, HJ⟩ := hrel
            have e0 : wr.cell? ⟨p, 0, none⟩ = some (.int .i64 (q : Nat)) := by rw [cell_of_row _ _ _ _ _ (0, 0) HJ.out.box]; rfl
            have e1 : wr.cell? ⟨p, 1, none⟩ = some (.int .i64 (d : Nat)) := by rw [cell_of_row _ _ _ _ _ (0, 0) HJ.out.box]; rfl
            by_cases hlt2 : j < q
            · have hcl := Tk.cp_length d l j
              have how := HJ.out.own
              obtain ⟨nn, hnn⟩ : ∃ nn, nn = l.length + j := ⟨_, rfl⟩
              rw [hcl, ← hnn] at how
              obtain ⟨gv, cap2, rfl⟩ : ∃ gv cap2, u6 = .slice (some ⟨gv, 0, none⟩) nn cap2 := by
                rcases own_nil_or how with ⟨_, h⟩ | ⟨gv, c, e, _⟩
                · omega
                · exact ⟨gv, c, e⟩
              obtain ⟨r, hr⟩ : ∃ r, r = nn - d := ⟨_, rfl⟩
              have hidx : ((nn : Nat) : Int) - ((d : Nat) : Int) = ((r : Nat) : Int) := by omega
              have hrn : r < nn := by omega
              obtain ⟨bb, hbb⟩ : ∃ bb, bb = gb (Tk.cp d l j) (nn - d) := ⟨_, rfl⟩
              have e2 : wr.cell? ⟨gv, r, none⟩ = some (.int .u8 (bb : Nat)) := by
                rw [how.cellAt r (by omega), bvs_get _ _ (by omega), hbb, hr]
              have hb256 : bb < 256 := by rw [hbb]; exact gb_lt _ _
              have HCP : Hid (Tk.cp d l (j + 1) = Tk.cp d l j ++ [UInt8.ofNat bb]) := Lib.hid (by
                rw [Tk.cp, hbb]
                unfold Tk.bk gb
                rw [hcl, ← hnn]; simp)
              have hal := below_alloc wr (.cells #[.int .u8 (bb : Nat)] 5)
              have OWN := Lib.hid (own_below how hal)
              have SRC := Lib.hid (src_b wr bb (by omega))
              have hbs : w.heap.size ≤ (wr.alloc (.cells #[.int .u8 (bb : Nat)] 5)).heap.size := by have := HJ.out.bel.size; simp; omega
              have HAL := Lib.hid hal
              have hgz := (how.lt gv rfl).2
              have h1 : nn ≤ l.length + j := by omega
              have h2 : l.length + j ≤ nn := by omega
              clear hal how hcl hnn hr hbb
              go_wp2_with (at_builtin; refine wpl_append2 tyU rfl _ _ rfl OWN.out SRC.out rfl rfl (by omega) (by omega) (by omega) hbs ?_)
              intro v3 w3 own3 st3
              rw [← bvs_append] at own3
              have HX3 : Hid (RX w w3 v3 (Tk.cp d l (j + 1)) p (q : Nat) (d : Nat)) := Lib.hid (HJ.out.app HAL.out (by
                have e3 : (Tk.cp d l j ++ [UInt8.ofNat bb]).length = nn + 1 := by rw [List.length_append, Tk.cp_length]; simp; omega
                rw [HCP.out, e3]; exact own3) st3)
              clear own3 st3 OWN SRC HAL HJ
              go_wp2
              go_roundw
              case rel => exact ⟨j + 1, by omega, by go_num, _, rfl, HX3⟩
              case measure => simp [intOf]; omega
            · obtain rfl : j = q := by omega
              have HN : Hid (Tk.upto n ts (k + 1) = (0, Tk.cp d l j) ∧ wr.ownsRow w.heap.size 5 1 u6 (Tk.cp d l j).length (bvs (Tk.cp d l j)) ∧ Below w.heap.size w wr) := Lib.hid ⟨HX.out, HJ.out.own, HJ.out.bel⟩
              clear HJ
              go_wp2
              go_roundw
              case rel => exact ⟨k + 1, by omega, by go_num, _, _, rfl, HN⟩
              case measure => simp [intOf]; omega
    · obtain rfl : len = k := by omega
      have HP : Hid (RefExpPost w (Tk.exp (n : Int) ts) (.returned (.tuple #[u6, .int .i64 0])) wr) := Lib.hid ⟨HK.out.2.2, u6, by rw [HE.out, HK.out.1], by rw [HE.out, HK.out.1]; exact HK.out.2.1⟩
      clear HK
      go_wp2
      go_ret2
      exact HP.out
end Go.Proofs.YtpoilaappcjbeaaGreatDoor
end

section
namespace Go.Proofs.YtpoilaappcjbeaaGreatDoor
open Go.RowKit

namespace Bc
def LitsPost (w : World) (l : List UInt8) (e : Ending) (w' : World) : Prop := ∃ v, e = .returned v ∧ w'.ownsRow w.heap.size 59 2 v l.length (tks (lits l)) ∧ Below w.heap.size w w'
theorem gb_256 (l : List UInt8) (i : Nat) : gb l i < 256 := by unfold gb; exact UInt8.toNat_lt _
set_option maxRecDepth 100000 in
set_option maxHeartbeats 2000000 in
theorem lits_any (a : Option Addr) (cap : Nat) (l : List UInt8) (w : World) (h : Bs w a l.length cap l) (hl : l.length ≤ 1000000) :
    Calls Tryz.prog 11 #[.slice a l.length cap] w (LitsPost w l) := by
  have H := Lib.hid h
  clear h
  have HN := Lib.hid (lits_next l)
  have HE : Hid (lits (l.take l.length) = lits l) := Lib.hid (by rw [List.take_length])
  have H0 : Hid (w.ownsRow w.heap.size 59 2 (.slice none 0 0) 0 (tks (lits (l.take 0)))) := Lib.hid (World.ownsRow_nil _ _ _ _)
  generalize hn : l.length = n at *
  clear hn
  go_enter Tryz.func11, Tryz.ntmps11
  go_wp2_with fail
  go_loopw [3, 4] (fun ov iv wr => ∃ k : Nat, k ≤ n ∧ iv = .int .i64 k ∧ Hid (wr.ownsRow w.heap.size 59 2 ov k (tks (lits (l.take k)))) ∧ Hid (Below w.heap.size w wr)) (fun _ iv _ => n - (intOf iv).toNat)
  case atStart => exact ⟨0, by omega, rfl, H0, Lib.hid (Below.refl _ _)⟩
  case round =>
    obtain ⟨k, hk, rfl, HO, HB⟩ := hrel
    clear H0
    by_cases hlt : k < n
    · obtain ⟨b, off, rfl, _, c0⟩ := (H.out.mono HB.out).at' k hlt
      have hz := gb_256 l k
      have HX := Lib.hid (HN.out k (by have := H.out.hlen; omega))
      have hbz := HB.out.size
      generalize gb l k = z at *
      have hal := below_alloc wr (.cells #[.int .i64 0, .int .i64 (z : Nat)] 59)
      have HOA := Lib.hid (own_below HO.out hal)
      have hsrc := src_tok wr (((0 : Int), ((z : Nat) : Int)) : Tok)
      have hbase : w.heap.size ≤ (wr.alloc (.cells #[.int .i64 0, .int .i64 (z : Nat)] 59)).heap.size := by have := hal.size; omega
      have HBA := Lib.hid (below_then HB.out hal)
      clear hal HO
      go_wp2_with (at_builtin; refine wpl_append tyT rfl _ _ rfl HOA.out hsrc rfl rfl (by omega) (by omega) hbase ?_)
      intro v1 w1 own1 hg1 _
      have HOB : Hid (w1.ownsRow w.heap.size 59 2 v1 (k + 1) (tks (lits (l.take (k + 1))))) := Lib.hid (by rw [HX.out, tks_append]; exact own1)
      have HBB : Hid (Below w.heap.size w w1) := Lib.hid (HBA.out.grown hg1 hbase (fun k hk => (HOA.out.lt k hk).1))
      clear own1 hg1 HOA HBA hsrc c0 HX
      go_wp2
      go_roundw
      case rel => exact ⟨k + 1, by omega, by go_num, HOB, HBB⟩
      case measure => simp [intOf]; omega
    · obtain rfl : n = k := by omega
      have hz := H.out.hlen
      go_wp2
      go_ret
      refine ⟨_, rfl, ?_, HB.out⟩
      have := HO.out
      rw [show l.take n = l by rw [← hz, List.take_length]] at this
      rw [hz]
      exact this
end Bc
end Go.Proofs.YtpoilaappcjbeaaGreatDoor
end
