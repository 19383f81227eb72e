/- What tokens cost: parse.Price, and the document's Price. -/
import Derived.Test.YtedncnaeojomcaaParGood
import Derived.Test.YtedncnaeojomcaaParSym
namespace Go.Proofs.Ytedncnaeojomcaa
open Go.RowKit
namespace Pa
/-- What a token costs. -/
def pr (l1 l2 l3 : List Int) (t : Tok) : Int := if t.1 = 0 then l1.getD t.2.toNat 0 else l2.getD t.1.toNat 0 + l3.getD (Sy.dsy t.2.toNat) 0
/-- What the first ones cost. -/
def sm (l1 l2 l3 : List Int) (ts : List Tok) : Nat → Int
  | 0 => 0
  | k + 1 => sm l1 l2 l3 ts k + pr l1 l2 l3 (ts.getD k (0, 0))
theorem pr_in {l1 l2 l3 : List Int} (h1 : rng l1 = true) (h2 : rng l2 = true) (h3 : rng l3 = true) (t : Tok) : 0 ≤ pr l1 l2 l3 t ∧ pr l1 l2 l3 t ≤ 2097152 := by
  unfold pr
  split
  · have := rng_get h1 t.2.toNat; omega
  · have := rng_get h2 t.1.toNat; have := rng_get h3 (Sy.dsy t.2.toNat); omega
theorem sm_in {l1 l2 l3 : List Int} (h1 : rng l1 = true) (h2 : rng l2 = true) (h3 : rng l3 = true) (ts : List Tok) : ∀ k, 0 ≤ sm l1 l2 l3 ts k ∧ sm l1 l2 l3 ts k ≤ 2097152 * k
  | 0 => by simp [sm]
  | k + 1 => by have := sm_in h1 h2 h3 ts k; have := pr_in h1 h2 h3 (ts.getD k (0, 0)); simp only [sm]; omega
theorem good_parts {l1 l2 l3 : List Int} (h : good l1 l2 l3 = true) : rng l1 = true ∧ rng l2 = true ∧ rng l3 = true ∧ l1.length = 256 ∧ l2.length = 259 ∧ l3.length = 30 := by
  unfold good at h
  simp only [Bool.and_eq_true, decide_eq_true_eq] at h
  exact ⟨h.1.1.1, h.1.2.1, h.2.1, h.1.1.2, h.1.2.2, h.2.2⟩
/-- What Price answers. -/
def PcPost (l1 l2 l3 : List Int) (ts : List Tok) (n : Nat) (e : Ending) : Prop :=
  (good l1 l2 l3 = true ∧ (∀ i, i < n → Tk.isTok (ts.getD i (0, 0)) = true) ∧ e = .returned (.tuple #[.int .i64 (sm l1 l2 l3 ts n), .nilIface])) ∨
  (¬ (good l1 l2 l3 = true ∧ ∀ i, i < n → Tk.isTok (ts.getD i (0, 0)) = true) ∧ e = .returned (.tuple #[.int .i64 0, .iface 40 (.int .i64 6)]))
end Pa
section
variable {w : World} {a1 a2 a3 : Option Addr} {n1 c1 n2 c2 n3 c3 : Nat} {l1 l2 l3 : List Int}
set_option maxRecDepth 100000 in
set_option maxHeartbeats 4000000 in
theorem price_any (a : Option Addr) (len cap : Nat) (ts : List Tok) (ht : Ts2 w a len cap ts) (hlen : len ≤ 1100000) (h : Pa.Pr w a1 n1 c1 l1 a2 n2 c2 l2 a3 n3 c3 l3) :
    Calls Try.prog 5 #[.slice a len cap, .agg #[.slice a1 n1 c1, .slice a2 n2 c2, .slice a3 n3 c3]] w fun e w' => Pa.PcPost l1 l2 l3 ts len e ∧ Below w.heap.size w w' := by
  have hb := below_alloc w (.cells #[.slice a1 n1 c1, .slice a2 n2 c2, .slice a3 n3 c3] 32)
  have hrow : (w.alloc (.cells #[.slice a1 n1 c1, .slice a2 n2 c2, .slice a3 n3 c3] 32)).heap[w.heap.size]? = some (.cells #[.slice a1 n1 c1, .slice a2 n2 c2, .slice a3 n3 c3] 32 (0, 0)) := heap_alloc_last w _
  have HT := Lib.hid (ht.mono hb)
  have HP := Lib.hid (h.mono hb)
  have HTL := Lib.hid ht.hlen
  have HL := Lib.hid (And.intro h.h1.hlen (And.intro h.h2.hlen h.h3.hlen))
  clear ht h
  have HB := Lib.hid hb
  have c0 : (w.alloc (.cells #[.slice a1 n1 c1, .slice a2 n2 c2, .slice a3 n3 c3] 32)).cell? ⟨w.heap.size, 0, none⟩ = some (.slice a1 n1 c1) := by rw [cell_of_row _ _ _ _ _ (0, 0) hrow]; rfl
  have c1' : (w.alloc (.cells #[.slice a1 n1 c1, .slice a2 n2 c2, .slice a3 n3 c3] 32)).cell? ⟨w.heap.size, 1, none⟩ = some (.slice a2 n2 c2) := by rw [cell_of_row _ _ _ _ _ (0, 0) hrow]; rfl
  have c2' : (w.alloc (.cells #[.slice a1 n1 c1, .slice a2 n2 c2, .slice a3 n3 c3] 32)).cell? ⟨w.heap.size, 2, none⟩ = some (.slice a3 n3 c3) := by rw [cell_of_row _ _ _ _ _ (0, 0) hrow]; rfl
  have HV := Lib.hid (valid_any HP.out)
  have HR := Lib.hid hrow
  clear hb hrow
  go_enter Try.func5, Try.ntmps5
  go_wp2_with fail
  refine HV.out.mono ?_
  rintro e w2 ⟨rfl, hb2⟩
  have HT2 := Lib.hid (HT.out.mono hb2)
  have HP2 := Lib.hid (HP.out.mono hb2)
  have HR2 := Lib.hid ((hb2.block w.heap.size (by simp)).trans HR.out)
  have HB2 := Lib.hid (below_then HB.out hb2)
  have HZ2 : Hid (w.heap.size < w2.heap.size) := Lib.hid (Array.getElem?_eq_some_iff.1 HR2.out).1
  clear hb2 HV HT HP HR HB c0 c1' c2'
  by_cases hg : Pa.good l1 l2 l3 = true
  rotate_left
  · have HE : Hid (Pa.PcPost l1 l2 l3 ts len (.returned (.tuple #[.int .i64 0, .iface 40 (.int .i64 6)]))) := Lib.hid (.inr ⟨fun h => hg h.1, rfl⟩)
    rw [show Pa.good l1 l2 l3 = false by simpa using hg]
    clear hg
    go_wp2
    go_ret2
    exact ⟨HE.out, HB2.out⟩
  rw [hg]
  have HGD := Lib.hid (Pa.good_parts hg)
  have HG := Lib.hid hg
  clear hg
  go_wp2
  go_loopw [6, 18] (fun sv i wr => ∃ k : Nat, k ≤ len ∧ i = .int .i64 ((k : Nat) : Int) ∧ sv = .int .i64 (Pa.sm l1 l2 l3 ts k) ∧ Hid (∀ j, j < k → Tk.isTok (ts.getD j (0, 0)) = true) ∧ Hid (Below w2.heap.size w2 wr)) (fun _ i _ => len - (intOf i).toNat)
  case atStart => exact ⟨0, by omega, rfl, rfl, Lib.hid (fun j hj => by omega), Lib.hid (Below.refl _ _)⟩
  case round =>
    obtain ⟨k, hk, rfl, rfl, HK, HBR⟩ := hrel
    have hsm := Pa.sm_in HGD.out.1 HGD.out.2.1 HGD.out.2.2.1 ts k
    by_cases hlt : k < len
    · obtain ⟨b, off, rfl, hbl, t0, t1⟩ := (HT2.out.mono HBR.out).at' k hlt
      have hwf := HT2.out.wf k hlt
      have hpr := Pa.pr_in HGD.out.1 HGD.out.2.1 HGD.out.2.2.1 (ts.getD k (0, 0))
      have HSM : Hid (Pa.sm l1 l2 l3 ts (k + 1) = Pa.sm l1 l2 l3 ts k + Pa.pr l1 l2 l3 (ts.getD k (0, 0))) := Lib.hid rfl
      have HK1 : Hid (Tk.isTok (ts.getD k (0, 0)) = true → ∀ j, j < k + 1 → Tk.isTok (ts.getD j (0, 0)) = true) := Lib.hid (fun h j hj => by
        rcases Nat.lt_or_ge j k with h' | h'
        · exact HK.out j h'
        · obtain rfl : j = k := by omega
          exact h)
      have HNO : Hid (Tk.isTok (ts.getD k (0, 0)) = false → Pa.PcPost l1 l2 l3 ts len (.returned (.tuple #[.int .i64 0, .iface 40 (.int .i64 6)]))) := Lib.hid (fun h => .inr ⟨(fun q => by have := q.2 k hlt; rw [h] at this; cases this), rfl⟩)
      generalize ts.getD k (0, 0) = t at *
      obtain ⟨x, y⟩ := t
      simp only at t0 t1 hwf
      have hb5 := below_alloc wr (.cells #[.int .i64 x, .int .i64 y] 31)
      have hr5 : (wr.alloc (.cells #[.int .i64 x, .int .i64 y] 31)).heap[wr.heap.size]? = some (.cells #[.int .i64 x, .int .i64 y] 31 (0, 0)) := heap_alloc_last wr _
      have HS := Lib.hid (symbols_any09 (x, y) (wr.alloc (.cells #[.int .i64 x, .int .i64 y] 31)) hwf)
      have HB5 := Lib.hid (below_then HBR.out hb5)
      clear hb5 hbl hwf
      simp only at HS
      go_wp2_with fail
      refine HS.out.mono ?_
      rintro e w6 ⟨⟨v, ⟨sv, dv, rfl, hsd⟩, rfl⟩, hb6⟩
      have hr6 := (hb6.block wr.heap.size (by simp)).trans hr5
      have HB6 := Lib.hid (below_then HB5.out hb6)
      have HBW := Lib.hid (HB2.out.trans (HB6.out.mono HB2.out.size))
      have x0 : w6.cell? ⟨wr.heap.size, 0, none⟩ = some (.int .i64 x) := by rw [cell_of_row _ _ _ _ _ (0, 0) hr6]; rfl
      have y0 : w6.cell? ⟨wr.heap.size, 1, none⟩ = some (.int .i64 y) := by rw [cell_of_row _ _ _ _ _ (0, 0) hr6]; rfl
      have hrp := (HB6.out.block w.heap.size HZ2.out).trans HR2.out
      have p0 : w6.cell? ⟨w.heap.size, 0, none⟩ = some (.slice a1 n1 c1) := by rw [cell_of_row _ _ _ _ _ (0, 0) hrp]; rfl
      have p1 : w6.cell? ⟨w.heap.size, 1, none⟩ = some (.slice a2 n2 c2) := by rw [cell_of_row _ _ _ _ _ (0, 0) hrp]; rfl
      have p2 : w6.cell? ⟨w.heap.size, 2, none⟩ = some (.slice a3 n3 c3) := by rw [cell_of_row _ _ _ _ _ (0, 0) hrp]; rfl
      clear hb6 hr6 hr5 hrp HS HB5 t0 t1 HBR
      by_cases htok : Tk.isTok (x, y) = true
      rotate_left
      · have hf : Tk.isTok (x, y) = false := by simpa using htok
        have HE := Lib.hid (HNO.out hf)
        rw [hf]
        clear hsd htok hf HNO HK1 x0 y0 p0 p1 p2
        go_wp2
        go_ret2
        exact ⟨HE.out, HBW.out⟩
      have htr := Tk.tok_range htok
      simp only at htr
      obtain ⟨hs0, hs1⟩ := hsd htok
      have HKN := Lib.hid (HK1.out htok)
      rw [htok]
      have HP6 := Lib.hid (HP2.out.mono HB6.out)
      clear hsd htok HNO HK1
      by_cases hx : x = 0
      · obtain ⟨rfl, rfl⟩ := hs0 hx
        subst hx
        obtain ⟨j, rfl⟩ : ∃ j : Nat, sv = (j : Int) := ⟨sv.toNat, by omega⟩
        have hn1 : n1 = 256 := by rw [← HL.out.1]; exact HGD.out.2.2.2.1
        obtain ⟨q, qo, rfl, _, hcq⟩ := HP6.out.h1.at' j (by omega)
        have hpe : Pa.pr l1 l2 l3 (0, (j : Int)) = l1.getD j 0 := by unfold Pa.pr; rw [if_pos rfl, Int.toNat_natCast]
        rw [hpe] at hpr HSM
        have hjn : j < n1 := by omega
        have i1 : (0 : Int) ≤ (j : Int) := by omega
        have i2 : (j : Int) < (n1 : Int) := by omega
        clear hs0 hs1 hpe hn1
        generalize l1.getD j 0 = z at *
        generalize Pa.sm l1 l2 l3 ts k = S at *
        go_wp2
        go_roundw
        case rel => exact ⟨k + 1, by omega, by go_num, by rw [HSM.out], HKN, HB6⟩
        case measure => simp [intOf]; omega
      · obtain ⟨rfl, rfl⟩ := hs1 hx
        obtain ⟨xn, rfl⟩ : ∃ xn : Nat, x = (xn : Int) := ⟨x.toNat, by omega⟩
        have hd30 : Sy.dsy y.toNat < 30 := by have := Sy.cnt_le Sy.db 29 y.toNat; unfold Sy.dsy; omega
        have hpe : Pa.pr l1 l2 l3 ((xn : Int), y) = l2.getD xn 0 + l3.getD (Sy.dsy y.toNat) 0 := by unfold Pa.pr; rw [if_neg hx, Int.toNat_natCast]
        rw [hpe] at hpr HSM
        have dx0 : ((xn : Int) == 0) = false := by simp; omega
        clear hs0 hs1 hpe
        generalize Sy.dsy y.toNat = dq at *
        have hn2 : n2 = 259 := by rw [← HL.out.2.1]; exact HGD.out.2.2.2.2.1
        have hn3 : n3 = 30 := by rw [← HL.out.2.2]; exact HGD.out.2.2.2.2.2
        obtain ⟨q, qo, rfl, _, hcq⟩ := HP6.out.h2.at' xn (by omega)
        obtain ⟨u, uo, rfl, _, hcu⟩ := HP6.out.h3.at' dq (by omega)
        have i1 : (0 : Int) ≤ (xn : Int) := by omega
        have i2 : (xn : Int) < (n2 : Int) := by omega
        have i3 : (0 : Int) ≤ (dq : Int) := by omega
        have i4 : (dq : Int) < (n3 : Int) := by omega
        have hz1 := Pa.rng_get HGD.out.2.1 xn
        have hz2 := Pa.rng_get HGD.out.2.2.1 dq
        clear hn2 hn3
        generalize l2.getD xn 0 = z at *
        generalize l3.getD dq 0 = z2 at *
        generalize Pa.sm l1 l2 l3 ts k = S at *
        have w1 : IntKind.i64.wrap (z + z2) = z + z2 := IntWalk.i64_in _ ⟨by omega, by omega⟩
        have w2' : IntKind.i64.wrap (S + (z + z2)) = S + (z + z2) := IntWalk.i64_in _ ⟨by omega, by omega⟩
        go_wp2_with fail
        go_quiet (fail)
        have HBD := Lib.hid (below_then HB6.out (drewN_is w6 nq))
        go_wp2
        go_roundw
        case rel => exact ⟨k + 1, by omega, by go_num, by rw [HSM.out], HKN, HBD⟩
        case measure => simp [intOf]; omega
    · obtain rfl : len = k := by omega
      have HE : Hid (Pa.PcPost l1 l2 l3 ts len (.returned (.tuple #[.int .i64 (Pa.sm l1 l2 l3 ts len), .nilIface]))) := Lib.hid (.inl ⟨HG.out, HK.out, rfl⟩)
      have HBW := Lib.hid (HB2.out.trans (HBR.out.mono HB2.out.size))
      go_wp2
      go_ret2
      exact ⟨HE.out, HBW.out⟩
end
end Go.Proofs.Ytedncnaeojomcaa
