/- What tokens cost: parse.Price, and the document's Price. Parses: which token stands at a place, what they cost from there on, and what they come to. parse.literal, parse.span: their contracts. parse.follow: its contracts. What a round keeps. What is loaded out of a block's front. The map of a forest: what it holds by three bytes. -/
import Derived.Test.YtdojhglpiejfjaaDoorZ4
import Derived.Laws.ResultCell
import Derived.RangeFuncBox
import Derived.OwnWalkIn
import Derived.RangeFuncFrom
import Derived.Test.YtdojhglpiejfjaaDoorProg
import Derived.Maps.OwnSet
import Derived.DeepKeys4
set_option linter.unusedSimpArgs false
set_option linter.unusedVariables false
section
namespace Go.Proofs.YtdojhglpiejfjaaDoor
open Go.RowKit
namespace Pa
/-- What a token costs. -/
def pr (l1 l2 l3 : List Int) (t : Tok) : Int := if t.1 = 0 then l1.getD t.2.toNat 0 else l2.getD t.1.toNat 0 + l3.getD (Sy.dsy t.2.toNat) 0
/-- What the first ones cost. -/
def sm (l1 l2 l3 : List Int) (ts : List Tok) : Nat → Int
  | 0 => 0
  | k + 1 => sm l1 l2 l3 ts k + pr l1 l2 l3 (ts.getD k (0, 0))
theorem pr_in {l1 l2 l3 : List Int} (h1 : rng l1 = true) (h2 : rng l2 = true) (h3 : rng l3 = true) (t : Tok) : 0 ≤ pr l1 l2 l3 t ∧ pr l1 l2 l3 t ≤ 2097152 := by
  unfold pr
  split
  · have := rng_get h1 t.2.toNat; omega
  · have := rng_get h2 t.1.toNat; have := rng_get h3 (Sy.dsy t.2.toNat); omega
theorem sm_in {l1 l2 l3 : List Int} (h1 : rng l1 = true) (h2 : rng l2 = true) (h3 : rng l3 = true) (ts : List Tok) : ∀ k, 0 ≤ sm l1 l2 l3 ts k ∧ sm l1 l2 l3 ts k ≤ 2097152 * k
  | 0 => by simp [sm]
  | k + 1 => by have := sm_in h1 h2 h3 ts k; have := pr_in h1 h2 h3 (ts.getD k (0, 0)); simp only [sm]; omega
theorem good_parts {l1 l2 l3 : List Int} (h : good l1 l2 l3 = true) : rng l1 = true ∧ rng l2 = true ∧ rng l3 = true ∧ l1.length = 256 ∧ l2.length = 259 ∧ l3.length = 30 := by
  unfold good at h
  simp only [Bool.and_eq_true, decide_eq_true_eq] at h
  exact ⟨h.1.1.1, h.1.2.1, h.2.1, h.1.1.2, h.1.2.2, h.2.2⟩
/-- What Price answers. -/
def PcPost (l1 l2 l3 : List Int) (ts : List Tok) (n : Nat) (e : Ending) : Prop :=
  (good l1 l2 l3 = true ∧ (∀ i, i < n → Tk.isTok (ts.getD i (0, 0)) = true) ∧ e = .returned (.tuple #[.int .i64 (sm l1 l2 l3 ts n), .nilIface])) ∨
  (¬ (good l1 l2 l3 = true ∧ ∀ i, i < n → Tk.isTok (ts.getD i (0, 0)) = true) ∧ e = .returned (.tuple #[.int .i64 0, .iface 43 (.int .i64 6)]))
end Pa
section
variable {w : World} {a1 a2 a3 : Option Addr} {n1 c1 n2 c2 n3 c3 : Nat} {l1 l2 l3 : List Int}
set_option maxRecDepth 100000 in
set_option maxHeartbeats 4000000 in
theorem price_any (a : Option Addr) (len cap : Nat) (ts : List Tok) (ht : Ts2 w a len cap ts) (hlen : len ≤ 1100000) (h : Pa.Pr w a1 n1 c1 l1 a2 n2 c2 l2 a3 n3 c3 l3) :
    Calls Tryd.prog 37 #[.slice a len cap, .agg #[.slice a1 n1 c1, .slice a2 n2 c2, .slice a3 n3 c3]] w fun e w' => Pa.PcPost l1 l2 l3 ts len e ∧ Below w.heap.size w w' := by
  have hb := below_alloc w (.cells #[.slice a1 n1 c1, .slice a2 n2 c2, .slice a3 n3 c3] 38)
  have hrow : (w.alloc (.cells #[.slice a1 n1 c1, .slice a2 n2 c2, .slice a3 n3 c3] 38)).heap[w.heap.size]? = some (.cells #[.slice a1 n1 c1, .slice a2 n2 c2, .slice a3 n3 c3] 38 (0, 0)) := heap_alloc_last w _
  have HT := Lib.hid (ht.mono hb)
  have HP := Lib.hid (h.mono hb)
  have HTL := Lib.hid ht.hlen
  have HL := Lib.hid (And.intro h.h1.hlen (And.intro h.h2.hlen h.h3.hlen))
  clear ht h
  have HB := Lib.hid hb
  have c0 : (w.alloc (.cells #[.slice a1 n1 c1, .slice a2 n2 c2, .slice a3 n3 c3] 38)).cell? ⟨w.heap.size, 0, none⟩ = some (.slice a1 n1 c1) := by rw [cell_of_row _ _ _ _ _ (0, 0) hrow]; rfl
  have c1' : (w.alloc (.cells #[.slice a1 n1 c1, .slice a2 n2 c2, .slice a3 n3 c3] 38)).cell? ⟨w.heap.size, 1, none⟩ = some (.slice a2 n2 c2) := by rw [cell_of_row _ _ _ _ _ (0, 0) hrow]; rfl
  have c2' : (w.alloc (.cells #[.slice a1 n1 c1, .slice a2 n2 c2, .slice a3 n3 c3] 38)).cell? ⟨w.heap.size, 2, none⟩ = some (.slice a3 n3 c3) := by rw [cell_of_row _ _ _ _ _ (0, 0) hrow]; rfl
  have HV := Lib.hid (valid_any HP.out)
  have HR := Lib.hid hrow
  clear hb hrow
  go_enter Tryd.func37, Tryd.ntmps37
  go_wp2_with fail
  refine HV.out.mono ?_
  rintro e w2 ⟨rfl, hb2⟩
  have HT2 := Lib.hid (HT.out.mono hb2)
  have HP2 := Lib.hid (HP.out.mono hb2)
  have HR2 := Lib.hid ((hb2.block w.heap.size (by simp)).trans HR.out)
  have HB2 := Lib.hid (below_then HB.out hb2)
  have HZ2 : Hid (w.heap.size < w2.heap.size) := Lib.hid (Array.getElem?_eq_some_iff.1 HR2.out).1
  clear hb2 HV HT HP HR HB c0 c1' c2'
  by_cases hg : Pa.good l1 l2 l3 = true
  rotate_left
  · have HE : Hid (Pa.PcPost l1 l2 l3 ts len (.returned (.tuple #[.int .i64 0, .iface 43 (.int .i64 6)]))) := Lib.hid (.inr ⟨fun h => hg h.1, rfl⟩)
    rw [show Pa.good l1 l2 l3 = false by simpa using hg]
    clear hg
    go_wp2
    go_ret2
    exact ⟨HE.out, HB2.out⟩
  rw [hg]
  have HGD := Lib.hid (Pa.good_parts hg)
  have HG := Lib.hid hg
  clear hg
  go_wp2
  go_loopw [6, 18] (fun sv i wr => ∃ k : Nat, k ≤ len ∧ i = .int .i64 ((k : Nat) : Int) ∧ sv = .int .i64 (Pa.sm l1 l2 l3 ts k) ∧ Hid (∀ j, j < k → Tk.isTok (ts.getD j (0, 0)) = true) ∧ Hid (Below w2.heap.size w2 wr)) (fun _ i _ => len - (intOf i).toNat)
  case atStart => exact ⟨0, by omega, rfl, rfl, Lib.hid (fun j hj => by omega), Lib.hid (Below.refl _ _)⟩
  case round =>
    obtain ⟨k, hk, rfl, rfl, HK, HBR⟩ := hrel
    have hsm := Pa.sm_in HGD.out.1 HGD.out.2.1 HGD.out.2.2.1 ts k
    by_cases hlt : k < len
    · obtain ⟨b, off, rfl, hbl, t0, t1⟩ := (HT2.out.mono HBR.out).at' k hlt
      have hwf := HT2.out.wf k hlt
      have hpr := Pa.pr_in HGD.out.1 HGD.out.2.1 HGD.out.2.2.1 (ts.getD k (0, 0))
      have HSM : Hid (Pa.sm l1 l2 l3 ts (k + 1) = Pa.sm l1 l2 l3 ts k + Pa.pr l1 l2 l3 (ts.getD k (0, 0))) := Lib.hid rfl
      have HK1 : Hid (Tk.isTok (ts.getD k (0, 0)) = true → ∀ j, j < k + 1 → Tk.isTok (ts.getD j (0, 0)) = true) := Lib.hid (fun h j hj => by
        rcases Nat.lt_or_ge j k with h' | h'
        · exact HK.out j h'
        · obtain rfl : j = k := by omega
          exact h)
      have HNO : Hid (Tk.isTok (ts.getD k (0, 0)) = false → Pa.PcPost l1 l2 l3 ts len (.returned (.tuple #[.int .i64 0, .iface 43 (.int .i64 6)]))) := Lib.hid (fun h => .inr ⟨(fun q => by have := q.2 k hlt; rw [h] at this; cases this), rfl⟩)
      generalize ts.getD k (0, 0) = t at *
      obtain ⟨x, y⟩ := t
      simp only at t0 t1 hwf
      have hb5 := below_alloc wr (.cells #[.int .i64 x, .int .i64 y] 46)
      have hr5 : (wr.alloc (.cells #[.int .i64 x, .int .i64 y] 46)).heap[wr.heap.size]? = some (.cells #[.int .i64 x, .int .i64 y] 46 (0, 0)) := heap_alloc_last wr _
      have HS := Lib.hid (symbols_any09 (x, y) (wr.alloc (.cells #[.int .i64 x, .int .i64 y] 46)) hwf)
      have HB5 := Lib.hid (below_then HBR.out hb5)
      clear hb5 hbl hwf
      simp only at HS
      go_wp2_with fail
      refine HS.out.mono ?_
      rintro e w6 ⟨⟨v, ⟨sv, dv, rfl, hsd⟩, rfl⟩, hb6⟩
      have hr6 := (hb6.block wr.heap.size (by simp)).trans hr5
      have HB6 := Lib.hid (below_then HB5.out hb6)
      have HBW := Lib.hid (HB2.out.trans (HB6.out.mono HB2.out.size))
      have x0 : w6.cell? ⟨wr.heap.size, 0, none⟩ = some (.int .i64 x) := by rw [cell_of_row _ _ _ _ _ (0, 0) hr6]; rfl
      have y0 : w6.cell? ⟨wr.heap.size, 1, none⟩ = some (.int .i64 y) := by rw [cell_of_row _ _ _ _ _ (0, 0) hr6]; rfl
      have hrp := (HB6.out.block w.heap.size HZ2.out).trans HR2.out
      have p0 : w6.cell? ⟨w.heap.size, 0, none⟩ = some (.slice a1 n1 c1) := by rw [cell_of_row _ _ _ _ _ (0, 0) hrp]; rfl
      have p1 : w6.cell? ⟨w.heap.size, 1, none⟩ = some (.slice a2 n2 c2) := by rw [cell_of_row _ _ _ _ _ (0, 0) hrp]; rfl
      have p2 : w6.cell? ⟨w.heap.size, 2, none⟩ = some (.slice a3 n3 c3) := by rw [cell_of_row _ _ _ _ _ (0, 0) hrp]; rfl
      clear hb6 hr6 hr5 hrp HS HB5 t0 t1 HBR
      by_cases htok : Tk.isTok (x, y) = true
      rotate_left
      · have hf : Tk.isTok (x, y) = false := by simpa using htok
        have HE := Lib.hid (HNO.out hf)
        rw [hf]
        clear hsd htok hf HNO HK1 x0 y0 p0 p1 p2
        go_wp2
        go_ret2
        exact ⟨HE.out, HBW.out⟩
      have htr := Tk.tok_range htok
      simp only at htr
      obtain ⟨hs0, hs1⟩ := hsd htok
      have HKN := Lib.hid (HK1.out htok)
      rw [htok]
      have HP6 := Lib.hid (HP2.out.mono HB6.out)
      clear hsd htok HNO HK1
      by_cases hx : x = 0
      · obtain ⟨rfl, rfl⟩ := hs0 hx
        subst hx
        obtain ⟨j, rfl⟩ : ∃ j : Nat, sv = (j : Int) := ⟨sv.toNat, by omega⟩
        have hn1 : n1 = 256 := by rw [← HL.out.1]; exact HGD.out.2.2.2.1
        obtain ⟨q, qo, rfl, _, hcq⟩ := HP6.out.h1.at' j (by omega)
        have hpe : Pa.pr l1 l2 l3 (0, (j : Int)) = l1.getD j 0 := by unfold Pa.pr; rw [if_pos rfl, Int.toNat_natCast]
        rw [hpe] at hpr HSM
        have hjn : j < n1 := by omega
        have i1 : (0 : Int) ≤ (j : Int) := by omega
        have i2 : (j : Int) < (n1 : Int) := by omega
        clear hs0 hs1 hpe hn1
        generalize l1.getD j 0 = z at *
        generalize Pa.sm l1 l2 l3 ts k = S at *
        go_wp2
        go_roundw
        case rel => exact ⟨k + 1, by omega, by go_num, by rw [HSM.out], HKN, HB6⟩
        case measure => simp [intOf]; omega
      · obtain ⟨rfl, rfl⟩ := hs1 hx
        obtain ⟨xn, rfl⟩ : ∃ xn : Nat, x = (xn : Int) := ⟨x.toNat, by omega⟩
        have hd30 : Sy.dsy y.toNat < 30 := by have := Sy.cnt_le Sy.db 29 y.toNat; unfold Sy.dsy; omega
        have hpe : Pa.pr l1 l2 l3 ((xn : Int), y) = l2.getD xn 0 + l3.getD (Sy.dsy y.toNat) 0 := by unfold Pa.pr; rw [if_neg hx, Int.toNat_natCast]
        rw [hpe] at hpr HSM
        have dx0 : ((xn : Int) == 0) = false := by simp; omega
        clear hs0 hs1 hpe
        generalize Sy.dsy y.toNat = dq at *
        have hn2 : n2 = 259 := by rw [← HL.out.2.1]; exact HGD.out.2.2.2.2.1
        have hn3 : n3 = 30 := by rw [← HL.out.2.2]; exact HGD.out.2.2.2.2.2
        obtain ⟨q, qo, rfl, _, hcq⟩ := HP6.out.h2.at' xn (by omega)
        obtain ⟨u, uo, rfl, _, hcu⟩ := HP6.out.h3.at' dq (by omega)
        have i1 : (0 : Int) ≤ (xn : Int) := by omega
        have i2 : (xn : Int) < (n2 : Int) := by omega
        have i3 : (0 : Int) ≤ (dq : Int) := by omega
        have i4 : (dq : Int) < (n3 : Int) := by omega
        have hz1 := Pa.rng_get HGD.out.2.1 xn
        have hz2 := Pa.rng_get HGD.out.2.2.1 dq
        clear hn2 hn3
        generalize l2.getD xn 0 = z at *
        generalize l3.getD dq 0 = z2 at *
        generalize Pa.sm l1 l2 l3 ts k = S at *
        have w1 : IntKind.i64.wrap (z + z2) = z + z2 := IntWalk.i64_in _ ⟨by omega, by omega⟩
        have w2' : IntKind.i64.wrap (S + (z + z2)) = S + (z + z2) := IntWalk.i64_in _ ⟨by omega, by omega⟩
        go_wp2_with fail
        go_quiet (fail)
        have HBD := Lib.hid (below_then HB6.out (drewN_is w6 nq))
        go_wp2
        go_roundw
        case rel => exact ⟨k + 1, by omega, by go_num, by rw [HSM.out], HKN, HBD⟩
        case measure => simp [intOf]; omega
    · obtain rfl : len = k := by omega
      have HE : Hid (Pa.PcPost l1 l2 l3 ts len (.returned (.tuple #[.int .i64 (Pa.sm l1 l2 l3 ts len), .nilIface]))) := Lib.hid (.inl ⟨HG.out, HK.out, rfl⟩)
      have HBW := Lib.hid (HB2.out.trans (HBR.out.mono HB2.out.size))
      go_wp2
      go_ret2
      exact ⟨HE.out, HBW.out⟩
end
end Go.Proofs.YtdojhglpiejfjaaDoor
end

section
namespace Go.Proofs.YtdojhglpiejfjaaDoor
open Go.RowKit
namespace Pz
/-- How many bytes a token stands for. -/
def sp (t : Tok) : Nat := max t.1.toNat 1
/-- The tokens that may stand at a place: its byte, or a nearest match. -/
def Cho (b : Nat → Nat) (R : Nat → List (Nat × Nat)) (p : Nat) (t : Tok) : Prop := t = (0, (b p : Int)) ∨ ∃ n, 3 ≤ n ∧ n ≤ Lz.top (R p) ∧ t = ((n : Int), ((Lz.far (R p) n : Nat) : Int))
structure Txt (b : Nat → Nat) (N : Nat) (R : Nat → List (Nat × Nat)) : Prop where
  byte : ∀ p, b p < 256
  recs : ∀ p, p < N → Lz.Rec b N p (R p)
variable {b : Nat → Nat} {N : Nat} {R : Nat → List (Nat × Nat)} {pr : Tok → Int}
theorem Cho.mat (h : Txt b N R) {p : Nat} (hp : p < N) {n : Nat} (h3 : 3 ≤ n) (hn : n ≤ Lz.top (R p)) : Lz.Mat b N p n (Lz.far (R p) n) ∧ n ≤ 258 ∧ p + n ≤ N := by
  have hm := (Lz.far_some (h.recs p hp) h3 hn).1
  have hL : n ≤ Lz.L N p := Nat.le_trans hm.2.2.2 (Lz.cp_le _ _ _ _)
  unfold Lz.L at hL
  exact ⟨hm, by omega, by omega⟩
theorem Cho.fits (h : Txt b N R) {p : Nat} (hp : p < N) {t : Tok} (c : Cho b R p t) : p + sp t ≤ N ∧ 1 ≤ sp t := by
  rcases c with rfl | ⟨n, h3, hn, rfl⟩
  · unfold sp; simp; omega
  · have := (Cho.mat h hp h3 hn).2
    unfold sp; simp; omega
theorem Cho.tok (h : Txt b N R) {p : Nat} (hp : p < N) {t : Tok} (c : Cho b R p t) : Tk.isTok t = true := by
  rcases c with rfl | ⟨n, h3, hn, rfl⟩
  · have := h.byte p
    unfold Tk.isTok
    rw [if_pos rfl]
    simp
    omega
  · obtain ⟨⟨m1, m2, m3, _⟩, m5, m6⟩ := Cho.mat h hp h3 hn
    unfold Tk.isTok
    rw [if_neg (by simp; omega)]
    simp
    omega
theorem Cho.lit (b : Nat → Nat) (R : Nat → List (Nat × Nat)) (p : Nat) : Cho b R p (0, (b p : Int)) := .inl rfl
/-- What the cheapest parse costs from each place on. -/
structure Least (pr : Tok → Int) (b : Nat → Nat) (N : Nat) (R : Nat → List (Nat × Nat)) (from' : Nat) (C : Nat → Int) : Prop where
  fin : C N = 0
  le : ∀ p, from' ≤ p → p < N → ∀ t, Cho b R p t → C p ≤ pr t + C (p + sp t)
  at' : ∀ p, from' ≤ p → p < N → ∃ t, Cho b R p t ∧ C p = pr t + C (p + sp t)
theorem Least.one (h : Txt b N R) {f : Nat} {C C' : Nat → Int} (x : Least pr b N R f C) (y : Least pr b N R f C') : ∀ k p, f ≤ p → p + k = N → C p = C' p
  | 0, p, _, hk => by
    obtain rfl : p = N := by omega
    rw [x.fin, y.fin]
  | k + 1, p, hf, hk => by
    have hp : p < N := by omega
    have go : ∀ t, Cho b R p t → C (p + sp t) = C' (p + sp t) := fun t c => by
      have := Cho.fits h hp c
      obtain ⟨j, hj⟩ : ∃ j, p + sp t + j = N := ⟨N - (p + sp t), by omega⟩
      have hj2 : j < k + 1 := by omega
      exact Least.one h x y j (p + sp t) (by omega) hj
    obtain ⟨t, ct, et⟩ := x.at' p hf hp
    obtain ⟨u, cu, eu⟩ := y.at' p hf hp
    have a := x.le p hf hp u cu
    have c := y.le p hf hp t ct
    rw [go u cu] at a
    rw [← go t ct] at c
    omega
termination_by k => k
/-- Where the k-th token begins. -/
def pos (F : Nat → Tok) : Nat → Nat
  | 0 => 0
  | k + 1 => pos F k + sp (F (pos F k))
def toks (F : Nat → Tok) (k : Nat) : List Tok := (List.range k).map fun j => F (pos F j)
theorem toks_length (F : Nat → Tok) (k : Nat) : (toks F k).length = k := by simp [toks]
theorem toks_next (F : Nat → Tok) (k : Nat) : toks F (k + 1) = toks F k ++ [F (pos F k)] := by simp [toks, List.range_succ]
theorem toks_getD (F : Nat → Tok) {j k : Nat} (h : j < k) : (toks F k).getD j (0, 0) = F (pos F j) := by simp [toks, List.getD, h]
theorem pos_ge (F : Nat → Tok) : ∀ k, k ≤ pos F k
  | 0 => Nat.le_refl _
  | k + 1 => by
    have := pos_ge F k
    have : 1 ≤ sp (F (pos F k)) := by unfold sp; omega
    unfold pos; omega
/-- Chosen at each place: the k-th place, as long as all ahead of it lie within. -/
theorem pos_le (h : Txt b N R) {F : Nat → Tok} (hF : ∀ p, p < N → Cho b R p (F p)) : ∀ k, (∀ j, j < k → pos F j < N) → pos F k ≤ N
  | 0, _ => Nat.zero_le _
  | k + 1, hk => by
    have := (Cho.fits h (hk k (by omega)) (hF _ (hk k (by omega)))).1
    unfold pos; omega
theorem sm_toks (l1 l2 l3 : List Int) (F : Nat → Tok) (K : Nat) : ∀ k, k ≤ K → Pa.sm l1 l2 l3 (toks F K) k = Pa.sm l1 l2 l3 (toks F k) k
  | 0, _ => rfl
  | k + 1, hk => by
    have a : ∀ M, k + 1 ≤ M → ∀ j, j ≤ k → Pa.sm l1 l2 l3 (toks F M) j = Pa.sm l1 l2 l3 (toks F (k + 1)) j := fun M hM j => by
      induction j with
      | zero => intro _; rfl
      | succ j ih =>
        intro hj
        simp only [Pa.sm]
        rw [ih (by omega), toks_getD F (by omega), toks_getD F (by omega)]
    simp only [Pa.sm]
    rw [a K hk k (Nat.le_refl _), toks_getD F (by omega), toks_getD F (by omega)]
theorem sm_next (l1 l2 l3 : List Int) (F : Nat → Tok) (k : Nat) : Pa.sm l1 l2 l3 (toks F (k + 1)) (k + 1) = Pa.sm l1 l2 l3 (toks F k) k + Pa.pr l1 l2 l3 (F (pos F k)) := by
  have := sm_toks l1 l2 l3 F (k + 1) k (by omega)
  simp only [Pa.sm]
  rw [this, toks_getD F (by omega)]
/-- What the first tokens cost, and what is left. -/
theorem cost_le {l1 l2 l3 : List Int} (h : Txt b N R) {C : Nat → Int} (x : Least (Pa.pr l1 l2 l3) b N R 0 C) {F : Nat → Tok} (hF : ∀ p, p < N → Cho b R p (F p)) :
    ∀ k, (∀ j, j < k → pos F j < N) → C 0 ≤ Pa.sm l1 l2 l3 (toks F k) k + C (pos F k)
  | 0, _ => by simp [Pa.sm, pos]
  | k + 1, hk => by
    have ih := cost_le h x hF k (fun j hj => hk j (by omega))
    have := x.le (pos F k) (Nat.zero_le _) (hk k (by omega)) _ (hF _ (hk k (by omega)))
    rw [sm_next]
    show C 0 ≤ _ + C (pos F k + sp (F (pos F k)))
    omega
theorem cost_eq {l1 l2 l3 : List Int} {C : Nat → Int} {F : Nat → Tok} (hF : ∀ p, p < N → C p = Pa.pr l1 l2 l3 (F p) + C (p + sp (F p))) :
    ∀ k, (∀ j, j < k → pos F j < N) → C 0 = Pa.sm l1 l2 l3 (toks F k) k + C (pos F k)
  | 0, _ => by simp [Pa.sm, pos]
  | k + 1, hk => by
    have ih := cost_eq hF k (fun j hj => hk j (by omega))
    have := hF (pos F k) (hk k (by omega))
    rw [sm_next]
    show C 0 = _ + C (pos F k + sp (F (pos F k)))
    omega
/-- Literals alone. -/
def lits (b : Nat → Nat) : Nat → Tok := fun p => (0, (b p : Int))
theorem lits_pos (b : Nat → Nat) : ∀ k, pos (lits b) k = k
  | 0 => rfl
  | k + 1 => by unfold pos; rw [lits_pos b k]; rfl
/-- Tokens that are chosen come to the text. -/
theorem cp_take (l : List UInt8) (p far : Nat) (hf : 1 ≤ far) (hfp : far ≤ p) : ∀ n, p + n ≤ l.length → (∀ i, i < n → gb l (p - far + i) = gb l (p + i)) → Tk.cp far (l.take p) n = l.take (p + n)
  | 0, _, _ => rfl
  | n + 1, hn, he => by
    rw [Tk.cp, cp_take l p far hf hfp n (by omega) (fun i hi => he i (by omega)), ← Nat.add_assoc, take_succ_getD l (p + n) (by omega)]
    congr 1
    have hlen : (l.take (p + n)).length = p + n := by rw [List.length_take]; omega
    have e : l.getD (p + n - far) 0 = l.getD (p + n) 0 := by
      have h1 := he n (by omega)
      unfold gb at h1
      have := UInt8.toNat_inj.1 h1
      rwa [show p - far + n = p + n - far by omega] at this
    unfold Tk.bk
    rw [hlen]
    have e2 : (l.take (p + n)).getD (p + n - far) 0 = l.getD (p + n - far) 0 := by
      simp only [List.getD, List.getElem?_take]
      rw [if_pos (by omega)]
    rw [e2, e]
theorem exp_step {l : List UInt8} (h : Txt (gb l) l.length R) {p : Nat} (hp : p < l.length) {t : Tok} (c : Cho (gb l) R p t) {most : Nat} (hm : l.length ≤ most) : Tk.stp most (l.take p) t = (0, l.take (p + sp t)) := by
  have ht := Cho.tok h hp c
  have hlen : (l.take p).length = p := by rw [List.length_take]; omega
  unfold Tk.stp
  rw [if_pos ht]
  unfold Tk.add
  rw [hlen]
  rcases c with rfl | ⟨n, h3, hn, rfl⟩
  · rw [if_neg (by simp)]
    have e1 : Tk.size ((0 : Int), ((gb l p : Nat) : Int)) = 1 := rfl
    have e2 : sp ((0 : Int), ((gb l p : Nat) : Int)) = 1 := rfl
    rw [e1, e2, if_neg (by omega)]
    unfold Tk.put
    rw [if_pos rfl, take_succ_getD l p hp]
    congr 3
    simp [gb]
  · obtain ⟨⟨m1, m2, m3, m4⟩, m5, m6⟩ := Cho.mat h hp h3 hn
    rw [if_neg (by simp only [not_and]; omega)]
    have e1 : Tk.size ((n : Int), ((Lz.far (R p) n : Nat) : Int)) = n := by unfold Tk.size; rw [if_neg (by simp; omega)]; simp
    have e2 : sp ((n : Int), ((Lz.far (R p) n : Nat) : Int)) = n := by unfold sp; simp; omega
    rw [e1, e2, if_neg (by omega)]
    unfold Tk.put
    rw [if_neg (by simp; omega)]
    simp only [Int.toNat_natCast]
    rw [cp_take l p _ m1 m2 n m6 (fun i hi => Lz.cp_eq _ _ _ _ i (Nat.lt_of_lt_of_le hi m4))]
theorem exp_toks {l : List UInt8} (h : Txt (gb l) l.length R) {F : Nat → Tok} (hF : ∀ p, p < l.length → Cho (gb l) R p (F p)) {most : Nat} (hm : l.length ≤ most) (K : Nat) : ∀ k, k ≤ K → (∀ j, j < k → pos F j < l.length) → Tk.upto most (toks F K) k = (0, l.take (pos F k))
  | 0, _, _ => rfl
  | k + 1, hk, hj => by
    rw [Tk.upto_next (exp_toks h hF hm K k (by omega) (fun j h => hj j (by omega))), toks_getD F (by omega), exp_step h (hj k (by omega)) (hF _ (hj k (by omega))) hm]
    rfl
theorem exp_all {l : List UInt8} (h : Txt (gb l) l.length R) {F : Nat → Tok} (hF : ∀ p, p < l.length → Cho (gb l) R p (F p)) {most : Nat} (hm : l.length ≤ most) (hmm : most ≤ 4194304) {K : Nat} (hK : pos F K = l.length) (hj : ∀ j, j < K → pos F j < l.length) : Tk.exp (most : Int) (toks F K) = (0, l) := by
  unfold Tk.exp
  rw [if_pos (by omega), toks_length, Int.toNat_natCast, exp_toks h hF hm K K (Nat.le_refl _) hj, hK, List.take_length]
end Pz
end Go.Proofs.YtdojhglpiejfjaaDoor
end

section
namespace Go.Proofs.YtdojhglpiejfjaaDoor
open Go.RowKit

theorem res_tok {k : Nat} (fn : Func) (hf : fn.results = #[.cell k 46]) (tmps : Array Value) (w : World) (g : Nat) (c n : Value) (fr : Nat × Nat) (hp : tmps.getD k undef = .pointer (some ⟨g, 0, none⟩)) (hg : w.heap[g]? = some (.cells #[c, n] 46 fr)) :
    (results fn tmps).run Tryd.prog w = .ok (.agg #[c, n]) w :=
  results_cell_row hf tmps w g _ _ fr _ hp hg Tryd.underlying46 rfl (by kernel_rfl)
theorem literal_any (x : Nat) (w : World) (hx : x < 256) :
    Calls Tryd.prog 27 #[.int .u8 (x : Nat)] w fun e w' => e = .returned (.agg #[.int .i64 0, .int .i64 (x : Nat)]) ∧ Below w.heap.size w w' := by
  go_enter Tryd.func27, Tryd.ntmps27
  go_wp2
  exact bodyPost_ret (res_tok _ rfl _ _ _ _ _ _ rfl (heap_alloc_last w _)) rfl ⟨rfl, below_alloc w _⟩
theorem span_any (n : Nat) (y : Int) (w : World) (hn : n ≤ 258) :
    Calls Tryd.prog 42 #[.agg #[.int .i64 (n : Nat), .int .i64 y]] w fun e w' => e = .returned (.int .i64 ((Pz.sp ((n : Int), y) : Nat) : Int)) ∧ Below w.heap.size w w' := by
  have hr : (w.alloc (.cells #[.int .i64 (n : Nat), .int .i64 y] 46)).cell? ⟨w.heap.size, 0, none⟩ = some (.int .i64 (n : Nat)) := by rw [cell_of_row _ _ _ _ _ (0, 0) (heap_alloc_last w _)]; rfl
  go_enter Tryd.func42, Tryd.ntmps42
  have hs : Pz.sp ((n : Int), y) = max n 1 := rfl
  rw [hs]
  by_cases h : n = 0
  · subst h
    go_wp2
    go_ret
    exact ⟨rfl, below_alloc w _⟩
  · have hm : max n 1 = n := by omega
    rw [hm]
    clear hs hm
    go_wp2
    go_ret
    exact ⟨rfl, below_alloc w _⟩
end Go.Proofs.YtdojhglpiejfjaaDoor
end

section
namespace Go.Proofs.YtdojhglpiejfjaaDoor
open Go.RowKit

theorem tok_wf {t : Tok} (h : Tk.isTok t = true) : (Lit.int .i64 t.1).wf = true ∧ (Lit.int .i64 t.2).wf = true := by
  obtain ⟨h1, h2, h3, h4, _⟩ := Tk.tok_range h
  simp only [Lit.wf, IntKind.min, IntKind.max, IntKind.signed, IntKind.bits, Bool.and_eq_true, decide_eq_true_eq, if_true]
  simp
  omega
def FollowPost (w : World) (N : Nat) (F : Nat → Tok) (e : Ending) (w' : World) : Prop :=
  ∃ v K, e = .returned v ∧ w'.ownsRow w.heap.size 46 2 v K (tks (Pz.toks F K)) ∧ Pz.pos F K = N ∧ (∀ j, j < K → Pz.pos F j < N) ∧ Below w.heap.size w w'
set_option maxHeartbeats 2000000 in
theorem follow_greedy (A B : Nat) (N : Nat) (F : Nat → Tok) (w : World) (hN : N ≤ 1048576)
    (hc : ∀ w' p, Below w.heap.size w w' → p < N → Calls Tryd.prog 25 #[.int .i64 (p : Nat), .pointer (some ⟨A, 0, none⟩), .pointer (some ⟨B, 0, none⟩)] w' fun e w'' => e = .returned (.agg #[.int .i64 (F p).1, .int .i64 (F p).2]) ∧ Below w'.heap.size w' w'')
    (hF : ∀ p, p < N → p + Pz.sp (F p) ≤ N ∧ Tk.isTok (F p) = true) :
    Calls Tryd.prog 24 #[.int .i64 (N : Nat), .func (.func 25) #[] #[.pointer (some ⟨A, 0, none⟩), .pointer (some ⟨B, 0, none⟩)]] w (FollowPost w N F) := by
  have HC := Lib.hid hc
  have HF := Lib.hid hF
  clear hc hF
  go_enter Tryd.func24, Tryd.ntmps24
  go_wp2
  go_loopw [5, 6] (fun ov av wr => ∃ k : Nat, av = .int .i64 ((Pz.pos F k : Nat) : Int) ∧ Pz.pos F k ≤ N ∧ wr.ownsRow w.heap.size 46 2 ov k (tks (Pz.toks F k)) ∧ Hid (∀ j, j < k → Pz.pos F j < N) ∧ Hid (Below w.heap.size w wr)) (fun _ av _ => N - (intOf av).toNat)
  case atStart => exact ⟨0, rfl, Nat.zero_le _, World.ownsRow_nil _ _ _ _, Lib.hid (fun j h => by omega), Lib.hid (Below.refl _ _)⟩
  case round =>
    obtain ⟨k, rfl, hp, hown, HJ, HB⟩ := hrel
    by_cases hlt : Pz.pos F k < N
    · have HCP := Lib.hid (HC.out wr (Pz.pos F k) HB.out hlt)
      have HFP := Lib.hid (HF.out _ hlt)
      have HP1 : Hid (Pz.pos F (k + 1) = Pz.pos F k + Pz.sp (F (Pz.pos F k))) := Lib.hid rfl
      have HT1 := Lib.hid (Pz.toks_next F k)
      have HJ1 : Hid (∀ j, j < k + 1 → Pz.pos F j < N) := Lib.hid (fun j hj => by
        rcases Nat.lt_succ_iff_lt_or_eq.1 hj with h | rfl
        · exact HJ.out j h
        · exact hlt)
      have HKP := Lib.hid (Pz.pos_ge F k)
      have hr := Tk.tok_range HFP.out.2
      have hwf := tok_wf HFP.out.2
      generalize F (Pz.pos F k) = t at *
      obtain ⟨x, y⟩ := t
      simp only at hr hwf
      obtain ⟨x, rfl⟩ := Int.eq_ofNat_of_zero_le hr.1
      have hx : x ≤ 258 := by omega
      clear hr HJ
      generalize hpk : Pz.pos F k = pk at *
      clear hpk
      go_wp2_with fail
      refine HCP.out.mono ?_
      rintro e w1 ⟨rfl, hb1⟩
      have hown1 := own_below hown hb1
      have HB1 := Lib.hid (below_then HB.out hb1)
      clear hown hb1 HCP
      have hvl : ∀ q, u5.ownBlock = some q → q < w1.heap.size := fun q hq => (hown1.lt q hq).2
      have hz1 := HB1.out.size
      obtain ⟨va, vc, rfl⟩ : ∃ va vc, u5 = .slice va k vc := by
        rcases own_nil_or hown1 with ⟨h1, h2⟩ | ⟨g', cap', h1, _⟩
        · exact ⟨none, 0, by rw [h1, h2]⟩
        · exact ⟨_, _, h1⟩
      have b1 := below_alloc w1 (.cells #[.int .i64 (x : Nat), .int .i64 y] 46)
      have hrow : (w1.alloc (.cells #[.int .i64 (x : Nat), .int .i64 y] 46)).heap[w1.heap.size]? = some (.cells #[.int .i64 (x : Nat), .int .i64 y] 46 (0, 0)) := heap_alloc_last w1 _
      have b2 := below_alloc (w1.alloc (.cells #[.int .i64 (x : Nat), .int .i64 y] 46)) (.cells #[.int .i64 (x : Nat), .int .i64 y] 46)
      have hkn : k < 1048576 := by have := HKP.out; omega
      have hsrc : SrcRow ((w1.alloc (.cells #[.int .i64 (x : Nat), .int .i64 y] 46)).alloc (.cells #[.int .i64 (x : Nat), .int .i64 y] 46)) (some ⟨w1.heap.size + 1, 0, none⟩) 1 1 (tks [((x : Int), y)]) 2 := by
        have := src_tok (w1.alloc (.cells #[.int .i64 (x : Nat), .int .i64 y] 46)) ((x : Int), y)
        rwa [World.size_alloc] at this
      go_wp2_with (at_builtin; refine wpl_append tyT rfl _ _ rfl (own_below hown1 (below_then b1 b2)) hsrc rfl rfl (by omega) (by omega) (by simp; omega) ?_)
      intro v' w' own' hg' _
      obtain ⟨va', vc', rfl⟩ : ∃ va' vc', v' = .slice va' (k + 1) vc' := by
        rcases own_nil_or own' with ⟨h1, h2⟩ | ⟨g', cap', h1, _⟩
        · omega
        · exact ⟨_, _, h1⟩
      have hrow2 := (hg'.block w1.heap.size (by simp; omega) (fun e => by have := hvl _ e.symm; omega)).trans ((b2.block w1.heap.size (by simp)).trans hrow)
      have hz12 := hg'.size
      have HB3 : Hid (Below w.heap.size w w') := Lib.hid ((below_then (below_then HB1.out b1) b2).grown hg' (by simp; omega) (fun r e => (hown1.lt r e).1))
      have c0 : w'.cell? ⟨w1.heap.size, 0, none⟩ = some (.int .i64 (x : Nat)) := by rw [cell_of_row _ _ _ _ _ (0, 0) hrow2]; rfl
      have c1 : w'.cell? ⟨w1.heap.size, 1, none⟩ = some (.int .i64 y) := by rw [cell_of_row _ _ _ _ _ (0, 0) hrow2]; rfl
      rw [← tks_append] at own'
      have HO := Lib.hid own'
      clear own' hg' hsrc hvl hown1 b1 b2 hrow hrow2 hz12 hz1
      go_wp2_with fail
      refine (span_any x y w' hx).mono ?_
      rintro e w2 ⟨rfl, hb2⟩
      have hown3 := own_below HO.out hb2
      have HB4 := Lib.hid (below_then HB3.out hb2)
      rw [← HT1.out] at hown3
      have hfp := HFP.out.1
      have HSN : Hid (1 ≤ Pz.sp ((x : Int), y)) := Lib.hid (by unfold Pz.sp; omega)
      generalize hspn : Pz.sp ((x : Int), y) = sn at *
      clear hspn hb2 c0 c1 HO HB3
      go_wp2
      go_roundw
      case rel => exact ⟨k + 1, by rw [HP1.out]; go_num, by rw [HP1.out]; omega, hown3, HJ1, HB4⟩
      case measure =>
        have : 1 ≤ sn := HSN.out
        simp [intOf]; omega
    · have hpn : Pz.pos F k = N := by omega
      clear HC HF
      generalize hpk : Pz.pos F k = pk at *
      have HPK := Lib.hid hpk
      clear hpk
      subst hpn
      clear hp
      have hlt2 : decide ((pk : Int) < (pk : Int)) = false := by simp
      go_wp2
      go_ret
      exact ⟨_, k, rfl, hown, HPK.out, HJ.out, HB.out⟩
set_option maxHeartbeats 2000000 in
theorem follow_cheap (A : Nat) (N : Nat) (F : Nat → Tok) (w : World) (hN : N ≤ 1048576)
    (hc : ∀ w' p, Below w.heap.size w w' → p < N → Calls Tryd.prog 32 #[.int .i64 (p : Nat), .pointer (some ⟨A, 0, none⟩)] w' fun e w'' => e = .returned (.agg #[.int .i64 (F p).1, .int .i64 (F p).2]) ∧ Below w'.heap.size w' w'')
    (hF : ∀ p, p < N → p + Pz.sp (F p) ≤ N ∧ Tk.isTok (F p) = true) :
    Calls Tryd.prog 24 #[.int .i64 (N : Nat), .func (.func 32) #[] #[.pointer (some ⟨A, 0, none⟩)]] w (FollowPost w N F) := by
  have HC := Lib.hid hc
  have HF := Lib.hid hF
  clear hc hF
  go_enter Tryd.func24, Tryd.ntmps24
  go_wp2
  go_loopw [5, 6] (fun ov av wr => ∃ k : Nat, av = .int .i64 ((Pz.pos F k : Nat) : Int) ∧ Pz.pos F k ≤ N ∧ wr.ownsRow w.heap.size 46 2 ov k (tks (Pz.toks F k)) ∧ Hid (∀ j, j < k → Pz.pos F j < N) ∧ Hid (Below w.heap.size w wr)) (fun _ av _ => N - (intOf av).toNat)
  case atStart => exact ⟨0, rfl, Nat.zero_le _, World.ownsRow_nil _ _ _ _, Lib.hid (fun j h => by omega), Lib.hid (Below.refl _ _)⟩
  case round =>
    obtain ⟨k, rfl, hp, hown, HJ, HB⟩ := hrel
    by_cases hlt : Pz.pos F k < N
    · have HCP := Lib.hid (HC.out wr (Pz.pos F k) HB.out hlt)
      have HFP := Lib.hid (HF.out _ hlt)
      have HP1 : Hid (Pz.pos F (k + 1) = Pz.pos F k + Pz.sp (F (Pz.pos F k))) := Lib.hid rfl
      have HT1 := Lib.hid (Pz.toks_next F k)
      have HJ1 : Hid (∀ j, j < k + 1 → Pz.pos F j < N) := Lib.hid (fun j hj => by
        rcases Nat.lt_succ_iff_lt_or_eq.1 hj with h | rfl
        · exact HJ.out j h
        · exact hlt)
      have HKP := Lib.hid (Pz.pos_ge F k)
      have hr := Tk.tok_range HFP.out.2
      have hwf := tok_wf HFP.out.2
      generalize F (Pz.pos F k) = t at *
      obtain ⟨x, y⟩ := t
      simp only at hr hwf
      obtain ⟨x, rfl⟩ := Int.eq_ofNat_of_zero_le hr.1
      have hx : x ≤ 258 := by omega
      clear hr HJ
      generalize hpk : Pz.pos F k = pk at *
      clear hpk
      go_wp2_with fail
      refine HCP.out.mono ?_
      rintro e w1 ⟨rfl, hb1⟩
      have hown1 := own_below hown hb1
      have HB1 := Lib.hid (below_then HB.out hb1)
      clear hown hb1 HCP
      have hvl : ∀ q, u5.ownBlock = some q → q < w1.heap.size := fun q hq => (hown1.lt q hq).2
      have hz1 := HB1.out.size
      obtain ⟨va, vc, rfl⟩ : ∃ va vc, u5 = .slice va k vc := by
        rcases own_nil_or hown1 with ⟨h1, h2⟩ | ⟨g', cap', h1, _⟩
        · exact ⟨none, 0, by rw [h1, h2]⟩
        · exact ⟨_, _, h1⟩
      have b1 := below_alloc w1 (.cells #[.int .i64 (x : Nat), .int .i64 y] 46)
      have hrow : (w1.alloc (.cells #[.int .i64 (x : Nat), .int .i64 y] 46)).heap[w1.heap.size]? = some (.cells #[.int .i64 (x : Nat), .int .i64 y] 46 (0, 0)) := heap_alloc_last w1 _
      have b2 := below_alloc (w1.alloc (.cells #[.int .i64 (x : Nat), .int .i64 y] 46)) (.cells #[.int .i64 (x : Nat), .int .i64 y] 46)
      have hkn : k < 1048576 := by have := HKP.out; omega
      have hsrc : SrcRow ((w1.alloc (.cells #[.int .i64 (x : Nat), .int .i64 y] 46)).alloc (.cells #[.int .i64 (x : Nat), .int .i64 y] 46)) (some ⟨w1.heap.size + 1, 0, none⟩) 1 1 (tks [((x : Int), y)]) 2 := by
        have := src_tok (w1.alloc (.cells #[.int .i64 (x : Nat), .int .i64 y] 46)) ((x : Int), y)
        rwa [World.size_alloc] at this
      go_wp2_with (at_builtin; refine wpl_append tyT rfl _ _ rfl (own_below hown1 (below_then b1 b2)) hsrc rfl rfl (by omega) (by omega) (by simp; omega) ?_)
      intro v' w' own' hg' _
      obtain ⟨va', vc', rfl⟩ : ∃ va' vc', v' = .slice va' (k + 1) vc' := by
        rcases own_nil_or own' with ⟨h1, h2⟩ | ⟨g', cap', h1, _⟩
        · omega
        · exact ⟨_, _, h1⟩
      have hrow2 := (hg'.block w1.heap.size (by simp; omega) (fun e => by have := hvl _ e.symm; omega)).trans ((b2.block w1.heap.size (by simp)).trans hrow)
      have hz12 := hg'.size
      have HB3 : Hid (Below w.heap.size w w') := Lib.hid ((below_then (below_then HB1.out b1) b2).grown hg' (by simp; omega) (fun r e => (hown1.lt r e).1))
      have c0 : w'.cell? ⟨w1.heap.size, 0, none⟩ = some (.int .i64 (x : Nat)) := by rw [cell_of_row _ _ _ _ _ (0, 0) hrow2]; rfl
      have c1 : w'.cell? ⟨w1.heap.size, 1, none⟩ = some (.int .i64 y) := by rw [cell_of_row _ _ _ _ _ (0, 0) hrow2]; rfl
      rw [← tks_append] at own'
      have HO := Lib.hid own'
      clear own' hg' hsrc hvl hown1 b1 b2 hrow hrow2 hz12 hz1
      go_wp2_with fail
      refine (span_any x y w' hx).mono ?_
      rintro e w2 ⟨rfl, hb2⟩
      have hown3 := own_below HO.out hb2
      have HB4 := Lib.hid (below_then HB3.out hb2)
      rw [← HT1.out] at hown3
      have hfp := HFP.out.1
      have HSN : Hid (1 ≤ Pz.sp ((x : Int), y)) := Lib.hid (by unfold Pz.sp; omega)
      generalize hspn : Pz.sp ((x : Int), y) = sn at *
      clear hspn hb2 c0 c1 HO HB3
      go_wp2
      go_roundw
      case rel => exact ⟨k + 1, by rw [HP1.out]; go_num, by rw [HP1.out]; omega, hown3, HJ1, HB4⟩
      case measure =>
        have : 1 ≤ sn := HSN.out
        simp [intOf]; omega
    · have hpn : Pz.pos F k = N := by omega
      clear HC HF
      generalize hpk : Pz.pos F k = pk at *
      have HPK := Lib.hid hpk
      clear hpk
      subst hpn
      clear hp
      have hlt2 : decide ((pk : Int) < (pk : Int)) = false := by simp
      go_wp2
      go_ret
      exact ⟨_, k, rfl, hown, HPK.out, HJ.out, HB.out⟩
end Go.Proofs.YtdojhglpiejfjaaDoor
end

section
namespace Go.Proofs.YtdojhglpiejfjaaDoor
open Go.RowKit
namespace Bk
/-- What a round keeps: all cells but those of U. -/
def Kc (U : Nat → Prop) (W W' : World) : Prop := ∀ k o, W.heap[k]? = some o → o.isCells = true → ¬ U k → W'.heap[k]? = some o
theorem Kc.refl (U : Nat → Prop) (W : World) : Kc U W W := fun _ _ h _ _ => h
theorem Kc.trans {U : Nat → Prop} {A B C : World} (h : Kc U A B) (k : Kc U B C) : Kc U A C := fun i o hi ho hu => k i o (h i o hi ho hu) ho hu
theorem Kc.alloc (U : Nat → Prop) (W : World) (o : Obj) : Kc U W (W.alloc o) := fun k _ hk _ _ => (Below.heap_alloc W o k (Array.getElem?_eq_some_iff.1 hk).1).trans hk
theorem Kc.grown {U : Nat → Prop} {W W' : World} {row : Option Nat} (hg : W.grownBy W' row) (hr : ∀ r, row = some r → U r ∨ W.heap.size ≤ r) : Kc U W W' := fun k o hk _ hu => by
  have hlt := (Array.getElem?_eq_some_iff.1 hk).1
  exact (hg.block k hlt (fun e => (hr k e.symm).elim hu (fun h => by omega))).trans hk
theorem Kc.drew {U : Nat → Prop} {A B : World} (h : Kc U A B) : Kc U A B.drew := h
theorem Kc.set {U : Nat → Prop} (W : World) (p : Addr) (hp : U p.block) (v : Value) : Kc U W (W.setCell p v) := fun k _ hk _ hu => (Below.heap_setCell W p v k (fun e => hu (e ▸ hp))).trans hk
theorem Kc.put {U : Nat → Prop} (W : World) (l : Nat) (o o' : Obj) (h : W.heap[l]? = some o) (hc : o.isCells = false) : Kc U W (W.putObj l o') := fun k o2 hk ho _ => by
  have : k ≠ l := fun e => by subst e; rw [h] at hk; cases hk; rw [hc] at ho; cases ho
  exact (World.putObj_heap_other this).trans hk
theorem own_same {w w' : World} {B : Nat} {e : TypeId} {size : Nat} {v : Value} {n : Nat} {xs : List Value} (h : w.ownsRow B e size v n xs) (hk : ∀ g, v.ownBlock = some g → w'.heap[g]? = w.heap[g]?) : w'.ownsRow B e size v n xs := by
  obtain ⟨h1, h2⟩ := h
  refine ⟨h1, ?_⟩
  rcases h2 with h2 | ⟨g, cap, cur, rfl, hb, hg, r⟩
  · exact .inl h2
  · exact .inr ⟨g, cap, cur, rfl, hb, (hk g rfl).trans hg, r⟩
theorem own_kc {U : Nat → Prop} {w w' : World} {B : Nat} {e : TypeId} {size : Nat} {v : Value} {n : Nat} {xs : List Value} (h : w.ownsRow B e size v n xs) (c : Kc U w w') (hn : ∀ g, v.ownBlock = some g → ¬ U g) : w'.ownsRow B e size v n xs := by
  obtain ⟨h1, h2⟩ := h
  refine ⟨h1, ?_⟩
  rcases h2 with h2 | ⟨g, cap, cur, rfl, hb, hg, r⟩
  · exact .inl h2
  · exact .inr ⟨g, cap, cur, rfl, hb, c g _ hg rfl (hn g rfl), r⟩
theorem boxed_setO {W : World} {B b : Nat} {t : TypeId} {v : Value} (h : Boxed W B t v) (hne : B ≠ b) (o : Nat) (u : Value) : Boxed (W.setCell ⟨b, o, none⟩ u) B t v := (Below.heap_setCell W ⟨b, o, none⟩ u B hne).trans h
theorem kc_cells {W W' : World} {row : Option Nat} (hg : W.grownBy W' row) (hr : ∀ r, row = some r → ∃ o : Obj, W.heap[r]? = some o ∧ o.isCells = false) : Kc (fun _ => False) W W' := fun k o hk ho _ => by
  refine (hg.block k (Array.getElem?_eq_some_iff.1 hk).1 (fun e => ?_)).trans hk
  obtain ⟨o', ho', hc⟩ := hr k e.symm
  rw [hk] at ho'; cases ho'; rw [ho] at hc; cases hc
end Bk
end Go.Proofs.YtdojhglpiejfjaaDoor
end

section
namespace Go.Proofs.YtdojhglpiejfjaaDoor
open Go.RowKit
theorem wpl_load {P : Program} {w : World} {ops : Array Oper} {rest : List Oper} {o : Oper} {a : Act} {Q : Exit → Act → World → Prop} (hg : o.guard = none) (ty : TypeId) (x : Operand) (hop : o.op = .load ty x)
    (ad : Addr) (hx : a.eval x = .pointer (some ad)) (u : Value) (hrun : (loadVar ty ad).run P w = .ok u w) (hK : wpList P ops Q rest (a.put o.dst u) w) : wpList P ops Q (o :: rest) a w := by
  refine wpList_plain hg fun K hK' => ?_
  unfold Oper.wp
  simp [execOp, hop, hx, Instr.loadAt, Instr.sureAddr, Sem.run_bind, hrun, Result.andThen]
  exact hK' _ _ hK
namespace Bk
/-- An array that is loaded out of a block's front. -/
theorem run_load_front {P : Program} (w : World) (g : Nat) (t ty : TypeId) (cs : Array Value) (fr : Nat × Nat) (xs : List Value) (d : TypeDesc) (hg : w.heap[g]? = some (.cells cs t fr)) (hxs : ∀ (j : Nat) (v : Value), xs[j]? = some v → cs[j]? = some v)
    (hu : P.underlying ty = some d) (hd : (match d with | .struct _ | .array _ _ => true | _ => false) = true) (hi : (P.info? ty).map (·.size) = some xs.length) :
    (loadVar ty ⟨g, 0, none⟩).run P w = .ok (.agg xs.toArray) w := by
  have hl : (loadCells ⟨g, 0, none⟩ xs.length).run P w = .ok xs.toArray w :=
    run_loadCells_list (P := P) w ⟨g, 0, none⟩ xs (fun j v hv => by
      rw [Addr.add_mid, cell_of_row w g _ cs t fr hg, Nat.zero_add]
      exact hxs j v hv)
  cases hq : P.info? ty with
  | none => simp [hq] at hi
  | some i =>
    have hs : i.size = xs.length := by simpa [hq] using hi
    have hagg : (isAgg ty).run P w = .ok true w := by
      unfold isAgg
      rw [Sem.run_bind, run_underlying hu w]
      cases d <;> simp_all
    simp [loadVar, Sem.run_bind, hagg, sizeOf, typeInfo, hq, hs, hl]
theorem wplIn_load {F : Fence} {n : Nat} {P : Program} {w : World} {ops : Array Oper} {rest : List Oper} {o : Oper} {a : Act} {Q : Exit → Act → World → Prop} (hg : o.guard = none) (ty : TypeId) (x : Operand) (hop : o.op = .load ty x)
    (ad : Addr) (hx : a.eval x = .pointer (some ad)) (u : Value) (hrun : (loadVar ty ad).run P w = .ok u w) (hK : wpListIn F n P ops Q rest (a.put o.dst u) w) : wpListIn F n P ops Q (o :: rest) a w := by
  refine wpListIn_plain hg fun K hK' => ?_
  unfold Oper.wpIn
  refine ⟨?_, ?_⟩
  · simp [Oper.about, hop]
  · rw [Oper.semAt_plain F _ _ (by rw [hop]; intro c hc'; cases hc')]
    simp [execOp, hop, hx, Instr.loadAt, Instr.sureAddr, Sem.run_bind, hrun, Result.andThen]
    exact hK' _ _ hK
theorem wplIn_store_row {F : Fence} {n : Nat} {P : Program} {w : World} {ops : Array Oper} {rest : List Oper} {o : Oper} {a : Act} {Q : Exit → Act → World → Prop} (hgd : o.guard = none) (ty : TypeId) (x y : Operand) (ho : o.op = .store ty x y)
    (g : Nat) (cells : Array Value) (hx : a.eval x = .pointer (some ⟨g, 0, none⟩)) (hy : a.eval y = .agg cells)
    (t : TypeId) (old : Array Value) (hg : w.heap[g]? = some (.cells old t (0, 0))) (hi : (P.info? ty).map (·.size) = some cells.size)
    (hold : old.size = cells.size) (h1 : cells.all (·.oneCell') = true)
    (hK : wpListIn F n P ops Q rest (a.put o.dst undef) (w.setRow g cells)) : wpListIn F n P ops Q (o :: rest) a w := by
  refine wpListIn_plain hgd fun K hK' => ?_
  unfold Oper.wpIn
  refine ⟨?_, ?_⟩
  · simp [Oper.about, ho]
  · rw [Oper.semAt_plain F _ _ (by rw [ho]; intro c hc'; cases hc')]
    simp only [execOp, ho, hx, hy, Instr.storeAt, Instr.sureAddr, Sem.run_bind, Sem.run_pure, Result.andThen_ok, run_storeVar_row w g t ty old cells hg hi hold h1]
    exact hK' _ _ hK
end Bk
end Go.Proofs.YtdojhglpiejfjaaDoor
end

section
namespace Go.Proofs.YtdojhglpiejfjaaDoor
open Go.RowKit Go.Maps

theorem laid_all : laidOutB Tryd.prog = true := by kernel_rfl
theorem key_row : (102 : TypeId) < Tryd.prog.types.size := of_decide_eq_true (by kernel_rfl)
theorem key_wide : (match Tryd.prog.underlying 102 with | some (.array _ _) | some (.struct _) => true | _ => false) = true := by rw [Tryd.underlying102]
set_option maxRecDepth 100000 in
theorem key_law : Keyed Tryd.prog 102 := Keyed.of_law (deep_law_laid laid_all (m := 2) (by omega) key_row (by kernel_rfl) key_wide)
/-- A key as it lies. -/
def kv (k : Nat × Nat × Nat) : Value := .agg #[.int .u8 (k.1 : Int), .int .u8 (k.2.1 : Int), .int .u8 (k.2.2 : Int)]
/-- What it reads as. -/
def kl (k : Nat × Nat × Nat) : Lit := .string (keyBytes [.int .u8 (k.1 : Int), .int .u8 (k.2.1 : Int), .int .u8 (k.2.2 : Int)])
def K8 (k : Nat × Nat × Nat) : Prop := k.1 < 256 ∧ k.2.1 < 256 ∧ k.2.2 < 256
theorem key_is (k : Nat × Nat × Nat) (h : K8 k) : keyOf Tryd.prog 102 (kv k) = some (kl k) := by
  obtain ⟨x, y, z⟩ := k
  obtain ⟨hx, hy, hz⟩ := h
  dsimp only at hx hy hz
  have hf : (Value.agg #[.int .u8 (x : Int), .int .u8 (y : Int), .int .u8 (z : Int)]).formed Tryd.prog 102 = true := by
    simp [Value.formed, Tryd.underlying102, show Tryd.prog.cellsOf 102 = 3 by kernel_rfl]
  have hk : Tryd.prog.keyType 102 = true := by kernel_rfl
  obtain ⟨d, hd⟩ : ∃ d, Tryd.prog.types.size + 1 = d + 2 := ⟨Tryd.prog.types.size - 1, by have h0 : (102 : Nat) < Tryd.prog.types.size := key_row; omega⟩
  have w1 : ∀ n : Nat, n < 256 → (Lit.int .u8 (n : Int)).wf = true := fun n hn => by simp [Lit.wf, IntKind.min, IntKind.max, IntKind.signed, IntKind.bits]; omega
  have hl : Tryd.prog.keyLits (Tryd.prog.types.size + 1) 102 [.int .u8 (x : Int), .int .u8 (y : Int), .int .u8 (z : Int)] = some [.int .u8 (x : Int), .int .u8 (y : Int), .int .u8 (z : Int)] := by
    rw [hd]
    simp [Program.keyLits, Tryd.underlying102, Tryd.underlying5, show Tryd.prog.cellsOf 102 = 3 by kernel_rfl, show Tryd.prog.cellsOf 5 = 1 by kernel_rfl, List.range_succ, w1 x hx, w1 y hy, w1 z hz]
  have hc : (kv (x, y, z)).cells.toList = [.int .u8 (x : Int), .int .u8 (y : Int), .int .u8 (z : Int)] := rfl
  have hf2 : (kv (x, y, z)).formed Tryd.prog 102 = true := hf
  unfold keyOf
  rw [Tryd.underlying102]
  dsimp only
  rw [hk, hf2, hc, hl]
  rfl
theorem key_ne {k k' : Nat × Nat × Nat} (h : K8 k) (h' : K8 k') (hne : k ≠ k') : kl k ≠ kl k' := fun e => hne (by
  have h1 := key_is k h
  have h2 := key_is k' h'
  rw [e] at h1
  have h3 := key_law.inj h1 h2
  obtain ⟨x, y, z⟩ := k
  obtain ⟨x', y', z'⟩ := k'
  simp only [kv, Value.agg.injEq, Array.mk.injEq, List.cons.injEq, Value.int.injEq, true_and, and_true] at h3
  simp only [Prod.mk.injEq]
  omega)
theorem key_lit (k : Nat × Nat × Nat) (h : K8 k) : WideAt.IsKeyLit (kl k) := trivial
/-- The block b is a map of at most n entries: what it holds by three bytes, or what stands for nothing. -/
def Tops (e : TypeId) (q : IntKind) (w : World) (b n : Nat) (no : Int) (top : Nat × Nat × Nat → Int) : Prop :=
  ∃ D : DataW Unit, w.ownsMap Tryd.prog 102 (plainElem Tryd.prog e) b n D ∧ ∀ k, K8 k → (Maps.has D (kl k) = true → D.atKey (kl k) (.lit (.int q 0)) = .lit (.int q (top k))) ∧ (Maps.has D (kl k) = false → top k = no)
end Go.Proofs.YtdojhglpiejfjaaDoor
end
