/- parse.Count: its contract. -/
import Derived.Test.YtedncnaeojomcaaParSym
import Derived.Test.YtedncnaeojomcaaIntsGet
import Derived.Test.YtedncnaeojomcaaMade
namespace Go.Proofs.Ytedncnaeojomcaa
open Go.RowKit
namespace Pa
/-- One more of a symbol. -/
def bmp (l : List Int) (i : Nat) : List Int := l.set i (l.getD i 0 + 1)
/-- A token, counted. -/
def stC (p : List Int × List Int) (t : Tok) : List Int × List Int := if Tk.isTok t = true then (if t.1 = 0 then (bmp p.1 t.2.toNat, p.2) else (bmp p.1 (257 + Sy.lsy t.1.toNat), bmp p.2 (Sy.dsy t.2.toNat))) else p
def c0 : List Int × List Int := ((List.replicate 286 0).set 256 1, List.replicate 30 0)
def cts (ts : List Tok) (k : Nat) : List Int × List Int := (ts.take k).foldl stC c0
theorem cts_next (ts : List Tok) (k : Nat) (h : k < ts.length) : cts ts (k + 1) = stC (cts ts k) (ts.getD k (0, 0)) := by
  unfold cts
  rw [List.take_succ_eq_append_getElem h, List.foldl_append]
  simp [List.getD, List.getElem?_eq_getElem h]
/-- In range. -/
def In (m : Nat) (l : List Int) (n : Nat) : Prop := l.length = m ∧ ∀ i, 0 ≤ l.getD i 0 ∧ l.getD i 0 ≤ n
theorem In.bmp {m n i : Nat} {l : List Int} (h : In m l n) : In m (bmp l i) (n + 1) := by
  refine ⟨by simp [Pa.bmp, h.1], fun j => ?_⟩
  have h1 := h.2 j
  unfold Pa.bmp
  by_cases e : i = j
  · subst e
    by_cases hl : i < l.length
    · have : (l.set i (l.getD i 0 + 1)).getD i 0 = l.getD i 0 + 1 := by simp [List.getD, hl]
      rw [this]; omega
    · have : (l.set i (l.getD i 0 + 1)).getD i 0 = 0 := by simp [List.getD, List.getElem?_eq_none (by simpa using Nat.le_of_not_lt hl : (l.set i (l[i]?.getD 0 + 1)).length ≤ i)]
      rw [this]; omega
  · have : (l.set i (l.getD i 0 + 1)).getD j 0 = l.getD j 0 := by simp [List.getD, List.getElem?_set_ne e]
    rw [this]; omega
theorem In.up {m n : Nat} {l : List Int} (h : In m l n) : In m l (n + 1) := ⟨h.1, fun i => by have := h.2 i; omega⟩
theorem zs_get (n i : Nat) : (List.replicate n (0 : Int)).getD i 0 = 0 := by
  by_cases h : i < n <;> simp [List.getD, List.getElem?_replicate, h]
theorem one_get (n k i : Nat) : 0 ≤ ((List.replicate n (0 : Int)).set k 1).getD i 0 ∧ ((List.replicate n (0 : Int)).set k 1).getD i 0 ≤ (1 : Nat) := by
  by_cases e : k = i
  · subst e
    by_cases h : k < n
    · have : ((List.replicate n (0 : Int)).set k 1).getD k 0 = 1 := by simp [List.getD, h]
      rw [this]; omega
    · have : ((List.replicate n (0 : Int)).set k 1).getD k 0 = 0 := by simp [List.getD, List.getElem?_eq_none (by simpa using Nat.le_of_not_lt h : ((List.replicate n (0 : Int)).set k 1).length ≤ k)]
      rw [this]; omega
  · have : ((List.replicate n (0 : Int)).set k 1).getD i 0 = (List.replicate n (0 : Int)).getD i 0 := by simp [List.getD, List.getElem?_set_ne e]
    rw [this, zs_get]; omega
theorem in_one (n k : Nat) : In n ((List.replicate n (0 : Int)).set k 1) 1 := ⟨by rw [List.length_set, List.length_replicate], one_get n k⟩
theorem in_zs (n : Nat) : In n (List.replicate n (0 : Int)) 1 := ⟨List.length_replicate .., fun i => by rw [zs_get]; omega⟩
theorem in_c0 : In 286 c0.1 1 ∧ In 30 c0.2 1 := ⟨in_one 286 256, in_zs 30⟩
theorem in_step {p : List Int × List Int} {n : Nat} (t : Tok) (h : In 286 p.1 n ∧ In 30 p.2 n) : In 286 (stC p t).1 (n + 1) ∧ In 30 (stC p t).2 (n + 1) := by
  unfold stC
  split
  · split
    · exact ⟨h.1.bmp, h.2.up⟩
    · exact ⟨h.1.bmp, h.2.bmp⟩
  · exact ⟨h.1.up, h.2.up⟩
theorem in_cts (ts : List Tok) : ∀ k, k ≤ ts.length → In 286 (cts ts k).1 (k + 1) ∧ In 30 (cts ts k).2 (k + 1)
  | 0, _ => in_c0
  | k + 1, h => by rw [cts_next ts k (by omega)]; exact in_step _ (in_cts ts k (by omega))
theorem In.wf {m n : Nat} {l : List Int} (h : In m l n) (hn : n ≤ 1000000000) : Wf l := by
  intro x hx
  obtain ⟨i, hi, rfl⟩ := List.getElem_of_mem hx
  have := h.2 i
  rw [List.getD, List.getElem?_eq_getElem hi] at this
  simp only [Option.getD_some] at this
  simp only [Lit.wf, IntKind.min, IntKind.max, IntKind.signed, IntKind.bits, Bool.and_eq_true, decide_eq_true_eq, if_true]
  simp; omega
/-- Two rows of counts in memory. -/
structure Cn (w0 w : World) (g1 g2 : Nat) (L D : List Int) : Prop where
  own1 : w.ownsRow w0.heap.size 3 1 (.slice (some ⟨g1, 0, none⟩) 286 286) 286 (ivs L)
  own2 : w.ownsRow w0.heap.size 3 1 (.slice (some ⟨g2, 0, none⟩) 30 30) 30 (ivs D)
  ne : g1 ≠ g2
  bel : Below w0.heap.size w0 w
theorem own_fz {w : World} {base : Nat} {e : TypeId} {size n cap g : Nat} {xs : List Value} (h : w.ownsRow base e size (.slice (some ⟨g, 0, none⟩) n cap) n xs) (o : Nat) : w.frozen? ⟨g, o, none⟩ = false := by
  rcases h.2 with ⟨h', _⟩ | ⟨g', cap', cur, h', hb, hg, _⟩
  · simp at h'
  · simp only [Value.slice.injEq, Option.some.injEq, Addr.mk.injEq, and_true, true_and] at h'
    obtain ⟨rfl, rfl⟩ := h'
    exact frozen_of_row w g o _ _ hg
theorem Cn.mono {w0 w w' : World} {g1 g2 : Nat} {L D : List Int} (h : Cn w0 w g1 g2 L D) (hb : Below w.heap.size w w') : Cn w0 w' g1 g2 L D :=
  ⟨own_below h.own1 hb, own_below h.own2 hb, h.ne, h.bel.trans (hb.mono h.bel.size)⟩
theorem own_ot {w : World} {base : Nat} {e : TypeId} {size : Nat} {v : Value} {n : Nat} {xs : List Value} {g j : Nat} {z : Value} (h : w.ownsRow base e size v n xs) (hv : ∀ b, v.ownBlock = some b → b ≠ g) : (w.setCell ⟨g, j, none⟩ z).ownsRow base e size v n xs :=
  ((Ch.refl w (fun k => k = g)).set (p := ⟨g, j, none⟩) (.inl rfl) z).own h hv
theorem Cn.set1 {w0 w : World} {g1 g2 : Nat} {L D : List Int} (h : Cn w0 w g1 g2 L D) (j : Nat) (z : Int) : Cn w0 (w.setCell ⟨g1, j, none⟩ (.int .i64 z)) g1 g2 (L.set j z) D :=
  ⟨own_set h.own1 j z, own_ot h.own2 (fun b hb => by simp [Value.ownBlock] at hb; rw [← hb]; exact fun e => h.ne e.symm), h.ne, h.bel.setCell (p := ⟨g1, j, none⟩) (h.own1.lt g1 rfl).1 _⟩
theorem Cn.set2 {w0 w : World} {g1 g2 : Nat} {L D : List Int} (h : Cn w0 w g1 g2 L D) (j : Nat) (z : Int) : Cn w0 (w.setCell ⟨g2, j, none⟩ (.int .i64 z)) g1 g2 L (D.set j z) :=
  ⟨own_ot h.own1 (fun b hb => by simp [Value.ownBlock] at hb; rw [← hb]; exact h.ne), own_set h.own2 j z, h.ne, h.bel.setCell (p := ⟨g2, j, none⟩) (h.own2.lt g2 rfl).1 _⟩
theorem Cn.c1 {w0 w : World} {g1 g2 : Nat} {L D : List Int} (h : Cn w0 w g1 g2 L D) (j : Nat) (hj : j < 286) : w.cell? ⟨g1, j, none⟩ = some (.int .i64 (L.getD j 0)) := by
  have hl : L.length = 286 := by have := h.own1.1; rw [ivs_length] at this; omega
  rw [h.own1.cellAt j (by omega), ivs_get L j (by omega)]
theorem Cn.c2 {w0 w : World} {g1 g2 : Nat} {L D : List Int} (h : Cn w0 w g1 g2 L D) (j : Nat) (hj : j < 30) : w.cell? ⟨g2, j, none⟩ = some (.int .i64 (D.getD j 0)) := by
  have hl : D.length = 30 := by have := h.own2.1; rw [ivs_length] at this; omega
  rw [h.own2.cellAt j (by omega), ivs_get D j (by omega)]
end Pa
theorem mk_ints (W : World) (base n : Nat) (hb : base ≤ W.heap.size) (hn : n ≤ 1000) :
    ∃ W', (Instr.makeSlice 23 (.int .i64 (n : Int)) (.int .i64 (n : Int))).run Try.prog W = .ok (.slice (some ⟨W.heap.size, 0, none⟩) n n) W' ∧ W'.ownsRow base 3 1 (.slice (some ⟨W.heap.size, 0, none⟩) n n) n (ivs (List.replicate n 0)) ∧ W.grownBy W' none := by
  obtain ⟨i0, hi, hz0, hz1, hz2⟩ := info_parts tyI.info
  obtain ⟨W', h1, h2, h3⟩ := run_makeSlice_full (P := Try.prog) (w := W) base 23 3 i0 (.int .i64 0) 1 tyI.ht hi hz0 hz1 .i64 .i64 n (by omega) (by rw [hz2]; omega) (by unfold maxLen; omega) hb
  have e := made_ints1 n
  exact ⟨W', h1, by rw [← e]; exact h2, h3⟩
set_option maxRecDepth 100000 in
set_option maxHeartbeats 4000000 in
theorem count_any (a : Option Addr) (len cap : Nat) (ts : List Tok) (w : World) (h : Ts2 w a len cap ts) (hlen : len ≤ 1000000) :
    Calls Try.prog 14 #[.slice a len cap] w fun e w' => ∃ g1 g2, e = .returned (.tuple #[.slice (some ⟨g1, 0, none⟩) 286 286, .slice (some ⟨g2, 0, none⟩) 30 30]) ∧ Pa.Cn w w' g1 g2 (Pa.cts ts len).1 (Pa.cts ts len).2 := by
  have H := Lib.hid h
  have HLN := Lib.hid h.hlen
  clear h
  go_enter Try.func14, Try.ntmps14
  obtain ⟨w1, m1, o1, g1⟩ := mk_ints w.drew w.heap.size 286 (Nat.le_refl _) (by omega)
  have b1 : Below w.heap.size w w1 := (Below.drew (Below.refl w.heap.size w)).grown g1 (Nat.le_refl _) (by simp)
  obtain ⟨w2, m2, o2, g2⟩ := mk_ints w1 w.heap.size 30 b1.size (by omega)
  have b2 : Below w1.heap.size w1 w2 := (Below.refl _ _).grown g2 (Nat.le_refl _) (by simp)
  have n1 : (Instr.makeSlice 23 (.int .i64 286) (.int .i64 286)).run Try.prog w.drew = .ok (.slice (some ⟨w.heap.size, 0, none⟩) 286 286) w1 := m1
  have n2 : (Instr.makeSlice 23 (.int .i64 30) (.int .i64 30)).run Try.prog w1 = .ok (.slice (some ⟨w1.heap.size, 0, none⟩) 30 30) w2 := m2
  have hC : Pa.Cn w w2 w.heap.size w1.heap.size (List.replicate 286 0) (List.replicate 30 0) := ⟨own_below o1 b2, o2, by have := (o1.lt w.heap.size rfl).2; omega, below_then b1 b2⟩
  have HCA := Lib.hid hC
  clear m1 m2 o1 o2 g1 g2 b1 b2 hC
  obtain ⟨w3, m1, o1, g1⟩ := mk_ints w.drew w.heap.size 30 (Nat.le_refl _) (by omega)
  have b1 : Below w.heap.size w w3 := (Below.drew (Below.refl w.heap.size w)).grown g1 (Nat.le_refl _) (by simp)
  obtain ⟨w4, m2, o2, g2⟩ := mk_ints w3 w.heap.size 286 b1.size (by omega)
  have b2 : Below w3.heap.size w3 w4 := (Below.refl _ _).grown g2 (Nat.le_refl _) (by simp)
  have n3 : (Instr.makeSlice 23 (.int .i64 30) (.int .i64 30)).run Try.prog w.drew = .ok (.slice (some ⟨w.heap.size, 0, none⟩) 30 30) w3 := m1
  have n4 : (Instr.makeSlice 23 (.int .i64 286) (.int .i64 286)).run Try.prog w3 = .ok (.slice (some ⟨w3.heap.size, 0, none⟩) 286 286) w4 := m2
  have hC : Pa.Cn w w4 w3.heap.size w.heap.size (List.replicate 286 0) (List.replicate 30 0) := ⟨o2, own_below o1 b2, by have := (o1.lt w.heap.size rfl).2; omega, below_then b1 b2⟩
  have HCB := Lib.hid hC
  clear m1 m2 o1 o2 g1 g2 b1 b2 hC
  go_wp2
  go_region
  · clear n1 n2 n3 n4 HCB
    revert HCA
    generalize w1.heap.size = g2
    generalize w.heap.size = g1
    generalize w2 = W
    intro HC
    have hc0 := HC.out.c1 256 (by omega)
    have hf0 := Pa.own_fz HC.out.own1 256
    have HC0 : Hid (Pa.Cn w (W.setCell ⟨g1, 256, none⟩ (.int .i64 1)) g1 g2 (Pa.cts ts 0).1 (Pa.cts ts 0).2) := Lib.hid (HC.out.set1 256 1)
    clear HC
    go_wp2_with fail
    clear hc0 hf0
    revert HC0
    generalize W.setCell ⟨g1, 256, none⟩ (.int .i64 1) = W1
    intro HC0
    go_loopw [17] (fun i wr => ∃ k : Nat, k ≤ len ∧ i = .int .i64 ((k : Nat) : Int) ∧ Hid (Pa.Cn w wr g1 g2 (Pa.cts ts k).1 (Pa.cts ts k).2)) (fun i _ => len - (intOf i).toNat)
    case atStart => exact ⟨0, by omega, rfl, HC0⟩
    case round =>
      clear HC0
      obtain ⟨k, hk, rfl, HC⟩ := hrel
      by_cases hlt : k < len
      · obtain ⟨b, off, rfl, hbl, t0, t1⟩ := (H.out.mono HC.out.bel).at' k hlt
        have hwf := H.out.wf k hlt
        have hnx := Pa.cts_next ts k (by rw [HLN.out]; exact hlt)
        have hin := Pa.in_cts ts k (by rw [HLN.out]; exact hk)
        generalize ts.getD k (0, 0) = t at *
        obtain ⟨x, y⟩ := t
        simp only at t0 t1 hwf
        have hb5 := below_alloc wr (.cells #[.int .i64 x, .int .i64 y] 31)
        have hr5 : (wr.alloc (.cells #[.int .i64 x, .int .i64 y] 31)).heap[wr.heap.size]? = some (.cells #[.int .i64 x, .int .i64 y] 31 (0, 0)) := heap_alloc_last wr _
        have HS := Lib.hid (symbols_any09 (x, y) (wr.alloc (.cells #[.int .i64 x, .int .i64 y] 31)) hwf)
        have HNX := Lib.hid hnx
        have HIN := Lib.hid hin
        have HC5 := Lib.hid (HC.out.mono hb5)
        have HG := Lib.hid (And.intro (HC.out.own1.lt g1 rfl).2 (HC.out.own2.lt g2 rfl).2)
        clear hnx hin hwf hb5 HC hbl
        simp only at HS
        go_wp2_with fail
        refine HS.out.mono ?_
        rintro e w6 ⟨⟨v, ⟨sv, dv, rfl, hsd⟩, rfl⟩, hb6⟩
        have hr6 := (hb6.block wr.heap.size (by simp)).trans hr5
        have HC6 := Lib.hid (HC5.out.mono hb6)
        have x0 : w6.cell? ⟨wr.heap.size, 0, none⟩ = some (.int .i64 x) := by rw [cell_of_row _ _ _ _ _ (0, 0) hr6]; rfl
        clear hb6 hr6 hr5 HS HC5 t0 t1
        by_cases htok : Tk.isTok (x, y) = true
        · have htr := Tk.tok_range htok
          simp only at htr
          obtain ⟨hs0, hs1⟩ := hsd htok
          have HST : Hid (Pa.cts ts (k + 1) = if x = 0 then (Pa.bmp (Pa.cts ts k).1 y.toNat, (Pa.cts ts k).2) else (Pa.bmp (Pa.cts ts k).1 (257 + Sy.lsy x.toNat), Pa.bmp (Pa.cts ts k).2 (Sy.dsy y.toNat))) := Lib.hid (by rw [HNX.out]; unfold Pa.stC; rw [if_pos htok])
          rw [htok]
          clear hsd htok HNX
          by_cases hx : x = 0
          · obtain ⟨rfl, rfl⟩ := hs0 hx
            subst hx
            obtain ⟨j, rfl⟩ : ∃ j : Nat, sv = (j : Int) := ⟨sv.toNat, by omega⟩
            have hj : j < 286 := by omega
            have hcj := HC6.out.c1 j hj
            have hfj := Pa.own_fz HC6.out.own1 j
            have hvr := HIN.out.1.2 j
            have x1 : (w6.setCell ⟨g1, j, none⟩ (.int .i64 ((Pa.cts ts k).1.getD j 0 + 1))).cell? ⟨wr.heap.size, 0, none⟩ = some (.int .i64 0) := by rw [cell_set_other (by have := HG.out.1; omega)]; exact x0
            have HC7 := Lib.hid (HC6.out.set1 j ((Pa.cts ts k).1.getD j 0 + 1))
            have HE : Hid (Pa.cts ts (k + 1) = ((Pa.cts ts k).1.set j ((Pa.cts ts k).1.getD j 0 + 1), (Pa.cts ts k).2)) := Lib.hid (by rw [HST.out, if_pos rfl, Int.toNat_natCast]; rfl)
            have dj : decide (j < 286) = true := by simp; omega
            clear HST HC6 HIN hs0 hs1
            generalize (Pa.cts ts k).1.getD j 0 = z at *
            go_wp2
            go_roundw
            case rel => exact ⟨k + 1, by omega, by go_num, by rw [HE.out]; exact HC7⟩
            case measure => simp [intOf]; omega
          · obtain ⟨rfl, rfl⟩ := hs1 hx
            have hx3 : decide (0 < x) = true := by simp; omega
            have hj : 257 + Sy.lsy x.toNat < 286 := by have := Sy.cnt_le Sy.lb 28 x.toNat; unfold Sy.lsy; omega
            have hd29 : Sy.dsy y.toNat ≤ 29 := Sy.cnt_le _ _ _
            have HST2 : Hid (Pa.cts ts (k + 1) = (Pa.bmp (Pa.cts ts k).1 (257 + Sy.lsy x.toNat), Pa.bmp (Pa.cts ts k).2 (Sy.dsy y.toNat))) := Lib.hid (by rw [HST.out, if_neg hx])
            clear hs0 hs1 HST
            generalize 257 + Sy.lsy x.toNat = j at *
            generalize Sy.dsy y.toNat = q at *
            have hq : q < 30 := by omega
            have hcj := HC6.out.c1 j hj
            have hfj := Pa.own_fz HC6.out.own1 j
            have hvr := HIN.out.1.2 j
            have hvq := HIN.out.2.2 q
            have HC7 := Lib.hid (HC6.out.set1 j ((Pa.cts ts k).1.getD j 0 + 1))
            have HC8 := Lib.hid (HC7.out.set2 q ((Pa.cts ts k).2.getD q 0 + 1))
            have x1 : (w6.setCell ⟨g1, j, none⟩ (.int .i64 ((Pa.cts ts k).1.getD j 0 + 1))).cell? ⟨wr.heap.size, 0, none⟩ = some (.int .i64 x) := by rw [cell_set_other (by have := HG.out.1; omega)]; exact x0
            have hcq := HC7.out.c2 q hq
            have hfq := Pa.own_fz HC7.out.own2 q
            have HE : Hid (Pa.cts ts (k + 1) = ((Pa.cts ts k).1.set j ((Pa.cts ts k).1.getD j 0 + 1), (Pa.cts ts k).2.set q ((Pa.cts ts k).2.getD q 0 + 1))) := Lib.hid (by rw [HST2.out]; rfl)
            have dj : decide (j < 286) = true := by simp; omega
            have dq : decide (q < 30) = true := by simp; omega
            clear HST2 HC6 HIN HC7
            generalize (Pa.cts ts k).1.getD j 0 = z at *
            generalize (Pa.cts ts k).2.getD q 0 = z2 at *
            go_wp2
            go_roundw
            case rel => exact ⟨k + 1, by omega, by go_num, by rw [HE.out]; exact HC8⟩
            case measure => simp [intOf]; omega
        · have hf : Tk.isTok (x, y) = false := by simpa using htok
          rw [hf]
          have HE : Hid (Pa.cts ts (k + 1) = Pa.cts ts k) := Lib.hid (by rw [HNX.out]; unfold Pa.stC; rw [if_neg htok])
          clear hsd htok hf HNX HIN x0
          go_wp2
          go_roundw
          case rel => exact ⟨k + 1, by omega, by go_num, by rw [HE.out]; exact HC6⟩
          case measure => simp [intOf]; omega
      · obtain rfl : len = k := by omega
        go_wp2
        go_ret2
        exact ⟨g1, g2, rfl, HC.out⟩
  · clear n1 n2 n3 n4 HCA
    revert HCB
    generalize w3.heap.size = g1
    generalize w.heap.size = g2
    generalize w4 = W
    intro HC
    have hc0 := HC.out.c1 256 (by omega)
    have hf0 := Pa.own_fz HC.out.own1 256
    have HC0 : Hid (Pa.Cn w (W.setCell ⟨g1, 256, none⟩ (.int .i64 1)) g1 g2 (Pa.cts ts 0).1 (Pa.cts ts 0).2) := Lib.hid (HC.out.set1 256 1)
    clear HC
    go_wp2_with fail
    clear hc0 hf0
    revert HC0
    generalize W.setCell ⟨g1, 256, none⟩ (.int .i64 1) = W1
    intro HC0
    go_loopw [17] (fun i wr => ∃ k : Nat, k ≤ len ∧ i = .int .i64 ((k : Nat) : Int) ∧ Hid (Pa.Cn w wr g1 g2 (Pa.cts ts k).1 (Pa.cts ts k).2)) (fun i _ => len - (intOf i).toNat)
    case atStart => exact ⟨0, by omega, rfl, HC0⟩
    case round =>
      clear HC0
      obtain ⟨k, hk, rfl, HC⟩ := hrel
      by_cases hlt : k < len
      · obtain ⟨b, off, rfl, hbl, t0, t1⟩ := (H.out.mono HC.out.bel).at' k hlt
        have hwf := H.out.wf k hlt
        have hnx := Pa.cts_next ts k (by rw [HLN.out]; exact hlt)
        have hin := Pa.in_cts ts k (by rw [HLN.out]; exact hk)
        generalize ts.getD k (0, 0) = t at *
        obtain ⟨x, y⟩ := t
        simp only at t0 t1 hwf
        have hb5 := below_alloc wr (.cells #[.int .i64 x, .int .i64 y] 31)
        have hr5 : (wr.alloc (.cells #[.int .i64 x, .int .i64 y] 31)).heap[wr.heap.size]? = some (.cells #[.int .i64 x, .int .i64 y] 31 (0, 0)) := heap_alloc_last wr _
        have HS := Lib.hid (symbols_any09 (x, y) (wr.alloc (.cells #[.int .i64 x, .int .i64 y] 31)) hwf)
        have HNX := Lib.hid hnx
        have HIN := Lib.hid hin
        have HC5 := Lib.hid (HC.out.mono hb5)
        have HG := Lib.hid (And.intro (HC.out.own1.lt g1 rfl).2 (HC.out.own2.lt g2 rfl).2)
        clear hnx hin hwf hb5 HC hbl
        simp only at HS
        go_wp2_with fail
        refine HS.out.mono ?_
        rintro e w6 ⟨⟨v, ⟨sv, dv, rfl, hsd⟩, rfl⟩, hb6⟩
        have hr6 := (hb6.block wr.heap.size (by simp)).trans hr5
        have HC6 := Lib.hid (HC5.out.mono hb6)
        have x0 : w6.cell? ⟨wr.heap.size, 0, none⟩ = some (.int .i64 x) := by rw [cell_of_row _ _ _ _ _ (0, 0) hr6]; rfl
        clear hb6 hr6 hr5 HS HC5 t0 t1
        by_cases htok : Tk.isTok (x, y) = true
        · have htr := Tk.tok_range htok
          simp only at htr
          obtain ⟨hs0, hs1⟩ := hsd htok
          have HST : Hid (Pa.cts ts (k + 1) = if x = 0 then (Pa.bmp (Pa.cts ts k).1 y.toNat, (Pa.cts ts k).2) else (Pa.bmp (Pa.cts ts k).1 (257 + Sy.lsy x.toNat), Pa.bmp (Pa.cts ts k).2 (Sy.dsy y.toNat))) := Lib.hid (by rw [HNX.out]; unfold Pa.stC; rw [if_pos htok])
          rw [htok]
          clear hsd htok HNX
          by_cases hx : x = 0
          · obtain ⟨rfl, rfl⟩ := hs0 hx
            subst hx
            obtain ⟨j, rfl⟩ : ∃ j : Nat, sv = (j : Int) := ⟨sv.toNat, by omega⟩
            have hj : j < 286 := by omega
            have hcj := HC6.out.c1 j hj
            have hfj := Pa.own_fz HC6.out.own1 j
            have hvr := HIN.out.1.2 j
            have x1 : (w6.setCell ⟨g1, j, none⟩ (.int .i64 ((Pa.cts ts k).1.getD j 0 + 1))).cell? ⟨wr.heap.size, 0, none⟩ = some (.int .i64 0) := by rw [cell_set_other (by have := HG.out.1; omega)]; exact x0
            have HC7 := Lib.hid (HC6.out.set1 j ((Pa.cts ts k).1.getD j 0 + 1))
            have HE : Hid (Pa.cts ts (k + 1) = ((Pa.cts ts k).1.set j ((Pa.cts ts k).1.getD j 0 + 1), (Pa.cts ts k).2)) := Lib.hid (by rw [HST.out, if_pos rfl, Int.toNat_natCast]; rfl)
            have dj : decide (j < 286) = true := by simp; omega
            clear HST HC6 HIN hs0 hs1
            generalize (Pa.cts ts k).1.getD j 0 = z at *
            go_wp2
            go_roundw
            case rel => exact ⟨k + 1, by omega, by go_num, by rw [HE.out]; exact HC7⟩
            case measure => simp [intOf]; omega
          · obtain ⟨rfl, rfl⟩ := hs1 hx
            have hx3 : decide (0 < x) = true := by simp; omega
            have hj : 257 + Sy.lsy x.toNat < 286 := by have := Sy.cnt_le Sy.lb 28 x.toNat; unfold Sy.lsy; omega
            have hd29 : Sy.dsy y.toNat ≤ 29 := Sy.cnt_le _ _ _
            have HST2 : Hid (Pa.cts ts (k + 1) = (Pa.bmp (Pa.cts ts k).1 (257 + Sy.lsy x.toNat), Pa.bmp (Pa.cts ts k).2 (Sy.dsy y.toNat))) := Lib.hid (by rw [HST.out, if_neg hx])
            clear hs0 hs1 HST
            generalize 257 + Sy.lsy x.toNat = j at *
            generalize Sy.dsy y.toNat = q at *
            have hq : q < 30 := by omega
            have hcj := HC6.out.c1 j hj
            have hfj := Pa.own_fz HC6.out.own1 j
            have hvr := HIN.out.1.2 j
            have hvq := HIN.out.2.2 q
            have HC7 := Lib.hid (HC6.out.set1 j ((Pa.cts ts k).1.getD j 0 + 1))
            have HC8 := Lib.hid (HC7.out.set2 q ((Pa.cts ts k).2.getD q 0 + 1))
            have x1 : (w6.setCell ⟨g1, j, none⟩ (.int .i64 ((Pa.cts ts k).1.getD j 0 + 1))).cell? ⟨wr.heap.size, 0, none⟩ = some (.int .i64 x) := by rw [cell_set_other (by have := HG.out.1; omega)]; exact x0
            have hcq := HC7.out.c2 q hq
            have hfq := Pa.own_fz HC7.out.own2 q
            have HE : Hid (Pa.cts ts (k + 1) = ((Pa.cts ts k).1.set j ((Pa.cts ts k).1.getD j 0 + 1), (Pa.cts ts k).2.set q ((Pa.cts ts k).2.getD q 0 + 1))) := Lib.hid (by rw [HST2.out]; rfl)
            have dj : decide (j < 286) = true := by simp; omega
            have dq : decide (q < 30) = true := by simp; omega
            clear HST2 HC6 HIN HC7
            generalize (Pa.cts ts k).1.getD j 0 = z at *
            generalize (Pa.cts ts k).2.getD q 0 = z2 at *
            go_wp2
            go_roundw
            case rel => exact ⟨k + 1, by omega, by go_num, by rw [HE.out]; exact HC8⟩
            case measure => simp [intOf]; omega
        · have hf : Tk.isTok (x, y) = false := by simpa using htok
          rw [hf]
          have HE : Hid (Pa.cts ts (k + 1) = Pa.cts ts k) := Lib.hid (by rw [HNX.out]; unfold Pa.stC; rw [if_neg htok])
          clear hsd htok hf HNX HIN x0
          go_wp2
          go_roundw
          case rel => exact ⟨k + 1, by omega, by go_num, by rw [HE.out]; exact HC6⟩
          case measure => simp [intOf]; omega
      · obtain rfl : len = k := by omega
        go_wp2
        go_ret2
        exact ⟨g1, g2, rfl, HC.out⟩
end Go.Proofs.Ytedncnaeojomcaa
