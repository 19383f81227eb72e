/- parse.Count: its contract. A slice of numbers behind changes elsewhere. What a round keeps. The document's order of codes: sorted sizes, their sum, and which symbols. How bits are read by codes. -/
import Derived.Test.YtpoilaappcjbeaaGreatDoorZ8
import Derived.RangeFuncBox
set_option linter.unusedSimpArgs false
set_option linter.unusedVariables false
section
namespace Go.Proofs.YtpoilaappcjbeaaGreatDoor
open Go.RowKit
namespace Pa
/-- One more of a symbol. -/
def bmp (l : List Int) (i : Nat) : List Int := l.set i (l.getD i 0 + 1)
/-- A token, counted. -/
def stC (p : List Int × List Int) (t : Tok) : List Int × List Int := if Tk.isTok t = true then (if t.1 = 0 then (bmp p.1 t.2.toNat, p.2) else (bmp p.1 (257 + Sy.lsy t.1.toNat), bmp p.2 (Sy.dsy t.2.toNat))) else p
def c0 : List Int × List Int := ((List.replicate 286 0).set 256 1, List.replicate 30 0)
def cts (ts : List Tok) (k : Nat) : List Int × List Int := (ts.take k).foldl stC c0
theorem cts_next (ts : List Tok) (k : Nat) (h : k < ts.length) : cts ts (k + 1) = stC (cts ts k) (ts.getD k (0, 0)) := by
  unfold cts
  rw [List.take_succ_eq_append_getElem h, List.foldl_append]
  simp [List.getD, List.getElem?_eq_getElem h]
/-- In range. -/
def In (m : Nat) (l : List Int) (n : Nat) : Prop := l.length = m ∧ ∀ i, 0 ≤ l.getD i 0 ∧ l.getD i 0 ≤ n
theorem In.bmp {m n i : Nat} {l : List Int} (h : In m l n) : In m (bmp l i) (n + 1) := by
  refine ⟨by simp [Pa.bmp, h.1], fun j => ?_⟩
  have h1 := h.2 j
  unfold Pa.bmp
  by_cases e : i = j
  · subst e
    by_cases hl : i < l.length
    · have : (l.set i (l.getD i 0 + 1)).getD i 0 = l.getD i 0 + 1 := by simp [List.getD, hl]
      rw [this]; omega
    · have : (l.set i (l.getD i 0 + 1)).getD i 0 = 0 := by simp [List.getD, List.getElem?_eq_none (by simpa using Nat.le_of_not_lt hl : (l.set i (l[i]?.getD 0 + 1)).length ≤ i)]
      rw [this]; omega
  · have : (l.set i (l.getD i 0 + 1)).getD j 0 = l.getD j 0 := by simp [List.getD, List.getElem?_set_ne e]
    rw [this]; omega
theorem In.up {m n : Nat} {l : List Int} (h : In m l n) : In m l (n + 1) := ⟨h.1, fun i => by have := h.2 i; omega⟩
theorem zs_get (n i : Nat) : (List.replicate n (0 : Int)).getD i 0 = 0 := by
  by_cases h : i < n <;> simp [List.getD, List.getElem?_replicate, h]
theorem one_get (n k i : Nat) : 0 ≤ ((List.replicate n (0 : Int)).set k 1).getD i 0 ∧ ((List.replicate n (0 : Int)).set k 1).getD i 0 ≤ (1 : Nat) := by
  by_cases e : k = i
  · subst e
    by_cases h : k < n
    · have : ((List.replicate n (0 : Int)).set k 1).getD k 0 = 1 := by simp [List.getD, h]
      rw [this]; omega
    · have : ((List.replicate n (0 : Int)).set k 1).getD k 0 = 0 := by simp [List.getD, List.getElem?_eq_none (by simpa using Nat.le_of_not_lt h : ((List.replicate n (0 : Int)).set k 1).length ≤ k)]
      rw [this]; omega
  · have : ((List.replicate n (0 : Int)).set k 1).getD i 0 = (List.replicate n (0 : Int)).getD i 0 := by simp [List.getD, List.getElem?_set_ne e]
    rw [this, zs_get]; omega
theorem in_one (n k : Nat) : In n ((List.replicate n (0 : Int)).set k 1) 1 := ⟨by rw [List.length_set, List.length_replicate], one_get n k⟩
theorem in_zs (n : Nat) : In n (List.replicate n (0 : Int)) 1 := ⟨List.length_replicate .., fun i => by rw [zs_get]; omega⟩
theorem in_c0 : In 286 c0.1 1 ∧ In 30 c0.2 1 := ⟨in_one 286 256, in_zs 30⟩
theorem in_step {p : List Int × List Int} {n : Nat} (t : Tok) (h : In 286 p.1 n ∧ In 30 p.2 n) : In 286 (stC p t).1 (n + 1) ∧ In 30 (stC p t).2 (n + 1) := by
  unfold stC
  split
  · split
    · exact ⟨h.1.bmp, h.2.up⟩
    · exact ⟨h.1.bmp, h.2.bmp⟩
  · exact ⟨h.1.up, h.2.up⟩
theorem in_cts (ts : List Tok) : ∀ k, k ≤ ts.length → In 286 (cts ts k).1 (k + 1) ∧ In 30 (cts ts k).2 (k + 1)
  | 0, _ => in_c0
  | k + 1, h => by rw [cts_next ts k (by omega)]; exact in_step _ (in_cts ts k (by omega))
theorem In.wf {m n : Nat} {l : List Int} (h : In m l n) (hn : n ≤ 1000000000) : Wf l := by
  intro x hx
  obtain ⟨i, hi, rfl⟩ := List.getElem_of_mem hx
  have := h.2 i
  rw [List.getD, List.getElem?_eq_getElem hi] at this
  simp only [Option.getD_some] at this
  simp only [Lit.wf, IntKind.min, IntKind.max, IntKind.signed, IntKind.bits, Bool.and_eq_true, decide_eq_true_eq, if_true]
  simp; omega
/-- Two rows of counts in memory. -/
structure Cn (w0 w : World) (g1 g2 : Nat) (L D : List Int) : Prop where
  own1 : w.ownsRow w0.heap.size 3 1 (.slice (some ⟨g1, 0, none⟩) 286 286) 286 (ivs L)
  own2 : w.ownsRow w0.heap.size 3 1 (.slice (some ⟨g2, 0, none⟩) 30 30) 30 (ivs D)
  ne : g1 ≠ g2
  bel : Below w0.heap.size w0 w
theorem own_fz {w : World} {base : Nat} {e : TypeId} {size n cap g : Nat} {xs : List Value} (h : w.ownsRow base e size (.slice (some ⟨g, 0, none⟩) n cap) n xs) (o : Nat) : w.frozen? ⟨g, o, none⟩ = false := by
  rcases h.2 with ⟨h', _⟩ | ⟨g', cap', cur, h', hb, hg, _⟩
  · simp at h'
  · simp only [Value.slice.injEq, Option.some.injEq, Addr.mk.injEq, and_true, true_and] at h'
    obtain ⟨rfl, rfl⟩ := h'
    exact frozen_of_row w g o _ _ hg
theorem Cn.mono {w0 w w' : World} {g1 g2 : Nat} {L D : List Int} (h : Cn w0 w g1 g2 L D) (hb : Below w.heap.size w w') : Cn w0 w' g1 g2 L D :=
  ⟨own_below h.own1 hb, own_below h.own2 hb, h.ne, h.bel.trans (hb.mono h.bel.size)⟩
theorem own_ot {w : World} {base : Nat} {e : TypeId} {size : Nat} {v : Value} {n : Nat} {xs : List Value} {g j : Nat} {z : Value} (h : w.ownsRow base e size v n xs) (hv : ∀ b, v.ownBlock = some b → b ≠ g) : (w.setCell ⟨g, j, none⟩ z).ownsRow base e size v n xs :=
  ((Ch.refl w (fun k => k = g)).set (p := ⟨g, j, none⟩) (.inl rfl) z).own h hv
theorem Cn.set1 {w0 w : World} {g1 g2 : Nat} {L D : List Int} (h : Cn w0 w g1 g2 L D) (j : Nat) (z : Int) : Cn w0 (w.setCell ⟨g1, j, none⟩ (.int .i64 z)) g1 g2 (L.set j z) D :=
  ⟨own_set h.own1 j z, own_ot h.own2 (fun b hb => by simp [Value.ownBlock] at hb; rw [← hb]; exact fun e => h.ne e.symm), h.ne, h.bel.setCell (p := ⟨g1, j, none⟩) (h.own1.lt g1 rfl).1 _⟩
theorem Cn.set2 {w0 w : World} {g1 g2 : Nat} {L D : List Int} (h : Cn w0 w g1 g2 L D) (j : Nat) (z : Int) : Cn w0 (w.setCell ⟨g2, j, none⟩ (.int .i64 z)) g1 g2 L (D.set j z) :=
  ⟨own_ot h.own1 (fun b hb => by simp [Value.ownBlock] at hb; rw [← hb]; exact h.ne), own_set h.own2 j z, h.ne, h.bel.setCell (p := ⟨g2, j, none⟩) (h.own2.lt g2 rfl).1 _⟩
theorem Cn.c1 {w0 w : World} {g1 g2 : Nat} {L D : List Int} (h : Cn w0 w g1 g2 L D) (j : Nat) (hj : j < 286) : w.cell? ⟨g1, j, none⟩ = some (.int .i64 (L.getD j 0)) := by
  have hl : L.length = 286 := by have := h.own1.1; rw [ivs_length] at this; omega
  rw [h.own1.cellAt j (by omega), ivs_get L j (by omega)]
theorem Cn.c2 {w0 w : World} {g1 g2 : Nat} {L D : List Int} (h : Cn w0 w g1 g2 L D) (j : Nat) (hj : j < 30) : w.cell? ⟨g2, j, none⟩ = some (.int .i64 (D.getD j 0)) := by
  have hl : D.length = 30 := by have := h.own2.1; rw [ivs_length] at this; omega
  rw [h.own2.cellAt j (by omega), ivs_get D j (by omega)]
end Pa
theorem mk_ints (W : World) (base n : Nat) (hb : base ≤ W.heap.size) (hn : n ≤ 1000) :
    ∃ W', (Instr.makeSlice 53 (.int .i64 (n : Int)) (.int .i64 (n : Int))).run Tryz.prog W = .ok (.slice (some ⟨W.heap.size, 0, none⟩) n n) W' ∧ W'.ownsRow base 3 1 (.slice (some ⟨W.heap.size, 0, none⟩) n n) n (ivs (List.replicate n 0)) ∧ W.grownBy W' none := by
  obtain ⟨i0, hi, hz0, hz1, hz2⟩ := info_parts tyI.info
  obtain ⟨W', h1, h2, h3⟩ := run_makeSlice_full (P := Tryz.prog) (w := W) base 53 3 i0 (.int .i64 0) 1 tyI.ht hi hz0 hz1 .i64 .i64 n (by omega) (by rw [hz2]; omega) (by unfold maxLen; omega) hb
  have e := made_ints1 n
  exact ⟨W', h1, by rw [← e]; exact h2, h3⟩
set_option maxRecDepth 100000 in
set_option maxHeartbeats 4000000 in
theorem count_any (a : Option Addr) (len cap : Nat) (ts : List Tok) (w : World) (h : Ts2 w a len cap ts) (hlen : len ≤ 1000000) :
    Calls Tryz.prog 73 #[.slice a len cap] w fun e w' => ∃ g1 g2, e = .returned (.tuple #[.slice (some ⟨g1, 0, none⟩) 286 286, .slice (some ⟨g2, 0, none⟩) 30 30]) ∧ Pa.Cn w w' g1 g2 (Pa.cts ts len).1 (Pa.cts ts len).2 := by
  have H := Lib.hid h
  have HLN := Lib.hid h.hlen
  clear h
  go_enter Tryz.func73, Tryz.ntmps73
  obtain ⟨w1, m1, o1, g1⟩ := mk_ints w.drew w.heap.size 286 (Nat.le_refl _) (by omega)
  have b1 : Below w.heap.size w w1 := (Below.drew (Below.refl w.heap.size w)).grown g1 (Nat.le_refl _) (by simp)
  obtain ⟨w2, m2, o2, g2⟩ := mk_ints w1 w.heap.size 30 b1.size (by omega)
  have b2 : Below w1.heap.size w1 w2 := (Below.refl _ _).grown g2 (Nat.le_refl _) (by simp)
  have n1 : (Instr.makeSlice 53 (.int .i64 286) (.int .i64 286)).run Tryz.prog w.drew = .ok (.slice (some ⟨w.heap.size, 0, none⟩) 286 286) w1 := m1
  have n2 : (Instr.makeSlice 53 (.int .i64 30) (.int .i64 30)).run Tryz.prog w1 = .ok (.slice (some ⟨w1.heap.size, 0, none⟩) 30 30) w2 := m2
  have hC : Pa.Cn w w2 w.heap.size w1.heap.size (List.replicate 286 0) (List.replicate 30 0) := ⟨own_below o1 b2, o2, by have := (o1.lt w.heap.size rfl).2; omega, below_then b1 b2⟩
  have HCA := Lib.hid hC
  clear m1 m2 o1 o2 g1 g2 b1 b2 hC
  obtain ⟨w3, m1, o1, g1⟩ := mk_ints w.drew w.heap.size 30 (Nat.le_refl _) (by omega)
  have b1 : Below w.heap.size w w3 := (Below.drew (Below.refl w.heap.size w)).grown g1 (Nat.le_refl _) (by simp)
  obtain ⟨w4, m2, o2, g2⟩ := mk_ints w3 w.heap.size 286 b1.size (by omega)
  have b2 : Below w3.heap.size w3 w4 := (Below.refl _ _).grown g2 (Nat.le_refl _) (by simp)
  have n3 : (Instr.makeSlice 53 (.int .i64 30) (.int .i64 30)).run Tryz.prog w.drew = .ok (.slice (some ⟨w.heap.size, 0, none⟩) 30 30) w3 := m1
  have n4 : (Instr.makeSlice 53 (.int .i64 286) (.int .i64 286)).run Tryz.prog w3 = .ok (.slice (some ⟨w3.heap.size, 0, none⟩) 286 286) w4 := m2
  have hC : Pa.Cn w w4 w3.heap.size w.heap.size (List.replicate 286 0) (List.replicate 30 0) := ⟨o2, own_below o1 b2, by have := (o1.lt w.heap.size rfl).2; omega, below_then b1 b2⟩
  have HCB := Lib.hid hC
  clear m1 m2 o1 o2 g1 g2 b1 b2 hC
  go_wp2
  go_region
  · clear n1 n2 n3 n4 HCB
    revert HCA
    generalize w1.heap.size = g2
    generalize w.heap.size = g1
    generalize w2 = W
    intro HC
    have hc0 := HC.out.c1 256 (by omega)
    have hf0 := Pa.own_fz HC.out.own1 256
    have HC0 : Hid (Pa.Cn w (W.setCell ⟨g1, 256, none⟩ (.int .i64 1)) g1 g2 (Pa.cts ts 0).1 (Pa.cts ts 0).2) := Lib.hid (HC.out.set1 256 1)
    clear HC
    go_wp2_with fail
    clear hc0 hf0
    revert HC0
    generalize W.setCell ⟨g1, 256, none⟩ (.int .i64 1) = W1
    intro HC0
    go_loopw [17] (fun i wr => ∃ k : Nat, k ≤ len ∧ i = .int .i64 ((k : Nat) : Int) ∧ Hid (Pa.Cn w wr g1 g2 (Pa.cts ts k).1 (Pa.cts ts k).2)) (fun i _ => len - (intOf i).toNat)
    case atStart => exact ⟨0, by omega, rfl, HC0⟩
    case round =>
      clear HC0
      obtain ⟨k, hk, rfl, HC⟩ := hrel
      by_cases hlt : k < len
      · obtain ⟨b, off, rfl, hbl, t0, t1⟩ := (H.out.mono HC.out.bel).at' k hlt
        have hwf := H.out.wf k hlt
        have hnx := Pa.cts_next ts k (by rw [HLN.out]; exact hlt)
        have hin := Pa.in_cts ts k (by rw [HLN.out]; exact hk)
        generalize ts.getD k (0, 0) = t at *
        obtain ⟨x, y⟩ := t
        simp only at t0 t1 hwf
        have hb5 := below_alloc wr (.cells #[.int .i64 x, .int .i64 y] 59)
        have hr5 : (wr.alloc (.cells #[.int .i64 x, .int .i64 y] 59)).heap[wr.heap.size]? = some (.cells #[.int .i64 x, .int .i64 y] 59 (0, 0)) := heap_alloc_last wr _
        have HS := Lib.hid (symbols_any09 (x, y) (wr.alloc (.cells #[.int .i64 x, .int .i64 y] 59)) hwf)
        have HNX := Lib.hid hnx
        have HIN := Lib.hid hin
        have HC5 := Lib.hid (HC.out.mono hb5)
        have HG := Lib.hid (And.intro (HC.out.own1.lt g1 rfl).2 (HC.out.own2.lt g2 rfl).2)
        clear hnx hin hwf hb5 HC hbl
        simp only at HS
        go_wp2_with fail
        refine HS.out.mono ?_
        rintro e w6 ⟨⟨v, ⟨sv, dv, rfl, hsd⟩, rfl⟩, hb6⟩
        have hr6 := (hb6.block wr.heap.size (by simp)).trans hr5
        have HC6 := Lib.hid (HC5.out.mono hb6)
        have x0 : w6.cell? ⟨wr.heap.size, 0, none⟩ = some (.int .i64 x) := by rw [cell_of_row _ _ _ _ _ (0, 0) hr6]; rfl
        clear hb6 hr6 hr5 HS HC5 t0 t1
        by_cases htok : Tk.isTok (x, y) = true
        · have htr := Tk.tok_range htok
          simp only at htr
          obtain ⟨hs0, hs1⟩ := hsd htok
          have HST : Hid (Pa.cts ts (k + 1) = if x = 0 then (Pa.bmp (Pa.cts ts k).1 y.toNat, (Pa.cts ts k).2) else (Pa.bmp (Pa.cts ts k).1 (257 + Sy.lsy x.toNat), Pa.bmp (Pa.cts ts k).2 (Sy.dsy y.toNat))) := Lib.hid (by rw [HNX.out]; unfold Pa.stC; rw [if_pos htok])
          rw [htok]
          clear hsd htok HNX
          by_cases hx : x = 0
          · obtain ⟨rfl, rfl⟩ := hs0 hx
            subst hx
            obtain ⟨j, rfl⟩ : ∃ j : Nat, sv = (j : Int) := ⟨sv.toNat, by omega⟩
            have hj : j < 286 := by omega
            have hcj := HC6.out.c1 j hj
            have hfj := Pa.own_fz HC6.out.own1 j
            have hvr := HIN.out.1.2 j
            have x1 : (w6.setCell ⟨g1, j, none⟩ (.int .i64 ((Pa.cts ts k).1.getD j 0 + 1))).cell? ⟨wr.heap.size, 0, none⟩ = some (.int .i64 0) := by rw [cell_set_other (by have := HG.out.1; omega)]; exact x0
            have HC7 := Lib.hid (HC6.out.set1 j ((Pa.cts ts k).1.getD j 0 + 1))
            have HE : Hid (Pa.cts ts (k + 1) = ((Pa.cts ts k).1.set j ((Pa.cts ts k).1.getD j 0 + 1), (Pa.cts ts k).2)) := Lib.hid (by rw [HST.out, if_pos rfl, Int.toNat_natCast]; rfl)
            have dj : decide (j < 286) = true := by simp; omega
            clear HST HC6 HIN hs0 hs1
            generalize (Pa.cts ts k).1.getD j 0 = z at *
            go_wp2
            go_roundw
            case rel => exact ⟨k + 1, by omega, by go_num, by rw [HE.out]; exact HC7⟩
            case measure => simp [intOf]; omega
          · obtain ⟨rfl, rfl⟩ := hs1 hx
            have hx3 : decide (0 < x) = true := by simp; omega
            have hj : 257 + Sy.lsy x.toNat < 286 := by have := Sy.cnt_le Sy.lb 28 x.toNat; unfold Sy.lsy; omega
            have hd29 : Sy.dsy y.toNat ≤ 29 := Sy.cnt_le _ _ _
            have HST2 : Hid (Pa.cts ts (k + 1) = (Pa.bmp (Pa.cts ts k).1 (257 + Sy.lsy x.toNat), Pa.bmp (Pa.cts ts k).2 (Sy.dsy y.toNat))) := Lib.hid (by rw [HST.out, if_neg hx])
            clear hs0 hs1 HST
            generalize 257 + Sy.lsy x.toNat = j at *
            generalize Sy.dsy y.toNat = q at *
            have hq : q < 30 := by omega
            have hcj := HC6.out.c1 j hj
            have hfj := Pa.own_fz HC6.out.own1 j
            have hvr := HIN.out.1.2 j
            have hvq := HIN.out.2.2 q
            have HC7 := Lib.hid (HC6.out.set1 j ((Pa.cts ts k).1.getD j 0 + 1))
            have HC8 := Lib.hid (HC7.out.set2 q ((Pa.cts ts k).2.getD q 0 + 1))
            have x1 : (w6.setCell ⟨g1, j, none⟩ (.int .i64 ((Pa.cts ts k).1.getD j 0 + 1))).cell? ⟨wr.heap.size, 0, none⟩ = some (.int .i64 x) := by rw [cell_set_other (by have := HG.out.1; omega)]; exact x0
            have hcq := HC7.out.c2 q hq
            have hfq := Pa.own_fz HC7.out.own2 q
            have HE : Hid (Pa.cts ts (k + 1) = ((Pa.cts ts k).1.set j ((Pa.cts ts k).1.getD j 0 + 1), (Pa.cts ts k).2.set q ((Pa.cts ts k).2.getD q 0 + 1))) := Lib.hid (by rw [HST2.out]; rfl)
            have dj : decide (j < 286) = true := by simp; omega
            have dq : decide (q < 30) = true := by simp; omega
            clear HST2 HC6 HIN HC7
            generalize (Pa.cts ts k).1.getD j 0 = z at *
            generalize (Pa.cts ts k).2.getD q 0 = z2 at *
            go_wp2
            go_roundw
            case rel => exact ⟨k + 1, by omega, by go_num, by rw [HE.out]; exact HC8⟩
            case measure => simp [intOf]; omega
        · have hf : Tk.isTok (x, y) = false := by simpa using htok
          rw [hf]
          have HE : Hid (Pa.cts ts (k + 1) = Pa.cts ts k) := Lib.hid (by rw [HNX.out]; unfold Pa.stC; rw [if_neg htok])
          clear hsd htok hf HNX HIN x0
          go_wp2
          go_roundw
          case rel => exact ⟨k + 1, by omega, by go_num, by rw [HE.out]; exact HC6⟩
          case measure => simp [intOf]; omega
      · obtain rfl : len = k := by omega
        go_wp2
        go_ret2
        exact ⟨g1, g2, rfl, HC.out⟩
  · clear n1 n2 n3 n4 HCA
    revert HCB
    generalize w3.heap.size = g1
    generalize w.heap.size = g2
    generalize w4 = W
    intro HC
    have hc0 := HC.out.c1 256 (by omega)
    have hf0 := Pa.own_fz HC.out.own1 256
    have HC0 : Hid (Pa.Cn w (W.setCell ⟨g1, 256, none⟩ (.int .i64 1)) g1 g2 (Pa.cts ts 0).1 (Pa.cts ts 0).2) := Lib.hid (HC.out.set1 256 1)
    clear HC
    go_wp2_with fail
    clear hc0 hf0
    revert HC0
    generalize W.setCell ⟨g1, 256, none⟩ (.int .i64 1) = W1
    intro HC0
    go_loopw [17] (fun i wr => ∃ k : Nat, k ≤ len ∧ i = .int .i64 ((k : Nat) : Int) ∧ Hid (Pa.Cn w wr g1 g2 (Pa.cts ts k).1 (Pa.cts ts k).2)) (fun i _ => len - (intOf i).toNat)
    case atStart => exact ⟨0, by omega, rfl, HC0⟩
    case round =>
      clear HC0
      obtain ⟨k, hk, rfl, HC⟩ := hrel
      by_cases hlt : k < len
      · obtain ⟨b, off, rfl, hbl, t0, t1⟩ := (H.out.mono HC.out.bel).at' k hlt
        have hwf := H.out.wf k hlt
        have hnx := Pa.cts_next ts k (by rw [HLN.out]; exact hlt)
        have hin := Pa.in_cts ts k (by rw [HLN.out]; exact hk)
        generalize ts.getD k (0, 0) = t at *
        obtain ⟨x, y⟩ := t
        simp only at t0 t1 hwf
        have hb5 := below_alloc wr (.cells #[.int .i64 x, .int .i64 y] 59)
        have hr5 : (wr.alloc (.cells #[.int .i64 x, .int .i64 y] 59)).heap[wr.heap.size]? = some (.cells #[.int .i64 x, .int .i64 y] 59 (0, 0)) := heap_alloc_last wr _
        have HS := Lib.hid (symbols_any09 (x, y) (wr.alloc (.cells #[.int .i64 x, .int .i64 y] 59)) hwf)
        have HNX := Lib.hid hnx
        have HIN := Lib.hid hin
        have HC5 := Lib.hid (HC.out.mono hb5)
        have HG := Lib.hid (And.intro (HC.out.own1.lt g1 rfl).2 (HC.out.own2.lt g2 rfl).2)
        clear hnx hin hwf hb5 HC hbl
        simp only at HS
        go_wp2_with fail
        refine HS.out.mono ?_
        rintro e w6 ⟨⟨v, ⟨sv, dv, rfl, hsd⟩, rfl⟩, hb6⟩
        have hr6 := (hb6.block wr.heap.size (by simp)).trans hr5
        have HC6 := Lib.hid (HC5.out.mono hb6)
        have x0 : w6.cell? ⟨wr.heap.size, 0, none⟩ = some (.int .i64 x) := by rw [cell_of_row _ _ _ _ _ (0, 0) hr6]; rfl
        clear hb6 hr6 hr5 HS HC5 t0 t1
        by_cases htok : Tk.isTok (x, y) = true
        · have htr := Tk.tok_range htok
          simp only at htr
          obtain ⟨hs0, hs1⟩ := hsd htok
          have HST : Hid (Pa.cts ts (k + 1) = if x = 0 then (Pa.bmp (Pa.cts ts k).1 y.toNat, (Pa.cts ts k).2) else (Pa.bmp (Pa.cts ts k).1 (257 + Sy.lsy x.toNat), Pa.bmp (Pa.cts ts k).2 (Sy.dsy y.toNat))) := Lib.hid (by rw [HNX.out]; unfold Pa.stC; rw [if_pos htok])
          rw [htok]
          clear hsd htok HNX
          by_cases hx : x = 0
          · obtain ⟨rfl, rfl⟩ := hs0 hx
            subst hx
            obtain ⟨j, rfl⟩ : ∃ j : Nat, sv = (j : Int) := ⟨sv.toNat, by omega⟩
            have hj : j < 286 := by omega
            have hcj := HC6.out.c1 j hj
            have hfj := Pa.own_fz HC6.out.own1 j
            have hvr := HIN.out.1.2 j
            have x1 : (w6.setCell ⟨g1, j, none⟩ (.int .i64 ((Pa.cts ts k).1.getD j 0 + 1))).cell? ⟨wr.heap.size, 0, none⟩ = some (.int .i64 0) := by rw [cell_set_other (by have := HG.out.1; omega)]; exact x0
            have HC7 := Lib.hid (HC6.out.set1 j ((Pa.cts ts k).1.getD j 0 + 1))
            have HE : Hid (Pa.cts ts (k + 1) = ((Pa.cts ts k).1.set j ((Pa.cts ts k).1.getD j 0 + 1), (Pa.cts ts k).2)) := Lib.hid (by rw [HST.out, if_pos rfl, Int.toNat_natCast]; rfl)
            have dj : decide (j < 286) = true := by simp; omega
            clear HST HC6 HIN hs0 hs1
            generalize (Pa.cts ts k).1.getD j 0 = z at *
            go_wp2
            go_roundw
            case rel => exact ⟨k + 1, by omega, by go_num, by rw [HE.out]; exact HC7⟩
            case measure => simp [intOf]; omega
          · obtain ⟨rfl, rfl⟩ := hs1 hx
            have hx3 : decide (0 < x) = true := by simp; omega
            have hj : 257 + Sy.lsy x.toNat < 286 := by have := Sy.cnt_le Sy.lb 28 x.toNat; unfold Sy.lsy; omega
            have hd29 : Sy.dsy y.toNat ≤ 29 := Sy.cnt_le _ _ _
            have HST2 : Hid (Pa.cts ts (k + 1) = (Pa.bmp (Pa.cts ts k).1 (257 + Sy.lsy x.toNat), Pa.bmp (Pa.cts ts k).2 (Sy.dsy y.toNat))) := Lib.hid (by rw [HST.out, if_neg hx])
            clear hs0 hs1 HST
            generalize 257 + Sy.lsy x.toNat = j at *
            generalize Sy.dsy y.toNat = q at *
            have hq : q < 30 := by omega
            have hcj := HC6.out.c1 j hj
            have hfj := Pa.own_fz HC6.out.own1 j
            have hvr := HIN.out.1.2 j
            have hvq := HIN.out.2.2 q
            have HC7 := Lib.hid (HC6.out.set1 j ((Pa.cts ts k).1.getD j 0 + 1))
            have HC8 := Lib.hid (HC7.out.set2 q ((Pa.cts ts k).2.getD q 0 + 1))
            have x1 : (w6.setCell ⟨g1, j, none⟩ (.int .i64 ((Pa.cts ts k).1.getD j 0 + 1))).cell? ⟨wr.heap.size, 0, none⟩ = some (.int .i64 x) := by rw [cell_set_other (by have := HG.out.1; omega)]; exact x0
            have hcq := HC7.out.c2 q hq
            have hfq := Pa.own_fz HC7.out.own2 q
            have HE : Hid (Pa.cts ts (k + 1) = ((Pa.cts ts k).1.set j ((Pa.cts ts k).1.getD j 0 + 1), (Pa.cts ts k).2.set q ((Pa.cts ts k).2.getD q 0 + 1))) := Lib.hid (by rw [HST2.out]; rfl)
            have dj : decide (j < 286) = true := by simp; omega
            have dq : decide (q < 30) = true := by simp; omega
            clear HST2 HC6 HIN HC7
            generalize (Pa.cts ts k).1.getD j 0 = z at *
            generalize (Pa.cts ts k).2.getD q 0 = z2 at *
            go_wp2
            go_roundw
            case rel => exact ⟨k + 1, by omega, by go_num, by rw [HE.out]; exact HC8⟩
            case measure => simp [intOf]; omega
        · have hf : Tk.isTok (x, y) = false := by simpa using htok
          rw [hf]
          have HE : Hid (Pa.cts ts (k + 1) = Pa.cts ts k) := Lib.hid (by rw [HNX.out]; unfold Pa.stC; rw [if_neg htok])
          clear hsd htok hf HNX HIN x0
          go_wp2
          go_roundw
          case rel => exact ⟨k + 1, by omega, by go_num, by rw [HE.out]; exact HC6⟩
          case measure => simp [intOf]; omega
      · obtain rfl : len = k := by omega
        go_wp2
        go_ret2
        exact ⟨g1, g2, rfl, HC.out⟩
end Go.Proofs.YtpoilaappcjbeaaGreatDoor
end

section
namespace Go.Proofs.YtpoilaappcjbeaaGreatDoor
open Go.RowKit

theorem Is.kept {w w' : World} {T : Nat → Prop} {a : Option Addr} {len cap : Nat} {l : List Int} (h : Is .i64 w a len cap l) (c : Ch w w' T) (hn : ∀ ad, a = some ad → ¬ T ad.block) : Is .i64 w' a len cap l :=
  ⟨h.hlen, h.hle, h.hnil, fun i hi => by
    obtain ⟨b, off, e, hlt, hc⟩ := h.at' i hi
    exact ⟨b, off, e, Nat.lt_of_lt_of_le hlt c.size, by rw [World.cell?_of_block (w := w) (c.block b hlt (hn _ e))]; exact hc⟩, h.wf⟩
theorem Is.blk {w : World} {a : Option Addr} {len cap : Nat} {l : List Int} (h : Is .i64 w a len cap l) (hp : 0 < len) : ∀ ad, a = some ad → ad.block < w.heap.size := by
  intro ad e
  obtain ⟨b, off, e2, hlt, _⟩ := h.at' 0 hp
  rw [e] at e2; cases e2; exact hlt
end Go.Proofs.YtpoilaappcjbeaaGreatDoor
end

section
namespace Go.Proofs.YtpoilaappcjbeaaGreatDoor
open Go.RowKit
namespace Bk
/-- What a round keeps: all cells but those of U. -/
def Kc (U : Nat → Prop) (W W' : World) : Prop := ∀ k o, W.heap[k]? = some o → o.isCells = true → ¬ U k → W'.heap[k]? = some o
theorem Kc.refl (U : Nat → Prop) (W : World) : Kc U W W := fun _ _ h _ _ => h
theorem Kc.trans {U : Nat → Prop} {A B C : World} (h : Kc U A B) (k : Kc U B C) : Kc U A C := fun i o hi ho hu => k i o (h i o hi ho hu) ho hu
theorem Kc.alloc (U : Nat → Prop) (W : World) (o : Obj) : Kc U W (W.alloc o) := fun k _ hk _ _ => (Below.heap_alloc W o k (Array.getElem?_eq_some_iff.1 hk).1).trans hk
theorem Kc.grown {U : Nat → Prop} {W W' : World} {row : Option Nat} (hg : W.grownBy W' row) (hr : ∀ r, row = some r → U r ∨ W.heap.size ≤ r) : Kc U W W' := fun k o hk _ hu => by
  have hlt := (Array.getElem?_eq_some_iff.1 hk).1
  exact (hg.block k hlt (fun e => (hr k e.symm).elim hu (fun h => by omega))).trans hk
theorem Kc.drew {U : Nat → Prop} {A B : World} (h : Kc U A B) : Kc U A B.drew := h
theorem Kc.set {U : Nat → Prop} (W : World) (p : Addr) (hp : U p.block) (v : Value) : Kc U W (W.setCell p v) := fun k _ hk _ hu => (Below.heap_setCell W p v k (fun e => hu (e ▸ hp))).trans hk
theorem Kc.put {U : Nat → Prop} (W : World) (l : Nat) (o o' : Obj) (h : W.heap[l]? = some o) (hc : o.isCells = false) : Kc U W (W.putObj l o') := fun k o2 hk ho _ => by
  have : k ≠ l := fun e => by subst e; rw [h] at hk; cases hk; rw [hc] at ho; cases ho
  exact (World.putObj_heap_other this).trans hk
theorem own_same {w w' : World} {B : Nat} {e : TypeId} {size : Nat} {v : Value} {n : Nat} {xs : List Value} (h : w.ownsRow B e size v n xs) (hk : ∀ g, v.ownBlock = some g → w'.heap[g]? = w.heap[g]?) : w'.ownsRow B e size v n xs := by
  obtain ⟨h1, h2⟩ := h
  refine ⟨h1, ?_⟩
  rcases h2 with h2 | ⟨g, cap, cur, rfl, hb, hg, r⟩
  · exact .inl h2
  · exact .inr ⟨g, cap, cur, rfl, hb, (hk g rfl).trans hg, r⟩
theorem own_kc {U : Nat → Prop} {w w' : World} {B : Nat} {e : TypeId} {size : Nat} {v : Value} {n : Nat} {xs : List Value} (h : w.ownsRow B e size v n xs) (c : Kc U w w') (hn : ∀ g, v.ownBlock = some g → ¬ U g) : w'.ownsRow B e size v n xs := by
  obtain ⟨h1, h2⟩ := h
  refine ⟨h1, ?_⟩
  rcases h2 with h2 | ⟨g, cap, cur, rfl, hb, hg, r⟩
  · exact .inl h2
  · exact .inr ⟨g, cap, cur, rfl, hb, c g _ hg rfl (hn g rfl), r⟩
theorem boxed_setO {W : World} {B b : Nat} {t : TypeId} {v : Value} (h : Boxed W B t v) (hne : B ≠ b) (o : Nat) (u : Value) : Boxed (W.setCell ⟨b, o, none⟩ u) B t v := (Below.heap_setCell W ⟨b, o, none⟩ u B hne).trans h
theorem kc_cells {W W' : World} {row : Option Nat} (hg : W.grownBy W' row) (hr : ∀ r, row = some r → ∃ o : Obj, W.heap[r]? = some o ∧ o.isCells = false) : Kc (fun _ => False) W W' := fun k o hk ho _ => by
  refine (hg.block k (Array.getElem?_eq_some_iff.1 hk).1 (fun e => ?_)).trans hk
  obtain ⟨o', ho', hc⟩ := hr k e.symm
  rw [hk] at ho'; cases ho'; rw [ho] at hc; cases hc
end Bk
end Go.Proofs.YtpoilaappcjbeaaGreatDoor
end

section
namespace Go.Proofs.YtpoilaappcjbeaaGreatDoor
open Go.RowKit

namespace Cn
theorem sizN_low (l : List Int) (m : Nat) : ∀ x ∈ sizN l m, 1 ≤ x ∧ x ≤ m := by
  intro x hx
  simp only [sizN, List.mem_flatMap, List.mem_range, List.mem_map] at hx
  obtain ⟨n, hn, _, _, rfl⟩ := hx
  omega
theorem sizN_sorted (l : List Int) (m : Nat) : (sizN l m).Pairwise (· ≤ ·) := by
  induction m with
  | zero => exact List.Pairwise.nil
  | succ m ih =>
    rw [sizN_succ, List.pairwise_append]
    refine ⟨ih, ?_, fun x hx y hy => ?_⟩
    · rw [List.pairwise_map]
      generalize row l m l.length = r
      induction r with
      | nil => exact List.Pairwise.nil
      | cons a r ih2 => exact List.Pairwise.cons (fun _ _ => Int.le_refl _) ih2
    · obtain ⟨_, _, rfl⟩ := List.mem_map.1 hy
      have := sizN_low l m x hx
      omega
theorem row_count (l : List Int) (m : Nat) : ∀ k, k ≤ l.length → (row l m k).length = (l.take k).countP (fun x => x == ((m + 1 : Nat) : Int)) := by
  intro k
  induction k with
  | zero => intro _; simp [row]
  | succ k ih =>
    intro hk
    have hg : l.getD k 0 = l[k] := by simp [List.getD, List.getElem?_eq_getElem (show k < l.length by omega)]
    rw [row_succ, List.length_append, ih (by omega), List.take_succ_eq_append_getElem (show k < l.length by omega), List.countP_append, hg]
    by_cases h : (l[k] == ((m + 1 : Nat) : Int)) = true
    · rw [if_pos h, List.countP_cons_of_pos (p := fun x => x == ((m + 1 : Nat) : Int)) h]; rfl
    · rw [if_neg h, List.countP_cons_of_neg (p := fun x => x == ((m + 1 : Nat) : Int)) h]; rfl
def sumTo (l : List Int) (m : Nat) : Nat := (l.map fun (n : Int) => if n ≤ (m : Int) then part n else 0).sum
theorem sumTo_succ (l : List Int) (m : Nat) : sumTo l (m + 1) = sumTo l m + l.countP (fun x => x == ((m + 1 : Nat) : Int)) * part ((m + 1 : Nat) : Int) := by
  induction l with
  | nil => simp [sumTo]
  | cons x l ih =>
    have e1 : sumTo (x :: l) (m + 1) = (if x ≤ ((m + 1 : Nat) : Int) then part x else 0) + sumTo l (m + 1) := rfl
    have e2 : sumTo (x :: l) m = (if x ≤ (m : Int) then part x else 0) + sumTo l m := rfl
    rw [e1, e2, ih]
    by_cases h : x = ((m + 1 : Nat) : Int)
    · rw [List.countP_cons_of_pos (by simpa using h), if_pos (by omega), if_neg (by omega), h, Nat.succ_mul]; omega
    · rw [List.countP_cons_of_neg (by simpa using h)]
      by_cases h2 : x ≤ (m : Int)
      · rw [if_pos (by omega), if_pos h2]; omega
      · rw [if_neg (by omega), if_neg h2]; omega
theorem sum_sizN (l : List Int) (m : Nat) (h0 : ∀ x ∈ l, 0 ≤ x) : sum (sizN l m) = sumTo l m := by
  induction m with
  | zero =>
    have : sumTo l 0 = 0 := by
      unfold sumTo
      induction l with
      | nil => rfl
      | cons x l ih =>
        rw [List.map_cons, List.sum_cons, ih (fun y hy => h0 y (List.mem_cons_of_mem _ hy))]
        have := h0 x (List.mem_cons_self ..)
        by_cases h : x ≤ ((0 : Nat) : Int)
        · rw [if_pos h]; unfold part; rw [if_pos (by omega)]
        · rw [if_neg h]
    rw [this]; rfl
  | succ m ih =>
    rw [sizN_succ, sumTo_succ, ← ih]
    have hr := row_count l m l.length (Nat.le_refl _)
    rw [List.take_length] at hr
    rw [← hr]
    unfold sum
    rw [List.map_append, List.sum_append, List.map_map]
    congr 1
    generalize row l m l.length = r
    induction r with
    | nil => simp
    | cons a r ih2 => rw [List.map_cons, List.sum_cons, ih2, List.length_cons, Nat.succ_mul, Nat.add_comm]; rfl
theorem form_mem (l : List Int) (h : formB l = true) : ∀ x ∈ l, 0 ≤ x ∧ x ≤ 16 := by
  intro x hx
  simp only [formB, Bool.and_eq_true, List.all_eq_true, decide_eq_true_eq] at h
  exact h.2 x hx
theorem sumTo_all (l : List Int) (m : Nat) (h : ∀ x ∈ l, x ≤ (m : Int)) : sumTo l m = sum l := by
  unfold sumTo sum
  congr 1
  exact List.map_congr_left (fun x hx => if_pos (h x hx))
theorem sum_sizes (l : List Int) (h : formB l = true) : sum (sizes l) = sum l := by
  unfold sizes
  rw [sum_sizN l 16 (fun x hx => (form_mem l h x hx).1), sumTo_all l 16 (fun x hx => (form_mem l h x hx).2)]
/-- The codes of lengths in form: each as long as asked for, and where it begins. -/
theorem sizes_val (l : List Int) (h : freeB l = true) (i : Nat) (hi : i < (sizes l).length) :
    ((codes (sizes l)).getD i []).length = ((sizes l).getD i 0).toNat ∧ Bt.numH ((codes (sizes l)).getD i []) * 2 ^ (16 - ((sizes l).getD i 0).toNat) = sum ((sizes l).take i) := by
  simp only [freeB, Bool.and_eq_true, decide_eq_true_eq] at h
  have hg : ∀ j (hj : j < (sizes l).length), (sizes l).getD j 0 = (sizes l)[j] := fun j hj => by simp [List.getD, List.getElem?_eq_getElem hj]
  refine codes_val (sizes l) (fun j hj => ?_) (fun j hj => ?_) (by rw [sum_sizes l h.1]; exact h.2) i hi
  · rw [hg j hj]; exact sizN_low l 16 _ (List.getElem_mem hj)
  · rw [hg j (by omega), hg (j + 1) hj]
    exact List.pairwise_iff_getElem.1 (sizN_sorted l 16) j (j + 1) (Nat.lt_of_succ_lt hj) hj (Nat.lt_succ_self _)
/-- Symbols and lengths, in the order of their codes. -/
def pairs (l : List Int) (m : Nat) : List (Nat × Int) := (List.range m).flatMap fun n => (row l n l.length).map fun s => (s, ((n + 1 : Nat) : Int))
theorem pairs_syms (l : List Int) : syms l = (pairs l 16).map fun p => (p.1 : Int) := by
  simp only [syms, symN, pairs, List.map_flatMap, List.map_map]; rfl
theorem pairs_sizes (l : List Int) : sizes l = (pairs l 16).map fun p => p.2 := by
  simp only [sizes, sizN, pairs, List.map_flatMap, List.map_map]; rfl
theorem pairs_mem (l : List Int) (m s : Nat) (n : Int) : (s, n) ∈ pairs l m ↔ s < l.length ∧ l.getD s 0 = n ∧ 1 ≤ n ∧ n ≤ m := by
  simp only [pairs, List.mem_flatMap, List.mem_range, List.mem_map, row, List.mem_filter, beq_iff_eq, Prod.mk.injEq]
  constructor
  · rintro ⟨k, hk, t, ⟨ht, he⟩, rfl, rfl⟩
    exact ⟨ht, he, by omega, by omega⟩
  · rintro ⟨hs, he, h1, h2⟩
    exact ⟨n.toNat - 1, by omega, s, ⟨hs, by omega⟩, rfl, by omega⟩
theorem pairs_nodup (l : List Int) (m : Nat) : ((pairs l m).map fun p => p.1).Nodup := by
  induction m with
  | zero => exact List.Pairwise.nil
  | succ m ih =>
    have e : pairs l (m + 1) = pairs l m ++ (row l m l.length).map fun s => (s, ((m + 1 : Nat) : Int)) := by simp [pairs, List.range_succ]
    rw [e, List.map_append, List.map_map, List.nodup_append]
    refine ⟨ih, ?_, ?_⟩
    · have : ((fun p : Nat × Int => p.1) ∘ fun s : Nat => (s, ((m + 1 : Nat) : Int))) = id := rfl
      rw [this, List.map_id]
      exact List.Pairwise.filter _ List.nodup_range
    · intro a ha b hb hab
      obtain ⟨⟨s, n⟩, hp, rfl⟩ := List.mem_map.1 ha
      obtain ⟨t, ht, rfl⟩ := List.mem_map.1 hb
      obtain ⟨_, h1, _, h2⟩ := (pairs_mem l m s n).1 hp
      simp only [row, List.mem_filter, beq_iff_eq] at ht
      simp only [Function.comp] at hab
      subst hab
      omega
end Cn
end Go.Proofs.YtpoilaappcjbeaaGreatDoor
end

section
namespace Go.Proofs.YtpoilaappcjbeaaGreatDoor
open Go.RowKit

namespace Cn
/-- Do b and u begin with the same n bits, up to b's end? -/
def same (u : List Bool) (n : Nat) (b : List Bool) : Bool := decide (b.take (min n b.length) = u.take (min n b.length))
def hit (u : List Bool) (n : Nat) (c : Int × List Bool) : Bool := same u n c.2 && decide (c.2.length = n)
def more (u : List Bool) (n : Nat) (c : Int × List Bool) : Bool := same u n c.2 && decide (n < c.2.length)
def rdAt (ks : List (Int × List Bool)) (u : List Bool) : Nat → Nat → Int × Nat × Int
  | 0, _ => (0, 16, 2)
  | f + 1, n => if u.length < n then (0, u.length, 8) else
    match ks.find? (hit u n) with
    | some c => (c.1, n, 0)
    | none => if ks.any (more u n) then rdAt ks u f (n + 1) else (0, n, 2)
/-- The symbol that bits begin with, how many bits are read, and an error's number. -/
def rd (ks : List (Int × List Bool)) (u : List Bool) : Int × Nat × Int := if ks = [] then (0, 0, 2) else rdAt ks u 16 1
theorem rdAt_step (ks : List (Int × List Bool)) (u : List Bool) (m : Nat) (hm : m ≤ 16) : rdAt ks u (17 - m) m = if u.length < m then (0, u.length, 8) else
    match ks.find? (hit u m) with
    | some c => (c.1, m, 0)
    | none => if ks.any (more u m) then rdAt ks u (17 - (m + 1)) (m + 1) else (0, m, 2) := by
  have e1 : 17 - m = (16 - m) + 1 := by omega
  have e2 : 17 - (m + 1) = 16 - m := by omega
  rw [e1, e2]; rfl
theorem same_step (u b : List Bool) (k : Nat) (hb : k < b.length) (hu : k < u.length) : decide (b.take (k + 1) = u.take (k + 1)) = (decide (b.take k = u.take k) && (b.getD k false == u.getD k false)) := by
  have t1 := List.take_succ_eq_append_getElem hb
  have t2 := List.take_succ_eq_append_getElem hu
  have l1 : (b.take k).length = (u.take k).length := by rw [List.length_take, List.length_take]; omega
  have e1 : b.getD k false = b[k] := by simp [List.getD, List.getElem?_eq_getElem hb]
  have e2 : u.getD k false = u[k] := by simp [List.getD, List.getElem?_eq_getElem hu]
  rw [t1, t2, e1, e2, Bool.eq_iff_iff]
  simp only [decide_eq_true_eq, Bool.and_eq_true, beq_iff_eq]
  exact ⟨fun e => ⟨(List.append_inj e l1).1, by have := (List.append_inj e l1).2; simpa only [List.cons.injEq, and_true] using this⟩, fun ⟨h1, h2⟩ => by rw [h1, h2]⟩
end Cn
end Go.Proofs.YtpoilaappcjbeaaGreatDoor
end
