/- parse.Count: its contract. Three slices made and a box laid, in whatever order. -/
import Derived.Test.YtjjbgdmalefdlaaGreatDoorZ12
import Derived.Test.YtjjbgdmalefdlaaGreatDoorZ13
import Derived.Test.YtjjbgdmalefdlaaGreatDoorZ14
import Derived.Laws.ResultCell
set_option linter.unusedSimpArgs false
set_option linter.unusedVariables false
section
namespace Go.Proofs.YtjjbgdmalefdlaaGreatDoor
open Go.RowKit
namespace Pa
/-- One more of a symbol. -/
def bmp (l : List Int) (i : Nat) : List Int := l.set i (l.getD i 0 + 1)
/-- A token, counted. -/
def stC (p : List Int × List Int) (t : Tok) : List Int × List Int := if Tk.isTok t = true then (if t.1 = 0 then (bmp p.1 t.2.toNat, p.2) else (bmp p.1 (257 + Sy.lsy t.1.toNat), bmp p.2 (Sy.dsy t.2.toNat))) else p
def c0 : List Int × List Int := ((List.replicate 286 0).set 256 1, List.replicate 30 0)
def cts (ts : List Tok) (k : Nat) : List Int × List Int := (ts.take k).foldl stC c0
theorem cts_next (ts : List Tok) (k : Nat) (h : k < ts.length) : cts ts (k + 1) = stC (cts ts k) (ts.getD k (0, 0)) := by
  unfold cts
  rw [List.take_succ_eq_append_getElem h, List.foldl_append]
  simp [List.getD, List.getElem?_eq_getElem h]
/-- In range. -/
def In (m : Nat) (l : List Int) (n : Nat) : Prop := l.length = m ∧ ∀ i, 0 ≤ l.getD i 0 ∧ l.getD i 0 ≤ n
theorem In.bmp {m n i : Nat} {l : List Int} (h : In m l n) : In m (bmp l i) (n + 1) := by
  refine ⟨by simp [Pa.bmp, h.1], fun j => ?_⟩
  have h1 := h.2 j
  unfold Pa.bmp
  by_cases e : i = j
  · subst e
    by_cases hl : i < l.length
    · have : (l.set i (l.getD i 0 + 1)).getD i 0 = l.getD i 0 + 1 := by simp [List.getD, hl]
      rw [this]; omega
    · have : (l.set i (l.getD i 0 + 1)).getD i 0 = 0 := by simp [List.getD, List.getElem?_eq_none (by simpa using Nat.le_of_not_lt hl : (l.set i (l[i]?.getD 0 + 1)).length ≤ i)]
      rw [this]; omega
  · have : (l.set i (l.getD i 0 + 1)).getD j 0 = l.getD j 0 := by simp [List.getD, List.getElem?_set_ne e]
    rw [this]; omega
theorem In.up {m n : Nat} {l : List Int} (h : In m l n) : In m l (n + 1) := ⟨h.1, fun i => by have := h.2 i; omega⟩
theorem zs_get (n i : Nat) : (List.replicate n (0 : Int)).getD i 0 = 0 := by
  by_cases h : i < n <;> simp [List.getD, List.getElem?_replicate, h]
theorem one_get (n k i : Nat) : 0 ≤ ((List.replicate n (0 : Int)).set k 1).getD i 0 ∧ ((List.replicate n (0 : Int)).set k 1).getD i 0 ≤ (1 : Nat) := by
  by_cases e : k = i
  · subst e
    by_cases h : k < n
    · have : ((List.replicate n (0 : Int)).set k 1).getD k 0 = 1 := by simp [List.getD, h]
      rw [this]; omega
    · have : ((List.replicate n (0 : Int)).set k 1).getD k 0 = 0 := by simp [List.getD, List.getElem?_eq_none (by simpa using Nat.le_of_not_lt h : ((List.replicate n (0 : Int)).set k 1).length ≤ k)]
      rw [this]; omega
  · have : ((List.replicate n (0 : Int)).set k 1).getD i 0 = (List.replicate n (0 : Int)).getD i 0 := by simp [List.getD, List.getElem?_set_ne e]
    rw [this, zs_get]; omega
theorem in_one (n k : Nat) : In n ((List.replicate n (0 : Int)).set k 1) 1 := ⟨by rw [List.length_set, List.length_replicate], one_get n k⟩
theorem in_zs (n : Nat) : In n (List.replicate n (0 : Int)) 1 := ⟨List.length_replicate .., fun i => by rw [zs_get]; omega⟩
theorem in_c0 : In 286 c0.1 1 ∧ In 30 c0.2 1 := ⟨in_one 286 256, in_zs 30⟩
theorem in_step {p : List Int × List Int} {n : Nat} (t : Tok) (h : In 286 p.1 n ∧ In 30 p.2 n) : In 286 (stC p t).1 (n + 1) ∧ In 30 (stC p t).2 (n + 1) := by
  unfold stC
  split
  · split
    · exact ⟨h.1.bmp, h.2.up⟩
    · exact ⟨h.1.bmp, h.2.bmp⟩
  · exact ⟨h.1.up, h.2.up⟩
theorem in_cts (ts : List Tok) : ∀ k, k ≤ ts.length → In 286 (cts ts k).1 (k + 1) ∧ In 30 (cts ts k).2 (k + 1)
  | 0, _ => in_c0
  | k + 1, h => by rw [cts_next ts k (by omega)]; exact in_step _ (in_cts ts k (by omega))
theorem In.wf {m n : Nat} {l : List Int} (h : In m l n) (hn : n ≤ 1000000000) : Wf l := by
  intro x hx
  obtain ⟨i, hi, rfl⟩ := List.getElem_of_mem hx
  have := h.2 i
  rw [List.getD, List.getElem?_eq_getElem hi] at this
  simp only [Option.getD_some] at this
  simp only [Lit.wf, IntKind.min, IntKind.max, IntKind.signed, IntKind.bits, Bool.and_eq_true, decide_eq_true_eq, if_true]
  simp; omega
/-- Two rows of counts in memory. -/
structure Cn (w0 w : World) (g1 g2 : Nat) (L D : List Int) : Prop where
  own1 : w.ownsRow w0.heap.size 3 1 (.slice (some ⟨g1, 0, none⟩) 286 286) 286 (ivs L)
  own2 : w.ownsRow w0.heap.size 3 1 (.slice (some ⟨g2, 0, none⟩) 30 30) 30 (ivs D)
  ne : g1 ≠ g2
  bel : Below w0.heap.size w0 w
theorem own_fz {w : World} {base : Nat} {e : TypeId} {size n cap g : Nat} {xs : List Value} (h : w.ownsRow base e size (.slice (some ⟨g, 0, none⟩) n cap) n xs) (o : Nat) : w.frozen? ⟨g, o, none⟩ = false := by
  rcases h.2 with ⟨h', _⟩ | ⟨g', cap', cur, h', hb, hg, _⟩
  · simp at h'
  · simp only [Value.slice.injEq, Option.some.injEq, Addr.mk.injEq, and_true, true_and] at h'
    obtain ⟨rfl, rfl⟩ := h'
    exact frozen_of_row w g o _ _ hg
theorem Cn.mono {w0 w w' : World} {g1 g2 : Nat} {L D : List Int} (h : Cn w0 w g1 g2 L D) (hb : Below w.heap.size w w') : Cn w0 w' g1 g2 L D :=
  ⟨own_below h.own1 hb, own_below h.own2 hb, h.ne, h.bel.trans (hb.mono h.bel.size)⟩
theorem own_ot {w : World} {base : Nat} {e : TypeId} {size : Nat} {v : Value} {n : Nat} {xs : List Value} {g j : Nat} {z : Value} (h : w.ownsRow base e size v n xs) (hv : ∀ b, v.ownBlock = some b → b ≠ g) : (w.setCell ⟨g, j, none⟩ z).ownsRow base e size v n xs :=
  ((Ch.refl w (fun k => k = g)).set (p := ⟨g, j, none⟩) (.inl rfl) z).own h hv
theorem Cn.set1 {w0 w : World} {g1 g2 : Nat} {L D : List Int} (h : Cn w0 w g1 g2 L D) (j : Nat) (z : Int) : Cn w0 (w.setCell ⟨g1, j, none⟩ (.int .i64 z)) g1 g2 (L.set j z) D :=
  ⟨own_set h.own1 j z, own_ot h.own2 (fun b hb => by simp [Value.ownBlock] at hb; rw [← hb]; exact fun e => h.ne e.symm), h.ne, h.bel.setCell (p := ⟨g1, j, none⟩) (h.own1.lt g1 rfl).1 _⟩
theorem Cn.set2 {w0 w : World} {g1 g2 : Nat} {L D : List Int} (h : Cn w0 w g1 g2 L D) (j : Nat) (z : Int) : Cn w0 (w.setCell ⟨g2, j, none⟩ (.int .i64 z)) g1 g2 L (D.set j z) :=
  ⟨own_ot h.own1 (fun b hb => by simp [Value.ownBlock] at hb; rw [← hb]; exact h.ne), own_set h.own2 j z, h.ne, h.bel.setCell (p := ⟨g2, j, none⟩) (h.own2.lt g2 rfl).1 _⟩
theorem Cn.c1 {w0 w : World} {g1 g2 : Nat} {L D : List Int} (h : Cn w0 w g1 g2 L D) (j : Nat) (hj : j < 286) : w.cell? ⟨g1, j, none⟩ = some (.int .i64 (L.getD j 0)) := by
  have hl : L.length = 286 := by have := h.own1.1; rw [ivs_length] at this; omega
  rw [h.own1.cellAt j (by omega), ivs_get L j (by omega)]
theorem Cn.c2 {w0 w : World} {g1 g2 : Nat} {L D : List Int} (h : Cn w0 w g1 g2 L D) (j : Nat) (hj : j < 30) : w.cell? ⟨g2, j, none⟩ = some (.int .i64 (D.getD j 0)) := by
  have hl : D.length = 30 := by have := h.own2.1; rw [ivs_length] at this; omega
  rw [h.own2.cellAt j (by omega), ivs_get D j (by omega)]
end Pa
theorem mk_ints (W : World) (base n : Nat) (hb : base ≤ W.heap.size) (hn : n ≤ 1000) :
    ∃ W', (Instr.makeSlice 53 (.int .i64 (n : Int)) (.int .i64 (n : Int))).run Tryz.prog W = .ok (.slice (some ⟨W.heap.size, 0, none⟩) n n) W' ∧ W'.ownsRow base 3 1 (.slice (some ⟨W.heap.size, 0, none⟩) n n) n (ivs (List.replicate n 0)) ∧ W.grownBy W' none := by
  obtain ⟨i0, hi, hz0, hz1, hz2⟩ := info_parts tyI.info
  obtain ⟨W', h1, h2, h3⟩ := run_makeSlice_full (P := Tryz.prog) (w := W) base 53 3 i0 (.int .i64 0) 1 tyI.ht hi hz0 hz1 .i64 .i64 n (by omega) (by rw [hz2]; omega) (by unfold maxLen; omega) hb
  have e := made_ints1 n
  exact ⟨W', h1, by rw [← e]; exact h2, h3⟩
set_option maxRecDepth 100000 in
set_option maxHeartbeats 4000000 in
theorem count_any (a : Option Addr) (len cap : Nat) (ts : List Tok) (w : World) (h : Ts2 w a len cap ts) (hlen : len ≤ 1000000) :
    Calls Tryz.prog 73 #[.slice a len cap] w fun e w' => ∃ g1 g2, e = .returned (.tuple #[.slice (some ⟨g1, 0, none⟩) 286 286, .slice (some ⟨g2, 0, none⟩) 30 30]) ∧ Pa.Cn w w' g1 g2 (Pa.cts ts len).1 (Pa.cts ts len).2 := by
  have H := Lib.hid h
  have HLN := Lib.hid h.hlen
  clear h
  go_enter Tryz.func73, Tryz.ntmps73
  obtain ⟨w1, m1, o1, g1⟩ := mk_ints w.drew w.heap.size 286 (Nat.le_refl _) (by omega)
  have b1 : Below w.heap.size w w1 := (Below.drew (Below.refl w.heap.size w)).grown g1 (Nat.le_refl _) (by simp)
  obtain ⟨w2, m2, o2, g2⟩ := mk_ints w1 w.heap.size 30 b1.size (by omega)
  have b2 : Below w1.heap.size w1 w2 := (Below.refl _ _).grown g2 (Nat.le_refl _) (by simp)
  have n1 : (Instr.makeSlice 53 (.int .i64 286) (.int .i64 286)).run Tryz.prog w.drew = .ok (.slice (some ⟨w.heap.size, 0, none⟩) 286 286) w1 := m1
  have n2 : (Instr.makeSlice 53 (.int .i64 30) (.int .i64 30)).run Tryz.prog w1 = .ok (.slice (some ⟨w1.heap.size, 0, none⟩) 30 30) w2 := m2
  have hC : Pa.Cn w w2 w.heap.size w1.heap.size (List.replicate 286 0) (List.replicate 30 0) := ⟨own_below o1 b2, o2, by have := (o1.lt w.heap.size rfl).2; omega, below_then b1 b2⟩
  have HCA := Lib.hid hC
  clear m1 m2 o1 o2 g1 g2 b1 b2 hC
  obtain ⟨w3, m1, o1, g1⟩ := mk_ints w.drew w.heap.size 30 (Nat.le_refl _) (by omega)
  have b1 : Below w.heap.size w w3 := (Below.drew (Below.refl w.heap.size w)).grown g1 (Nat.le_refl _) (by simp)
  obtain ⟨w4, m2, o2, g2⟩ := mk_ints w3 w.heap.size 286 b1.size (by omega)
  have b2 : Below w3.heap.size w3 w4 := (Below.refl _ _).grown g2 (Nat.le_refl _) (by simp)
  have n3 : (Instr.makeSlice 53 (.int .i64 30) (.int .i64 30)).run Tryz.prog w.drew = .ok (.slice (some ⟨w.heap.size, 0, none⟩) 30 30) w3 := m1
  have n4 : (Instr.makeSlice 53 (.int .i64 286) (.int .i64 286)).run Tryz.prog w3 = .ok (.slice (some ⟨w3.heap.size, 0, none⟩) 286 286) w4 := m2
  have hC : Pa.Cn w w4 w3.heap.size w.heap.size (List.replicate 286 0) (List.replicate 30 0) := ⟨o2, own_below o1 b2, by have := (o1.lt w.heap.size rfl).2; omega, below_then b1 b2⟩
  have HCB := Lib.hid hC
  clear m1 m2 o1 o2 g1 g2 b1 b2 hC
  go_wp2
  go_region
  · clear n1 n2 n3 n4 HCB
    revert HCA
    generalize w1.heap.size = g2
    generalize w.heap.size = g1
    generalize w2 = W
    intro HC
    have hc0 := HC.out.c1 256 (by omega)
    have hf0 := Pa.own_fz HC.out.own1 256
    have HC0 : Hid (Pa.Cn w (W.setCell ⟨g1, 256, none⟩ (.int .i64 1)) g1 g2 (Pa.cts ts 0).1 (Pa.cts ts 0).2) := Lib.hid (HC.out.set1 256 1)
    clear HC
    go_wp2_with fail
    clear hc0 hf0
    revert HC0
    generalize W.setCell ⟨g1, 256, none⟩ (.int .i64 1) = W1
    intro HC0
    go_loopw [17] (fun i wr => ∃ k : Nat, k ≤ len ∧ i = .int .i64 ((k : Nat) : Int) ∧ Hid (Pa.Cn w wr g1 g2 (Pa.cts ts k).1 (Pa.cts ts k).2)) (fun i _ => len - (intOf i).toNat)
    case atStart => exact ⟨0, by omega, rfl, HC0⟩
    case round =>
      clear HC0
      obtain ⟨k, hk, rfl, HC⟩ := hrel
      by_cases hlt : k < len
      · obtain ⟨b, off, rfl, hbl, t0, t1⟩ := (H.out.mono HC.out.bel).at' k hlt
        have hwf := H.out.wf k hlt
        have hnx := Pa.cts_next ts k (by rw [HLN.out]; exact hlt)
        have hin := Pa.in_cts ts k (by rw [HLN.out]; exact hk)
        generalize ts.getD k (0, 0) = t at *
        obtain ⟨x, y⟩ := t
        simp only at t0 t1 hwf
        have hb5 := below_alloc wr (.cells #[.int .i64 x, .int .i64 y] 59)
        have hr5 : (wr.alloc (.cells #[.int .i64 x, .int .i64 y] 59)).heap[wr.heap.size]? = some (.cells #[.int .i64 x, .int .i64 y] 59 (0, 0)) := heap_alloc_last wr _
        have HS := Lib.hid (symbols_any09 (x, y) (wr.alloc (.cells #[.int .i64 x, .int .i64 y] 59)) hwf)
        have HNX := Lib.hid hnx
        have HIN := Lib.hid hin
        have HC5 := Lib.hid (HC.out.mono hb5)
        have HG := Lib.hid (And.intro (HC.out.own1.lt g1 rfl).2 (HC.out.own2.lt g2 rfl).2)
        clear hnx hin hwf hb5 HC hbl
        simp only at HS
        go_wp2_with fail
        refine HS.out.mono ?_
        rintro e w6 ⟨⟨v, ⟨sv, dv, rfl, hsd⟩, rfl⟩, hb6⟩
        have hr6 := (hb6.block wr.heap.size (by simp)).trans hr5
        have HC6 := Lib.hid (HC5.out.mono hb6)
        have x0 : w6.cell? ⟨wr.heap.size, 0, none⟩ = some (.int .i64 x) := by rw [cell_of_row _ _ _ _ _ (0, 0) hr6]; rfl
        clear hb6 hr6 hr5 HS HC5 t0 t1
        by_cases htok : Tk.isTok (x, y) = true
        · have htr := Tk.tok_range htok
          simp only at htr
          obtain ⟨hs0, hs1⟩ := hsd htok
          have HST : Hid (Pa.cts ts (k + 1) = if x = 0 then (Pa.bmp (Pa.cts ts k).1 y.toNat, (Pa.cts ts k).2) else (Pa.bmp (Pa.cts ts k).1 (257 + Sy.lsy x.toNat), Pa.bmp (Pa.cts ts k).2 (Sy.dsy y.toNat))) := Lib.hid (by rw [HNX.out]; unfold Pa.stC; rw [if_pos htok])
          rw [htok]
          clear hsd htok HNX
          by_cases hx : x = 0
          · obtain ⟨rfl, rfl⟩ := hs0 hx
            subst hx
            obtain ⟨j, rfl⟩ : ∃ j : Nat, sv = (j : Int) := ⟨sv.toNat, by omega⟩
            have hj : j < 286 := by omega
            have hcj := HC6.out.c1 j hj
            have hfj := Pa.own_fz HC6.out.own1 j
            have hvr := HIN.out.1.2 j
            have x1 : (w6.setCell ⟨g1, j, none⟩ (.int .i64 ((Pa.cts ts k).1.getD j 0 + 1))).cell? ⟨wr.heap.size, 0, none⟩ = some (.int .i64 0) := by rw [cell_set_other (by have := HG.out.1; omega)]; exact x0
            have HC7 := Lib.hid (HC6.out.set1 j ((Pa.cts ts k).1.getD j 0 + 1))
            have HE : Hid (Pa.cts ts (k + 1) = ((Pa.cts ts k).1.set j ((Pa.cts ts k).1.getD j 0 + 1), (Pa.cts ts k).2)) := Lib.hid (by rw [HST.out, if_pos rfl, Int.toNat_natCast]; rfl)
            have dj : decide (j < 286) = true := by simp; omega
            clear HST HC6 HIN hs0 hs1
            generalize (Pa.cts ts k).1.getD j 0 = z at *
            go_wp2
            go_roundw
            case rel => exact ⟨k + 1, by omega, by go_num, by rw [HE.out]; exact HC7⟩
            case measure => simp [intOf]; omega
          · obtain ⟨rfl, rfl⟩ := hs1 hx
            have hx3 : decide (0 < x) = true := by simp; omega
            have hj : 257 + Sy.lsy x.toNat < 286 := by have := Sy.cnt_le Sy.lb 28 x.toNat; unfold Sy.lsy; omega
            have hd29 : Sy.dsy y.toNat ≤ 29 := Sy.cnt_le _ _ _
            have HST2 : Hid (Pa.cts ts (k + 1) = (Pa.bmp (Pa.cts ts k).1 (257 + Sy.lsy x.toNat), Pa.bmp (Pa.cts ts k).2 (Sy.dsy y.toNat))) := Lib.hid (by rw [HST.out, if_neg hx])
            clear hs0 hs1 HST
            generalize 257 + Sy.lsy x.toNat = j at *
            generalize Sy.dsy y.toNat = q at *
            have hq : q < 30 := by omega
            have hcj := HC6.out.c1 j hj
            have hfj := Pa.own_fz HC6.out.own1 j
            have hvr := HIN.out.1.2 j
            have hvq := HIN.out.2.2 q
            have HC7 := Lib.hid (HC6.out.set1 j ((Pa.cts ts k).1.getD j 0 + 1))
            have HC8 := Lib.hid (HC7.out.set2 q ((Pa.cts ts k).2.getD q 0 + 1))
            have x1 : (w6.setCell ⟨g1, j, none⟩ (.int .i64 ((Pa.cts ts k).1.getD j 0 + 1))).cell? ⟨wr.heap.size, 0, none⟩ = some (.int .i64 x) := by rw [cell_set_other (by have := HG.out.1; omega)]; exact x0
            have hcq := HC7.out.c2 q hq
            have hfq := Pa.own_fz HC7.out.own2 q
            have HE : Hid (Pa.cts ts (k + 1) = ((Pa.cts ts k).1.set j ((Pa.cts ts k).1.getD j 0 + 1), (Pa.cts ts k).2.set q ((Pa.cts ts k).2.getD q 0 + 1))) := Lib.hid (by rw [HST2.out]; rfl)
            have dj : decide (j < 286) = true := by simp; omega
            have dq : decide (q < 30) = true := by simp; omega
            clear HST2 HC6 HIN HC7
            generalize (Pa.cts ts k).1.getD j 0 = z at *
            generalize (Pa.cts ts k).2.getD q 0 = z2 at *
            go_wp2
            go_roundw
            case rel => exact ⟨k + 1, by omega, by go_num, by rw [HE.out]; exact HC8⟩
            case measure => simp [intOf]; omega
        · have hf : Tk.isTok (x, y) = false := by simpa using htok
          rw [hf]
          have HE : Hid (Pa.cts ts (k + 1) = Pa.cts ts k) := Lib.hid (by rw [HNX.out]; unfold Pa.stC; rw [if_neg htok])
          clear hsd htok hf HNX HIN x0
          go_wp2
          go_roundw
          case rel => exact ⟨k + 1, by omega, by go_num, by rw [HE.out]; exact HC6⟩
          case measure => simp [intOf]; omega
      · obtain rfl : len = k := by omega
        go_wp2
        go_ret2
        exact ⟨g1, g2, rfl, HC.out⟩
  · clear n1 n2 n3 n4 HCA
    revert HCB
    generalize w3.heap.size = g1
    generalize w.heap.size = g2
    generalize w4 = W
    intro HC
    have hc0 := HC.out.c1 256 (by omega)
    have hf0 := Pa.own_fz HC.out.own1 256
    have HC0 : Hid (Pa.Cn w (W.setCell ⟨g1, 256, none⟩ (.int .i64 1)) g1 g2 (Pa.cts ts 0).1 (Pa.cts ts 0).2) := Lib.hid (HC.out.set1 256 1)
    clear HC
    go_wp2_with fail
    clear hc0 hf0
    revert HC0
    generalize W.setCell ⟨g1, 256, none⟩ (.int .i64 1) = W1
    intro HC0
    go_loopw [17] (fun i wr => ∃ k : Nat, k ≤ len ∧ i = .int .i64 ((k : Nat) : Int) ∧ Hid (Pa.Cn w wr g1 g2 (Pa.cts ts k).1 (Pa.cts ts k).2)) (fun i _ => len - (intOf i).toNat)
    case atStart => exact ⟨0, by omega, rfl, HC0⟩
    case round =>
      clear HC0
      obtain ⟨k, hk, rfl, HC⟩ := hrel
      by_cases hlt : k < len
      · obtain ⟨b, off, rfl, hbl, t0, t1⟩ := (H.out.mono HC.out.bel).at' k hlt
        have hwf := H.out.wf k hlt
        have hnx := Pa.cts_next ts k (by rw [HLN.out]; exact hlt)
        have hin := Pa.in_cts ts k (by rw [HLN.out]; exact hk)
        generalize ts.getD k (0, 0) = t at *
        obtain ⟨x, y⟩ := t
        simp only at t0 t1 hwf
        have hb5 := below_alloc wr (.cells #[.int .i64 x, .int .i64 y] 59)
        have hr5 : (wr.alloc (.cells #[.int .i64 x, .int .i64 y] 59)).heap[wr.heap.size]? = some (.cells #[.int .i64 x, .int .i64 y] 59 (0, 0)) := heap_alloc_last wr _
        have HS := Lib.hid (symbols_any09 (x, y) (wr.alloc (.cells #[.int .i64 x, .int .i64 y] 59)) hwf)
        have HNX := Lib.hid hnx
        have HIN := Lib.hid hin
        have HC5 := Lib.hid (HC.out.mono hb5)
        have HG := Lib.hid (And.intro (HC.out.own1.lt g1 rfl).2 (HC.out.own2.lt g2 rfl).2)
        clear hnx hin hwf hb5 HC hbl
        simp only at HS
        go_wp2_with fail
        refine HS.out.mono ?_
        rintro e w6 ⟨⟨v, ⟨sv, dv, rfl, hsd⟩, rfl⟩, hb6⟩
        have hr6 := (hb6.block wr.heap.size (by simp)).trans hr5
        have HC6 := Lib.hid (HC5.out.mono hb6)
        have x0 : w6.cell? ⟨wr.heap.size, 0, none⟩ = some (.int .i64 x) := by rw [cell_of_row _ _ _ _ _ (0, 0) hr6]; rfl
        clear hb6 hr6 hr5 HS HC5 t0 t1
        by_cases htok : Tk.isTok (x, y) = true
        · have htr := Tk.tok_range htok
          simp only at htr
          obtain ⟨hs0, hs1⟩ := hsd htok
          have HST : Hid (Pa.cts ts (k + 1) = if x = 0 then (Pa.bmp (Pa.cts ts k).1 y.toNat, (Pa.cts ts k).2) else (Pa.bmp (Pa.cts ts k).1 (257 + Sy.lsy x.toNat), Pa.bmp (Pa.cts ts k).2 (Sy.dsy y.toNat))) := Lib.hid (by rw [HNX.out]; unfold Pa.stC; rw [if_pos htok])
          rw [htok]
          clear hsd htok HNX
          by_cases hx : x = 0
          · obtain ⟨rfl, rfl⟩ := hs0 hx
            subst hx
            obtain ⟨j, rfl⟩ : ∃ j : Nat, sv = (j : Int) := ⟨sv.toNat, by omega⟩
            have hj : j < 286 := by omega
            have hcj := HC6.out.c1 j hj
            have hfj := Pa.own_fz HC6.out.own1 j
            have hvr := HIN.out.1.2 j
            have x1 : (w6.setCell ⟨g1, j, none⟩ (.int .i64 ((Pa.cts ts k).1.getD j 0 + 1))).cell? ⟨wr.heap.size, 0, none⟩ = some (.int .i64 0) := by rw [cell_set_other (by have := HG.out.1; omega)]; exact x0
            have HC7 := Lib.hid (HC6.out.set1 j ((Pa.cts ts k).1.getD j 0 + 1))
            have HE : Hid (Pa.cts ts (k + 1) = ((Pa.cts ts k).1.set j ((Pa.cts ts k).1.getD j 0 + 1), (Pa.cts ts k).2)) := Lib.hid (by rw [HST.out, if_pos rfl, Int.toNat_natCast]; rfl)
            have dj : decide (j < 286) = true := by simp; omega
            clear HST HC6 HIN hs0 hs1
            generalize (Pa.cts ts k).1.getD j 0 = z at *
            go_wp2
            go_roundw
            case rel => exact ⟨k + 1, by omega, by go_num, by rw [HE.out]; exact HC7⟩
            case measure => simp [intOf]; omega
          · obtain ⟨rfl, rfl⟩ := hs1 hx
            have hx3 : decide (0 < x) = true := by simp; omega
            have hj : 257 + Sy.lsy x.toNat < 286 := by have := Sy.cnt_le Sy.lb 28 x.toNat; unfold Sy.lsy; omega
            have hd29 : Sy.dsy y.toNat ≤ 29 := Sy.cnt_le _ _ _
            have HST2 : Hid (Pa.cts ts (k + 1) = (Pa.bmp (Pa.cts ts k).1 (257 + Sy.lsy x.toNat), Pa.bmp (Pa.cts ts k).2 (Sy.dsy y.toNat))) := Lib.hid (by rw [HST.out, if_neg hx])
            clear hs0 hs1 HST
            generalize 257 + Sy.lsy x.toNat = j at *
            generalize Sy.dsy y.toNat = q at *
            have hq : q < 30 := by omega
            have hcj := HC6.out.c1 j hj
            have hfj := Pa.own_fz HC6.out.own1 j
            have hvr := HIN.out.1.2 j
            have hvq := HIN.out.2.2 q
            have HC7 := Lib.hid (HC6.out.set1 j ((Pa.cts ts k).1.getD j 0 + 1))
            have HC8 := Lib.hid (HC7.out.set2 q ((Pa.cts ts k).2.getD q 0 + 1))
            have x1 : (w6.setCell ⟨g1, j, none⟩ (.int .i64 ((Pa.cts ts k).1.getD j 0 + 1))).cell? ⟨wr.heap.size, 0, none⟩ = some (.int .i64 x) := by rw [cell_set_other (by have := HG.out.1; omega)]; exact x0
            have hcq := HC7.out.c2 q hq
            have hfq := Pa.own_fz HC7.out.own2 q
            have HE : Hid (Pa.cts ts (k + 1) = ((Pa.cts ts k).1.set j ((Pa.cts ts k).1.getD j 0 + 1), (Pa.cts ts k).2.set q ((Pa.cts ts k).2.getD q 0 + 1))) := Lib.hid (by rw [HST2.out]; rfl)
            have dj : decide (j < 286) = true := by simp; omega
            have dq : decide (q < 30) = true := by simp; omega
            clear HST2 HC6 HIN HC7
            generalize (Pa.cts ts k).1.getD j 0 = z at *
            generalize (Pa.cts ts k).2.getD q 0 = z2 at *
            go_wp2
            go_roundw
            case rel => exact ⟨k + 1, by omega, by go_num, by rw [HE.out]; exact HC8⟩
            case measure => simp [intOf]; omega
        · have hf : Tk.isTok (x, y) = false := by simpa using htok
          rw [hf]
          have HE : Hid (Pa.cts ts (k + 1) = Pa.cts ts k) := Lib.hid (by rw [HNX.out]; unfold Pa.stC; rw [if_neg htok])
          clear hsd htok hf HNX HIN x0
          go_wp2
          go_roundw
          case rel => exact ⟨k + 1, by omega, by go_num, by rw [HE.out]; exact HC6⟩
          case measure => simp [intOf]; omega
      · obtain rfl : len = k := by omega
        go_wp2
        go_ret2
        exact ⟨g1, g2, rfl, HC.out⟩
end Go.Proofs.YtjjbgdmalefdlaaGreatDoor
end

section
namespace Go.Proofs.YtjjbgdmalefdlaaGreatDoor
open Go.RowKit

namespace Bc
/-- What a make of n ints leaves. -/
noncomputable def mkW (n : Nat) (W : World) : World := if h : n ≤ 1000 then (mk_ints W 0 n (Nat.zero_le _) h).choose else W
theorem mkW_run (n : Nat) (h : n ≤ 1000) (W : World) : (Instr.makeSlice 53 (.int .i64 (n : Int)) (.int .i64 (n : Int))).run Tryz.prog W = .ok (.slice (some ⟨W.heap.size, 0, none⟩) n n) (mkW n W) := by
  unfold mkW; rw [dif_pos h]; exact (mk_ints W 0 n (Nat.zero_le _) h).choose_spec.1
theorem mkW_own (n : Nat) (h : n ≤ 1000) (W : World) (base : Nat) (hb : base ≤ W.heap.size) : (mkW n W).ownsRow base 3 1 (.slice (some ⟨W.heap.size, 0, none⟩) n n) n (ivs (List.replicate n 0)) := by
  have k := (mk_ints W 0 n (Nat.zero_le _) h).choose_spec.2.1
  unfold mkW; rw [dif_pos h]
  refine ⟨k.1, ?_⟩
  rcases k.2 with ⟨h', _⟩ | ⟨g', cap', cur, h', h0, hg⟩
  · simp at h'
  · refine .inr ⟨g', cap', cur, h', ?_, hg⟩
    simp only [Value.slice.injEq, Option.some.injEq, Addr.mk.injEq, and_true, true_and] at h'
    omega
theorem mkW_bel (n : Nat) (h : n ≤ 1000) (W : World) : Below W.heap.size W (mkW n W) := by
  have k := (mk_ints W 0 n (Nat.zero_le _) h).choose_spec.2.2
  unfold mkW; rw [dif_pos h]
  exact (Below.refl _ _).grown k (Nat.le_refl _) (by simp)
theorem mkW_all (n : Nat) (W : World) : Below W.heap.size W (mkW n W) := by
  by_cases h : n ≤ 1000
  · exact mkW_bel n h W
  · unfold mkW; rw [dif_neg h]; exact Below.refl _ _
theorem mkW_cell (n : Nat) (W : World) (b o : Nat) (h : b < W.heap.size) : (mkW n W).cell? ⟨b, o, none⟩ = W.cell? ⟨b, o, none⟩ := (mkW_all n W).cell (p := ⟨b, o, none⟩) h
theorem mkW_fz (n : Nat) (W : World) (b o : Nat) (h : b < W.heap.size) : (mkW n W).frozen? ⟨b, o, none⟩ = W.frozen? ⟨b, o, none⟩ := World.frozen?_of_block (w := W) ((mkW_all n W).block b h)
theorem mkW_lt (n : Nat) (W : World) (k : Nat) (h : k < W.heap.size) : k < (mkW n W).heap.size := Nat.lt_of_lt_of_le h (mkW_all n W).size
def nil3 : Array Value := #[.slice none 0 0, .slice none 0 0, .slice none 0 0]
def mkN : Nat → Nat
  | 0 => 256
  | 1 => 259
  | _ => 30
theorem mkN_le (i : Nat) : mkN i ≤ 1000 := by unfold mkN; split <;> omega
/-- What stands at number i. -/
def Item (b : Nat) (X : World) (i g : Nat) : Prop :=
  if i = 3 then b ≤ g ∧ g < X.heap.size ∧ X.heap[g]? = some (.cells nil3 55 (0, 0))
  else g < X.heap.size ∧ X.ownsRow b 3 1 (.slice (some ⟨g, 0, none⟩) (mkN i) (mkN i)) (mkN i) (ivs (List.replicate (mkN i) 0))
theorem Item.mono {b : Nat} {X Y : World} {i g : Nat} (h : Item b X i g) (hb : Below X.heap.size X Y) : Item b Y i g := by
  unfold Item at h ⊢
  by_cases h3 : i = 3
  · rw [if_pos h3] at h ⊢
    exact ⟨h.1, Nat.lt_of_lt_of_le h.2.1 hb.size, (hb.block g h.2.1).trans h.2.2⟩
  · rw [if_neg h3] at h ⊢
    exact ⟨Nat.lt_of_lt_of_le h.1 hb.size, own_below h.2 hb⟩
theorem Item.lt {b : Nat} {X : World} {i g : Nat} (h : Item b X i g) : g < X.heap.size := by
  unfold Item at h
  by_cases h3 : i = 3
  · rw [if_pos h3] at h; exact h.2.1
  · rw [if_neg h3] at h; exact h.1
def up (f : Nat → Option Nat) (i g : Nat) : Nat → Option Nat := fun j => if j = i then some g else f j
def Po (w0 X : World) (f : Nat → Option Nat) : Prop :=
  Below w0.heap.size w0 X ∧ (∀ i g, f i = some g → Item w0.heap.size X i g) ∧ ∀ i j g, f i = some g → f j = some g → i = j
theorem Po.start (w : World) : Po w w.drew (fun _ => none) := ⟨Below.drew (Below.refl _ _), fun _ _ h => by simp at h, fun _ _ _ h => by simp at h⟩
theorem Po.add {w0 X Y : World} {f : Nat → Option Nat} (h : Po w0 X f) (i : Nat) (hb : Below X.heap.size X Y) (hi : Item w0.heap.size Y i X.heap.size) : Po w0 Y (up f i X.heap.size) := by
  refine ⟨below_then h.1 hb, fun j g hj => ?_, fun j k g hj hk => ?_⟩
  · unfold up at hj
    by_cases e : j = i
    · rw [if_pos e] at hj; cases hj; subst e; exact hi
    · rw [if_neg e] at hj; exact (h.2.1 j g hj).mono hb
  · unfold up at hj hk
    by_cases e : j = i
    · rw [if_pos e] at hj; cases hj
      by_cases e2 : k = i
      · omega
      · rw [if_neg e2] at hk
        have := (h.2.1 k _ hk).lt
        omega
    · rw [if_neg e] at hj
      by_cases e2 : k = i
      · rw [if_pos e2] at hk; cases hk
        have := (h.2.1 j _ hj).lt
        omega
      · rw [if_neg e2] at hk
        exact h.2.2 j k g hj hk
theorem Po.mk {w0 X : World} {f : Nat → Option Nat} (h : Po w0 X f) (i : Nat) (hi : i ≠ 3) : Po w0 (mkW (mkN i) X) (up f i X.heap.size) := by
  refine h.add i (mkW_bel _ (mkN_le i) X) ?_
  unfold Item; rw [if_neg hi]
  have o := mkW_own (mkN i) (mkN_le i) X w0.heap.size h.1.size
  exact ⟨(o.lt X.heap.size rfl).2, o⟩
theorem Po.mk0 {w0 X : World} {f : Nat → Option Nat} (h : Po w0 X f) : Po w0 (mkW 256 X) (up f 0 X.heap.size) := h.mk 0 (by decide)
theorem Po.mk1 {w0 X : World} {f : Nat → Option Nat} (h : Po w0 X f) : Po w0 (mkW 259 X) (up f 1 X.heap.size) := h.mk 1 (by decide)
theorem Po.mk2 {w0 X : World} {f : Nat → Option Nat} (h : Po w0 X f) : Po w0 (mkW 30 X) (up f 2 X.heap.size) := h.mk 2 (by decide)
theorem Po.box {w0 X : World} {f : Nat → Option Nat} (h : Po w0 X f) : Po w0 (X.alloc (.cells #[.slice none 0 0, .slice none 0 0, .slice none 0 0] 55)) (up f 3 X.heap.size) := by
  refine h.add 3 (below_alloc X _) ?_
  unfold Item; rw [if_pos rfl]
  exact ⟨h.1.size, by simp, heap_alloc_last X _⟩
theorem bxRow (Z : World) : (Z.alloc (.cells #[.slice none 0 0, .slice none 0 0, .slice none 0 0] 55)).heap[Z.heap.size]? = some (.cells nil3 55 (0, 0)) := heap_alloc_last Z _
theorem rowMk {X : World} {g n : Nat} {ob : Obj} (h : X.heap[g]? = some ob) : (mkW n X).heap[g]? = some ob := ((mkW_all n X).block g (Array.getElem?_eq_some_iff.1 h).1).trans h
theorem bxCell {X : World} {g k : Nat} (h : X.heap[g]? = some (.cells nil3 55 (0, 0))) (hk : k < 3) : X.cell? ⟨g, k, none⟩ = some (.slice none 0 0) := by
  rw [cell_of_row _ _ _ _ _ (0, 0) h]
  match k, hk with
  | 0, _ => rfl
  | 1, _ => rfl
  | 2, _ => rfl
theorem bx0 (a b c : Nat) (Z : World) (k : Nat) (hk : k < 3) : (mkW a (mkW b (mkW c (Z.alloc (.cells #[.slice none 0 0, .slice none 0 0, .slice none 0 0] 55)).drew))).cell? ⟨Z.heap.size, k, none⟩ = some (.slice none 0 0) := bxCell (rowMk (rowMk (rowMk (bxRow Z)))) hk
theorem bz0 (a b c : Nat) (Z : World) (k : Nat) : (mkW a (mkW b (mkW c (Z.alloc (.cells #[.slice none 0 0, .slice none 0 0, .slice none 0 0] 55)).drew))).frozen? ⟨Z.heap.size, k, none⟩ = false := frozen_of_row _ _ _ _ _ (rowMk (rowMk (rowMk (bxRow Z))))
theorem bx1 (a b : Nat) (Z : World) (k : Nat) (hk : k < 3) : (mkW a (mkW b (Z.alloc (.cells #[.slice none 0 0, .slice none 0 0, .slice none 0 0] 55)))).cell? ⟨Z.heap.size, k, none⟩ = some (.slice none 0 0) := bxCell (rowMk (rowMk (bxRow Z))) hk
theorem bz1 (a b : Nat) (Z : World) (k : Nat) : (mkW a (mkW b (Z.alloc (.cells #[.slice none 0 0, .slice none 0 0, .slice none 0 0] 55)))).frozen? ⟨Z.heap.size, k, none⟩ = false := frozen_of_row _ _ _ _ _ (rowMk (rowMk (bxRow Z)))
theorem bx2 (a : Nat) (Z : World) (k : Nat) (hk : k < 3) : (mkW a (Z.alloc (.cells #[.slice none 0 0, .slice none 0 0, .slice none 0 0] 55))).cell? ⟨Z.heap.size, k, none⟩ = some (.slice none 0 0) := bxCell (rowMk (bxRow Z)) hk
theorem bz2 (a : Nat) (Z : World) (k : Nat) : (mkW a (Z.alloc (.cells #[.slice none 0 0, .slice none 0 0, .slice none 0 0] 55))).frozen? ⟨Z.heap.size, k, none⟩ = false := frozen_of_row _ _ _ _ _ (rowMk (bxRow Z))
/-- The three slices and the box that holds them. -/
structure Pd (w0 w : World) (g1 g2 g3 ob : Nat) (A B C : List Int) : Prop where
  own1 : w.ownsRow w0.heap.size 3 1 (.slice (some ⟨g1, 0, none⟩) 256 256) 256 (ivs A)
  own2 : w.ownsRow w0.heap.size 3 1 (.slice (some ⟨g2, 0, none⟩) 259 259) 259 (ivs B)
  own3 : w.ownsRow w0.heap.size 3 1 (.slice (some ⟨g3, 0, none⟩) 30 30) 30 (ivs C)
  row : w.heap[ob]? = some (.cells #[.slice (some ⟨g1, 0, none⟩) 256 256, .slice (some ⟨g2, 0, none⟩) 259 259, .slice (some ⟨g3, 0, none⟩) 30 30] 55 (0, 0))
  ge : w0.heap.size ≤ ob
  n12 : g1 ≠ g2
  n13 : g1 ≠ g3
  n23 : g2 ≠ g3
  o1 : ob ≠ g1
  o2 : ob ≠ g2
  o3 : ob ≠ g3
  bel : Below w0.heap.size w0 w
theorem Po.start2 (w : World) : Po w ((w.alloc (.cells #[.slice none 0 0, .slice none 0 0, .slice none 0 0] 55)).drew) (up (fun _ => none) 3 w.heap.size) := by
  have h : Po w w (fun _ => none) := ⟨Below.refl _ _, fun _ _ h => by simp at h, fun _ _ _ h => by simp at h⟩
  have k := h.box
  exact ⟨Below.drew k.1, fun i g hi => (k.2.1 i g hi).mono (Below.drew (Below.refl _ _)), k.2.2⟩
theorem Po.own {w0 X : World} {f : Nat → Option Nat} (h : Po w0 X f) (i g : Nat) (hi : i ≠ 3) (hf : f i = some g) : X.ownsRow w0.heap.size 3 1 (.slice (some ⟨g, 0, none⟩) (mkN i) (mkN i)) (mkN i) (ivs (List.replicate (mkN i) 0)) := by
  have k := h.2.1 i g hf
  unfold Item at k
  rw [if_neg hi] at k
  exact k.2
theorem Po.lt {w0 X : World} {f : Nat → Option Nat} (h : Po w0 X f) (i g : Nat) (hf : f i = some g) : g < X.heap.size := (h.2.1 i g hf).lt
theorem Po.ne {w0 X : World} {f : Nat → Option Nat} (h : Po w0 X f) {i j g k : Nat} (hf : f i = some g) (hk : f j = some k) (hij : i ≠ j) : g ≠ k := fun e => hij (h.2.2 i j g hf (e ▸ hk))
theorem Po.finA {w0 X : World} {f : Nat → Option Nat} {h1 h2 h3 : Nat} (h : Po w0 X f) (f1 : f 0 = some h1) (f2 : f 1 = some h2) (f3 : f 2 = some h3) : Pd w0 (X.alloc (.cells #[(.slice (some ⟨h1, 0, none⟩) 256 256), (.slice (some ⟨h2, 0, none⟩) 259 259), (.slice (some ⟨h3, 0, none⟩) 30 30)] 55)) h1 h2 h3 X.heap.size (List.replicate 256 0) (List.replicate 259 0) (List.replicate 30 0) :=
  have hb := below_alloc X (.cells #[(.slice (some ⟨h1, 0, none⟩) 256 256), (.slice (some ⟨h2, 0, none⟩) 259 259), (.slice (some ⟨h3, 0, none⟩) 30 30)] 55)
  ⟨own_below (h.own 0 h1 (by decide) f1) hb, own_below (h.own 1 h2 (by decide) f2) hb, own_below (h.own 2 h3 (by decide) f3) hb, heap_alloc_last X _, h.1.size, h.ne f1 f2 (by decide), h.ne f1 f3 (by decide), h.ne f2 f3 (by decide), Nat.ne_of_gt (h.lt 0 h1 f1), Nat.ne_of_gt (h.lt 1 h2 f2), Nat.ne_of_gt (h.lt 2 h3 f3), below_then h.1 hb⟩
theorem Po.finS {w0 X : World} {f : Nat → Option Nat} {h1 h2 h3 ob : Nat} (h : Po w0 X f) (f1 : f 0 = some h1) (f2 : f 1 = some h2) (f3 : f 2 = some h3) (f4 : f 3 = some ob) :
    Pd w0 (((X.setCell ⟨ob, 0, none⟩ (.slice (some ⟨h1, 0, none⟩) 256 256)).setCell ⟨ob, 1, none⟩ (.slice (some ⟨h2, 0, none⟩) 259 259)).setCell ⟨ob, 2, none⟩ (.slice (some ⟨h3, 0, none⟩) 30 30)) h1 h2 h3 ob (List.replicate 256 0) (List.replicate 259 0) (List.replicate 30 0) := by
  have k := h.2.1 3 ob f4
  unfold Item at k
  rw [if_pos rfl] at k
  have n1 := h.ne f4 f1 (by decide)
  have n2 := h.ne f4 f2 (by decide)
  have n3 := h.ne f4 f3 (by decide)
  have ot : ∀ {Y : World} {g n : Nat} {xs : List Value} (j : Nat) (z : Value), ob ≠ g → Y.ownsRow w0.heap.size 3 1 (.slice (some ⟨g, 0, none⟩) n n) n xs → (Y.setCell ⟨ob, j, none⟩ z).ownsRow w0.heap.size 3 1 (.slice (some ⟨g, 0, none⟩) n n) n xs := fun j z hn ho => Pa.own_ot ho (fun b hb => by simp [Value.ownBlock] at hb; rw [← hb]; exact fun e => hn e.symm)
  refine ⟨ot _ _ n1 (ot _ _ n1 (ot _ _ n1 (h.own 0 h1 (by decide) f1))), ot _ _ n2 (ot _ _ n2 (ot _ _ n2 (h.own 1 h2 (by decide) f2))), ot _ _ n3 (ot _ _ n3 (ot _ _ n3 (h.own 2 h3 (by decide) f3))), ?_, k.1, h.ne f1 f2 (by decide), h.ne f1 f3 (by decide), h.ne f2 f3 (by decide), n1, n2, n3, ?_⟩
  · have e0 := heap_setCell_same X ob 0 _ _ (.slice (some ⟨h1, 0, none⟩) 256 256) k.2.2
    have e1 := heap_setCell_same _ ob 1 _ _ (.slice (some ⟨h2, 0, none⟩) 259 259) e0
    have e2 := heap_setCell_same _ ob 2 _ _ (.slice (some ⟨h3, 0, none⟩) 30 30) e1
    rw [e2]
    rfl
  · exact ((h.1.setCell (p := ⟨ob, 0, none⟩) k.1 _).setCell (p := ⟨ob, 1, none⟩) k.1 _).setCell (p := ⟨ob, 2, none⟩) k.1 _
theorem Pd.mono {w0 w w' : World} {g1 g2 g3 ob : Nat} {A B C : List Int} (h : Pd w0 w g1 g2 g3 ob A B C) (hb : Below w.heap.size w w') : Pd w0 w' g1 g2 g3 ob A B C :=
  ⟨own_below h.own1 hb, own_below h.own2 hb, own_below h.own3 hb, (hb.block ob (Array.getElem?_eq_some_iff.1 h.row).1).trans h.row, h.ge, h.n12, h.n13, h.n23, h.o1, h.o2, h.o3, below_then h.bel hb⟩
theorem blk_ne {g k : Nat} {n : Nat} (h : g ≠ k) : ∀ b, (Value.slice (some ⟨g, 0, none⟩) n n).ownBlock = some b → b ≠ k := fun b hb => by simp [Value.ownBlock] at hb; rw [← hb]; exact h
theorem row_ot {w : World} {ob g j : Nat} {o : Obj} {z : Value} (h : w.heap[ob]? = some o) (hn : ob ≠ g) : (w.setCell ⟨g, j, none⟩ z).heap[ob]? = some o := (((Ch.refl w (fun k => k = g)).set (p := ⟨g, j, none⟩) (.inl rfl) z).block ob (Array.getElem?_eq_some_iff.1 h).1 hn).trans h
theorem Pd.set1 {w0 w : World} {g1 g2 g3 ob : Nat} {A B C : List Int} (h : Pd w0 w g1 g2 g3 ob A B C) (j : Nat) (z : Int) : Pd w0 (w.setCell ⟨g1, j, none⟩ (.int .i64 z)) g1 g2 g3 ob (A.set j z) B C :=
  ⟨own_set h.own1 j z, Pa.own_ot h.own2 (blk_ne h.n12.symm), Pa.own_ot h.own3 (blk_ne h.n13.symm), row_ot h.row h.o1, h.ge, h.n12, h.n13, h.n23, h.o1, h.o2, h.o3, h.bel.setCell (p := ⟨g1, j, none⟩) (h.own1.lt g1 rfl).1 _⟩
theorem Pd.set2 {w0 w : World} {g1 g2 g3 ob : Nat} {A B C : List Int} (h : Pd w0 w g1 g2 g3 ob A B C) (j : Nat) (z : Int) : Pd w0 (w.setCell ⟨g2, j, none⟩ (.int .i64 z)) g1 g2 g3 ob A (B.set j z) C :=
  ⟨Pa.own_ot h.own1 (blk_ne h.n12), own_set h.own2 j z, Pa.own_ot h.own3 (blk_ne h.n23.symm), row_ot h.row h.o2, h.ge, h.n12, h.n13, h.n23, h.o1, h.o2, h.o3, h.bel.setCell (p := ⟨g2, j, none⟩) (h.own2.lt g2 rfl).1 _⟩
theorem Pd.set3 {w0 w : World} {g1 g2 g3 ob : Nat} {A B C : List Int} (h : Pd w0 w g1 g2 g3 ob A B C) (j : Nat) (z : Int) : Pd w0 (w.setCell ⟨g3, j, none⟩ (.int .i64 z)) g1 g2 g3 ob A B (C.set j z) :=
  ⟨Pa.own_ot h.own1 (blk_ne h.n13), Pa.own_ot h.own2 (blk_ne h.n23), own_set h.own3 j z, row_ot h.row h.o3, h.ge, h.n12, h.n13, h.n23, h.o1, h.o2, h.o3, h.bel.setCell (p := ⟨g3, j, none⟩) (h.own3.lt g3 rfl).1 _⟩
theorem ownc {w : World} {b g n : Nat} {l : List Int} (h : w.ownsRow b 3 1 (.slice (some ⟨g, 0, none⟩) n n) n (ivs l)) (j : Nat) (hj : j < n) : w.cell? ⟨g, j, none⟩ = some (.int .i64 (l.getD j 0)) := by
  have hl : l.length = n := by have := h.1; rw [ivs_length] at this; omega
  rw [h.cellAt j (by omega), ivs_get l j (by omega)]
/-- The first j of n numbers. -/
def fil (f : Nat → Int) (n j : Nat) : List Int := (List.range n).map fun i => if i < j then f i else 0
theorem fil_zero (f : Nat → Int) (n : Nat) : fil f n 0 = List.replicate n 0 := by
  unfold fil
  apply List.ext_getElem (by simp)
  intro i h1 h2
  simp
theorem fil_end (f : Nat → Int) (n : Nat) : fil f n n = (List.range n).map f := by
  unfold fil
  refine List.map_congr_left fun i hi => ?_
  rw [if_pos (List.mem_range.1 hi)]
theorem fil_next (f : Nat → Int) (n j : Nat) : (fil f n j).set j (f j) = fil f n (j + 1) := by
  unfold fil
  apply List.ext_getElem (by simp)
  intro i h1 h2
  rw [List.getElem_set]
  simp only [List.getElem_map, List.getElem_range]
  by_cases e : j = i
  · subst e; rw [if_pos rfl, if_pos (by omega)]
  · rw [if_neg e]
    by_cases e2 : i < j
    · rw [if_pos e2, if_pos (by omega)]
    · rw [if_neg e2, if_neg (by omega)]
theorem fil_same (f : Nat → Int) (n j : Nat) (h : f j = 0) : fil f n (j + 1) = fil f n j := by
  unfold fil
  refine List.map_congr_left fun i _ => ?_
  by_cases e : i < j
  · rw [if_pos e, if_pos (by omega)]
  · rw [if_neg e]
    by_cases e2 : i < j + 1
    · rw [if_pos e2]
      obtain rfl : i = j := by omega
      exact h
    · rw [if_neg e2]
theorem own_base' {w : World} {b c : Nat} {e : TypeId} {size : Nat} {v : Value} {n : Nat} {xs : List Value} (h : w.ownsRow c e size v n xs) (hb : b ≤ c) : w.ownsRow b e size v n xs :=
  ⟨h.1, h.2.imp id fun ⟨g, cap, cur, h1, h2, h3⟩ => ⟨g, cap, cur, h1, Nat.le_trans hb h2, h3⟩⟩
def pr3 (g1 g2 g3 : Nat) : Array Value := #[.slice (some ⟨g1, 0, none⟩) 256 256, .slice (some ⟨g2, 0, none⟩) 259 259, .slice (some ⟨g3, 0, none⟩) 30 30]
theorem res_pr (fn : Func) (hf : fn.results = #[.cell 2 55, .tmp 3]) (tmps : Array Value) (W : World) (g g1 g2 g3 : Nat) (u : Value) (hp : tmps.getD 2 undef = .pointer (some ⟨g, 0, none⟩)) (hu : tmps.getD 3 undef = u) (h : W.heap[g]? = some (.cells (pr3 g1 g2 g3) 55 (0, 0))) : (results fn tmps).run Tryz.prog W = .ok (.tuple #[.agg (pr3 g1 g2 g3), u]) W := by
  have hl : (loadVar 55 ⟨g, 0, none⟩).run Tryz.prog W = .ok (.agg (pr3 g1 g2 g3)) W := run_loadVar_row W g 55 55 (pr3 g1 g2 g3) (0, 0) _ h Tryz.underlying55 rfl (by kernel_rfl)
  refine (results_cell_tmp (p := 2) (u := 3) (ty := 55) hf tmps Tryz.prog W).trans ?_
  rw [hp, hu]
  simp [asAddr, hl, Result.andThen]
/-- What Prices answers. -/
def PrPost (w : World) (A B C : List Int) (e : Ending) (w' : World) : Prop :=
  ∃ g1 g2 g3, e = .returned (.tuple #[.agg (pr3 g1 g2 g3), .nilIface]) ∧ (w'.ownsRow w.heap.size 3 1 (.slice (some ⟨g1, 0, none⟩) 256 256) 256 (ivs A) ∧ w'.ownsRow w.heap.size 3 1 (.slice (some ⟨g2, 0, none⟩) 259 259) 259 (ivs B) ∧ w'.ownsRow w.heap.size 3 1 (.slice (some ⟨g3, 0, none⟩) 30 30) 30 (ivs C)) ∧ (g1 ≠ g2 ∧ g1 ≠ g3 ∧ g2 ≠ g3) ∧ Below w.heap.size w w'
theorem Pd.toPost {w w3 X : World} {g1 g2 g3 ob : Nat} {A B C : List Int} (h : Pd w3 X g1 g2 g3 ob A B C) (hb : Below w.heap.size w w3) (hlt : w.heap.size < w3.heap.size) (hr : w3.heap[w.heap.size]? = some (.cells nil3 55 (0, 0))) :
    let Y := ((X.setCell ⟨w.heap.size, 0, none⟩ (.slice (some ⟨g1, 0, none⟩) 256 256)).setCell ⟨w.heap.size, 1, none⟩ (.slice (some ⟨g2, 0, none⟩) 259 259)).setCell ⟨w.heap.size, 2, none⟩ (.slice (some ⟨g3, 0, none⟩) 30 30)
    Y.heap[w.heap.size]? = some (.cells (pr3 g1 g2 g3) 55 (0, 0)) ∧ PrPost w A B C (.returned (.tuple #[.agg (pr3 g1 g2 g3), .nilIface])) Y := by
  intro Y
  have hrX := (h.bel.block w.heap.size hlt).trans hr
  have e0 := heap_setCell_same X w.heap.size 0 _ _ (.slice (some ⟨g1, 0, none⟩) 256 256) hrX
  have e1 := heap_setCell_same _ w.heap.size 1 _ _ (.slice (some ⟨g2, 0, none⟩) 259 259) e0
  have e2 := heap_setCell_same _ w.heap.size 2 _ _ (.slice (some ⟨g3, 0, none⟩) 30 30) e1
  have ot : ∀ {Z : World} {g n : Nat} {xs : List Value} (j : Nat) (z : Value), w3.heap.size ≤ g → Z.ownsRow w3.heap.size 3 1 (.slice (some ⟨g, 0, none⟩) n n) n xs → (Z.setCell ⟨w.heap.size, j, none⟩ z).ownsRow w3.heap.size 3 1 (.slice (some ⟨g, 0, none⟩) n n) n xs := fun j z hn ho => Pa.own_ot ho (blk_ne (by omega))
  have l1 := (h.own1.lt g1 rfl).1
  have l2 := (h.own2.lt g2 rfl).1
  have l3 := (h.own3.lt g3 rfl).1
  refine ⟨e2.trans rfl, g1, g2, g3, rfl, ⟨own_base' (ot _ _ l1 (ot _ _ l1 (ot _ _ l1 h.own1))) hb.size, own_base' (ot _ _ l2 (ot _ _ l2 (ot _ _ l2 h.own2))) hb.size, own_base' (ot _ _ l3 (ot _ _ l3 (ot _ _ l3 h.own3))) hb.size⟩, ⟨h.n12, h.n13, h.n23⟩, ?_⟩
  exact (((below_then hb h.bel).setCell (p := ⟨w.heap.size, 0, none⟩) (Nat.le_refl _) _).setCell (p := ⟨w.heap.size, 1, none⟩) (Nat.le_refl _) _).setCell (p := ⟨w.heap.size, 2, none⟩) (Nat.le_refl _) _
end Bc
end Go.Proofs.YtjjbgdmalefdlaaGreatDoor
end
