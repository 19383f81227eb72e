/- For all tokens (of more than 300 nothing is asked): what they cost in a block of kind 2 of these ones comes of best lengths, and tokens that aren't good are refused. The variable ownOrder holds what the text lays. No conditions. -/
import Derived.Test.YtjjbgdmalefdlaaGreatDoorCards
import Derived.Test.YtjjbgdmalefdlaaGreatDoorTie
import Derived.ProofKit
import Derived.Handy
import Derived.Lay
import Derived.SevenTiedAt
import Derived.Test.YtjjbgdmalefdlaaGreatDoorRows
import Derived.Test.YtjjbgdmalefdlaaGreatDoorZ2
import Derived.Test.YtjjbgdmalefdlaaGreatDoorZ8
import Derived.Test.YtjjbgdmalefdlaaGreatDoorZ9
import Derived.Test.YtjjbgdmalefdlaaGreatDoorZ11
import Derived.Test.YtjjbgdmalefdlaaGreatDoorZ12
import Derived.Test.YtjjbgdmalefdlaaGreatDoorZ15
import Derived.Test.YtjjbgdmalefdlaaGreatDoorZ17
import Derived.Test.YtjjbgdmalefdlaaGreatDoorZ18
import Derived.Test.YtjjbgdmalefdlaaGreatDoorZ53
set_option linter.unusedSimpArgs false
set_option linter.unusedVariables false
namespace Go.Proofs.YtjjbgdmalefdlaaGreatDoor.BlockPrices
open Go.ChangeShapes Go.WideShapes Go.ChangeAt Go.RowKit
open Go.ChangeMaps (open_string shut_string)
set_option linter.unusedVariables false
theorem own : ownKnob Tryz.prog.godebug = none := by kernel_rfl
theorem laidOut : laidOutB Tryz.prog = true := by kernel_rfl
open Bc
open Go.Maps
open Go.Maps in
theorem cc_eq {D : DataW Unit} {k : Lit} {z : DataW Unit} {a b : Int} (h : D.atKey k z = .lit (.int .i64 a)) (h2 : D.atKey k z = .lit (.int .i64 b)) : a = b := by
  rw [h] at h2
  simpa using h2
theorem lit_small {a : Int} (h : 0 ≤ a) (h2 : a ≤ 1000000) : (Lit.int .i64 a).wf = true := by
  simp only [Lit.wf, IntKind.min, IntKind.max, IntKind.signed, IntKind.bits, Bool.and_eq_true, decide_eq_true_eq, if_true]
  simp; omega
theorem rise_most (l : List Int) (b : Int) (h : ∀ k, k < l.length → l.getD k 0 ≤ b) : ∀ x ∈ Mg.rise l, 0 ≤ x ∧ x ≤ b := fun x hx => by
  refine ⟨Mg.rise_Pos l x hx, ?_⟩
  unfold Mg.rise at hx
  obtain ⟨i, hi, rfl⟩ := List.mem_map.1 hx
  exact h i (Mg.order_lt l i hi)
theorem w_small {a : Int} (h : 0 ≤ a) (h2 : a ≤ 1000000000000) : wrap64 a = a := IntWalk.wrap64_in _ ⟨by omega, by omega⟩
set_option maxRecDepth 100000 in
set_option maxHeartbeats 100000000 in
theorem yes_any (a : Option Addr) (len cap : Nat) (ts : List Tok) (w : World) (h : Ts2 w a len cap ts) (hr : cap * 16 ≤ 140737488351232) (hoo : Bc.Oo w) (hz : 0 < w.heap.size) (hall : ts.all Tk.isTok = true) :
    Calls Tryz.prog 6 #[.slice a len cap] w fun e w' => e = .returned (.bool true) ∧ Below w.heap.size w w' := by
  have hle := h.hle
  have H := Lib.hid h
  have HLN := Lib.hid h.hlen
  have HAL := Lib.hid (alive10_any w hoo hz)
  have HAT : Hid (∀ k, k < ts.length → Tk.isTok (ts.getD k (0, 0)) = true) := Lib.hid (fun k hk => by
    have e : ts.getD k (0, 0) = ts[k] := by simp [List.getD, List.getElem?_eq_getElem hk]
    rw [e]
    exact List.all_eq_true.1 hall _ (List.getElem_mem hk))
  have HALL := Lib.hid hall
  clear h hoo hz hall
  go_enter Tryz.func6, Tryz.ntmps6
  go_wp2_with fail
  refine HAL.out.mono ?_
  rintro e w1 ⟨rfl, hb1⟩
  have HB1 := Lib.hid hb1
  have H1 := Lib.hid (H.out.mono hb1)
  clear hb1 H HAL
  by_cases hbig : 300 < len
  · have d1 : decide ((300 : Int) < (len : Int)) = true := by simp; omega
    clear hbig
    go_wp2
    go_ret
    exact ⟨rfl, HB1.out⟩
  have d1 : decide ((300 : Int) < (len : Int)) = false := by simp; omega
  have hlen : len ≤ 300 := by omega
  clear hbig
  go_wp2_with fail
  refine (prices_yes a len cap ts w1 H1.out (by omega) HALL.out).mono ?_
  rintro e w2 ⟨p1, p2, p3, rfl, hown, hne, hb2⟩
  unfold pr3
  have hbx := below_alloc w2 (.cells #[.slice (some ⟨p1, 0, none⟩) 256 256, .slice (some ⟨p2, 0, none⟩) 259 259, .slice (some ⟨p3, 0, none⟩) 30 30] 55)
  have hrow := heap_alloc_last w2 (.cells #[.slice (some ⟨p1, 0, none⟩) 256 256, .slice (some ⟨p2, 0, none⟩) 259 259, .slice (some ⟨p3, 0, none⟩) 30 30] 55)
  have HB3 := Lib.hid (below_then (below_then HB1.out hb2) hbx)
  have H3 := Lib.hid (H1.out.mono (below_then hb2 hbx))
  have HO1 := Lib.hid (own_below hown.1 hbx)
  have HO2 := Lib.hid (own_below hown.2.1 hbx)
  have HO3 := Lib.hid (own_below hown.2.2 hbx)
  have HPX := Lib.hid hrow
  clear hown hbx hrow hb2 hne H1 HB1
  go_wp2_with fail
  revert HB3 H3 HO1 HO2 HO3 HPX
  generalize w2.alloc (.cells #[.slice (some ⟨p1, 0, none⟩) 256 256, .slice (some ⟨p2, 0, none⟩) 259 259, .slice (some ⟨p3, 0, none⟩) 30 30] 55) = w3
  generalize w2.heap.size = pb
  intro HB3 H3 HO1 HO2 HO3 HPX
  obtain ⟨w4, m1, o1, q1⟩ := mk_ints w3.drew w3.heap.size 286 (Nat.le_refl _) (by omega)
  have b1 : Below w3.heap.size w3 w4 := (Below.drew (Below.refl w3.heap.size w3)).grown q1 (Nat.le_refl _) (by simp)
  obtain ⟨w5, m2, o2, q2⟩ := mk_ints w4 w3.heap.size 30 b1.size (by omega)
  have b2 : Below w4.heap.size w4 w5 := (Below.refl _ _).grown q2 (Nat.le_refl _) (by simp)
  have n1 : (Instr.makeSlice 53 (.int .i64 286) (.int .i64 286)).run Tryz.prog w3.drew = .ok (.slice (some ⟨w3.heap.size, 0, none⟩) 286 286) w4 := m1
  have n2 : (Instr.makeSlice 53 (.int .i64 30) (.int .i64 30)).run Tryz.prog w4 = .ok (.slice (some ⟨w4.heap.size, 0, none⟩) 30 30) w5 := m2
  have HCA : Hid (Pa.Cn w3 w5 w3.heap.size w4.heap.size (List.replicate 286 0) (List.replicate 30 0)) := Lib.hid ⟨own_below o1 b2, o2, by have := (o1.lt w3.heap.size rfl).2; omega, below_then b1 b2⟩
  clear m1 m2 o1 o2 q1 q2 b1 b2
  obtain ⟨w6, m1, o1, q1⟩ := mk_ints w3.drew w3.heap.size 30 (Nat.le_refl _) (by omega)
  have b1 : Below w3.heap.size w3 w6 := (Below.drew (Below.refl w3.heap.size w3)).grown q1 (Nat.le_refl _) (by simp)
  obtain ⟨w7, m2, o2, q2⟩ := mk_ints w6 w3.heap.size 286 b1.size (by omega)
  have b2 : Below w6.heap.size w6 w7 := (Below.refl _ _).grown q2 (Nat.le_refl _) (by simp)
  have n3 : (Instr.makeSlice 53 (.int .i64 30) (.int .i64 30)).run Tryz.prog w3.drew = .ok (.slice (some ⟨w3.heap.size, 0, none⟩) 30 30) w6 := m1
  have n4 : (Instr.makeSlice 53 (.int .i64 286) (.int .i64 286)).run Tryz.prog w6 = .ok (.slice (some ⟨w6.heap.size, 0, none⟩) 286 286) w7 := m2
  have HCB : Hid (Pa.Cn w3 w7 w6.heap.size w3.heap.size (List.replicate 286 0) (List.replicate 30 0)) := Lib.hid ⟨o2, own_below o1 b2, by have := (o1.lt w3.heap.size rfl).2; omega, below_then b1 b2⟩
  clear m1 m2 o1 o2 q1 q2 b1 b2
  go_wp2
  go_region
  · clear n1 n2 n3 n4 HCB
    revert HCA
    generalize w4.heap.size = h2
    generalize w3.heap.size = h1
    generalize w5 = W
    intro HC
    have hc0 := HC.out.c1 256 (by omega)
    have hf0 := Pa.own_fz HC.out.own1 256
    have HC0 : Hid (Pa.Cn w3 (W.setCell ⟨h1, 256, none⟩ (.int .i64 1)) h1 h2 (Pa.cts ts 0).1 (Pa.cts ts 0).2) := Lib.hid (HC.out.set1 256 1)
    clear HC
    go_wp2_with fail
    clear hc0 hf0
    revert HC0
    generalize W.setCell ⟨h1, 256, none⟩ (.int .i64 1) = W1
    intro HC0
    go_loopw [43] (fun i wr => ∃ k : Nat, k ≤ len ∧ i = .int .i64 ((k : Nat) : Int) ∧ Hid (Pa.Cn w3 wr h1 h2 (Pa.cts ts k).1 (Pa.cts ts k).2)) (fun i _ => len - (intOf i).toNat)
    case atStart => exact ⟨0, by omega, rfl, HC0⟩
    case round =>
      clear HC0
      obtain ⟨k, hk, rfl, HC⟩ := hrel
      by_cases hlt : k < len
      · obtain ⟨b, off, rfl, hbl, t0, t1⟩ := (H3.out.mono HC.out.bel).at' k hlt
        have hwf := H3.out.wf k hlt
        have hnx := Pa.cts_next ts k (by rw [HLN.out]; exact hlt)
        have hin := Pa.in_cts ts k (by rw [HLN.out]; exact hk)
        have hTK := HAT.out k (by rw [HLN.out]; exact hlt)
        generalize ts.getD k (0, 0) = t at *
        obtain ⟨x, y⟩ := t
        simp only at t0 t1 hwf
        have HTK := Lib.hid hTK
        clear hTK
        have hb5 := below_alloc wr (.cells #[.int .i64 x, .int .i64 y] 59)
        have hr5 : (wr.alloc (.cells #[.int .i64 x, .int .i64 y] 59)).heap[wr.heap.size]? = some (.cells #[.int .i64 x, .int .i64 y] 59 (0, 0)) := heap_alloc_last wr _
        have HS := Lib.hid (refGood06_any (x, y) (wr.alloc (.cells #[.int .i64 x, .int .i64 y] 59)) hwf)
        have HNX := Lib.hid hnx
        have HIN := Lib.hid hin
        have HC5 := Lib.hid (HC.out.mono hb5)
        have HG := Lib.hid (And.intro (HC.out.own1.lt h1 rfl).2 (HC.out.own2.lt h2 rfl).2)
        clear hnx hin hwf hb5 HC hbl
        simp only at HS
        go_wp2_with fail
        refine HS.out.mono ?_
        rintro e w6 ⟨rfl, hb6⟩
        have hr6 := (hb6.block wr.heap.size (by simp)).trans hr5
        have HC6 := Lib.hid (HC5.out.mono hb6)
        have HR6 := Lib.hid hr6
        have HTB : Hid (wr.heap.size < w6.heap.size) := Lib.hid (Array.getElem?_eq_some_iff.1 hr6).1
        have x0 : w6.cell? ⟨wr.heap.size, 0, none⟩ = some (.int .i64 x) := by rw [cell_of_row _ _ _ _ _ (0, 0) hr6]; rfl
        have y0 : w6.cell? ⟨wr.heap.size, 1, none⟩ = some (.int .i64 y) := by rw [cell_of_row _ _ _ _ _ (0, 0) hr6]; rfl
        clear hb6 hr6 hr5 HS HC5 t0 t1
        by_cases htok : Tk.isTok (x, y) = true
        · have htr := Tk.tok_range htok
          simp only at htr
          have HST : Hid (Pa.cts ts (k + 1) = if x = 0 then (Pa.bmp (Pa.cts ts k).1 y.toNat, (Pa.cts ts k).2) else (Pa.bmp (Pa.cts ts k).1 (257 + Sy.lsy x.toNat), Pa.bmp (Pa.cts ts k).2 (Sy.dsy y.toNat))) := Lib.hid (by rw [HNX.out]; unfold Pa.stC; rw [if_pos htok])
          rw [htok]
          clear htok HNX
          by_cases hx : x = 0
          · subst hx
            obtain ⟨j, rfl⟩ : ∃ j : Nat, y = (j : Int) := ⟨y.toNat, by omega⟩
            have hj : j < 286 := by omega
            have hcj := HC6.out.c1 j hj
            have hfj := Pa.own_fz HC6.out.own1 j
            have hvr := HIN.out.1.2 j
            have HC7 := Lib.hid (HC6.out.set1 j ((Pa.cts ts k).1.getD j 0 + 1))
            have HE : Hid (Pa.cts ts (k + 1) = ((Pa.cts ts k).1.set j ((Pa.cts ts k).1.getD j 0 + 1), (Pa.cts ts k).2)) := Lib.hid (by rw [HST.out, if_pos rfl, Int.toNat_natCast]; rfl)
            have dj : decide (j < 286) = true := by simp; omega
            clear HST HC6 HIN
            generalize (Pa.cts ts k).1.getD j 0 = z at *
            go_wp2
            go_roundw
            case rel => exact ⟨k + 1, by omega, by go_num, by rw [HE.out]; exact HC7⟩
            case measure => simp [intOf]; omega
          · obtain ⟨xn, rfl⟩ : ∃ xn : Nat, x = (xn : Int) := ⟨x.toNat, by omega⟩
            obtain ⟨yn, rfl⟩ : ∃ yn : Nat, y = (yn : Int) := ⟨y.toNat, by omega⟩
            have dx0 : ((xn : Int) == 0) = false := by simp; omega
            have HRL := Lib.hid (refLength_any xn w6 (by omega) (by omega))
            have HRD : Hid (∀ X, Calls Tryz.prog 26 #[.int .i64 (yn : Nat)] X fun e w' => e = .returned (.int .i64 ((Sy.dsy yn : Nat) : Int)) ∧ Below X.heap.size X w') := Lib.hid (fun X => refDist_any yn X (by omega) (by omega))
            have HST2 : Hid (Pa.cts ts (k + 1) = (Pa.bmp (Pa.cts ts k).1 (257 + Sy.lsy xn), Pa.bmp (Pa.cts ts k).2 (Sy.dsy yn))) := Lib.hid (by rw [HST.out, if_neg hx, Int.toNat_natCast, Int.toNat_natCast])
            have hj : 257 + Sy.lsy xn < 286 := by have := Sy.cnt_le Sy.lb 28 xn; unfold Sy.lsy; omega
            have hq : Sy.dsy yn < 30 := by have := Sy.cnt_le Sy.db 29 yn; unfold Sy.dsy; omega
            clear HST hx
            generalize 257 + Sy.lsy xn = j at *
            generalize Sy.dsy yn = q at *
            go_wp2_with fail
            refine HRL.out.mono ?_
            rintro e w7 ⟨rfl, hb7⟩
            have HC7 := Lib.hid (HC6.out.mono hb7)
            have hr7 := (hb7.block wr.heap.size HTB.out).trans HR6.out
            have hcj := HC7.out.c1 j hj
            have hfj := Pa.own_fz HC7.out.own1 j
            have hvr := HIN.out.1.2 j
            have hvq := HIN.out.2.2 q
            have HC8 := Lib.hid (HC7.out.set1 j ((Pa.cts ts k).1.getD j 0 + 1))
            have y7 : w7.cell? ⟨wr.heap.size, 1, none⟩ = some (.int .i64 (yn : Nat)) := by rw [cell_of_row _ _ _ _ _ (0, 0) hr7]; rfl
            have y8 : (w7.setCell ⟨h1, j, none⟩ (.int .i64 ((Pa.cts ts k).1.getD j 0 + 1))).cell? ⟨wr.heap.size, 1, none⟩ = some (.int .i64 (yn : Nat)) := by rw [cell_set_other (by have := HG.out.1; omega)]; exact y7
            have dj : decide (j < 286) = true := by simp; omega
            have dq : decide (q < 30) = true := by simp; omega
            have HE : Hid (Pa.cts ts (k + 1) = ((Pa.cts ts k).1.set j ((Pa.cts ts k).1.getD j 0 + 1), (Pa.cts ts k).2.set q ((Pa.cts ts k).2.getD q 0 + 1))) := Lib.hid (by rw [HST2.out]; rfl)
            have HDq : Hid (∀ X, Pa.Cn w3 X h1 h2 ((Pa.cts ts k).1.set j ((Pa.cts ts k).1.getD j 0 + 1)) (Pa.cts ts k).2 → X.cell? ⟨h2, q, none⟩ = some (.int .i64 ((Pa.cts ts k).2.getD q 0))) := Lib.hid (fun X h => h.c2 q hq)
            clear hb7 hr7 HRL HC6 HC7 HST2 HIN
            generalize (Pa.cts ts k).1.getD j 0 = z at *
            generalize (Pa.cts ts k).2.getD q 0 = z2 at *
            go_wp2_with fail
            clear hcj hfj y7
            revert HC8 y8
            generalize w7.setCell ⟨h1, j, none⟩ (.int .i64 (z + 1)) = w8
            intro HC8 y8
            refine (HRD.out w8).mono ?_
            rintro e w9 ⟨rfl, hb9⟩
            have HC9 := Lib.hid (HC8.out.mono hb9)
            have hcq := HDq.out w9 HC9.out
            have hfq := Pa.own_fz HC9.out.own2 q
            have HCA := Lib.hid (HC9.out.set2 q (z2 + 1))
            clear HC8 HC9 hb9 HRD y8 HDq
            go_wp2
            go_roundw
            case rel => exact ⟨k + 1, by omega, by go_num, by rw [HE.out]; exact HCA⟩
            case measure => simp [intOf]; omega
        · exact absurd HTK.out htok
      · obtain rfl : len = k := by omega
        have hin := Pa.in_cts ts len (by rw [HLN.out]; exact Nat.le_refl _)
        have hbc := HC.out.bel
        have hpx := (hbc.block pb (Array.getElem?_eq_some_iff.1 HPX.out).1).trans HPX.out
        have x0 : wr.cell? ⟨pb, 0, none⟩ = some (.slice (some ⟨p1, 0, none⟩) 256 256) := by rw [cell_of_row _ _ _ _ _ (0, 0) hpx]; rfl
        have x1 : wr.cell? ⟨pb, 1, none⟩ = some (.slice (some ⟨p2, 0, none⟩) 259 259) := by rw [cell_of_row _ _ _ _ _ (0, 0) hpx]; rfl
        have x2 : wr.cell? ⟨pb, 2, none⟩ = some (.slice (some ⟨p3, 0, none⟩) 30 30) := by rw [cell_of_row _ _ _ _ _ (0, 0) hpx]; rfl
        have HCT : Hid (Pa.cts ts len = Pa.cts ts ts.length) := Lib.hid (by rw [HLN.out])
        have HQ1 : Hid (∀ s, s < 256 → wr.cell? ⟨p1, s, none⟩ = some (.int .i64 (prc .lit (Pa.cts ts len).1 (LL 2 ts) s))) := Lib.hid (fun s hs => by
          have h1 := (own_below HO1.out hbc).cellAt s (by omega)
          rw [ivs_get _ _ (by simp; omega)] at h1
          rw [HCT.out, h1]
          simp [List.getD, List.getElem?_range hs])
        have HL1 := Lib.hid (LL2_bd ts (by rw [HLN.out]; omega))
        have HR1 := Lib.hid (fun s (hs : s < 256) => (prc_lit (Pa.cts ts len).1 (LL 2 ts) s (by omega)))
        have HUS := Lib.hid (fun s (hs : s < 256) => Mg.used_snoc (Pa.cts ts len).1 s (by rw [hin.1.1]; omega))
        have HDT := Lib.hid (fun s => (show Mg.dot (Pa.cts ts len).1 (LL 2 ts) (s + 1) = Mg.dot (Pa.cts ts len).1 (LL 2 ts) s + (Pa.cts ts len).1.getD s 0 * (LL 2 ts).getD s 0 from rfl))
        have HDB := Lib.hid (fun s (hs : s ≤ 256) => Mg.dot_le (Pa.cts ts len).1 (LL 2 ts) s 301 15 (fun j hj => ⟨(hin.1.2 j).1, by have := (hin.1.2 j).2; omega⟩) (fun j hj => LL2_bd ts (by rw [HLN.out]; omega) j (by omega)))
        have HUL := Lib.hid (fun s => (show Mg.used ((Pa.cts ts len).1.take s) ≤ 286 from Nat.le_trans (Mg.used_le _) (by rw [List.length_take, hin.1.1]; omega)))
        have HIN := Lib.hid hin
        have HBC := Lib.hid hbc
        clear hin hbc hpx
        go_wp2_with fail
        go_loopg [9, 10, 108] 256 (fun gk v9 v10 v108 wx => ∃ (s U : Nat) (D : Int), s ≤ 256 ∧ gk = 256 - s ∧ v108 = .int .i64 (s : Nat) ∧ v9 = .int .i64 D ∧ v10 = .int .i64 (U : Nat) ∧ Hid (D = Mg.dot (Pa.cts ts len).1 (LL 2 ts) s) ∧ Hid (U = 1 + Mg.used ((Pa.cts ts len).1.take s)) ∧ wx = wr)
        case atStart => exact ⟨0, 1, 0, by omega, by omega, rfl, rfl, rfl, Lib.hid rfl, Lib.hid (by simp [Mg.used]), rfl⟩
        case round =>
          obtain ⟨s, U, D, hs, rfl, rfl, rfl, rfl, HD, HU, rfl⟩ := hrel
          by_cases hlt : s < 256
          · have cq := HQ1.out s hlt
            have cl := HC.out.c1 s (by omega)
            have hp := HR1.out s hlt
            have hz := HIN.out.1.2 s
            have hy := HL1.out s (by omega)
            have hdb := HDB.out s hs
            have hul := HUL.out s
            rw [← HD.out] at hdb
            have HD2 : Hid (D + (Pa.cts ts len).1.getD s 0 * (LL 2 ts).getD s 0 = Mg.dot (Pa.cts ts len).1 (LL 2 ts) (s + 1)) := Lib.hid (by rw [HDT.out, HD.out])
            have HU2 : Hid (U + (if 0 < (Pa.cts ts len).1.getD s 0 then 1 else 0) = 1 + Mg.used ((Pa.cts ts len).1.take (s + 1))) := Lib.hid (by rw [HUS.out s hlt, HU.out]; omega)
            have hU : U ≤ 287 := by rw [HU.out]; omega
            have d8 : decide ((s : Int) < 256) = true := by simp; omega
            have d9 : decide (s < 256) = true := by simpa using hlt
            generalize prc .lit (Pa.cts ts len).1 (LL 2 ts) s = p at *
            generalize (Pa.cts ts len).1.getD s 0 = z at *
            generalize (LL 2 ts).getD s 0 = y at *
            clear HD HU hul
            by_cases hz0 : 0 < z
            · rw [if_pos hz0] at hp HU2
              have dz : (z == 0) = false := by simp; omega
              have dz2 : decide (0 < z) = true := by simpa using hz0
              have e1 : p.tmod 16 = 0 := by rw [hp, Int.mul_comm]; exact Int.mul_tmod_left _ _
              have hq := Mg.prod_le (show 0 ≤ z by omega) (show z ≤ 301 by omega) hy.1 hy.2
              have hM : z * p = 16 * (z * y) := by rw [hp, Int.mul_left_comm]
              obtain ⟨Q, hQ⟩ : ∃ Q, z * y = Q := ⟨_, rfl⟩
              rw [hQ] at hq hM HD2
              have e3 : (16 * Q).tdiv 16 = Q := by rw [Int.mul_comm]; exact Int.mul_tdiv_cancel _ (by decide)
              have b1 : 0 ≤ 16 * Q ∧ 16 * Q ≤ 1000000 := by omega
              have b2 : 0 ≤ Q ∧ Q ≤ 1000000 := by omega
              have b3 : 0 ≤ D + Q ∧ D + Q ≤ 10000000 := by omega
              clear hq hdb hp hQ hy hz hz0
              have f1 : wrap64 (z * p) = 16 * Q := by rw [hM]; exact w_small b1.1 (Int.le_trans b1.2 (by decide))
              have f2 : wrap64 Q = Q := w_small b2.1 (Int.le_trans b2.2 (by decide))
              have f3 : wrap64 (D + Q) = D + Q := w_small b3.1 (Int.le_trans b3.2 (by decide))
              have HM : Hid (256 - (s + 1) < 256 - s ∧ s + 1 ≤ 256) := Lib.hid (by omega)
              clear hM b1 b2 b3
              go_wp2
              go_roundg (256 - (s + 1))
              case measure => exact HM.out.1
              case rel => exact ⟨s + 1, U + 1, D + Q, HM.out.2, rfl, by go_num, by first | rfl | rw [f3], by go_num, HD2, HU2, rfl⟩
            · have hz1 : z = 0 := by omega
              rw [if_neg hz0] at hp HU2
              subst hz1
              have hp1 : p = 240 := by omega
              subst hp1
              rw [Int.zero_mul, Int.add_zero] at HD2
              have b3 : 0 ≤ D ∧ D ≤ 10000000 := by omega
              clear hdb hp hy hz hz0
              have f3 : wrap64 D = D := w_small b3.1 (Int.le_trans b3.2 (by decide))
              have HM : Hid (256 - (s + 1) < 256 - s ∧ s + 1 ≤ 256) := Lib.hid (by omega)
              clear b3
              go_wp2
              go_roundg (256 - (s + 1))
              case measure => exact HM.out.1
              case rel => exact ⟨s + 1, U, D, HM.out.2, rfl, by go_num, by first | rfl | simp [f3], rfl, HD2, HU2, rfl⟩
          · obtain rfl : s = 256 := by omega
            clear hlt
            have HDU : Hid (D = Mg.dot (Pa.cts ts len).1 (LL 2 ts) 256 ∧ U = 1 + Mg.used ((Pa.cts ts len).1.take 256) ∧ 0 ≤ D ∧ D ≤ 1200000 ∧ U ≤ 287) := Lib.hid ⟨HD.out, HU.out, by have := HDB.out 256 (by omega); rw [← HD.out] at this; omega, by have := HDB.out 256 (by omega); rw [← HD.out] at this; omega, by have := HUL.out 256; rw [HU.out]; omega⟩
            have HF2 : Hid (∀ n, n < 259 → wr.cell? ⟨p2, n, none⟩ = some (.int .i64 (if 3 ≤ n then prc .lit (Pa.cts ts len).1 (LL 2 ts) (257 + Sy.lsy n) else 0))) := Lib.hid (fun n hn => by
              have h1 := (own_below HO2.out HBC.out).cellAt n (by omega)
              rw [ivs_get _ _ (by simp; omega)] at h1
              rw [HCT.out, h1]
              simp [List.getD, List.getElem?_range hn])
            have HLT : Hid (p2 < wr.heap.size ∧ pb < wr.heap.size ∧ h1 < wr.heap.size ∧ h2 < wr.heap.size ∧ p3 < wr.heap.size) := Lib.hid ⟨by have := ((own_below HO2.out HBC.out).lt p2 rfl).2; exact this, by have := (Array.getElem?_eq_some_iff.1 HPX.out).1; have := HBC.out.size; omega, (HC.out.own1.lt h1 rfl).2, (HC.out.own2.lt h2 rfl).2, ((own_below HO3.out HBC.out).lt p3 rfl).2⟩
            have HX12 : Hid (wr.cell? ⟨pb, 1, none⟩ = some (.slice (some ⟨p2, 0, none⟩) 259 259) ∧ wr.cell? ⟨pb, 2, none⟩ = some (.slice (some ⟨p3, 0, none⟩) 30 30)) := Lib.hid ⟨x1, x2⟩
            clear HD HU x0 x1 x2 HQ1 HR1 HUS HDT HDB HUL
            have hmm := @run_makeMap Tryz.prog
            go_wp2_with fail
            refine (lens_any _).mono ?_
            rintro e w8 ⟨lg, lh, rfl, hTw, hb8⟩
            have HTW := Lib.hid hTw
            have HB8 := Lib.hid hb8
            clear hTw hb8
            have HMP : Hid ((w8.alloc (.map #[] 0)).ownsMap Tryz.prog 3 (Go.plainElem (H := Unit) Tryz.prog 3) w8.heap.size 0 (.map []) ∧ Below w8.heap.size w8 (w8.alloc (.map #[] 0))) := Lib.hid ⟨World.ownsMap_made _ _ _ _, below_alloc _ _⟩
            go_wp2_with fail
            clear hmm
            revert HMP
            generalize w8.alloc (.map #[] 0) = w9
            intro HMP
            generalize hmb : w8.heap.size = mb at HMP ⊢
            have HBM := Lib.hid (show Below w8.heap.size w8 w9 by rw [hmb]; exact HMP.out.2)
            have HSE := Lib.hid (Seen.start HMP.out.1)
            have HMB := Lib.hid hmb
            clear HMP hmb
            have HTL := Lib.hid (fun T => (show tl (Pa.cts ts len).1 (LL 2 ts) (T + 1) = tl (Pa.cts ts len).1 (LL 2 ts) T + (Pa.cts ts len).1.getD (257 + T) 0 * (LL 2 ts).getD (257 + T) 0 from rfl))
            have HUT := Lib.hid (fun T => (show ul (Pa.cts ts len).1 (T + 1) = ul (Pa.cts ts len).1 T + (if 0 < (Pa.cts ts len).1.getD (257 + T) 0 then 1 else 0) from rfl))
            go_loopg [9, 10, 16] 256 (fun gk v9 v10 v16 wx => ∃ (n T U2 cnt : Nat) (D2 : Int) (c : Nat → Nat) (Dm : DataW Unit), 3 ≤ n ∧ n ≤ 259 ∧ gk = 259 - n ∧ v16 = .int .i64 (n : Nat) ∧ v9 = .int .i64 D2 ∧ v10 = .int .i64 (U2 : Nat) ∧ Hid (D2 = D + tl (Pa.cts ts len).1 (LL 2 ts) T) ∧ Hid (U2 = U + ul (Pa.cts ts len).1 T) ∧ Hid (0 ≤ D2 ∧ D2 ≤ 1200000 + T * 4515 ∧ U2 ≤ 287 + T ∧ T ≤ 29) ∧ Hid (Row n T) ∧ Hid (Below w8.heap.size w8 wx) ∧ Hid (Seen wx mb n T c cnt Dm))
            case atStart => exact ⟨3, 0, U, 0, D, fun _ => 0, .map [], by omega, by omega, by omega, rfl, rfl, rfl, Lib.hid (by simp [tl]), Lib.hid (by simp [ul]), Lib.hid (by have := HDU.out; omega), Lib.hid (.inl ⟨rfl, rfl⟩), HBM, HSE⟩
            case round =>
              clear HSE HBM
              obtain ⟨n, T, U2, cnt, D2, c, Dm, hn3, hn9, rfl, rfl, rfl, rfl, HD2, HU2, HBD, HRW, HBX, HSX⟩ := hrel
              by_cases hlt : n < 259
              · have hrn := HRW.out.next hn3 hlt
                have hjj : Sy.lsy n ≤ 28 := hrn.2.2
                have HRN := Lib.hid hrn
                have HLY := Lib.hid (refLength_any n)
                have d8 : decide ((n : Int) < 259) = true := by simp; omega
                have d9 : decide (n < 259) = true := by simpa using hlt
                have hz := HIN.out.1.2 (257 + Sy.lsy n)
                have hy := HL1.out (257 + Sy.lsy n) (by omega)
                have hpo := prc_own .lit (Pa.cts ts len).1 (LL 2 ts) (257 + Sy.lsy n)
                have hxt : xt .lit ((257 + Sy.lsy n : Nat) : Int) = (Sy.lb (Sy.lsy n)).2 := by
                  unfold xt bse
                  simp only
                  rw [if_pos (by omega)]
                  congr 2
                  omega
                have hlb := (lb_le (Sy.lsy n) (by omega)).2
                rw [hxt] at hpo
                go_wp2_with fail
                refine (HLY.out _ hn3 (by omega)).mono ?_
                rintro e w10 ⟨rfl, hb10⟩
                have HB10 := Lib.hid (below_then HBX.out hb10)
                have HS10 := Lib.hid (HSX.out.below hb10)
                clear hb10 HBX HSX HLY
                have hbW := below_then HB8.out HB10.out
                have x1' : w10.cell? ⟨pb, 1, none⟩ = some (.slice (some ⟨p2, 0, none⟩) 259 259) := (hbW.cell (p := ⟨pb, 1, none⟩) HLT.out.2.1).trans HX12.out.1
                have x2' : w10.cell? ⟨p2, n, none⟩ = some (.int .i64 (prc .lit (Pa.cts ts len).1 (LL 2 ts) (257 + Sy.lsy n))) := by rw [hbW.cell (p := ⟨p2, n, none⟩) HLT.out.1, HF2.out n hlt, if_pos hn3]
                have x3' : w10.cell? ⟨lh, Sy.lsy n, none⟩ = some (.int .i64 ((Sy.lb (Sy.lsy n)).2 : Nat)) := (HB10.out.cell (p := ⟨lh, Sy.lsy n, none⟩) HTW.out.lh).trans (HTW.out.snd _ (by omega))
                have x4' : w10.cell? ⟨h1, 257 + Sy.lsy n, none⟩ = some (.int .i64 ((Pa.cts ts len).1.getD (257 + Sy.lsy n) 0)) := (hbW.cell (p := ⟨h1, 257 + Sy.lsy n, none⟩) HLT.out.2.2.1).trans (HC.out.c1 _ (by omega))
                have hat := HS10.out.at' (Sy.lsy n) (by omega)
                have HPUT := Lib.hid (fun W' own' => HS10.out.put (W' := W') (Sy.lsy n) hrn.1 own')
                have hc1 := HS10.out.one (Sy.lsy n)
                have hc0 := HS10.out.zero (Sy.lsy n)
                have hct := HS10.out.top (Sy.lsy n)
                have hcn := HS10.out.cn
                have HTJ : Hid (Sy.lsy n = T → tl (Pa.cts ts len).1 (LL 2 ts) (T + 1) = tl (Pa.cts ts len).1 (LL 2 ts) T + (Pa.cts ts len).1.getD (257 + Sy.lsy n) 0 * (LL 2 ts).getD (257 + Sy.lsy n) 0) := Lib.hid (fun e => by rw [e]; exact HTL.out T)
                have HUJ : Hid (Sy.lsy n = T → ul (Pa.cts ts len).1 (T + 1) = ul (Pa.cts ts len).1 T + (if 0 < (Pa.cts ts len).1.getD (257 + Sy.lsy n) 0 then 1 else 0)) := Lib.hid (fun e => by rw [e]; exact HUT.out T)
                clear hbW hxt
                generalize hP : prc .lit (Pa.cts ts len).1 (LL 2 ts) (257 + Sy.lsy n) = P at *
                generalize (Pa.cts ts len).1.getD (257 + Sy.lsy n) 0 = z at *
                generalize (LL 2 ts).getD (257 + Sy.lsy n) 0 = y at *
                generalize (Sy.lb (Sy.lsy n)).2 = X at *
                generalize hS : 257 + Sy.lsy n = S at *
                generalize Sy.lsy n = j at *
                generalize hN : c j = N at *
                have hSr : S < 286 := by omega
                have b1 : (S : Int) - 257 = (j : Int) := by omega
                have b2 : (j : Int) ≤ 1000 := by omega
                have b3 : (0 : Int) ≤ 16 * (X : Int) ∧ 16 * (X : Int) ≤ 1000 := by omega
                have b4 : ((N : Int) + 1) ≤ 1000 := by omega
                have HCNT : Hid (cnt < maxLen) := Lib.hid (by unfold maxLen; omega)
                have hkey : keyOf Tryz.prog 3 (.int .i64 ((S : Nat) : Int)) = some (.int .i64 ((S : Nat) : Int)) := keyOf_int_mk Tryz.underlying3 (lit_small (by omega) (by omega))
                have hwf2 : (Lit.int .i64 ((N : Int) + 1)).wf = true := lit_small (by omega) (by omega)
                have dS : decide (S < 286) = true := by simpa using hSr
                have dj : decide (j < 29) = true := by simp; omega
                have dSi : decide ((S : Int) < 286) = true := by simp; omega
                have i1 : (n : Int) < 259 := by omega
                have i2 : (j : Int) < 29 := by omega
                have i3 : (S : Int) < 286 := by omega
                have hbd := HBD.out
                by_cases hz0 : 0 < z
                · by_cases hjT : j = T
                  · have hN0 : N = 0 := hc0 (by omega)
                    have HT := Lib.hid (HTJ.out hjT)
                    have HUU := Lib.hid (HUJ.out hjT)
                    rw [if_pos hjT] at hrn
                    have HPT := Lib.hid (fun W' own' => (show Seen W' mb (n + 1) (T + 1) _ (cnt + 1) _ from by have := HPUT.out W' own'; rwa [if_pos hjT] at this))
                    have HRN2 := Lib.hid hrn.2.1
                    have hO : P - 16 * (X : Int) = 16 * y := by rw [hpo, if_pos hz0]
                    have dz : (z == 0) = false := by simp; omega
                    have dz2 : decide (0 < z) = true := by simpa using hz0
                    have e1 : (16 * y).tmod 16 = 0 := by rw [Int.mul_comm]; exact Int.mul_tmod_left _ _
                    have hq := Mg.prod_le (show 0 ≤ z by omega) (show z ≤ 301 by omega) hy.1 hy.2
                    have hM : z * (16 * y) = 16 * (z * y) := Int.mul_left_comm _ _ _
                    obtain ⟨Q, hQ⟩ : ∃ Q, z * y = Q := ⟨_, rfl⟩
                    rw [hQ] at hq hM
                    have e3 : (16 * Q).tdiv 16 = Q := by rw [Int.mul_comm]; exact Int.mul_tdiv_cancel _ (by decide)
                    have c1 : 0 ≤ 16 * Q ∧ 16 * Q ≤ 1000000 := by omega
                    have c2 : 0 ≤ Q ∧ Q ≤ 1000000 := by omega
                    have c3 : 0 ≤ D2 + Q ∧ D2 + Q ≤ 10000000 := by omega
                    have c4 : 0 ≤ 16 * y ∧ 16 * y ≤ 1000 := by omega
                    obtain ⟨O, hOl⟩ : ∃ O, 16 * y = O := ⟨_, rfl⟩
                    rw [hOl] at hO e1 hM c4
                    rw [hQ] at HT
                    rw [if_pos hz0] at HUU
                    have dN : ((N : Int) + 1 == 1) = true := by simp; omega
                    have dN2 : (N + 1 == 1) = true := by simp; omega
                    have HD3 : Hid (D2 + Q = D + tl (Pa.cts ts len).1 (LL 2 ts) (T + 1)) := Lib.hid (by rw [HT.out, HD2.out]; omega)
                    have HU3 : Hid (U2 + 1 = U + ul (Pa.cts ts len).1 (T + 1)) := Lib.hid (by rw [HUU.out, HU2.out]; omega)
                    have HBD2 : Hid (0 ≤ D2 + Q ∧ D2 + Q ≤ 1200000 + ((T + 1 : Nat) : Int) * 4515 ∧ U2 + 1 ≤ 287 + (T + 1) ∧ T + 1 ≤ 29) := Lib.hid (by omega)
                    have hU2 : U2 ≤ 400 := by omega
                    have HMS : Hid (259 - (n + 1) < 259 - n ∧ 3 ≤ n + 1 ∧ n + 1 ≤ 259) := Lib.hid (by omega)
                    have f1 : wrap64 ((S : Int) - 257) = (j : Int) := by rw [b1]; exact w_small (Int.natCast_nonneg _) (Int.le_trans b2 (by decide))
                    have f2 : wrap64 (16 * (X : Int)) = 16 * (X : Int) := w_small b3.1 (Int.le_trans b3.2 (by decide))
                    have f9 : wrap64 O = O := w_small c4.1 (Int.le_trans c4.2 (by decide))
                    have f3 : wrap64 (P - 16 * (X : Int)) = O := by rw [hO]; exact w_small c4.1 (Int.le_trans c4.2 (by decide))
                    have f6 : wrap64 (z * O) = 16 * Q := by rw [hM]; exact w_small c1.1 (Int.le_trans c1.2 (by decide))
                    have f7 : wrap64 Q = Q := w_small c2.1 (Int.le_trans c2.2 (by decide))
                    have f8 : wrap64 (D2 + Q) = D2 + Q := w_small c3.1 (Int.le_trans c3.2 (by decide))
                    have f5 : wrap64 ((N : Int) + 1) = (N : Int) + 1 := w_small (by omega) (Int.le_trans b4 (by decide))
                    clear hrn hpo hz hy hlb hN hc1 hc0 hct hcn hbd b2 b3 b4 hjj hP hS hSr hjT hz0 HTJ HUJ HRN HRW hN0 hq hM hQ c1 c2 c3 c4 hOl
                    go_wp2_with fail
                    go_quiet (fail)
                    have HSQ := Lib.hid (HS10.out.drew nq)
                    have HBQ := Lib.hid (HB10.out.trans ((drewN_is w10 nq).mono HB10.out.size))
                    have x4q : (w10.drewN nq).cell? ⟨h1, S, none⟩ = some (.int .i64 z) := x4'
                    have h8 := Nat.lt_of_lt_of_le HLT.out.2.2.1 HB8.out.size
                    have hat3 : (Dm.put (.int .i64 (S : Int)) (.lit (.int .i64 ((N : Int) + 1)))).atKey (.int .i64 (S : Int)) (.lit (.int .i64 0)) = .lit (.int .i64 ((N : Int) + 1)) := atKey_put_same HSQ.out.own.isMap (by simp [WideAt.IsKeyLit]) _ _
                    go_wp2_with (first
                      | (at_lookup; refine wpList_lookup_own_int _ rfl _ _ 64 rfl 3 3 .i64 keyI Tryz.underlying64 Tryz.underlying3 (zeroI _) mb (cnt + 1) _ rfl HSN.out.own _ _ rfl hkey ?_; intro cc hat2 hwc; obtain rfl := cc_eq hat3 hat2; clear hat2 hwc)
                      | (at_lookup; refine wpList_lookup_own_int _ rfl _ _ 64 rfl 3 3 .i64 keyI Tryz.underlying64 Tryz.underlying3 (zeroI _) mb cnt _ rfl HSQ.out.own _ _ rfl hkey ?_; intro cc hat2 hwc; obtain rfl := cc_eq hat hat2; clear hat2 hwc)
                      | (at_mapUpdate; refine wpList_mapUpdate_own _ rfl _ _ _ 64 rfl 3 3 keyI Tryz.underlying64 _ mb cnt _ rfl HSQ.out.own HCNT.out _ _ _ rfl rfl hkey _ [] (by first | exact plainElem_int Tryz.underlying3 (wrap64_wf _) | exact plainElem_int Tryz.underlying3 hwf2) ?_; intro w11 hown1 hg1; rw [f5] at hown1; have HSN := Lib.hid (HPT.out w11 hown1); have HB11 := Lib.hid (HBQ.out.grown hg1 HBQ.out.size (fun r e => by cases e; exact Nat.le_of_eq HMB.out)); have x4r : w11.cell? ⟨h1, S, none⟩ = some (.int .i64 z) := (HB11.out.cell (p := ⟨h1, S, none⟩) h8).trans ((HBQ.out.cell (p := ⟨h1, S, none⟩) h8).symm.trans x4q); clear hg1 hown1))
                    go_roundg (259 - (n + 1))
                    case measure => exact HMS.out.1
                    case rel => exact ⟨n + 1, T + 1, U2 + 1, cnt + 1, D2 + Q, _, _, HMS.out.2.1, HMS.out.2.2, rfl, by go_num, by first | rfl | rw [f8], by go_num, HD3, HU3, HBD2, HRN2, HB11, HSN⟩
                  · have hjl : j < T := by rcases hrn.1 with h | h; exact h; exact absurd h hjT
                    have hN1 := hc1 hjl
                    rw [if_neg hjT] at hrn
                    have HPT := Lib.hid (fun W' own' => (show Seen W' mb (n + 1) T _ (cnt + 1) _ from by have := HPUT.out W' own'; rwa [if_neg hjT] at this))
                    have HRN2 := Lib.hid hrn.2.1
                    have hO : P - 16 * (X : Int) = 16 * y := by rw [hpo, if_pos hz0]
                    have dz : (z == 0) = false := by simp; omega
                    have dz2 : decide (0 < z) = true := by simpa using hz0
                    have e1 : (16 * y).tmod 16 = 0 := by rw [Int.mul_comm]; exact Int.mul_tmod_left _ _
                    have c4 : 0 ≤ 16 * y ∧ 16 * y ≤ 1000 := by omega
                    obtain ⟨O, hOl⟩ : ∃ O, 16 * y = O := ⟨_, rfl⟩
                    rw [hOl] at hO e1 c4
                    have dN : ((N : Int) + 1 == 1) = false := by simp; omega
                    have dN2 : (N + 1 == 1) = false := by simp; omega
                    have HMS : Hid (259 - (n + 1) < 259 - n ∧ 3 ≤ n + 1 ∧ n + 1 ≤ 259) := Lib.hid (by omega)
                    have c3 : 0 ≤ D2 ∧ D2 ≤ 10000000 := by omega
                    have f1 : wrap64 ((S : Int) - 257) = (j : Int) := by rw [b1]; exact w_small (Int.natCast_nonneg _) (Int.le_trans b2 (by decide))
                    have f2 : wrap64 (16 * (X : Int)) = 16 * (X : Int) := w_small b3.1 (Int.le_trans b3.2 (by decide))
                    have f9 : wrap64 O = O := w_small c4.1 (Int.le_trans c4.2 (by decide))
                    have f3 : wrap64 (P - 16 * (X : Int)) = O := by rw [hO]; exact w_small c4.1 (Int.le_trans c4.2 (by decide))
                    have f8 : wrap64 D2 = D2 := w_small c3.1 (Int.le_trans c3.2 (by decide))
                    have f5 : wrap64 ((N : Int) + 1) = (N : Int) + 1 := w_small (by omega) (Int.le_trans b4 (by decide))
                    clear hrn hpo hz hy hlb hN hc1 hc0 hct hcn hbd b2 b3 b4 hjj hP hS hSr hjT hz0 HTJ HUJ HRN HRW hjl hN1 c3 c4 hOl
                    go_wp2_with fail
                    go_quiet (fail)
                    have HSQ := Lib.hid (HS10.out.drew nq)
                    have HBQ := Lib.hid (HB10.out.trans ((drewN_is w10 nq).mono HB10.out.size))
                    have x4q : (w10.drewN nq).cell? ⟨h1, S, none⟩ = some (.int .i64 z) := x4'
                    have h8 := Nat.lt_of_lt_of_le HLT.out.2.2.1 HB8.out.size
                    have hat3 : (Dm.put (.int .i64 (S : Int)) (.lit (.int .i64 ((N : Int) + 1)))).atKey (.int .i64 (S : Int)) (.lit (.int .i64 0)) = .lit (.int .i64 ((N : Int) + 1)) := atKey_put_same HSQ.out.own.isMap (by simp [WideAt.IsKeyLit]) _ _
                    go_wp2_with (first
                      | (at_lookup; refine wpList_lookup_own_int _ rfl _ _ 64 rfl 3 3 .i64 keyI Tryz.underlying64 Tryz.underlying3 (zeroI _) mb (cnt + 1) _ rfl HSN.out.own _ _ rfl hkey ?_; intro cc hat2 hwc; obtain rfl := cc_eq hat3 hat2; clear hat2 hwc)
                      | (at_lookup; refine wpList_lookup_own_int _ rfl _ _ 64 rfl 3 3 .i64 keyI Tryz.underlying64 Tryz.underlying3 (zeroI _) mb cnt _ rfl HSQ.out.own _ _ rfl hkey ?_; intro cc hat2 hwc; obtain rfl := cc_eq hat hat2; clear hat2 hwc)
                      | (at_mapUpdate; refine wpList_mapUpdate_own _ rfl _ _ _ 64 rfl 3 3 keyI Tryz.underlying64 _ mb cnt _ rfl HSQ.out.own HCNT.out _ _ _ rfl rfl hkey _ [] (by first | exact plainElem_int Tryz.underlying3 (wrap64_wf _) | exact plainElem_int Tryz.underlying3 hwf2) ?_; intro w11 hown1 hg1; rw [f5] at hown1; have HSN := Lib.hid (HPT.out w11 hown1); have HB11 := Lib.hid (HBQ.out.grown hg1 HBQ.out.size (fun r e => by cases e; exact Nat.le_of_eq HMB.out)); have x4r : w11.cell? ⟨h1, S, none⟩ = some (.int .i64 z) := (HB11.out.cell (p := ⟨h1, S, none⟩) h8).trans ((HBQ.out.cell (p := ⟨h1, S, none⟩) h8).symm.trans x4q); clear hg1 hown1))
                    go_roundg (259 - (n + 1))
                    case measure => exact HMS.out.1
                    case rel => exact ⟨n + 1, T, U2, cnt + 1, D2, _, _, HMS.out.2.1, HMS.out.2.2, rfl, by go_num, by first | rfl | simp [f8], rfl, HD2, HU2, HBD, HRN2, HB11, HSN⟩
                · by_cases hjT : j = T
                  · have hz1 : z = 0 := by omega
                    have hO : P - 16 * (X : Int) = 240 := by rw [hpo, if_neg hz0]; decide
                    have HMS : Hid (259 - (n + 1) < 259 - n ∧ 3 ≤ n + 1 ∧ n + 1 ≤ 259) := Lib.hid (by omega)
                    have c3 : 0 ≤ D2 ∧ D2 ≤ 10000000 := by omega
                    have hN0 : N = 0 := hc0 (by omega)
                    have HT := Lib.hid (HTJ.out hjT)
                    have HUU := Lib.hid (HUJ.out hjT)
                    rw [if_pos hjT] at hrn
                    have HPT := Lib.hid (fun W' own' => (show Seen W' mb (n + 1) (T + 1) _ (cnt + 1) _ from by have := HPUT.out W' own'; rwa [if_pos hjT] at this))
                    have HRN2 := Lib.hid hrn.2.1
                    rw [hz1, Int.zero_mul, Int.add_zero] at HT
                    rw [if_neg hz0] at HUU
                    have dN : ((N : Int) + 1 == 1) = true := by simp; omega
                    have dN2 : (N + 1 == 1) = true := by simp; omega
                    have HD3 : Hid (D2 = D + tl (Pa.cts ts len).1 (LL 2 ts) (T + 1)) := Lib.hid (by rw [HT.out, HD2.out])
                    have HU3 : Hid (U2 = U + ul (Pa.cts ts len).1 (T + 1)) := Lib.hid (by rw [HUU.out, HU2.out]; rfl)
                    have HBD2 : Hid (0 ≤ D2 ∧ D2 ≤ 1200000 + ((T + 1 : Nat) : Int) * 4515 ∧ U2 ≤ 287 + (T + 1) ∧ T + 1 ≤ 29) := Lib.hid (by omega)
                    have f1 : wrap64 ((S : Int) - 257) = (j : Int) := by rw [b1]; exact w_small (Int.natCast_nonneg _) (Int.le_trans b2 (by decide))
                    have f2 : wrap64 (16 * (X : Int)) = 16 * (X : Int) := w_small b3.1 (Int.le_trans b3.2 (by decide))
                    have f3 : wrap64 (P - 16 * (X : Int)) = 240 := by rw [hO]; exact w_small (by decide) (by decide)
                    have f8 : wrap64 D2 = D2 := w_small c3.1 (Int.le_trans c3.2 (by decide))
                    have f5 : wrap64 ((N : Int) + 1) = (N : Int) + 1 := w_small (by omega) (Int.le_trans b4 (by decide))
                    clear hrn hpo hz hy hlb hN hc1 hc0 hct hcn hbd b2 b3 b4 hjj hP hS hSr hjT hz0 HTJ HUJ HRN HRW hN0 c3
                    subst hz1
                    go_wp2_with fail
                    go_quiet (fail)
                    have HSQ := Lib.hid (HS10.out.drew nq)
                    have HBQ := Lib.hid (HB10.out.trans ((drewN_is w10 nq).mono HB10.out.size))
                    have x4q : (w10.drewN nq).cell? ⟨h1, S, none⟩ = some (.int .i64 0) := x4'
                    have h8 := Nat.lt_of_lt_of_le HLT.out.2.2.1 HB8.out.size
                    have hat3 : (Dm.put (.int .i64 (S : Int)) (.lit (.int .i64 ((N : Int) + 1)))).atKey (.int .i64 (S : Int)) (.lit (.int .i64 0)) = .lit (.int .i64 ((N : Int) + 1)) := atKey_put_same HSQ.out.own.isMap (by simp [WideAt.IsKeyLit]) _ _
                    go_wp2_with (first
                      | (at_lookup; refine wpList_lookup_own_int _ rfl _ _ 64 rfl 3 3 .i64 keyI Tryz.underlying64 Tryz.underlying3 (zeroI _) mb (cnt + 1) _ rfl HSN.out.own _ _ rfl hkey ?_; intro cc hat2 hwc; obtain rfl := cc_eq hat3 hat2; clear hat2 hwc)
                      | (at_lookup; refine wpList_lookup_own_int _ rfl _ _ 64 rfl 3 3 .i64 keyI Tryz.underlying64 Tryz.underlying3 (zeroI _) mb cnt _ rfl HSQ.out.own _ _ rfl hkey ?_; intro cc hat2 hwc; obtain rfl := cc_eq hat hat2; clear hat2 hwc)
                      | (at_mapUpdate; refine wpList_mapUpdate_own _ rfl _ _ _ 64 rfl 3 3 keyI Tryz.underlying64 _ mb cnt _ rfl HSQ.out.own HCNT.out _ _ _ rfl rfl hkey _ [] (by first | exact plainElem_int Tryz.underlying3 (wrap64_wf _) | exact plainElem_int Tryz.underlying3 hwf2) ?_; intro w11 hown1 hg1; rw [f5] at hown1; have HSN := Lib.hid (HPT.out w11 hown1); have HB11 := Lib.hid (HBQ.out.grown hg1 HBQ.out.size (fun r e => by cases e; exact Nat.le_of_eq HMB.out)); have x4r : w11.cell? ⟨h1, S, none⟩ = some (.int .i64 0) := (HB11.out.cell (p := ⟨h1, S, none⟩) h8).trans ((HBQ.out.cell (p := ⟨h1, S, none⟩) h8).symm.trans x4q); clear hg1 hown1))
                    go_roundg (259 - (n + 1))
                    case measure => exact HMS.out.1
                    case rel => exact ⟨n + 1, T + 1, U2, cnt + 1, D2, _, _, HMS.out.2.1, HMS.out.2.2, rfl, by go_num, by first | rfl | simp [f8], rfl, HD3, HU3, HBD2, HRN2, HB11, HSN⟩
                  · have hz1 : z = 0 := by omega
                    have hO : P - 16 * (X : Int) = 240 := by rw [hpo, if_neg hz0]; decide
                    have HMS : Hid (259 - (n + 1) < 259 - n ∧ 3 ≤ n + 1 ∧ n + 1 ≤ 259) := Lib.hid (by omega)
                    have c3 : 0 ≤ D2 ∧ D2 ≤ 10000000 := by omega
                    have hjl : j < T := by rcases hrn.1 with h | h; exact h; exact absurd h hjT
                    have hN1 := hc1 hjl
                    rw [if_neg hjT] at hrn
                    have HPT := Lib.hid (fun W' own' => (show Seen W' mb (n + 1) T _ (cnt + 1) _ from by have := HPUT.out W' own'; rwa [if_neg hjT] at this))
                    have HRN2 := Lib.hid hrn.2.1
                    have dN : ((N : Int) + 1 == 1) = false := by simp; omega
                    have dN2 : (N + 1 == 1) = false := by simp; omega
                    have f1 : wrap64 ((S : Int) - 257) = (j : Int) := by rw [b1]; exact w_small (Int.natCast_nonneg _) (Int.le_trans b2 (by decide))
                    have f2 : wrap64 (16 * (X : Int)) = 16 * (X : Int) := w_small b3.1 (Int.le_trans b3.2 (by decide))
                    have f3 : wrap64 (P - 16 * (X : Int)) = 240 := by rw [hO]; exact w_small (by decide) (by decide)
                    have f8 : wrap64 D2 = D2 := w_small c3.1 (Int.le_trans c3.2 (by decide))
                    have f5 : wrap64 ((N : Int) + 1) = (N : Int) + 1 := w_small (by omega) (Int.le_trans b4 (by decide))
                    clear hrn hpo hz hy hlb hN hc1 hc0 hct hcn hbd b2 b3 b4 hjj hP hS hSr hjT hz0 HTJ HUJ HRN HRW hjl hN1 c3
                    subst hz1
                    go_wp2_with fail
                    go_quiet (fail)
                    have HSQ := Lib.hid (HS10.out.drew nq)
                    have HBQ := Lib.hid (HB10.out.trans ((drewN_is w10 nq).mono HB10.out.size))
                    have x4q : (w10.drewN nq).cell? ⟨h1, S, none⟩ = some (.int .i64 0) := x4'
                    have h8 := Nat.lt_of_lt_of_le HLT.out.2.2.1 HB8.out.size
                    have hat3 : (Dm.put (.int .i64 (S : Int)) (.lit (.int .i64 ((N : Int) + 1)))).atKey (.int .i64 (S : Int)) (.lit (.int .i64 0)) = .lit (.int .i64 ((N : Int) + 1)) := atKey_put_same HSQ.out.own.isMap (by simp [WideAt.IsKeyLit]) _ _
                    go_wp2_with (first
                      | (at_lookup; refine wpList_lookup_own_int _ rfl _ _ 64 rfl 3 3 .i64 keyI Tryz.underlying64 Tryz.underlying3 (zeroI _) mb (cnt + 1) _ rfl HSN.out.own _ _ rfl hkey ?_; intro cc hat2 hwc; obtain rfl := cc_eq hat3 hat2; clear hat2 hwc)
                      | (at_lookup; refine wpList_lookup_own_int _ rfl _ _ 64 rfl 3 3 .i64 keyI Tryz.underlying64 Tryz.underlying3 (zeroI _) mb cnt _ rfl HSQ.out.own _ _ rfl hkey ?_; intro cc hat2 hwc; obtain rfl := cc_eq hat hat2; clear hat2 hwc)
                      | (at_mapUpdate; refine wpList_mapUpdate_own _ rfl _ _ _ 64 rfl 3 3 keyI Tryz.underlying64 _ mb cnt _ rfl HSQ.out.own HCNT.out _ _ _ rfl rfl hkey _ [] (by first | exact plainElem_int Tryz.underlying3 (wrap64_wf _) | exact plainElem_int Tryz.underlying3 hwf2) ?_; intro w11 hown1 hg1; rw [f5] at hown1; have HSN := Lib.hid (HPT.out w11 hown1); have HB11 := Lib.hid (HBQ.out.grown hg1 HBQ.out.size (fun r e => by cases e; exact Nat.le_of_eq HMB.out)); have x4r : w11.cell? ⟨h1, S, none⟩ = some (.int .i64 0) := (HB11.out.cell (p := ⟨h1, S, none⟩) h8).trans ((HBQ.out.cell (p := ⟨h1, S, none⟩) h8).symm.trans x4q); clear hg1 hown1))
                    go_roundg (259 - (n + 1))
                    case measure => exact HMS.out.1
                    case rel => exact ⟨n + 1, T, U2, cnt + 1, D2, _, _, HMS.out.2.1, HMS.out.2.2, rfl, by go_num, by first | rfl | simp [f8], rfl, HD2, HU2, HBD, HRN2, HB11, HSN⟩
              · obtain rfl : n = 259 := by omega
                have hT29 : T = 29 := by
                  rcases HRW.out with ⟨h, _⟩ | ⟨_, h⟩
                  · omega
                  · rw [h]; show Sy.lsy 258 + 1 = 29; rw [lsy_last]
                subst hT29
                have HTWO : Hid (D2 = Mg.dot (Pa.cts ts len).1 (LL 2 ts) 256 + tl (Pa.cts ts len).1 (LL 2 ts) 29 ∧ U2 = 1 + Mg.used ((Pa.cts ts len).1.take 256) + ul (Pa.cts ts len).1 29 ∧ 0 ≤ D2 ∧ D2 ≤ 1400000 ∧ U2 ≤ 400) := Lib.hid ⟨by rw [HD2.out, HDU.out.1], by rw [HU2.out, HDU.out.2.1], by have := HBD.out; omega, by have := HBD.out; omega, by have := HBD.out; omega⟩
                have hbW := below_then HB8.out HBX.out
                have HQ3 : Hid (∀ s, s < 30 → wr.cell? ⟨p3, s, none⟩ = some (.int .i64 (prc .dst (Pa.cts ts len).2 (DL 2 ts) s))) := Lib.hid (fun s hs => by
                  have h1 := ((own_below HO3.out HBC.out).cellAt s (by omega))
                  rw [ivs_get _ _ (by simp; omega)] at h1
                  rw [hbW.cell (p := ⟨p3, s, none⟩) HLT.out.2.2.2.2, HCT.out, h1]
                  simp [List.getD, List.getElem?_range hs])
                have HC2 : Hid (∀ s, s < 30 → wr.cell? ⟨h2, s, none⟩ = some (.int .i64 ((Pa.cts ts len).2.getD s 0))) := Lib.hid (fun s hs => (hbW.cell (p := ⟨h2, s, none⟩) HLT.out.2.2.2.1).trans (HC.out.c2 s hs))
                have x2' := (hbW.cell (p := ⟨pb, 2, none⟩) HLT.out.2.1).trans HX12.out.2
                have HLT2 := Lib.hid (show p3 < wr.heap.size ∧ h2 < wr.heap.size ∧ h1 < wr.heap.size ∧ pb < wr.heap.size from by have h1 := HLT.out; have h2 := hbW.size; omega)
                clear hbW hlt HD2 HU2 HBD HRW HTW HSX HTL HUT HF2 HLT HX12 HMB
                go_wp2_with fail
                refine (dists_any _).mono ?_
                rintro e w11 ⟨dg, dh, rfl, hTw, hb11⟩
                have HTW := Lib.hid hTw
                have HB11 := Lib.hid hb11
                have x2 : w11.cell? ⟨pb, 2, none⟩ = some (.slice (some ⟨p3, 0, none⟩) 30 30) := (hb11.cell (p := ⟨pb, 2, none⟩) HLT2.out.2.2.2).trans x2'
                clear hTw hb11 x2'
                go_wp2_with fail
                have HM1 := Lib.hid (DL2_bd ts (by rw [HLN.out]; omega))
                have HR3 := Lib.hid (prc_own .dst (Pa.cts ts len).2 (DL 2 ts))
                have HDT2 := Lib.hid (fun s => (show Mg.dot (Pa.cts ts len).2 (DL 2 ts) (s + 1) = Mg.dot (Pa.cts ts len).2 (DL 2 ts) s + (Pa.cts ts len).2.getD s 0 * (DL 2 ts).getD s 0 from rfl))
                have HDB2 := Lib.hid (fun s (hs : s ≤ 30) => Mg.dot_le (Pa.cts ts len).2 (DL 2 ts) s 301 15 (fun j hj => ⟨(HIN.out.2.2 j).1, by have := (HIN.out.2.2 j).2; omega⟩) (fun j hj => DL2_bd ts (by rw [HLN.out]; omega) j (by omega)))
                go_loopg [19, 214] 30 (fun gk v19 v214 wx => ∃ (s : Nat) (F : Int), s ≤ 30 ∧ gk = 30 - s ∧ v214 = .int .i64 (s : Nat) ∧ v19 = .int .i64 F ∧ Hid (F = Mg.dot (Pa.cts ts len).2 (DL 2 ts) s) ∧ wx = w11)
                case atStart => exact ⟨0, 0, by omega, by omega, rfl, rfl, Lib.hid rfl, rfl⟩
                case round =>
                  obtain ⟨s, F, hs, rfl, rfl, rfl, HF, rfl⟩ := hrel
                  by_cases hlt : s < 30
                  · have hb11 := HB11.out
                    have cq := (hb11.cell (p := ⟨p3, s, none⟩) HLT2.out.1).trans (HQ3.out s hlt)
                    have cl := (hb11.cell (p := ⟨h2, s, none⟩) HLT2.out.2.1).trans (HC2.out s hlt)
                    have cx := HTW.out.snd s hlt
                    have hp := HR3.out s
                    have hxt : xt .dst (s : Int) = (Sy.db s).2 := by unfold xt bse; simp only; rw [if_pos (by omega)]; rfl
                    rw [hxt] at hp
                    have hxb := (db_le s hlt).2
                    have hz := HIN.out.2.2 s
                    have hy := HM1.out s hlt
                    have hdb := HDB2.out s hs
                    rw [← HF.out] at hdb
                    have HF2 : Hid (F + (Pa.cts ts len).2.getD s 0 * (DL 2 ts).getD s 0 = Mg.dot (Pa.cts ts len).2 (DL 2 ts) (s + 1)) := Lib.hid (by rw [HDT2.out, HF.out])
                    have d8 : decide ((s : Int) < 30) = true := by simp; omega
                    have d9 : decide (s < 30) = true := by simpa using hlt
                    clear HF hb11 hxt
                    generalize prc .dst (Pa.cts ts len).2 (DL 2 ts) s = P at *
                    generalize (Pa.cts ts len).2.getD s 0 = z at *
                    generalize (DL 2 ts).getD s 0 = y at *
                    generalize (Sy.db s).2 = X at *
                    have b3 : (0 : Int) ≤ 16 * (X : Int) ∧ 16 * (X : Int) ≤ 1000 := by omega
                    have HM : Hid (30 - (s + 1) < 30 - s ∧ s + 1 ≤ 30) := Lib.hid (by omega)
                    by_cases hz0 : 0 < z
                    · have hO : P - 16 * (X : Int) = 16 * y := by rw [hp, if_pos hz0]
                      have dz : (z == 0) = false := by simp; omega
                      have dz2 : decide (0 < z) = true := by simpa using hz0
                      have e1 : (16 * y).tmod 16 = 0 := by rw [Int.mul_comm]; exact Int.mul_tmod_left _ _
                      have hq := Mg.prod_le (show 0 ≤ z by omega) (show z ≤ 301 by omega) hy.1 hy.2
                      have hM : z * (16 * y) = 16 * (z * y) := Int.mul_left_comm _ _ _
                      obtain ⟨Q, hQ⟩ : ∃ Q, z * y = Q := ⟨_, rfl⟩
                      rw [hQ] at hq hM HF2
                      have e3 : (16 * Q).tdiv 16 = Q := by rw [Int.mul_comm]; exact Int.mul_tdiv_cancel _ (by decide)
                      have c1 : 0 ≤ 16 * Q ∧ 16 * Q ≤ 1000000 := by omega
                      have c2 : 0 ≤ Q ∧ Q ≤ 1000000 := by omega
                      have c3 : 0 ≤ F + Q ∧ F + Q ≤ 10000000 := by omega
                      have c4 : 0 ≤ 16 * y ∧ 16 * y ≤ 1000 := by omega
                      obtain ⟨O, hOl⟩ : ∃ O, 16 * y = O := ⟨_, rfl⟩
                      rw [hOl] at hO e1 hM c4
                      have f2 : wrap64 (16 * (X : Int)) = 16 * (X : Int) := w_small b3.1 (Int.le_trans b3.2 (by decide))
                      have f9 : wrap64 O = O := w_small c4.1 (Int.le_trans c4.2 (by decide))
                      have f3 : wrap64 (P - 16 * (X : Int)) = O := by rw [hO]; exact w_small c4.1 (Int.le_trans c4.2 (by decide))
                      have f6 : wrap64 (z * O) = 16 * Q := by rw [hM]; exact w_small c1.1 (Int.le_trans c1.2 (by decide))
                      have f7 : wrap64 Q = Q := w_small c2.1 (Int.le_trans c2.2 (by decide))
                      have f8 : wrap64 (F + Q) = F + Q := w_small c3.1 (Int.le_trans c3.2 (by decide))
                      clear hq hdb hp hQ hy hz hz0 hxb hM c1 c2 c3 c4 hOl b3
                      go_wp2
                      go_roundg (30 - (s + 1))
                      case measure => exact HM.out.1
                      case rel => exact ⟨s + 1, F + Q, HM.out.2, rfl, by go_num, by first | rfl | rw [f8], HF2, rfl⟩
                    · have hz1 : z = 0 := by omega
                      have hO : P - 16 * (X : Int) = 240 := by rw [hp, if_neg hz0]; decide
                      have c3 : 0 ≤ F ∧ F ≤ 10000000 := by omega
                      have f2 : wrap64 (16 * (X : Int)) = 16 * (X : Int) := w_small b3.1 (Int.le_trans b3.2 (by decide))
                      have f3 : wrap64 (P - 16 * (X : Int)) = 240 := by rw [hO]; exact w_small (by decide) (by decide)
                      have f8 : wrap64 F = F := w_small c3.1 (Int.le_trans c3.2 (by decide))
                      clear hdb hp hy hz hz0 hxb b3 c3
                      subst hz1
                      rw [Int.zero_mul, Int.add_zero] at HF2
                      go_wp2
                      go_roundg (30 - (s + 1))
                      case measure => exact HM.out.1
                      case rel => exact ⟨s + 1, F, HM.out.2, rfl, by go_num, by first | rfl | simp [f8], HF2, rfl⟩
                  · obtain rfl : s = 30 := by omega
                    clear hlt
                    have hin := HIN.out
                    have hbA := below_then (below_then HB8.out HBX.out) HB11.out
                    have Hm1 : ∀ x ∈ (Pa.cts ts len).1, 0 ≤ x ∧ x ≤ 1000 := fun x hx => by
                      obtain ⟨j, hj, rfl⟩ := List.getElem_of_mem hx
                      have := hin.1.2 j
                      rw [show (Pa.cts ts len).1.getD j 0 = (Pa.cts ts len).1[j] by simp [List.getD, List.getElem?_eq_getElem hj]] at this
                      omega
                    have Hm2 : ∀ x ∈ (Pa.cts ts len).2, 0 ≤ x ∧ x ≤ 1000 := fun x hx => by
                      obtain ⟨j, hj, rfl⟩ := List.getElem_of_mem hx
                      have := hin.2.2 j
                      rw [show (Pa.cts ts len).2.getD j 0 = (Pa.cts ts len).2[j] by simp [List.getD, List.getElem?_eq_getElem hj]] at this
                      omega
                    have HI1 : Hid (Is .i64 wr (some ⟨h1, 0, none⟩) 286 286 (Pa.cts ts len).1) := Lib.hid (by
                      obtain ⟨a1, k1, e1, hi1⟩ := own_is (own_below HC.out.own1 hbA) (fun x hx => lit_small (Hm1 x hx).1 (by have := (Hm1 x hx).2; omega))
                      injection e1 with e2 _ e3
                      subst e2; subst e3
                      exact hi1)
                    have HI2 : Hid (Is .i64 wr (some ⟨h2, 0, none⟩) 30 30 (Pa.cts ts len).2) := Lib.hid (by
                      obtain ⟨a1, k1, e1, hi1⟩ := own_is (own_below HC.out.own2 hbA) (fun x hx => lit_small (Hm2 x hx).1 (by have := (Hm2 x hx).2; omega))
                      injection e1 with e2 _ e3
                      subst e2; subst e3
                      exact hi1)
                    have HR1 := Lib.hid (rise_most (Pa.cts ts len).1 1099511627776 (fun k hk => by have := hin.1.2 k; omega))
                    have HR2 := Lib.hid (rise_most (Pa.cts ts len).2 1099511627776 (fun k hk => by have := hin.2.2 k; omega))
                    have HU1 := Lib.hid (show Mg.used (Pa.cts ts len).1 ≤ 286 from Nat.le_trans (Mg.used_le _) (by rw [hin.1.1]; exact Nat.le_refl _))
                    have HU2 := Lib.hid (show Mg.used (Pa.cts ts len).2 ≤ 30 from Nat.le_trans (Mg.used_le _) (by rw [hin.2.1]; exact Nat.le_refl _))
                    have HBZ := Lib.hid (below_then (below_then HB3.out HBC.out) hbA)
                    clear hin hbA Hm1 Hm2
                    have HEO := Lib.hid (end_ok ts (by rw [HLN.out]; omega))
                    have HFO := Lib.hid (far_ok ts (by rw [HLN.out]; omega))
                    rw [← HCT.out] at HEO HFO
                    go_wp2_with fail
                    refine (used05_any _ 286 286 _ wr HI1.out (by omega)).mono ?_
                    rintro e w12 ⟨v9, C, rfl, own9, hb9, hrev, hlC⟩
                    have HC9 : Hid (∀ x ∈ C, 0 ≤ x ∧ x ≤ 1099511627776) := Lib.hid (fun x hx => HR1.out x (by rw [← hrev]; exact List.mem_reverse.2 hx))
                    obtain ⟨a9, c9, rfl, hi9⟩ := own_is own9 (fun x hx => by
                      have := HC9.out x hx
                      simp only [Lit.wf, IntKind.min, IntKind.max, IntKind.signed, IntKind.bits, Bool.and_eq_true, decide_eq_true_eq, if_true]
                      simp; omega)
                    rw [hlC] at hi9
                    have HI9 := Lib.hid hi9
                    have HB9 := Lib.hid hb9
                    have HREV := Lib.hid hrev
                    have HLC := Lib.hid hlC
                    clear own9 hi9 hb9 hrev
                    go_wp2_with fail
                    refine (best_any a9 (Mg.used (Pa.cts ts len).1) c9 C 15 w12 HI9.out (by have := HU1.out; omega) (by omega) HC9.out).mono ?_
                    rintro e w13 ⟨b, rfl, hb13, hz, hbst⟩
                    rw [HREV.out] at hbst
                    obtain ⟨q1, q2, q3⟩ := HEO.out b hbst
                    rw [← HTWO.out.1] at q2 q3
                    rw [q1, ← HTWO.out.2.1] at q2 q3
                    have HBY := Lib.hid (below_then HB9.out hb13)
                    have HI2' := Lib.hid (HI2.out.mono HBY.out)
                    have hD2 := HTWO.out.2.2
                    clear hz hbst q1 hb13 HEO HI1 HI9 HREV HLC hlC HC9 HR1 HU1
                    by_cases hu1 : U2 = 1
                    · have hq := q3 hu1
                      have du : ((U2 : Int) == 1) = true := by simp; omega
                      have dun : (U2 == 1) = true := by simpa using hu1
                      clear q2 q3 hu1
                      subst hq
                      clear hD2
                      go_wp2_with fail
                      refine (used05_any _ 30 30 _ w13 HI2'.out (by omega)).mono ?_
                      rintro e w14 ⟨v9, C, rfl, own9, hb9, hrev, hlC⟩
                      have HC9 : Hid (∀ x ∈ C, 0 ≤ x ∧ x ≤ 1099511627776) := Lib.hid (fun x hx => HR2.out x (by rw [← hrev]; exact List.mem_reverse.2 hx))
                      obtain ⟨a9, c9, rfl, hi9⟩ := own_is own9 (fun x hx => by
                        have := HC9.out x hx
                        simp only [Lit.wf, IntKind.min, IntKind.max, IntKind.signed, IntKind.bits, Bool.and_eq_true, decide_eq_true_eq, if_true]
                        simp; omega)
                      rw [hlC] at hi9
                      have HI9 := Lib.hid hi9
                      have HB9b := Lib.hid hb9
                      have HREV := Lib.hid hrev
                      clear own9 hi9 hb9 hrev
                      go_wp2_with fail
                      refine (best_any a9 (Mg.used (Pa.cts ts len).2) c9 C 15 w14 HI9.out (by have := HU2.out; omega) (by omega) HC9.out).mono ?_
                      rintro e w15 ⟨b2, rfl, hb15, hz, hbst⟩
                      rw [HREV.out] at hbst
                      have he := HFO.out b2 hz hbst
                      have hF : F = b2 := by rw [HF.out]; exact he
                      subst hF
                      have dbb : (F == F) = true := by simp
                      have HBR := Lib.hid (below_then (below_then (below_then HBZ.out HBY.out) HB9b.out) hb15)
                      clear hz hbst he hb15 HFO HF hlC
                      go_wp2
                      go_ret
                      exact ⟨rfl, HBR.out⟩
                    · have hq := q2 hu1
                      have du : ((U2 : Int) == 1) = false := by simp; omega
                      have dun : (U2 == 1) = false := by simpa using hu1
                      obtain ⟨E, hE⟩ : ∃ E, b - D2 = E := ⟨_, rfl⟩
                      rw [hE] at hq
                      have i1 : 1 ≤ E := hq.1
                      have i2 : E ≤ 15 := hq.2
                      have dE1 : decide (1 ≤ E) = true := by simpa using i1
                      have dE2 : decide (E ≤ 15) = true := by simpa using i2
                      have fE : wrap64 (b - D2) = E := by rw [hE]; exact w_small (by omega) (by omega)
                      clear q2 q3 hu1 hq hE hD2
                      go_wp2_with fail
                      refine (used05_any _ 30 30 _ w13 HI2'.out (by omega)).mono ?_
                      rintro e w14 ⟨v9, C, rfl, own9, hb9, hrev, hlC⟩
                      have HC9 : Hid (∀ x ∈ C, 0 ≤ x ∧ x ≤ 1099511627776) := Lib.hid (fun x hx => HR2.out x (by rw [← hrev]; exact List.mem_reverse.2 hx))
                      obtain ⟨a9, c9, rfl, hi9⟩ := own_is own9 (fun x hx => by
                        have := HC9.out x hx
                        simp only [Lit.wf, IntKind.min, IntKind.max, IntKind.signed, IntKind.bits, Bool.and_eq_true, decide_eq_true_eq, if_true]
                        simp; omega)
                      rw [hlC] at hi9
                      have HI9 := Lib.hid hi9
                      have HB9b := Lib.hid hb9
                      have HREV := Lib.hid hrev
                      clear own9 hi9 hb9 hrev
                      go_wp2_with fail
                      refine (best_any a9 (Mg.used (Pa.cts ts len).2) c9 C 15 w14 HI9.out (by have := HU2.out; omega) (by omega) HC9.out).mono ?_
                      rintro e w15 ⟨b2, rfl, hb15, hz, hbst⟩
                      rw [HREV.out] at hbst
                      have he := HFO.out b2 hz hbst
                      have hF : F = b2 := by rw [HF.out]; exact he
                      subst hF
                      have dbb : (F == F) = true := by simp
                      have HBR := Lib.hid (below_then (below_then (below_then HBZ.out HBY.out) HB9b.out) hb15)
                      clear hz hbst he hb15 HFO HF hlC
                      go_wp2
                      go_ret
                      exact ⟨rfl, HBR.out⟩
  · clear n1 n2 n3 n4 HCA
    revert HCB
    generalize w6.heap.size = h1
    generalize w3.heap.size = h2
    generalize w7 = W
    intro HC
    have hc0 := HC.out.c1 256 (by omega)
    have hf0 := Pa.own_fz HC.out.own1 256
    have HC0 : Hid (Pa.Cn w3 (W.setCell ⟨h1, 256, none⟩ (.int .i64 1)) h1 h2 (Pa.cts ts 0).1 (Pa.cts ts 0).2) := Lib.hid (HC.out.set1 256 1)
    clear HC
    go_wp2_with fail
    clear hc0 hf0
    revert HC0
    generalize W.setCell ⟨h1, 256, none⟩ (.int .i64 1) = W1
    intro HC0
    go_loopw [43] (fun i wr => ∃ k : Nat, k ≤ len ∧ i = .int .i64 ((k : Nat) : Int) ∧ Hid (Pa.Cn w3 wr h1 h2 (Pa.cts ts k).1 (Pa.cts ts k).2)) (fun i _ => len - (intOf i).toNat)
    case atStart => exact ⟨0, by omega, rfl, HC0⟩
    case round =>
      clear HC0
      obtain ⟨k, hk, rfl, HC⟩ := hrel
      by_cases hlt : k < len
      · obtain ⟨b, off, rfl, hbl, t0, t1⟩ := (H3.out.mono HC.out.bel).at' k hlt
        have hwf := H3.out.wf k hlt
        have hnx := Pa.cts_next ts k (by rw [HLN.out]; exact hlt)
        have hin := Pa.in_cts ts k (by rw [HLN.out]; exact hk)
        have hTK := HAT.out k (by rw [HLN.out]; exact hlt)
        generalize ts.getD k (0, 0) = t at *
        obtain ⟨x, y⟩ := t
        simp only at t0 t1 hwf
        have HTK := Lib.hid hTK
        clear hTK
        have hb5 := below_alloc wr (.cells #[.int .i64 x, .int .i64 y] 59)
        have hr5 : (wr.alloc (.cells #[.int .i64 x, .int .i64 y] 59)).heap[wr.heap.size]? = some (.cells #[.int .i64 x, .int .i64 y] 59 (0, 0)) := heap_alloc_last wr _
        have HS := Lib.hid (refGood06_any (x, y) (wr.alloc (.cells #[.int .i64 x, .int .i64 y] 59)) hwf)
        have HNX := Lib.hid hnx
        have HIN := Lib.hid hin
        have HC5 := Lib.hid (HC.out.mono hb5)
        have HG := Lib.hid (And.intro (HC.out.own1.lt h1 rfl).2 (HC.out.own2.lt h2 rfl).2)
        clear hnx hin hwf hb5 HC hbl
        simp only at HS
        go_wp2_with fail
        refine HS.out.mono ?_
        rintro e w6 ⟨rfl, hb6⟩
        have hr6 := (hb6.block wr.heap.size (by simp)).trans hr5
        have HC6 := Lib.hid (HC5.out.mono hb6)
        have HR6 := Lib.hid hr6
        have HTB : Hid (wr.heap.size < w6.heap.size) := Lib.hid (Array.getElem?_eq_some_iff.1 hr6).1
        have x0 : w6.cell? ⟨wr.heap.size, 0, none⟩ = some (.int .i64 x) := by rw [cell_of_row _ _ _ _ _ (0, 0) hr6]; rfl
        have y0 : w6.cell? ⟨wr.heap.size, 1, none⟩ = some (.int .i64 y) := by rw [cell_of_row _ _ _ _ _ (0, 0) hr6]; rfl
        clear hb6 hr6 hr5 HS HC5 t0 t1
        by_cases htok : Tk.isTok (x, y) = true
        · have htr := Tk.tok_range htok
          simp only at htr
          have HST : Hid (Pa.cts ts (k + 1) = if x = 0 then (Pa.bmp (Pa.cts ts k).1 y.toNat, (Pa.cts ts k).2) else (Pa.bmp (Pa.cts ts k).1 (257 + Sy.lsy x.toNat), Pa.bmp (Pa.cts ts k).2 (Sy.dsy y.toNat))) := Lib.hid (by rw [HNX.out]; unfold Pa.stC; rw [if_pos htok])
          rw [htok]
          clear htok HNX
          by_cases hx : x = 0
          · subst hx
            obtain ⟨j, rfl⟩ : ∃ j : Nat, y = (j : Int) := ⟨y.toNat, by omega⟩
            have hj : j < 286 := by omega
            have hcj := HC6.out.c1 j hj
            have hfj := Pa.own_fz HC6.out.own1 j
            have hvr := HIN.out.1.2 j
            have HC7 := Lib.hid (HC6.out.set1 j ((Pa.cts ts k).1.getD j 0 + 1))
            have HE : Hid (Pa.cts ts (k + 1) = ((Pa.cts ts k).1.set j ((Pa.cts ts k).1.getD j 0 + 1), (Pa.cts ts k).2)) := Lib.hid (by rw [HST.out, if_pos rfl, Int.toNat_natCast]; rfl)
            have dj : decide (j < 286) = true := by simp; omega
            clear HST HC6 HIN
            generalize (Pa.cts ts k).1.getD j 0 = z at *
            go_wp2
            go_roundw
            case rel => exact ⟨k + 1, by omega, by go_num, by rw [HE.out]; exact HC7⟩
            case measure => simp [intOf]; omega
          · obtain ⟨xn, rfl⟩ : ∃ xn : Nat, x = (xn : Int) := ⟨x.toNat, by omega⟩
            obtain ⟨yn, rfl⟩ : ∃ yn : Nat, y = (yn : Int) := ⟨y.toNat, by omega⟩
            have dx0 : ((xn : Int) == 0) = false := by simp; omega
            have HRL := Lib.hid (refLength_any xn w6 (by omega) (by omega))
            have HRD : Hid (∀ X, Calls Tryz.prog 26 #[.int .i64 (yn : Nat)] X fun e w' => e = .returned (.int .i64 ((Sy.dsy yn : Nat) : Int)) ∧ Below X.heap.size X w') := Lib.hid (fun X => refDist_any yn X (by omega) (by omega))
            have HST2 : Hid (Pa.cts ts (k + 1) = (Pa.bmp (Pa.cts ts k).1 (257 + Sy.lsy xn), Pa.bmp (Pa.cts ts k).2 (Sy.dsy yn))) := Lib.hid (by rw [HST.out, if_neg hx, Int.toNat_natCast, Int.toNat_natCast])
            have hj : 257 + Sy.lsy xn < 286 := by have := Sy.cnt_le Sy.lb 28 xn; unfold Sy.lsy; omega
            have hq : Sy.dsy yn < 30 := by have := Sy.cnt_le Sy.db 29 yn; unfold Sy.dsy; omega
            clear HST hx
            generalize 257 + Sy.lsy xn = j at *
            generalize Sy.dsy yn = q at *
            go_wp2_with fail
            refine HRL.out.mono ?_
            rintro e w7 ⟨rfl, hb7⟩
            have HC7 := Lib.hid (HC6.out.mono hb7)
            have hr7 := (hb7.block wr.heap.size HTB.out).trans HR6.out
            have hcj := HC7.out.c1 j hj
            have hfj := Pa.own_fz HC7.out.own1 j
            have hvr := HIN.out.1.2 j
            have hvq := HIN.out.2.2 q
            have HC8 := Lib.hid (HC7.out.set1 j ((Pa.cts ts k).1.getD j 0 + 1))
            have y7 : w7.cell? ⟨wr.heap.size, 1, none⟩ = some (.int .i64 (yn : Nat)) := by rw [cell_of_row _ _ _ _ _ (0, 0) hr7]; rfl
            have y8 : (w7.setCell ⟨h1, j, none⟩ (.int .i64 ((Pa.cts ts k).1.getD j 0 + 1))).cell? ⟨wr.heap.size, 1, none⟩ = some (.int .i64 (yn : Nat)) := by rw [cell_set_other (by have := HG.out.1; omega)]; exact y7
            have dj : decide (j < 286) = true := by simp; omega
            have dq : decide (q < 30) = true := by simp; omega
            have HE : Hid (Pa.cts ts (k + 1) = ((Pa.cts ts k).1.set j ((Pa.cts ts k).1.getD j 0 + 1), (Pa.cts ts k).2.set q ((Pa.cts ts k).2.getD q 0 + 1))) := Lib.hid (by rw [HST2.out]; rfl)
            have HDq : Hid (∀ X, Pa.Cn w3 X h1 h2 ((Pa.cts ts k).1.set j ((Pa.cts ts k).1.getD j 0 + 1)) (Pa.cts ts k).2 → X.cell? ⟨h2, q, none⟩ = some (.int .i64 ((Pa.cts ts k).2.getD q 0))) := Lib.hid (fun X h => h.c2 q hq)
            clear hb7 hr7 HRL HC6 HC7 HST2 HIN
            generalize (Pa.cts ts k).1.getD j 0 = z at *
            generalize (Pa.cts ts k).2.getD q 0 = z2 at *
            go_wp2_with fail
            clear hcj hfj y7
            revert HC8 y8
            generalize w7.setCell ⟨h1, j, none⟩ (.int .i64 (z + 1)) = w8
            intro HC8 y8
            refine (HRD.out w8).mono ?_
            rintro e w9 ⟨rfl, hb9⟩
            have HC9 := Lib.hid (HC8.out.mono hb9)
            have hcq := HDq.out w9 HC9.out
            have hfq := Pa.own_fz HC9.out.own2 q
            have HCA := Lib.hid (HC9.out.set2 q (z2 + 1))
            clear HC8 HC9 hb9 HRD y8 HDq
            go_wp2
            go_roundw
            case rel => exact ⟨k + 1, by omega, by go_num, by rw [HE.out]; exact HCA⟩
            case measure => simp [intOf]; omega
        · exact absurd HTK.out htok
      · obtain rfl : len = k := by omega
        have hin := Pa.in_cts ts len (by rw [HLN.out]; exact Nat.le_refl _)
        have hbc := HC.out.bel
        have hpx := (hbc.block pb (Array.getElem?_eq_some_iff.1 HPX.out).1).trans HPX.out
        have x0 : wr.cell? ⟨pb, 0, none⟩ = some (.slice (some ⟨p1, 0, none⟩) 256 256) := by rw [cell_of_row _ _ _ _ _ (0, 0) hpx]; rfl
        have x1 : wr.cell? ⟨pb, 1, none⟩ = some (.slice (some ⟨p2, 0, none⟩) 259 259) := by rw [cell_of_row _ _ _ _ _ (0, 0) hpx]; rfl
        have x2 : wr.cell? ⟨pb, 2, none⟩ = some (.slice (some ⟨p3, 0, none⟩) 30 30) := by rw [cell_of_row _ _ _ _ _ (0, 0) hpx]; rfl
        have HCT : Hid (Pa.cts ts len = Pa.cts ts ts.length) := Lib.hid (by rw [HLN.out])
        have HQ1 : Hid (∀ s, s < 256 → wr.cell? ⟨p1, s, none⟩ = some (.int .i64 (prc .lit (Pa.cts ts len).1 (LL 2 ts) s))) := Lib.hid (fun s hs => by
          have h1 := (own_below HO1.out hbc).cellAt s (by omega)
          rw [ivs_get _ _ (by simp; omega)] at h1
          rw [HCT.out, h1]
          simp [List.getD, List.getElem?_range hs])
        have HL1 := Lib.hid (LL2_bd ts (by rw [HLN.out]; omega))
        have HR1 := Lib.hid (fun s (hs : s < 256) => (prc_lit (Pa.cts ts len).1 (LL 2 ts) s (by omega)))
        have HUS := Lib.hid (fun s (hs : s < 256) => Mg.used_snoc (Pa.cts ts len).1 s (by rw [hin.1.1]; omega))
        have HDT := Lib.hid (fun s => (show Mg.dot (Pa.cts ts len).1 (LL 2 ts) (s + 1) = Mg.dot (Pa.cts ts len).1 (LL 2 ts) s + (Pa.cts ts len).1.getD s 0 * (LL 2 ts).getD s 0 from rfl))
        have HDB := Lib.hid (fun s (hs : s ≤ 256) => Mg.dot_le (Pa.cts ts len).1 (LL 2 ts) s 301 15 (fun j hj => ⟨(hin.1.2 j).1, by have := (hin.1.2 j).2; omega⟩) (fun j hj => LL2_bd ts (by rw [HLN.out]; omega) j (by omega)))
        have HUL := Lib.hid (fun s => (show Mg.used ((Pa.cts ts len).1.take s) ≤ 286 from Nat.le_trans (Mg.used_le _) (by rw [List.length_take, hin.1.1]; omega)))
        have HIN := Lib.hid hin
        have HBC := Lib.hid hbc
        clear hin hbc hpx
        go_wp2_with fail
        go_loopg [9, 10, 108] 256 (fun gk v9 v10 v108 wx => ∃ (s U : Nat) (D : Int), s ≤ 256 ∧ gk = 256 - s ∧ v108 = .int .i64 (s : Nat) ∧ v9 = .int .i64 D ∧ v10 = .int .i64 (U : Nat) ∧ Hid (D = Mg.dot (Pa.cts ts len).1 (LL 2 ts) s) ∧ Hid (U = 1 + Mg.used ((Pa.cts ts len).1.take s)) ∧ wx = wr)
        case atStart => exact ⟨0, 1, 0, by omega, by omega, rfl, rfl, rfl, Lib.hid rfl, Lib.hid (by simp [Mg.used]), rfl⟩
        case round =>
          obtain ⟨s, U, D, hs, rfl, rfl, rfl, rfl, HD, HU, rfl⟩ := hrel
          by_cases hlt : s < 256
          · have cq := HQ1.out s hlt
            have cl := HC.out.c1 s (by omega)
            have hp := HR1.out s hlt
            have hz := HIN.out.1.2 s
            have hy := HL1.out s (by omega)
            have hdb := HDB.out s hs
            have hul := HUL.out s
            rw [← HD.out] at hdb
            have HD2 : Hid (D + (Pa.cts ts len).1.getD s 0 * (LL 2 ts).getD s 0 = Mg.dot (Pa.cts ts len).1 (LL 2 ts) (s + 1)) := Lib.hid (by rw [HDT.out, HD.out])
            have HU2 : Hid (U + (if 0 < (Pa.cts ts len).1.getD s 0 then 1 else 0) = 1 + Mg.used ((Pa.cts ts len).1.take (s + 1))) := Lib.hid (by rw [HUS.out s hlt, HU.out]; omega)
            have hU : U ≤ 287 := by rw [HU.out]; omega
            have d8 : decide ((s : Int) < 256) = true := by simp; omega
            have d9 : decide (s < 256) = true := by simpa using hlt
            generalize prc .lit (Pa.cts ts len).1 (LL 2 ts) s = p at *
            generalize (Pa.cts ts len).1.getD s 0 = z at *
            generalize (LL 2 ts).getD s 0 = y at *
            clear HD HU hul
            by_cases hz0 : 0 < z
            · rw [if_pos hz0] at hp HU2
              have dz : (z == 0) = false := by simp; omega
              have dz2 : decide (0 < z) = true := by simpa using hz0
              have e1 : p.tmod 16 = 0 := by rw [hp, Int.mul_comm]; exact Int.mul_tmod_left _ _
              have hq := Mg.prod_le (show 0 ≤ z by omega) (show z ≤ 301 by omega) hy.1 hy.2
              have hM : z * p = 16 * (z * y) := by rw [hp, Int.mul_left_comm]
              obtain ⟨Q, hQ⟩ : ∃ Q, z * y = Q := ⟨_, rfl⟩
              rw [hQ] at hq hM HD2
              have e3 : (16 * Q).tdiv 16 = Q := by rw [Int.mul_comm]; exact Int.mul_tdiv_cancel _ (by decide)
              have b1 : 0 ≤ 16 * Q ∧ 16 * Q ≤ 1000000 := by omega
              have b2 : 0 ≤ Q ∧ Q ≤ 1000000 := by omega
              have b3 : 0 ≤ D + Q ∧ D + Q ≤ 10000000 := by omega
              clear hq hdb hp hQ hy hz hz0
              have f1 : wrap64 (z * p) = 16 * Q := by rw [hM]; exact w_small b1.1 (Int.le_trans b1.2 (by decide))
              have f2 : wrap64 Q = Q := w_small b2.1 (Int.le_trans b2.2 (by decide))
              have f3 : wrap64 (D + Q) = D + Q := w_small b3.1 (Int.le_trans b3.2 (by decide))
              have HM : Hid (256 - (s + 1) < 256 - s ∧ s + 1 ≤ 256) := Lib.hid (by omega)
              clear hM b1 b2 b3
              go_wp2
              go_roundg (256 - (s + 1))
              case measure => exact HM.out.1
              case rel => exact ⟨s + 1, U + 1, D + Q, HM.out.2, rfl, by go_num, by first | rfl | rw [f3], by go_num, HD2, HU2, rfl⟩
            · have hz1 : z = 0 := by omega
              rw [if_neg hz0] at hp HU2
              subst hz1
              have hp1 : p = 240 := by omega
              subst hp1
              rw [Int.zero_mul, Int.add_zero] at HD2
              have b3 : 0 ≤ D ∧ D ≤ 10000000 := by omega
              clear hdb hp hy hz hz0
              have f3 : wrap64 D = D := w_small b3.1 (Int.le_trans b3.2 (by decide))
              have HM : Hid (256 - (s + 1) < 256 - s ∧ s + 1 ≤ 256) := Lib.hid (by omega)
              clear b3
              go_wp2
              go_roundg (256 - (s + 1))
              case measure => exact HM.out.1
              case rel => exact ⟨s + 1, U, D, HM.out.2, rfl, by go_num, by first | rfl | simp [f3], rfl, HD2, HU2, rfl⟩
          · obtain rfl : s = 256 := by omega
            clear hlt
            have HDU : Hid (D = Mg.dot (Pa.cts ts len).1 (LL 2 ts) 256 ∧ U = 1 + Mg.used ((Pa.cts ts len).1.take 256) ∧ 0 ≤ D ∧ D ≤ 1200000 ∧ U ≤ 287) := Lib.hid ⟨HD.out, HU.out, by have := HDB.out 256 (by omega); rw [← HD.out] at this; omega, by have := HDB.out 256 (by omega); rw [← HD.out] at this; omega, by have := HUL.out 256; rw [HU.out]; omega⟩
            have HF2 : Hid (∀ n, n < 259 → wr.cell? ⟨p2, n, none⟩ = some (.int .i64 (if 3 ≤ n then prc .lit (Pa.cts ts len).1 (LL 2 ts) (257 + Sy.lsy n) else 0))) := Lib.hid (fun n hn => by
              have h1 := (own_below HO2.out HBC.out).cellAt n (by omega)
              rw [ivs_get _ _ (by simp; omega)] at h1
              rw [HCT.out, h1]
              simp [List.getD, List.getElem?_range hn])
            have HLT : Hid (p2 < wr.heap.size ∧ pb < wr.heap.size ∧ h1 < wr.heap.size ∧ h2 < wr.heap.size ∧ p3 < wr.heap.size) := Lib.hid ⟨by have := ((own_below HO2.out HBC.out).lt p2 rfl).2; exact this, by have := (Array.getElem?_eq_some_iff.1 HPX.out).1; have := HBC.out.size; omega, (HC.out.own1.lt h1 rfl).2, (HC.out.own2.lt h2 rfl).2, ((own_below HO3.out HBC.out).lt p3 rfl).2⟩
            have HX12 : Hid (wr.cell? ⟨pb, 1, none⟩ = some (.slice (some ⟨p2, 0, none⟩) 259 259) ∧ wr.cell? ⟨pb, 2, none⟩ = some (.slice (some ⟨p3, 0, none⟩) 30 30)) := Lib.hid ⟨x1, x2⟩
            clear HD HU x0 x1 x2 HQ1 HR1 HUS HDT HDB HUL
            have hmm := @run_makeMap Tryz.prog
            go_wp2_with fail
            refine (lens_any _).mono ?_
            rintro e w8 ⟨lg, lh, rfl, hTw, hb8⟩
            have HTW := Lib.hid hTw
            have HB8 := Lib.hid hb8
            clear hTw hb8
            have HMP : Hid ((w8.alloc (.map #[] 0)).ownsMap Tryz.prog 3 (Go.plainElem (H := Unit) Tryz.prog 3) w8.heap.size 0 (.map []) ∧ Below w8.heap.size w8 (w8.alloc (.map #[] 0))) := Lib.hid ⟨World.ownsMap_made _ _ _ _, below_alloc _ _⟩
            go_wp2_with fail
            clear hmm
            revert HMP
            generalize w8.alloc (.map #[] 0) = w9
            intro HMP
            generalize hmb : w8.heap.size = mb at HMP ⊢
            have HBM := Lib.hid (show Below w8.heap.size w8 w9 by rw [hmb]; exact HMP.out.2)
            have HSE := Lib.hid (Seen.start HMP.out.1)
            have HMB := Lib.hid hmb
            clear HMP hmb
            have HTL := Lib.hid (fun T => (show tl (Pa.cts ts len).1 (LL 2 ts) (T + 1) = tl (Pa.cts ts len).1 (LL 2 ts) T + (Pa.cts ts len).1.getD (257 + T) 0 * (LL 2 ts).getD (257 + T) 0 from rfl))
            have HUT := Lib.hid (fun T => (show ul (Pa.cts ts len).1 (T + 1) = ul (Pa.cts ts len).1 T + (if 0 < (Pa.cts ts len).1.getD (257 + T) 0 then 1 else 0) from rfl))
            go_loopg [9, 10, 16] 256 (fun gk v9 v10 v16 wx => ∃ (n T U2 cnt : Nat) (D2 : Int) (c : Nat → Nat) (Dm : DataW Unit), 3 ≤ n ∧ n ≤ 259 ∧ gk = 259 - n ∧ v16 = .int .i64 (n : Nat) ∧ v9 = .int .i64 D2 ∧ v10 = .int .i64 (U2 : Nat) ∧ Hid (D2 = D + tl (Pa.cts ts len).1 (LL 2 ts) T) ∧ Hid (U2 = U + ul (Pa.cts ts len).1 T) ∧ Hid (0 ≤ D2 ∧ D2 ≤ 1200000 + T * 4515 ∧ U2 ≤ 287 + T ∧ T ≤ 29) ∧ Hid (Row n T) ∧ Hid (Below w8.heap.size w8 wx) ∧ Hid (Seen wx mb n T c cnt Dm))
            case atStart => exact ⟨3, 0, U, 0, D, fun _ => 0, .map [], by omega, by omega, by omega, rfl, rfl, rfl, Lib.hid (by simp [tl]), Lib.hid (by simp [ul]), Lib.hid (by have := HDU.out; omega), Lib.hid (.inl ⟨rfl, rfl⟩), HBM, HSE⟩
            case round =>
              clear HSE HBM
              obtain ⟨n, T, U2, cnt, D2, c, Dm, hn3, hn9, rfl, rfl, rfl, rfl, HD2, HU2, HBD, HRW, HBX, HSX⟩ := hrel
              by_cases hlt : n < 259
              · have hrn := HRW.out.next hn3 hlt
                have hjj : Sy.lsy n ≤ 28 := hrn.2.2
                have HRN := Lib.hid hrn
                have HLY := Lib.hid (refLength_any n)
                have d8 : decide ((n : Int) < 259) = true := by simp; omega
                have d9 : decide (n < 259) = true := by simpa using hlt
                have hz := HIN.out.1.2 (257 + Sy.lsy n)
                have hy := HL1.out (257 + Sy.lsy n) (by omega)
                have hpo := prc_own .lit (Pa.cts ts len).1 (LL 2 ts) (257 + Sy.lsy n)
                have hxt : xt .lit ((257 + Sy.lsy n : Nat) : Int) = (Sy.lb (Sy.lsy n)).2 := by
                  unfold xt bse
                  simp only
                  rw [if_pos (by omega)]
                  congr 2
                  omega
                have hlb := (lb_le (Sy.lsy n) (by omega)).2
                rw [hxt] at hpo
                go_wp2_with fail
                refine (HLY.out _ hn3 (by omega)).mono ?_
                rintro e w10 ⟨rfl, hb10⟩
                have HB10 := Lib.hid (below_then HBX.out hb10)
                have HS10 := Lib.hid (HSX.out.below hb10)
                clear hb10 HBX HSX HLY
                have hbW := below_then HB8.out HB10.out
                have x1' : w10.cell? ⟨pb, 1, none⟩ = some (.slice (some ⟨p2, 0, none⟩) 259 259) := (hbW.cell (p := ⟨pb, 1, none⟩) HLT.out.2.1).trans HX12.out.1
                have x2' : w10.cell? ⟨p2, n, none⟩ = some (.int .i64 (prc .lit (Pa.cts ts len).1 (LL 2 ts) (257 + Sy.lsy n))) := by rw [hbW.cell (p := ⟨p2, n, none⟩) HLT.out.1, HF2.out n hlt, if_pos hn3]
                have x3' : w10.cell? ⟨lh, Sy.lsy n, none⟩ = some (.int .i64 ((Sy.lb (Sy.lsy n)).2 : Nat)) := (HB10.out.cell (p := ⟨lh, Sy.lsy n, none⟩) HTW.out.lh).trans (HTW.out.snd _ (by omega))
                have x4' : w10.cell? ⟨h1, 257 + Sy.lsy n, none⟩ = some (.int .i64 ((Pa.cts ts len).1.getD (257 + Sy.lsy n) 0)) := (hbW.cell (p := ⟨h1, 257 + Sy.lsy n, none⟩) HLT.out.2.2.1).trans (HC.out.c1 _ (by omega))
                have hat := HS10.out.at' (Sy.lsy n) (by omega)
                have HPUT := Lib.hid (fun W' own' => HS10.out.put (W' := W') (Sy.lsy n) hrn.1 own')
                have hc1 := HS10.out.one (Sy.lsy n)
                have hc0 := HS10.out.zero (Sy.lsy n)
                have hct := HS10.out.top (Sy.lsy n)
                have hcn := HS10.out.cn
                have HTJ : Hid (Sy.lsy n = T → tl (Pa.cts ts len).1 (LL 2 ts) (T + 1) = tl (Pa.cts ts len).1 (LL 2 ts) T + (Pa.cts ts len).1.getD (257 + Sy.lsy n) 0 * (LL 2 ts).getD (257 + Sy.lsy n) 0) := Lib.hid (fun e => by rw [e]; exact HTL.out T)
                have HUJ : Hid (Sy.lsy n = T → ul (Pa.cts ts len).1 (T + 1) = ul (Pa.cts ts len).1 T + (if 0 < (Pa.cts ts len).1.getD (257 + Sy.lsy n) 0 then 1 else 0)) := Lib.hid (fun e => by rw [e]; exact HUT.out T)
                clear hbW hxt
                generalize hP : prc .lit (Pa.cts ts len).1 (LL 2 ts) (257 + Sy.lsy n) = P at *
                generalize (Pa.cts ts len).1.getD (257 + Sy.lsy n) 0 = z at *
                generalize (LL 2 ts).getD (257 + Sy.lsy n) 0 = y at *
                generalize (Sy.lb (Sy.lsy n)).2 = X at *
                generalize hS : 257 + Sy.lsy n = S at *
                generalize Sy.lsy n = j at *
                generalize hN : c j = N at *
                have hSr : S < 286 := by omega
                have b1 : (S : Int) - 257 = (j : Int) := by omega
                have b2 : (j : Int) ≤ 1000 := by omega
                have b3 : (0 : Int) ≤ 16 * (X : Int) ∧ 16 * (X : Int) ≤ 1000 := by omega
                have b4 : ((N : Int) + 1) ≤ 1000 := by omega
                have HCNT : Hid (cnt < maxLen) := Lib.hid (by unfold maxLen; omega)
                have hkey : keyOf Tryz.prog 3 (.int .i64 ((S : Nat) : Int)) = some (.int .i64 ((S : Nat) : Int)) := keyOf_int_mk Tryz.underlying3 (lit_small (by omega) (by omega))
                have hwf2 : (Lit.int .i64 ((N : Int) + 1)).wf = true := lit_small (by omega) (by omega)
                have dS : decide (S < 286) = true := by simpa using hSr
                have dj : decide (j < 29) = true := by simp; omega
                have dSi : decide ((S : Int) < 286) = true := by simp; omega
                have i1 : (n : Int) < 259 := by omega
                have i2 : (j : Int) < 29 := by omega
                have i3 : (S : Int) < 286 := by omega
                have hbd := HBD.out
                by_cases hz0 : 0 < z
                · by_cases hjT : j = T
                  · have hN0 : N = 0 := hc0 (by omega)
                    have HT := Lib.hid (HTJ.out hjT)
                    have HUU := Lib.hid (HUJ.out hjT)
                    rw [if_pos hjT] at hrn
                    have HPT := Lib.hid (fun W' own' => (show Seen W' mb (n + 1) (T + 1) _ (cnt + 1) _ from by have := HPUT.out W' own'; rwa [if_pos hjT] at this))
                    have HRN2 := Lib.hid hrn.2.1
                    have hO : P - 16 * (X : Int) = 16 * y := by rw [hpo, if_pos hz0]
                    have dz : (z == 0) = false := by simp; omega
                    have dz2 : decide (0 < z) = true := by simpa using hz0
                    have e1 : (16 * y).tmod 16 = 0 := by rw [Int.mul_comm]; exact Int.mul_tmod_left _ _
                    have hq := Mg.prod_le (show 0 ≤ z by omega) (show z ≤ 301 by omega) hy.1 hy.2
                    have hM : z * (16 * y) = 16 * (z * y) := Int.mul_left_comm _ _ _
                    obtain ⟨Q, hQ⟩ : ∃ Q, z * y = Q := ⟨_, rfl⟩
                    rw [hQ] at hq hM
                    have e3 : (16 * Q).tdiv 16 = Q := by rw [Int.mul_comm]; exact Int.mul_tdiv_cancel _ (by decide)
                    have c1 : 0 ≤ 16 * Q ∧ 16 * Q ≤ 1000000 := by omega
                    have c2 : 0 ≤ Q ∧ Q ≤ 1000000 := by omega
                    have c3 : 0 ≤ D2 + Q ∧ D2 + Q ≤ 10000000 := by omega
                    have c4 : 0 ≤ 16 * y ∧ 16 * y ≤ 1000 := by omega
                    obtain ⟨O, hOl⟩ : ∃ O, 16 * y = O := ⟨_, rfl⟩
                    rw [hOl] at hO e1 hM c4
                    rw [hQ] at HT
                    rw [if_pos hz0] at HUU
                    have dN : ((N : Int) + 1 == 1) = true := by simp; omega
                    have dN2 : (N + 1 == 1) = true := by simp; omega
                    have HD3 : Hid (D2 + Q = D + tl (Pa.cts ts len).1 (LL 2 ts) (T + 1)) := Lib.hid (by rw [HT.out, HD2.out]; omega)
                    have HU3 : Hid (U2 + 1 = U + ul (Pa.cts ts len).1 (T + 1)) := Lib.hid (by rw [HUU.out, HU2.out]; omega)
                    have HBD2 : Hid (0 ≤ D2 + Q ∧ D2 + Q ≤ 1200000 + ((T + 1 : Nat) : Int) * 4515 ∧ U2 + 1 ≤ 287 + (T + 1) ∧ T + 1 ≤ 29) := Lib.hid (by omega)
                    have hU2 : U2 ≤ 400 := by omega
                    have HMS : Hid (259 - (n + 1) < 259 - n ∧ 3 ≤ n + 1 ∧ n + 1 ≤ 259) := Lib.hid (by omega)
                    have f1 : wrap64 ((S : Int) - 257) = (j : Int) := by rw [b1]; exact w_small (Int.natCast_nonneg _) (Int.le_trans b2 (by decide))
                    have f2 : wrap64 (16 * (X : Int)) = 16 * (X : Int) := w_small b3.1 (Int.le_trans b3.2 (by decide))
                    have f9 : wrap64 O = O := w_small c4.1 (Int.le_trans c4.2 (by decide))
                    have f3 : wrap64 (P - 16 * (X : Int)) = O := by rw [hO]; exact w_small c4.1 (Int.le_trans c4.2 (by decide))
                    have f6 : wrap64 (z * O) = 16 * Q := by rw [hM]; exact w_small c1.1 (Int.le_trans c1.2 (by decide))
                    have f7 : wrap64 Q = Q := w_small c2.1 (Int.le_trans c2.2 (by decide))
                    have f8 : wrap64 (D2 + Q) = D2 + Q := w_small c3.1 (Int.le_trans c3.2 (by decide))
                    have f5 : wrap64 ((N : Int) + 1) = (N : Int) + 1 := w_small (by omega) (Int.le_trans b4 (by decide))
                    clear hrn hpo hz hy hlb hN hc1 hc0 hct hcn hbd b2 b3 b4 hjj hP hS hSr hjT hz0 HTJ HUJ HRN HRW hN0 hq hM hQ c1 c2 c3 c4 hOl
                    go_wp2_with fail
                    go_quiet (fail)
                    have HSQ := Lib.hid (HS10.out.drew nq)
                    have HBQ := Lib.hid (HB10.out.trans ((drewN_is w10 nq).mono HB10.out.size))
                    have x4q : (w10.drewN nq).cell? ⟨h1, S, none⟩ = some (.int .i64 z) := x4'
                    have h8 := Nat.lt_of_lt_of_le HLT.out.2.2.1 HB8.out.size
                    have hat3 : (Dm.put (.int .i64 (S : Int)) (.lit (.int .i64 ((N : Int) + 1)))).atKey (.int .i64 (S : Int)) (.lit (.int .i64 0)) = .lit (.int .i64 ((N : Int) + 1)) := atKey_put_same HSQ.out.own.isMap (by simp [WideAt.IsKeyLit]) _ _
                    go_wp2_with (first
                      | (at_lookup; refine wpList_lookup_own_int _ rfl _ _ 64 rfl 3 3 .i64 keyI Tryz.underlying64 Tryz.underlying3 (zeroI _) mb (cnt + 1) _ rfl HSN.out.own _ _ rfl hkey ?_; intro cc hat2 hwc; obtain rfl := cc_eq hat3 hat2; clear hat2 hwc)
                      | (at_lookup; refine wpList_lookup_own_int _ rfl _ _ 64 rfl 3 3 .i64 keyI Tryz.underlying64 Tryz.underlying3 (zeroI _) mb cnt _ rfl HSQ.out.own _ _ rfl hkey ?_; intro cc hat2 hwc; obtain rfl := cc_eq hat hat2; clear hat2 hwc)
                      | (at_mapUpdate; refine wpList_mapUpdate_own _ rfl _ _ _ 64 rfl 3 3 keyI Tryz.underlying64 _ mb cnt _ rfl HSQ.out.own HCNT.out _ _ _ rfl rfl hkey _ [] (by first | exact plainElem_int Tryz.underlying3 (wrap64_wf _) | exact plainElem_int Tryz.underlying3 hwf2) ?_; intro w11 hown1 hg1; rw [f5] at hown1; have HSN := Lib.hid (HPT.out w11 hown1); have HB11 := Lib.hid (HBQ.out.grown hg1 HBQ.out.size (fun r e => by cases e; exact Nat.le_of_eq HMB.out)); have x4r : w11.cell? ⟨h1, S, none⟩ = some (.int .i64 z) := (HB11.out.cell (p := ⟨h1, S, none⟩) h8).trans ((HBQ.out.cell (p := ⟨h1, S, none⟩) h8).symm.trans x4q); clear hg1 hown1))
                    go_roundg (259 - (n + 1))
                    case measure => exact HMS.out.1
                    case rel => exact ⟨n + 1, T + 1, U2 + 1, cnt + 1, D2 + Q, _, _, HMS.out.2.1, HMS.out.2.2, rfl, by go_num, by first | rfl | rw [f8], by go_num, HD3, HU3, HBD2, HRN2, HB11, HSN⟩
                  · have hjl : j < T := by rcases hrn.1 with h | h; exact h; exact absurd h hjT
                    have hN1 := hc1 hjl
                    rw [if_neg hjT] at hrn
                    have HPT := Lib.hid (fun W' own' => (show Seen W' mb (n + 1) T _ (cnt + 1) _ from by have := HPUT.out W' own'; rwa [if_neg hjT] at this))
                    have HRN2 := Lib.hid hrn.2.1
                    have hO : P - 16 * (X : Int) = 16 * y := by rw [hpo, if_pos hz0]
                    have dz : (z == 0) = false := by simp; omega
                    have dz2 : decide (0 < z) = true := by simpa using hz0
                    have e1 : (16 * y).tmod 16 = 0 := by rw [Int.mul_comm]; exact Int.mul_tmod_left _ _
                    have c4 : 0 ≤ 16 * y ∧ 16 * y ≤ 1000 := by omega
                    obtain ⟨O, hOl⟩ : ∃ O, 16 * y = O := ⟨_, rfl⟩
                    rw [hOl] at hO e1 c4
                    have dN : ((N : Int) + 1 == 1) = false := by simp; omega
                    have dN2 : (N + 1 == 1) = false := by simp; omega
                    have HMS : Hid (259 - (n + 1) < 259 - n ∧ 3 ≤ n + 1 ∧ n + 1 ≤ 259) := Lib.hid (by omega)
                    have c3 : 0 ≤ D2 ∧ D2 ≤ 10000000 := by omega
                    have f1 : wrap64 ((S : Int) - 257) = (j : Int) := by rw [b1]; exact w_small (Int.natCast_nonneg _) (Int.le_trans b2 (by decide))
                    have f2 : wrap64 (16 * (X : Int)) = 16 * (X : Int) := w_small b3.1 (Int.le_trans b3.2 (by decide))
                    have f9 : wrap64 O = O := w_small c4.1 (Int.le_trans c4.2 (by decide))
                    have f3 : wrap64 (P - 16 * (X : Int)) = O := by rw [hO]; exact w_small c4.1 (Int.le_trans c4.2 (by decide))
                    have f8 : wrap64 D2 = D2 := w_small c3.1 (Int.le_trans c3.2 (by decide))
                    have f5 : wrap64 ((N : Int) + 1) = (N : Int) + 1 := w_small (by omega) (Int.le_trans b4 (by decide))
                    clear hrn hpo hz hy hlb hN hc1 hc0 hct hcn hbd b2 b3 b4 hjj hP hS hSr hjT hz0 HTJ HUJ HRN HRW hjl hN1 c3 c4 hOl
                    go_wp2_with fail
                    go_quiet (fail)
                    have HSQ := Lib.hid (HS10.out.drew nq)
                    have HBQ := Lib.hid (HB10.out.trans ((drewN_is w10 nq).mono HB10.out.size))
                    have x4q : (w10.drewN nq).cell? ⟨h1, S, none⟩ = some (.int .i64 z) := x4'
                    have h8 := Nat.lt_of_lt_of_le HLT.out.2.2.1 HB8.out.size
                    have hat3 : (Dm.put (.int .i64 (S : Int)) (.lit (.int .i64 ((N : Int) + 1)))).atKey (.int .i64 (S : Int)) (.lit (.int .i64 0)) = .lit (.int .i64 ((N : Int) + 1)) := atKey_put_same HSQ.out.own.isMap (by simp [WideAt.IsKeyLit]) _ _
                    go_wp2_with (first
                      | (at_lookup; refine wpList_lookup_own_int _ rfl _ _ 64 rfl 3 3 .i64 keyI Tryz.underlying64 Tryz.underlying3 (zeroI _) mb (cnt + 1) _ rfl HSN.out.own _ _ rfl hkey ?_; intro cc hat2 hwc; obtain rfl := cc_eq hat3 hat2; clear hat2 hwc)
                      | (at_lookup; refine wpList_lookup_own_int _ rfl _ _ 64 rfl 3 3 .i64 keyI Tryz.underlying64 Tryz.underlying3 (zeroI _) mb cnt _ rfl HSQ.out.own _ _ rfl hkey ?_; intro cc hat2 hwc; obtain rfl := cc_eq hat hat2; clear hat2 hwc)
                      | (at_mapUpdate; refine wpList_mapUpdate_own _ rfl _ _ _ 64 rfl 3 3 keyI Tryz.underlying64 _ mb cnt _ rfl HSQ.out.own HCNT.out _ _ _ rfl rfl hkey _ [] (by first | exact plainElem_int Tryz.underlying3 (wrap64_wf _) | exact plainElem_int Tryz.underlying3 hwf2) ?_; intro w11 hown1 hg1; rw [f5] at hown1; have HSN := Lib.hid (HPT.out w11 hown1); have HB11 := Lib.hid (HBQ.out.grown hg1 HBQ.out.size (fun r e => by cases e; exact Nat.le_of_eq HMB.out)); have x4r : w11.cell? ⟨h1, S, none⟩ = some (.int .i64 z) := (HB11.out.cell (p := ⟨h1, S, none⟩) h8).trans ((HBQ.out.cell (p := ⟨h1, S, none⟩) h8).symm.trans x4q); clear hg1 hown1))
                    go_roundg (259 - (n + 1))
                    case measure => exact HMS.out.1
                    case rel => exact ⟨n + 1, T, U2, cnt + 1, D2, _, _, HMS.out.2.1, HMS.out.2.2, rfl, by go_num, by first | rfl | simp [f8], rfl, HD2, HU2, HBD, HRN2, HB11, HSN⟩
                · by_cases hjT : j = T
                  · have hz1 : z = 0 := by omega
                    have hO : P - 16 * (X : Int) = 240 := by rw [hpo, if_neg hz0]; decide
                    have HMS : Hid (259 - (n + 1) < 259 - n ∧ 3 ≤ n + 1 ∧ n + 1 ≤ 259) := Lib.hid (by omega)
                    have c3 : 0 ≤ D2 ∧ D2 ≤ 10000000 := by omega
                    have hN0 : N = 0 := hc0 (by omega)
                    have HT := Lib.hid (HTJ.out hjT)
                    have HUU := Lib.hid (HUJ.out hjT)
                    rw [if_pos hjT] at hrn
                    have HPT := Lib.hid (fun W' own' => (show Seen W' mb (n + 1) (T + 1) _ (cnt + 1) _ from by have := HPUT.out W' own'; rwa [if_pos hjT] at this))
                    have HRN2 := Lib.hid hrn.2.1
                    rw [hz1, Int.zero_mul, Int.add_zero] at HT
                    rw [if_neg hz0] at HUU
                    have dN : ((N : Int) + 1 == 1) = true := by simp; omega
                    have dN2 : (N + 1 == 1) = true := by simp; omega
                    have HD3 : Hid (D2 = D + tl (Pa.cts ts len).1 (LL 2 ts) (T + 1)) := Lib.hid (by rw [HT.out, HD2.out])
                    have HU3 : Hid (U2 = U + ul (Pa.cts ts len).1 (T + 1)) := Lib.hid (by rw [HUU.out, HU2.out]; rfl)
                    have HBD2 : Hid (0 ≤ D2 ∧ D2 ≤ 1200000 + ((T + 1 : Nat) : Int) * 4515 ∧ U2 ≤ 287 + (T + 1) ∧ T + 1 ≤ 29) := Lib.hid (by omega)
                    have f1 : wrap64 ((S : Int) - 257) = (j : Int) := by rw [b1]; exact w_small (Int.natCast_nonneg _) (Int.le_trans b2 (by decide))
                    have f2 : wrap64 (16 * (X : Int)) = 16 * (X : Int) := w_small b3.1 (Int.le_trans b3.2 (by decide))
                    have f3 : wrap64 (P - 16 * (X : Int)) = 240 := by rw [hO]; exact w_small (by decide) (by decide)
                    have f8 : wrap64 D2 = D2 := w_small c3.1 (Int.le_trans c3.2 (by decide))
                    have f5 : wrap64 ((N : Int) + 1) = (N : Int) + 1 := w_small (by omega) (Int.le_trans b4 (by decide))
                    clear hrn hpo hz hy hlb hN hc1 hc0 hct hcn hbd b2 b3 b4 hjj hP hS hSr hjT hz0 HTJ HUJ HRN HRW hN0 c3
                    subst hz1
                    go_wp2_with fail
                    go_quiet (fail)
                    have HSQ := Lib.hid (HS10.out.drew nq)
                    have HBQ := Lib.hid (HB10.out.trans ((drewN_is w10 nq).mono HB10.out.size))
                    have x4q : (w10.drewN nq).cell? ⟨h1, S, none⟩ = some (.int .i64 0) := x4'
                    have h8 := Nat.lt_of_lt_of_le HLT.out.2.2.1 HB8.out.size
                    have hat3 : (Dm.put (.int .i64 (S : Int)) (.lit (.int .i64 ((N : Int) + 1)))).atKey (.int .i64 (S : Int)) (.lit (.int .i64 0)) = .lit (.int .i64 ((N : Int) + 1)) := atKey_put_same HSQ.out.own.isMap (by simp [WideAt.IsKeyLit]) _ _
                    go_wp2_with (first
                      | (at_lookup; refine wpList_lookup_own_int _ rfl _ _ 64 rfl 3 3 .i64 keyI Tryz.underlying64 Tryz.underlying3 (zeroI _) mb (cnt + 1) _ rfl HSN.out.own _ _ rfl hkey ?_; intro cc hat2 hwc; obtain rfl := cc_eq hat3 hat2; clear hat2 hwc)
                      | (at_lookup; refine wpList_lookup_own_int _ rfl _ _ 64 rfl 3 3 .i64 keyI Tryz.underlying64 Tryz.underlying3 (zeroI _) mb cnt _ rfl HSQ.out.own _ _ rfl hkey ?_; intro cc hat2 hwc; obtain rfl := cc_eq hat hat2; clear hat2 hwc)
                      | (at_mapUpdate; refine wpList_mapUpdate_own _ rfl _ _ _ 64 rfl 3 3 keyI Tryz.underlying64 _ mb cnt _ rfl HSQ.out.own HCNT.out _ _ _ rfl rfl hkey _ [] (by first | exact plainElem_int Tryz.underlying3 (wrap64_wf _) | exact plainElem_int Tryz.underlying3 hwf2) ?_; intro w11 hown1 hg1; rw [f5] at hown1; have HSN := Lib.hid (HPT.out w11 hown1); have HB11 := Lib.hid (HBQ.out.grown hg1 HBQ.out.size (fun r e => by cases e; exact Nat.le_of_eq HMB.out)); have x4r : w11.cell? ⟨h1, S, none⟩ = some (.int .i64 0) := (HB11.out.cell (p := ⟨h1, S, none⟩) h8).trans ((HBQ.out.cell (p := ⟨h1, S, none⟩) h8).symm.trans x4q); clear hg1 hown1))
                    go_roundg (259 - (n + 1))
                    case measure => exact HMS.out.1
                    case rel => exact ⟨n + 1, T + 1, U2, cnt + 1, D2, _, _, HMS.out.2.1, HMS.out.2.2, rfl, by go_num, by first | rfl | simp [f8], rfl, HD3, HU3, HBD2, HRN2, HB11, HSN⟩
                  · have hz1 : z = 0 := by omega
                    have hO : P - 16 * (X : Int) = 240 := by rw [hpo, if_neg hz0]; decide
                    have HMS : Hid (259 - (n + 1) < 259 - n ∧ 3 ≤ n + 1 ∧ n + 1 ≤ 259) := Lib.hid (by omega)
                    have c3 : 0 ≤ D2 ∧ D2 ≤ 10000000 := by omega
                    have hjl : j < T := by rcases hrn.1 with h | h; exact h; exact absurd h hjT
                    have hN1 := hc1 hjl
                    rw [if_neg hjT] at hrn
                    have HPT := Lib.hid (fun W' own' => (show Seen W' mb (n + 1) T _ (cnt + 1) _ from by have := HPUT.out W' own'; rwa [if_neg hjT] at this))
                    have HRN2 := Lib.hid hrn.2.1
                    have dN : ((N : Int) + 1 == 1) = false := by simp; omega
                    have dN2 : (N + 1 == 1) = false := by simp; omega
                    have f1 : wrap64 ((S : Int) - 257) = (j : Int) := by rw [b1]; exact w_small (Int.natCast_nonneg _) (Int.le_trans b2 (by decide))
                    have f2 : wrap64 (16 * (X : Int)) = 16 * (X : Int) := w_small b3.1 (Int.le_trans b3.2 (by decide))
                    have f3 : wrap64 (P - 16 * (X : Int)) = 240 := by rw [hO]; exact w_small (by decide) (by decide)
                    have f8 : wrap64 D2 = D2 := w_small c3.1 (Int.le_trans c3.2 (by decide))
                    have f5 : wrap64 ((N : Int) + 1) = (N : Int) + 1 := w_small (by omega) (Int.le_trans b4 (by decide))
                    clear hrn hpo hz hy hlb hN hc1 hc0 hct hcn hbd b2 b3 b4 hjj hP hS hSr hjT hz0 HTJ HUJ HRN HRW hjl hN1 c3
                    subst hz1
                    go_wp2_with fail
                    go_quiet (fail)
                    have HSQ := Lib.hid (HS10.out.drew nq)
                    have HBQ := Lib.hid (HB10.out.trans ((drewN_is w10 nq).mono HB10.out.size))
                    have x4q : (w10.drewN nq).cell? ⟨h1, S, none⟩ = some (.int .i64 0) := x4'
                    have h8 := Nat.lt_of_lt_of_le HLT.out.2.2.1 HB8.out.size
                    have hat3 : (Dm.put (.int .i64 (S : Int)) (.lit (.int .i64 ((N : Int) + 1)))).atKey (.int .i64 (S : Int)) (.lit (.int .i64 0)) = .lit (.int .i64 ((N : Int) + 1)) := atKey_put_same HSQ.out.own.isMap (by simp [WideAt.IsKeyLit]) _ _
                    go_wp2_with (first
                      | (at_lookup; refine wpList_lookup_own_int _ rfl _ _ 64 rfl 3 3 .i64 keyI Tryz.underlying64 Tryz.underlying3 (zeroI _) mb (cnt + 1) _ rfl HSN.out.own _ _ rfl hkey ?_; intro cc hat2 hwc; obtain rfl := cc_eq hat3 hat2; clear hat2 hwc)
                      | (at_lookup; refine wpList_lookup_own_int _ rfl _ _ 64 rfl 3 3 .i64 keyI Tryz.underlying64 Tryz.underlying3 (zeroI _) mb cnt _ rfl HSQ.out.own _ _ rfl hkey ?_; intro cc hat2 hwc; obtain rfl := cc_eq hat hat2; clear hat2 hwc)
                      | (at_mapUpdate; refine wpList_mapUpdate_own _ rfl _ _ _ 64 rfl 3 3 keyI Tryz.underlying64 _ mb cnt _ rfl HSQ.out.own HCNT.out _ _ _ rfl rfl hkey _ [] (by first | exact plainElem_int Tryz.underlying3 (wrap64_wf _) | exact plainElem_int Tryz.underlying3 hwf2) ?_; intro w11 hown1 hg1; rw [f5] at hown1; have HSN := Lib.hid (HPT.out w11 hown1); have HB11 := Lib.hid (HBQ.out.grown hg1 HBQ.out.size (fun r e => by cases e; exact Nat.le_of_eq HMB.out)); have x4r : w11.cell? ⟨h1, S, none⟩ = some (.int .i64 0) := (HB11.out.cell (p := ⟨h1, S, none⟩) h8).trans ((HBQ.out.cell (p := ⟨h1, S, none⟩) h8).symm.trans x4q); clear hg1 hown1))
                    go_roundg (259 - (n + 1))
                    case measure => exact HMS.out.1
                    case rel => exact ⟨n + 1, T, U2, cnt + 1, D2, _, _, HMS.out.2.1, HMS.out.2.2, rfl, by go_num, by first | rfl | simp [f8], rfl, HD2, HU2, HBD, HRN2, HB11, HSN⟩
              · obtain rfl : n = 259 := by omega
                have hT29 : T = 29 := by
                  rcases HRW.out with ⟨h, _⟩ | ⟨_, h⟩
                  · omega
                  · rw [h]; show Sy.lsy 258 + 1 = 29; rw [lsy_last]
                subst hT29
                have HTWO : Hid (D2 = Mg.dot (Pa.cts ts len).1 (LL 2 ts) 256 + tl (Pa.cts ts len).1 (LL 2 ts) 29 ∧ U2 = 1 + Mg.used ((Pa.cts ts len).1.take 256) + ul (Pa.cts ts len).1 29 ∧ 0 ≤ D2 ∧ D2 ≤ 1400000 ∧ U2 ≤ 400) := Lib.hid ⟨by rw [HD2.out, HDU.out.1], by rw [HU2.out, HDU.out.2.1], by have := HBD.out; omega, by have := HBD.out; omega, by have := HBD.out; omega⟩
                have hbW := below_then HB8.out HBX.out
                have HQ3 : Hid (∀ s, s < 30 → wr.cell? ⟨p3, s, none⟩ = some (.int .i64 (prc .dst (Pa.cts ts len).2 (DL 2 ts) s))) := Lib.hid (fun s hs => by
                  have h1 := ((own_below HO3.out HBC.out).cellAt s (by omega))
                  rw [ivs_get _ _ (by simp; omega)] at h1
                  rw [hbW.cell (p := ⟨p3, s, none⟩) HLT.out.2.2.2.2, HCT.out, h1]
                  simp [List.getD, List.getElem?_range hs])
                have HC2 : Hid (∀ s, s < 30 → wr.cell? ⟨h2, s, none⟩ = some (.int .i64 ((Pa.cts ts len).2.getD s 0))) := Lib.hid (fun s hs => (hbW.cell (p := ⟨h2, s, none⟩) HLT.out.2.2.2.1).trans (HC.out.c2 s hs))
                have x2' := (hbW.cell (p := ⟨pb, 2, none⟩) HLT.out.2.1).trans HX12.out.2
                have HLT2 := Lib.hid (show p3 < wr.heap.size ∧ h2 < wr.heap.size ∧ h1 < wr.heap.size ∧ pb < wr.heap.size from by have h1 := HLT.out; have h2 := hbW.size; omega)
                clear hbW hlt HD2 HU2 HBD HRW HTW HSX HTL HUT HF2 HLT HX12 HMB
                go_wp2_with fail
                refine (dists_any _).mono ?_
                rintro e w11 ⟨dg, dh, rfl, hTw, hb11⟩
                have HTW := Lib.hid hTw
                have HB11 := Lib.hid hb11
                have x2 : w11.cell? ⟨pb, 2, none⟩ = some (.slice (some ⟨p3, 0, none⟩) 30 30) := (hb11.cell (p := ⟨pb, 2, none⟩) HLT2.out.2.2.2).trans x2'
                clear hTw hb11 x2'
                go_wp2_with fail
                have HM1 := Lib.hid (DL2_bd ts (by rw [HLN.out]; omega))
                have HR3 := Lib.hid (prc_own .dst (Pa.cts ts len).2 (DL 2 ts))
                have HDT2 := Lib.hid (fun s => (show Mg.dot (Pa.cts ts len).2 (DL 2 ts) (s + 1) = Mg.dot (Pa.cts ts len).2 (DL 2 ts) s + (Pa.cts ts len).2.getD s 0 * (DL 2 ts).getD s 0 from rfl))
                have HDB2 := Lib.hid (fun s (hs : s ≤ 30) => Mg.dot_le (Pa.cts ts len).2 (DL 2 ts) s 301 15 (fun j hj => ⟨(HIN.out.2.2 j).1, by have := (HIN.out.2.2 j).2; omega⟩) (fun j hj => DL2_bd ts (by rw [HLN.out]; omega) j (by omega)))
                go_loopg [19, 214] 30 (fun gk v19 v214 wx => ∃ (s : Nat) (F : Int), s ≤ 30 ∧ gk = 30 - s ∧ v214 = .int .i64 (s : Nat) ∧ v19 = .int .i64 F ∧ Hid (F = Mg.dot (Pa.cts ts len).2 (DL 2 ts) s) ∧ wx = w11)
                case atStart => exact ⟨0, 0, by omega, by omega, rfl, rfl, Lib.hid rfl, rfl⟩
                case round =>
                  obtain ⟨s, F, hs, rfl, rfl, rfl, HF, rfl⟩ := hrel
                  by_cases hlt : s < 30
                  · have hb11 := HB11.out
                    have cq := (hb11.cell (p := ⟨p3, s, none⟩) HLT2.out.1).trans (HQ3.out s hlt)
                    have cl := (hb11.cell (p := ⟨h2, s, none⟩) HLT2.out.2.1).trans (HC2.out s hlt)
                    have cx := HTW.out.snd s hlt
                    have hp := HR3.out s
                    have hxt : xt .dst (s : Int) = (Sy.db s).2 := by unfold xt bse; simp only; rw [if_pos (by omega)]; rfl
                    rw [hxt] at hp
                    have hxb := (db_le s hlt).2
                    have hz := HIN.out.2.2 s
                    have hy := HM1.out s hlt
                    have hdb := HDB2.out s hs
                    rw [← HF.out] at hdb
                    have HF2 : Hid (F + (Pa.cts ts len).2.getD s 0 * (DL 2 ts).getD s 0 = Mg.dot (Pa.cts ts len).2 (DL 2 ts) (s + 1)) := Lib.hid (by rw [HDT2.out, HF.out])
                    have d8 : decide ((s : Int) < 30) = true := by simp; omega
                    have d9 : decide (s < 30) = true := by simpa using hlt
                    clear HF hb11 hxt
                    generalize prc .dst (Pa.cts ts len).2 (DL 2 ts) s = P at *
                    generalize (Pa.cts ts len).2.getD s 0 = z at *
                    generalize (DL 2 ts).getD s 0 = y at *
                    generalize (Sy.db s).2 = X at *
                    have b3 : (0 : Int) ≤ 16 * (X : Int) ∧ 16 * (X : Int) ≤ 1000 := by omega
                    have HM : Hid (30 - (s + 1) < 30 - s ∧ s + 1 ≤ 30) := Lib.hid (by omega)
                    by_cases hz0 : 0 < z
                    · have hO : P - 16 * (X : Int) = 16 * y := by rw [hp, if_pos hz0]
                      have dz : (z == 0) = false := by simp; omega
                      have dz2 : decide (0 < z) = true := by simpa using hz0
                      have e1 : (16 * y).tmod 16 = 0 := by rw [Int.mul_comm]; exact Int.mul_tmod_left _ _
                      have hq := Mg.prod_le (show 0 ≤ z by omega) (show z ≤ 301 by omega) hy.1 hy.2
                      have hM : z * (16 * y) = 16 * (z * y) := Int.mul_left_comm _ _ _
                      obtain ⟨Q, hQ⟩ : ∃ Q, z * y = Q := ⟨_, rfl⟩
                      rw [hQ] at hq hM HF2
                      have e3 : (16 * Q).tdiv 16 = Q := by rw [Int.mul_comm]; exact Int.mul_tdiv_cancel _ (by decide)
                      have c1 : 0 ≤ 16 * Q ∧ 16 * Q ≤ 1000000 := by omega
                      have c2 : 0 ≤ Q ∧ Q ≤ 1000000 := by omega
                      have c3 : 0 ≤ F + Q ∧ F + Q ≤ 10000000 := by omega
                      have c4 : 0 ≤ 16 * y ∧ 16 * y ≤ 1000 := by omega
                      obtain ⟨O, hOl⟩ : ∃ O, 16 * y = O := ⟨_, rfl⟩
                      rw [hOl] at hO e1 hM c4
                      have f2 : wrap64 (16 * (X : Int)) = 16 * (X : Int) := w_small b3.1 (Int.le_trans b3.2 (by decide))
                      have f9 : wrap64 O = O := w_small c4.1 (Int.le_trans c4.2 (by decide))
                      have f3 : wrap64 (P - 16 * (X : Int)) = O := by rw [hO]; exact w_small c4.1 (Int.le_trans c4.2 (by decide))
                      have f6 : wrap64 (z * O) = 16 * Q := by rw [hM]; exact w_small c1.1 (Int.le_trans c1.2 (by decide))
                      have f7 : wrap64 Q = Q := w_small c2.1 (Int.le_trans c2.2 (by decide))
                      have f8 : wrap64 (F + Q) = F + Q := w_small c3.1 (Int.le_trans c3.2 (by decide))
                      clear hq hdb hp hQ hy hz hz0 hxb hM c1 c2 c3 c4 hOl b3
                      go_wp2
                      go_roundg (30 - (s + 1))
                      case measure => exact HM.out.1
                      case rel => exact ⟨s + 1, F + Q, HM.out.2, rfl, by go_num, by first | rfl | rw [f8], HF2, rfl⟩
                    · have hz1 : z = 0 := by omega
                      have hO : P - 16 * (X : Int) = 240 := by rw [hp, if_neg hz0]; decide
                      have c3 : 0 ≤ F ∧ F ≤ 10000000 := by omega
                      have f2 : wrap64 (16 * (X : Int)) = 16 * (X : Int) := w_small b3.1 (Int.le_trans b3.2 (by decide))
                      have f3 : wrap64 (P - 16 * (X : Int)) = 240 := by rw [hO]; exact w_small (by decide) (by decide)
                      have f8 : wrap64 F = F := w_small c3.1 (Int.le_trans c3.2 (by decide))
                      clear hdb hp hy hz hz0 hxb b3 c3
                      subst hz1
                      rw [Int.zero_mul, Int.add_zero] at HF2
                      go_wp2
                      go_roundg (30 - (s + 1))
                      case measure => exact HM.out.1
                      case rel => exact ⟨s + 1, F, HM.out.2, rfl, by go_num, by first | rfl | simp [f8], HF2, rfl⟩
                  · obtain rfl : s = 30 := by omega
                    clear hlt
                    have hin := HIN.out
                    have hbA := below_then (below_then HB8.out HBX.out) HB11.out
                    have Hm1 : ∀ x ∈ (Pa.cts ts len).1, 0 ≤ x ∧ x ≤ 1000 := fun x hx => by
                      obtain ⟨j, hj, rfl⟩ := List.getElem_of_mem hx
                      have := hin.1.2 j
                      rw [show (Pa.cts ts len).1.getD j 0 = (Pa.cts ts len).1[j] by simp [List.getD, List.getElem?_eq_getElem hj]] at this
                      omega
                    have Hm2 : ∀ x ∈ (Pa.cts ts len).2, 0 ≤ x ∧ x ≤ 1000 := fun x hx => by
                      obtain ⟨j, hj, rfl⟩ := List.getElem_of_mem hx
                      have := hin.2.2 j
                      rw [show (Pa.cts ts len).2.getD j 0 = (Pa.cts ts len).2[j] by simp [List.getD, List.getElem?_eq_getElem hj]] at this
                      omega
                    have HI1 : Hid (Is .i64 wr (some ⟨h1, 0, none⟩) 286 286 (Pa.cts ts len).1) := Lib.hid (by
                      obtain ⟨a1, k1, e1, hi1⟩ := own_is (own_below HC.out.own1 hbA) (fun x hx => lit_small (Hm1 x hx).1 (by have := (Hm1 x hx).2; omega))
                      injection e1 with e2 _ e3
                      subst e2; subst e3
                      exact hi1)
                    have HI2 : Hid (Is .i64 wr (some ⟨h2, 0, none⟩) 30 30 (Pa.cts ts len).2) := Lib.hid (by
                      obtain ⟨a1, k1, e1, hi1⟩ := own_is (own_below HC.out.own2 hbA) (fun x hx => lit_small (Hm2 x hx).1 (by have := (Hm2 x hx).2; omega))
                      injection e1 with e2 _ e3
                      subst e2; subst e3
                      exact hi1)
                    have HR1 := Lib.hid (rise_most (Pa.cts ts len).1 1099511627776 (fun k hk => by have := hin.1.2 k; omega))
                    have HR2 := Lib.hid (rise_most (Pa.cts ts len).2 1099511627776 (fun k hk => by have := hin.2.2 k; omega))
                    have HU1 := Lib.hid (show Mg.used (Pa.cts ts len).1 ≤ 286 from Nat.le_trans (Mg.used_le _) (by rw [hin.1.1]; exact Nat.le_refl _))
                    have HU2 := Lib.hid (show Mg.used (Pa.cts ts len).2 ≤ 30 from Nat.le_trans (Mg.used_le _) (by rw [hin.2.1]; exact Nat.le_refl _))
                    have HBZ := Lib.hid (below_then (below_then HB3.out HBC.out) hbA)
                    clear hin hbA Hm1 Hm2
                    have HEO := Lib.hid (end_ok ts (by rw [HLN.out]; omega))
                    have HFO := Lib.hid (far_ok ts (by rw [HLN.out]; omega))
                    rw [← HCT.out] at HEO HFO
                    go_wp2_with fail
                    refine (used05_any _ 286 286 _ wr HI1.out (by omega)).mono ?_
                    rintro e w12 ⟨v9, C, rfl, own9, hb9, hrev, hlC⟩
                    have HC9 : Hid (∀ x ∈ C, 0 ≤ x ∧ x ≤ 1099511627776) := Lib.hid (fun x hx => HR1.out x (by rw [← hrev]; exact List.mem_reverse.2 hx))
                    obtain ⟨a9, c9, rfl, hi9⟩ := own_is own9 (fun x hx => by
                      have := HC9.out x hx
                      simp only [Lit.wf, IntKind.min, IntKind.max, IntKind.signed, IntKind.bits, Bool.and_eq_true, decide_eq_true_eq, if_true]
                      simp; omega)
                    rw [hlC] at hi9
                    have HI9 := Lib.hid hi9
                    have HB9 := Lib.hid hb9
                    have HREV := Lib.hid hrev
                    have HLC := Lib.hid hlC
                    clear own9 hi9 hb9 hrev
                    go_wp2_with fail
                    refine (best_any a9 (Mg.used (Pa.cts ts len).1) c9 C 15 w12 HI9.out (by have := HU1.out; omega) (by omega) HC9.out).mono ?_
                    rintro e w13 ⟨b, rfl, hb13, hz, hbst⟩
                    rw [HREV.out] at hbst
                    obtain ⟨q1, q2, q3⟩ := HEO.out b hbst
                    rw [← HTWO.out.1] at q2 q3
                    rw [q1, ← HTWO.out.2.1] at q2 q3
                    have HBY := Lib.hid (below_then HB9.out hb13)
                    have HI2' := Lib.hid (HI2.out.mono HBY.out)
                    have hD2 := HTWO.out.2.2
                    clear hz hbst q1 hb13 HEO HI1 HI9 HREV HLC hlC HC9 HR1 HU1
                    by_cases hu1 : U2 = 1
                    · have hq := q3 hu1
                      have du : ((U2 : Int) == 1) = true := by simp; omega
                      have dun : (U2 == 1) = true := by simpa using hu1
                      clear q2 q3 hu1
                      subst hq
                      clear hD2
                      go_wp2_with fail
                      refine (used05_any _ 30 30 _ w13 HI2'.out (by omega)).mono ?_
                      rintro e w14 ⟨v9, C, rfl, own9, hb9, hrev, hlC⟩
                      have HC9 : Hid (∀ x ∈ C, 0 ≤ x ∧ x ≤ 1099511627776) := Lib.hid (fun x hx => HR2.out x (by rw [← hrev]; exact List.mem_reverse.2 hx))
                      obtain ⟨a9, c9, rfl, hi9⟩ := own_is own9 (fun x hx => by
                        have := HC9.out x hx
                        simp only [Lit.wf, IntKind.min, IntKind.max, IntKind.signed, IntKind.bits, Bool.and_eq_true, decide_eq_true_eq, if_true]
                        simp; omega)
                      rw [hlC] at hi9
                      have HI9 := Lib.hid hi9
                      have HB9b := Lib.hid hb9
                      have HREV := Lib.hid hrev
                      clear own9 hi9 hb9 hrev
                      go_wp2_with fail
                      refine (best_any a9 (Mg.used (Pa.cts ts len).2) c9 C 15 w14 HI9.out (by have := HU2.out; omega) (by omega) HC9.out).mono ?_
                      rintro e w15 ⟨b2, rfl, hb15, hz, hbst⟩
                      rw [HREV.out] at hbst
                      have he := HFO.out b2 hz hbst
                      have hF : F = b2 := by rw [HF.out]; exact he
                      subst hF
                      have dbb : (F == F) = true := by simp
                      have HBR := Lib.hid (below_then (below_then (below_then HBZ.out HBY.out) HB9b.out) hb15)
                      clear hz hbst he hb15 HFO HF hlC
                      go_wp2
                      go_ret
                      exact ⟨rfl, HBR.out⟩
                    · have hq := q2 hu1
                      have du : ((U2 : Int) == 1) = false := by simp; omega
                      have dun : (U2 == 1) = false := by simpa using hu1
                      obtain ⟨E, hE⟩ : ∃ E, b - D2 = E := ⟨_, rfl⟩
                      rw [hE] at hq
                      have i1 : 1 ≤ E := hq.1
                      have i2 : E ≤ 15 := hq.2
                      have dE1 : decide (1 ≤ E) = true := by simpa using i1
                      have dE2 : decide (E ≤ 15) = true := by simpa using i2
                      have fE : wrap64 (b - D2) = E := by rw [hE]; exact w_small (by omega) (by omega)
                      clear q2 q3 hu1 hq hE hD2
                      go_wp2_with fail
                      refine (used05_any _ 30 30 _ w13 HI2'.out (by omega)).mono ?_
                      rintro e w14 ⟨v9, C, rfl, own9, hb9, hrev, hlC⟩
                      have HC9 : Hid (∀ x ∈ C, 0 ≤ x ∧ x ≤ 1099511627776) := Lib.hid (fun x hx => HR2.out x (by rw [← hrev]; exact List.mem_reverse.2 hx))
                      obtain ⟨a9, c9, rfl, hi9⟩ := own_is own9 (fun x hx => by
                        have := HC9.out x hx
                        simp only [Lit.wf, IntKind.min, IntKind.max, IntKind.signed, IntKind.bits, Bool.and_eq_true, decide_eq_true_eq, if_true]
                        simp; omega)
                      rw [hlC] at hi9
                      have HI9 := Lib.hid hi9
                      have HB9b := Lib.hid hb9
                      have HREV := Lib.hid hrev
                      clear own9 hi9 hb9 hrev
                      go_wp2_with fail
                      refine (best_any a9 (Mg.used (Pa.cts ts len).2) c9 C 15 w14 HI9.out (by have := HU2.out; omega) (by omega) HC9.out).mono ?_
                      rintro e w15 ⟨b2, rfl, hb15, hz, hbst⟩
                      rw [HREV.out] at hbst
                      have he := HFO.out b2 hz hbst
                      have hF : F = b2 := by rw [HF.out]; exact he
                      subst hF
                      have dbb : (F == F) = true := by simp
                      have HBR := Lib.hid (below_then (below_then (below_then HBZ.out HBY.out) HB9b.out) hb15)
                      clear hz hbst he hb15 HFO HF hlC
                      go_wp2
                      go_ret
                      exact ⟨rfl, HBR.out⟩

set_option maxRecDepth 100000 in
set_option maxHeartbeats 100000000 in
theorem no_any (a : Option Addr) (len cap : Nat) (ts : List Tok) (w : World) (h : Ts2 w a len cap ts) (hr : cap * 16 ≤ 140737488351232) (hoo : Bc.Oo w) (hz : 0 < w.heap.size) (hall : ts.all Tk.isTok = false) :
    Calls Tryz.prog 6 #[.slice a len cap] w fun e w' => e = .returned (.bool true) ∧ Below w.heap.size w w' := by
  have hle := h.hle
  have H := Lib.hid h
  have HLN := Lib.hid h.hlen
  have HAL := Lib.hid (alive10_any w hoo hz)
  have HEX : Hid (¬ ∀ j, j < len → Tk.isTok (ts.getD j (0, 0)) = true) := Lib.hid (fun H => by
    have e : ts.all Tk.isTok = true := List.all_eq_true.2 (fun x hx => by
      obtain ⟨j, hj, rfl⟩ := List.mem_iff_getElem.1 hx
      have := H j (by rw [← h.hlen]; exact hj)
      simpa [List.getD, List.getElem?_eq_getElem hj] using this)
    rw [hall] at e
    cases e)
  have HALL := Lib.hid hall
  clear h hoo hz hall
  go_enter Tryz.func6, Tryz.ntmps6
  go_wp2_with fail
  refine HAL.out.mono ?_
  rintro e w1 ⟨rfl, hb1⟩
  have HB1 := Lib.hid hb1
  have H1 := Lib.hid (H.out.mono hb1)
  clear hb1 H HAL
  by_cases hbig : 300 < len
  · have d1 : decide ((300 : Int) < (len : Int)) = true := by simp; omega
    clear hbig
    go_wp2
    go_ret
    exact ⟨rfl, HB1.out⟩
  have d1 : decide ((300 : Int) < (len : Int)) = false := by simp; omega
  have hlen : len ≤ 300 := by omega
  clear hbig
  go_wp2_with fail
  refine (prices_no a len cap ts w1 H1.out (by omega) HALL.out).mono ?_
  rintro e w2 ⟨rfl, hb2⟩
  unfold nil3
  have hbx := below_alloc w2 (.cells #[.slice none 0 0, .slice none 0 0, .slice none 0 0] 55)
  have hrow := heap_alloc_last w2 (.cells #[.slice none 0 0, .slice none 0 0, .slice none 0 0] 55)
  have HB3 := Lib.hid (below_then (below_then HB1.out hb2) hbx)
  have H3 := Lib.hid (H1.out.mono (below_then hb2 hbx))
  have HPX := Lib.hid hrow
  clear hbx hrow hb2 H1 HB1
  go_wp2_with fail
  revert HB3 H3 HPX
  generalize w2.alloc (.cells #[.slice none 0 0, .slice none 0 0, .slice none 0 0] 55) = w3
  generalize w2.heap.size = pb
  intro HB3 H3 HPX
  obtain ⟨w4, m1, o1, q1⟩ := mk_ints w3.drew w3.heap.size 286 (Nat.le_refl _) (by omega)
  have b1 : Below w3.heap.size w3 w4 := (Below.drew (Below.refl w3.heap.size w3)).grown q1 (Nat.le_refl _) (by simp)
  obtain ⟨w5, m2, o2, q2⟩ := mk_ints w4 w3.heap.size 30 b1.size (by omega)
  have b2 : Below w4.heap.size w4 w5 := (Below.refl _ _).grown q2 (Nat.le_refl _) (by simp)
  have n1 : (Instr.makeSlice 53 (.int .i64 286) (.int .i64 286)).run Tryz.prog w3.drew = .ok (.slice (some ⟨w3.heap.size, 0, none⟩) 286 286) w4 := m1
  have n2 : (Instr.makeSlice 53 (.int .i64 30) (.int .i64 30)).run Tryz.prog w4 = .ok (.slice (some ⟨w4.heap.size, 0, none⟩) 30 30) w5 := m2
  have HCA : Hid (Pa.Cn w3 w5 w3.heap.size w4.heap.size (List.replicate 286 0) (List.replicate 30 0)) := Lib.hid ⟨own_below o1 b2, o2, by have := (o1.lt w3.heap.size rfl).2; omega, below_then b1 b2⟩
  clear m1 m2 o1 o2 q1 q2 b1 b2
  obtain ⟨w6, m1, o1, q1⟩ := mk_ints w3.drew w3.heap.size 30 (Nat.le_refl _) (by omega)
  have b1 : Below w3.heap.size w3 w6 := (Below.drew (Below.refl w3.heap.size w3)).grown q1 (Nat.le_refl _) (by simp)
  obtain ⟨w7, m2, o2, q2⟩ := mk_ints w6 w3.heap.size 286 b1.size (by omega)
  have b2 : Below w6.heap.size w6 w7 := (Below.refl _ _).grown q2 (Nat.le_refl _) (by simp)
  have n3 : (Instr.makeSlice 53 (.int .i64 30) (.int .i64 30)).run Tryz.prog w3.drew = .ok (.slice (some ⟨w3.heap.size, 0, none⟩) 30 30) w6 := m1
  have n4 : (Instr.makeSlice 53 (.int .i64 286) (.int .i64 286)).run Tryz.prog w6 = .ok (.slice (some ⟨w6.heap.size, 0, none⟩) 286 286) w7 := m2
  have HCB : Hid (Pa.Cn w3 w7 w6.heap.size w3.heap.size (List.replicate 286 0) (List.replicate 30 0)) := Lib.hid ⟨o2, own_below o1 b2, by have := (o1.lt w3.heap.size rfl).2; omega, below_then b1 b2⟩
  clear m1 m2 o1 o2 q1 q2 b1 b2
  go_wp2
  go_region
  · clear n1 n2 n3 n4 HCB
    revert HCA
    generalize w4.heap.size = h2
    generalize w3.heap.size = h1
    generalize w5 = W
    intro HC
    have hc0 := HC.out.c1 256 (by omega)
    have hf0 := Pa.own_fz HC.out.own1 256
    have HC0 : Hid (Pa.Cn w3 (W.setCell ⟨h1, 256, none⟩ (.int .i64 1)) h1 h2 (Pa.cts ts 0).1 (Pa.cts ts 0).2) := Lib.hid (HC.out.set1 256 1)
    clear HC
    go_wp2_with fail
    clear hc0 hf0
    revert HC0
    generalize W.setCell ⟨h1, 256, none⟩ (.int .i64 1) = W1
    intro HC0
    go_loopw [43] (fun i wr => ∃ k : Nat, k ≤ len ∧ i = .int .i64 ((k : Nat) : Int) ∧ Hid (Pa.Cn w3 wr h1 h2 (Pa.cts ts k).1 (Pa.cts ts k).2) ∧ Hid (∀ j, j < k → Tk.isTok (ts.getD j (0, 0)) = true)) (fun i _ => len - (intOf i).toNat)
    case atStart => exact ⟨0, by omega, rfl, HC0, Lib.hid (fun j hj => absurd hj (Nat.not_lt_zero j))⟩
    case round =>
      clear HC0
      obtain ⟨k, hk, rfl, HC, HK⟩ := hrel
      by_cases hlt : k < len
      · obtain ⟨b, off, rfl, hbl, t0, t1⟩ := (H3.out.mono HC.out.bel).at' k hlt
        have hwf := H3.out.wf k hlt
        have hnx := Pa.cts_next ts k (by rw [HLN.out]; exact hlt)
        have hin := Pa.in_cts ts k (by rw [HLN.out]; exact hk)
        have HK1 : Hid (Tk.isTok (ts.getD k (0, 0)) = true → ∀ j, j < k + 1 → Tk.isTok (ts.getD j (0, 0)) = true) := Lib.hid (fun H j hj => by
          rcases Nat.lt_succ_iff_lt_or_eq.1 hj with h | rfl
          · exact HK.out j h
          · exact H)
        clear HK
        generalize ts.getD k (0, 0) = t at *
        obtain ⟨x, y⟩ := t
        simp only at t0 t1 hwf
        have hb5 := below_alloc wr (.cells #[.int .i64 x, .int .i64 y] 59)
        have hr5 : (wr.alloc (.cells #[.int .i64 x, .int .i64 y] 59)).heap[wr.heap.size]? = some (.cells #[.int .i64 x, .int .i64 y] 59 (0, 0)) := heap_alloc_last wr _
        have HS := Lib.hid (refGood06_any (x, y) (wr.alloc (.cells #[.int .i64 x, .int .i64 y] 59)) hwf)
        have HNX := Lib.hid hnx
        have HIN := Lib.hid hin
        have HC5 := Lib.hid (HC.out.mono hb5)
        have HG := Lib.hid (And.intro (HC.out.own1.lt h1 rfl).2 (HC.out.own2.lt h2 rfl).2)
        clear hnx hin hwf hb5 HC hbl
        simp only at HS
        go_wp2_with fail
        refine HS.out.mono ?_
        rintro e w6 ⟨rfl, hb6⟩
        have hr6 := (hb6.block wr.heap.size (by simp)).trans hr5
        have HC6 := Lib.hid (HC5.out.mono hb6)
        have HR6 := Lib.hid hr6
        have HTB : Hid (wr.heap.size < w6.heap.size) := Lib.hid (Array.getElem?_eq_some_iff.1 hr6).1
        have x0 : w6.cell? ⟨wr.heap.size, 0, none⟩ = some (.int .i64 x) := by rw [cell_of_row _ _ _ _ _ (0, 0) hr6]; rfl
        have y0 : w6.cell? ⟨wr.heap.size, 1, none⟩ = some (.int .i64 y) := by rw [cell_of_row _ _ _ _ _ (0, 0) hr6]; rfl
        clear hb6 hr6 hr5 HS HC5 t0 t1
        by_cases htok : Tk.isTok (x, y) = true
        · have HK2 := Lib.hid (HK1.out htok)
          clear HK1
          have htr := Tk.tok_range htok
          simp only at htr
          have HST : Hid (Pa.cts ts (k + 1) = if x = 0 then (Pa.bmp (Pa.cts ts k).1 y.toNat, (Pa.cts ts k).2) else (Pa.bmp (Pa.cts ts k).1 (257 + Sy.lsy x.toNat), Pa.bmp (Pa.cts ts k).2 (Sy.dsy y.toNat))) := Lib.hid (by rw [HNX.out]; unfold Pa.stC; rw [if_pos htok])
          rw [htok]
          clear htok HNX
          by_cases hx : x = 0
          · subst hx
            obtain ⟨j, rfl⟩ : ∃ j : Nat, y = (j : Int) := ⟨y.toNat, by omega⟩
            have hj : j < 286 := by omega
            have hcj := HC6.out.c1 j hj
            have hfj := Pa.own_fz HC6.out.own1 j
            have hvr := HIN.out.1.2 j
            have HC7 := Lib.hid (HC6.out.set1 j ((Pa.cts ts k).1.getD j 0 + 1))
            have HE : Hid (Pa.cts ts (k + 1) = ((Pa.cts ts k).1.set j ((Pa.cts ts k).1.getD j 0 + 1), (Pa.cts ts k).2)) := Lib.hid (by rw [HST.out, if_pos rfl, Int.toNat_natCast]; rfl)
            have dj : decide (j < 286) = true := by simp; omega
            clear HST HC6 HIN
            generalize (Pa.cts ts k).1.getD j 0 = z at *
            go_wp2
            go_roundw
            case rel => exact ⟨k + 1, by omega, by go_num, by rw [HE.out]; exact HC7, HK2⟩
            case measure => simp [intOf]; omega
          · obtain ⟨xn, rfl⟩ : ∃ xn : Nat, x = (xn : Int) := ⟨x.toNat, by omega⟩
            obtain ⟨yn, rfl⟩ : ∃ yn : Nat, y = (yn : Int) := ⟨y.toNat, by omega⟩
            have dx0 : ((xn : Int) == 0) = false := by simp; omega
            have HRL := Lib.hid (refLength_any xn w6 (by omega) (by omega))
            have HRD : Hid (∀ X, Calls Tryz.prog 26 #[.int .i64 (yn : Nat)] X fun e w' => e = .returned (.int .i64 ((Sy.dsy yn : Nat) : Int)) ∧ Below X.heap.size X w') := Lib.hid (fun X => refDist_any yn X (by omega) (by omega))
            have HST2 : Hid (Pa.cts ts (k + 1) = (Pa.bmp (Pa.cts ts k).1 (257 + Sy.lsy xn), Pa.bmp (Pa.cts ts k).2 (Sy.dsy yn))) := Lib.hid (by rw [HST.out, if_neg hx, Int.toNat_natCast, Int.toNat_natCast])
            have hj : 257 + Sy.lsy xn < 286 := by have := Sy.cnt_le Sy.lb 28 xn; unfold Sy.lsy; omega
            have hq : Sy.dsy yn < 30 := by have := Sy.cnt_le Sy.db 29 yn; unfold Sy.dsy; omega
            clear HST hx
            generalize 257 + Sy.lsy xn = j at *
            generalize Sy.dsy yn = q at *
            go_wp2_with fail
            refine HRL.out.mono ?_
            rintro e w7 ⟨rfl, hb7⟩
            have HC7 := Lib.hid (HC6.out.mono hb7)
            have hr7 := (hb7.block wr.heap.size HTB.out).trans HR6.out
            have hcj := HC7.out.c1 j hj
            have hfj := Pa.own_fz HC7.out.own1 j
            have hvr := HIN.out.1.2 j
            have hvq := HIN.out.2.2 q
            have HC8 := Lib.hid (HC7.out.set1 j ((Pa.cts ts k).1.getD j 0 + 1))
            have y7 : w7.cell? ⟨wr.heap.size, 1, none⟩ = some (.int .i64 (yn : Nat)) := by rw [cell_of_row _ _ _ _ _ (0, 0) hr7]; rfl
            have y8 : (w7.setCell ⟨h1, j, none⟩ (.int .i64 ((Pa.cts ts k).1.getD j 0 + 1))).cell? ⟨wr.heap.size, 1, none⟩ = some (.int .i64 (yn : Nat)) := by rw [cell_set_other (by have := HG.out.1; omega)]; exact y7
            have dj : decide (j < 286) = true := by simp; omega
            have dq : decide (q < 30) = true := by simp; omega
            have HE : Hid (Pa.cts ts (k + 1) = ((Pa.cts ts k).1.set j ((Pa.cts ts k).1.getD j 0 + 1), (Pa.cts ts k).2.set q ((Pa.cts ts k).2.getD q 0 + 1))) := Lib.hid (by rw [HST2.out]; rfl)
            have HDq : Hid (∀ X, Pa.Cn w3 X h1 h2 ((Pa.cts ts k).1.set j ((Pa.cts ts k).1.getD j 0 + 1)) (Pa.cts ts k).2 → X.cell? ⟨h2, q, none⟩ = some (.int .i64 ((Pa.cts ts k).2.getD q 0))) := Lib.hid (fun X h => h.c2 q hq)
            clear hb7 hr7 HRL HC6 HC7 HST2 HIN
            generalize (Pa.cts ts k).1.getD j 0 = z at *
            generalize (Pa.cts ts k).2.getD q 0 = z2 at *
            go_wp2_with fail
            clear hcj hfj y7
            revert HC8 y8
            generalize w7.setCell ⟨h1, j, none⟩ (.int .i64 (z + 1)) = w8
            intro HC8 y8
            refine (HRD.out w8).mono ?_
            rintro e w9 ⟨rfl, hb9⟩
            have HC9 := Lib.hid (HC8.out.mono hb9)
            have hcq := HDq.out w9 HC9.out
            have hfq := Pa.own_fz HC9.out.own2 q
            have HCA := Lib.hid (HC9.out.set2 q (z2 + 1))
            clear HC8 HC9 hb9 HRD y8 HDq
            go_wp2
            go_roundw
            case rel => exact ⟨k + 1, by omega, by go_num, by rw [HE.out]; exact HCA, HK2⟩
            case measure => simp [intOf]; omega
        · have hf : Tk.isTok (x, y) = false := by simpa using htok
          rw [hf]
          have hbl := HC6.out.bel
          have hpx := (hbl.block pb (Array.getElem?_eq_some_iff.1 HPX.out).1).trans HPX.out
          have HBE := Lib.hid (below_then HB3.out hbl)
          have c0 : w6.cell? ⟨pb, 0, none⟩ = some (.slice none 0 0) := by rw [cell_of_row _ _ _ _ _ (0, 0) hpx]; rfl
          have c1 : w6.cell? ⟨pb, 1, none⟩ = some (.slice none 0 0) := by rw [cell_of_row _ _ _ _ _ (0, 0) hpx]; rfl
          have c2 : w6.cell? ⟨pb, 2, none⟩ = some (.slice none 0 0) := by rw [cell_of_row _ _ _ _ _ (0, 0) hpx]; rfl
          clear htok hf HNX HIN HK1 HG HC6 HR6 HTB x0 y0 hbl hpx
          go_wp2_with fail
          refine (is_yes 6 rfl w6).mono ?_
          rintro e w7 ⟨rfl, rfl⟩
          go_wp2
          go_ret
          exact ⟨rfl, HBE.out⟩
      · exact absurd (fun j hj => HK.out j (by omega)) HEX.out
  · clear n1 n2 n3 n4 HCA
    revert HCB
    generalize w6.heap.size = h1
    generalize w3.heap.size = h2
    generalize w7 = W
    intro HC
    have hc0 := HC.out.c1 256 (by omega)
    have hf0 := Pa.own_fz HC.out.own1 256
    have HC0 : Hid (Pa.Cn w3 (W.setCell ⟨h1, 256, none⟩ (.int .i64 1)) h1 h2 (Pa.cts ts 0).1 (Pa.cts ts 0).2) := Lib.hid (HC.out.set1 256 1)
    clear HC
    go_wp2_with fail
    clear hc0 hf0
    revert HC0
    generalize W.setCell ⟨h1, 256, none⟩ (.int .i64 1) = W1
    intro HC0
    go_loopw [43] (fun i wr => ∃ k : Nat, k ≤ len ∧ i = .int .i64 ((k : Nat) : Int) ∧ Hid (Pa.Cn w3 wr h1 h2 (Pa.cts ts k).1 (Pa.cts ts k).2) ∧ Hid (∀ j, j < k → Tk.isTok (ts.getD j (0, 0)) = true)) (fun i _ => len - (intOf i).toNat)
    case atStart => exact ⟨0, by omega, rfl, HC0, Lib.hid (fun j hj => absurd hj (Nat.not_lt_zero j))⟩
    case round =>
      clear HC0
      obtain ⟨k, hk, rfl, HC, HK⟩ := hrel
      by_cases hlt : k < len
      · obtain ⟨b, off, rfl, hbl, t0, t1⟩ := (H3.out.mono HC.out.bel).at' k hlt
        have hwf := H3.out.wf k hlt
        have hnx := Pa.cts_next ts k (by rw [HLN.out]; exact hlt)
        have hin := Pa.in_cts ts k (by rw [HLN.out]; exact hk)
        have HK1 : Hid (Tk.isTok (ts.getD k (0, 0)) = true → ∀ j, j < k + 1 → Tk.isTok (ts.getD j (0, 0)) = true) := Lib.hid (fun H j hj => by
          rcases Nat.lt_succ_iff_lt_or_eq.1 hj with h | rfl
          · exact HK.out j h
          · exact H)
        clear HK
        generalize ts.getD k (0, 0) = t at *
        obtain ⟨x, y⟩ := t
        simp only at t0 t1 hwf
        have hb5 := below_alloc wr (.cells #[.int .i64 x, .int .i64 y] 59)
        have hr5 : (wr.alloc (.cells #[.int .i64 x, .int .i64 y] 59)).heap[wr.heap.size]? = some (.cells #[.int .i64 x, .int .i64 y] 59 (0, 0)) := heap_alloc_last wr _
        have HS := Lib.hid (refGood06_any (x, y) (wr.alloc (.cells #[.int .i64 x, .int .i64 y] 59)) hwf)
        have HNX := Lib.hid hnx
        have HIN := Lib.hid hin
        have HC5 := Lib.hid (HC.out.mono hb5)
        have HG := Lib.hid (And.intro (HC.out.own1.lt h1 rfl).2 (HC.out.own2.lt h2 rfl).2)
        clear hnx hin hwf hb5 HC hbl
        simp only at HS
        go_wp2_with fail
        refine HS.out.mono ?_
        rintro e w6 ⟨rfl, hb6⟩
        have hr6 := (hb6.block wr.heap.size (by simp)).trans hr5
        have HC6 := Lib.hid (HC5.out.mono hb6)
        have HR6 := Lib.hid hr6
        have HTB : Hid (wr.heap.size < w6.heap.size) := Lib.hid (Array.getElem?_eq_some_iff.1 hr6).1
        have x0 : w6.cell? ⟨wr.heap.size, 0, none⟩ = some (.int .i64 x) := by rw [cell_of_row _ _ _ _ _ (0, 0) hr6]; rfl
        have y0 : w6.cell? ⟨wr.heap.size, 1, none⟩ = some (.int .i64 y) := by rw [cell_of_row _ _ _ _ _ (0, 0) hr6]; rfl
        clear hb6 hr6 hr5 HS HC5 t0 t1
        by_cases htok : Tk.isTok (x, y) = true
        · have HK2 := Lib.hid (HK1.out htok)
          clear HK1
          have htr := Tk.tok_range htok
          simp only at htr
          have HST : Hid (Pa.cts ts (k + 1) = if x = 0 then (Pa.bmp (Pa.cts ts k).1 y.toNat, (Pa.cts ts k).2) else (Pa.bmp (Pa.cts ts k).1 (257 + Sy.lsy x.toNat), Pa.bmp (Pa.cts ts k).2 (Sy.dsy y.toNat))) := Lib.hid (by rw [HNX.out]; unfold Pa.stC; rw [if_pos htok])
          rw [htok]
          clear htok HNX
          by_cases hx : x = 0
          · subst hx
            obtain ⟨j, rfl⟩ : ∃ j : Nat, y = (j : Int) := ⟨y.toNat, by omega⟩
            have hj : j < 286 := by omega
            have hcj := HC6.out.c1 j hj
            have hfj := Pa.own_fz HC6.out.own1 j
            have hvr := HIN.out.1.2 j
            have HC7 := Lib.hid (HC6.out.set1 j ((Pa.cts ts k).1.getD j 0 + 1))
            have HE : Hid (Pa.cts ts (k + 1) = ((Pa.cts ts k).1.set j ((Pa.cts ts k).1.getD j 0 + 1), (Pa.cts ts k).2)) := Lib.hid (by rw [HST.out, if_pos rfl, Int.toNat_natCast]; rfl)
            have dj : decide (j < 286) = true := by simp; omega
            clear HST HC6 HIN
            generalize (Pa.cts ts k).1.getD j 0 = z at *
            go_wp2
            go_roundw
            case rel => exact ⟨k + 1, by omega, by go_num, by rw [HE.out]; exact HC7, HK2⟩
            case measure => simp [intOf]; omega
          · obtain ⟨xn, rfl⟩ : ∃ xn : Nat, x = (xn : Int) := ⟨x.toNat, by omega⟩
            obtain ⟨yn, rfl⟩ : ∃ yn : Nat, y = (yn : Int) := ⟨y.toNat, by omega⟩
            have dx0 : ((xn : Int) == 0) = false := by simp; omega
            have HRL := Lib.hid (refLength_any xn w6 (by omega) (by omega))
            have HRD : Hid (∀ X, Calls Tryz.prog 26 #[.int .i64 (yn : Nat)] X fun e w' => e = .returned (.int .i64 ((Sy.dsy yn : Nat) : Int)) ∧ Below X.heap.size X w') := Lib.hid (fun X => refDist_any yn X (by omega) (by omega))
            have HST2 : Hid (Pa.cts ts (k + 1) = (Pa.bmp (Pa.cts ts k).1 (257 + Sy.lsy xn), Pa.bmp (Pa.cts ts k).2 (Sy.dsy yn))) := Lib.hid (by rw [HST.out, if_neg hx, Int.toNat_natCast, Int.toNat_natCast])
            have hj : 257 + Sy.lsy xn < 286 := by have := Sy.cnt_le Sy.lb 28 xn; unfold Sy.lsy; omega
            have hq : Sy.dsy yn < 30 := by have := Sy.cnt_le Sy.db 29 yn; unfold Sy.dsy; omega
            clear HST hx
            generalize 257 + Sy.lsy xn = j at *
            generalize Sy.dsy yn = q at *
            go_wp2_with fail
            refine HRL.out.mono ?_
            rintro e w7 ⟨rfl, hb7⟩
            have HC7 := Lib.hid (HC6.out.mono hb7)
            have hr7 := (hb7.block wr.heap.size HTB.out).trans HR6.out
            have hcj := HC7.out.c1 j hj
            have hfj := Pa.own_fz HC7.out.own1 j
            have hvr := HIN.out.1.2 j
            have hvq := HIN.out.2.2 q
            have HC8 := Lib.hid (HC7.out.set1 j ((Pa.cts ts k).1.getD j 0 + 1))
            have y7 : w7.cell? ⟨wr.heap.size, 1, none⟩ = some (.int .i64 (yn : Nat)) := by rw [cell_of_row _ _ _ _ _ (0, 0) hr7]; rfl
            have y8 : (w7.setCell ⟨h1, j, none⟩ (.int .i64 ((Pa.cts ts k).1.getD j 0 + 1))).cell? ⟨wr.heap.size, 1, none⟩ = some (.int .i64 (yn : Nat)) := by rw [cell_set_other (by have := HG.out.1; omega)]; exact y7
            have dj : decide (j < 286) = true := by simp; omega
            have dq : decide (q < 30) = true := by simp; omega
            have HE : Hid (Pa.cts ts (k + 1) = ((Pa.cts ts k).1.set j ((Pa.cts ts k).1.getD j 0 + 1), (Pa.cts ts k).2.set q ((Pa.cts ts k).2.getD q 0 + 1))) := Lib.hid (by rw [HST2.out]; rfl)
            have HDq : Hid (∀ X, Pa.Cn w3 X h1 h2 ((Pa.cts ts k).1.set j ((Pa.cts ts k).1.getD j 0 + 1)) (Pa.cts ts k).2 → X.cell? ⟨h2, q, none⟩ = some (.int .i64 ((Pa.cts ts k).2.getD q 0))) := Lib.hid (fun X h => h.c2 q hq)
            clear hb7 hr7 HRL HC6 HC7 HST2 HIN
            generalize (Pa.cts ts k).1.getD j 0 = z at *
            generalize (Pa.cts ts k).2.getD q 0 = z2 at *
            go_wp2_with fail
            clear hcj hfj y7
            revert HC8 y8
            generalize w7.setCell ⟨h1, j, none⟩ (.int .i64 (z + 1)) = w8
            intro HC8 y8
            refine (HRD.out w8).mono ?_
            rintro e w9 ⟨rfl, hb9⟩
            have HC9 := Lib.hid (HC8.out.mono hb9)
            have hcq := HDq.out w9 HC9.out
            have hfq := Pa.own_fz HC9.out.own2 q
            have HCA := Lib.hid (HC9.out.set2 q (z2 + 1))
            clear HC8 HC9 hb9 HRD y8 HDq
            go_wp2
            go_roundw
            case rel => exact ⟨k + 1, by omega, by go_num, by rw [HE.out]; exact HCA, HK2⟩
            case measure => simp [intOf]; omega
        · have hf : Tk.isTok (x, y) = false := by simpa using htok
          rw [hf]
          have hbl := HC6.out.bel
          have hpx := (hbl.block pb (Array.getElem?_eq_some_iff.1 HPX.out).1).trans HPX.out
          have HBE := Lib.hid (below_then HB3.out hbl)
          have c0 : w6.cell? ⟨pb, 0, none⟩ = some (.slice none 0 0) := by rw [cell_of_row _ _ _ _ _ (0, 0) hpx]; rfl
          have c1 : w6.cell? ⟨pb, 1, none⟩ = some (.slice none 0 0) := by rw [cell_of_row _ _ _ _ _ (0, 0) hpx]; rfl
          have c2 : w6.cell? ⟨pb, 2, none⟩ = some (.slice none 0 0) := by rw [cell_of_row _ _ _ _ _ (0, 0) hpx]; rfl
          clear htok hf HNX HIN HK1 HG HC6 HR6 HTB x0 y0 hbl hpx
          go_wp2_with fail
          refine (is_yes 6 rfl w6).mono ?_
          rintro e w7 ⟨rfl, rfl⟩
          go_wp2
          go_ret
          exact ⟨rfl, HBE.out⟩
      · exact absurd (fun j hj => HK.out j (by omega)) HEX.out


theorem walk (a : Option Addr) (len cap : Nat) (ts : List Tok) (w : World) (h : Ts2 w a len cap ts) (hr : cap * 16 ≤ 140737488351232) (hL : laidMetH Tryz.prog [("burnish/block.ownOrder", Rows.laid_burnish_block_ownOrder)] w) :
    Calls Tryz.prog 6 #[.slice a len cap] w fun e w' => e = .returned (.bool true) ∧ Below w.heap.size w w' := by
  obtain ⟨hoo, hz⟩ := oo_of_laid hL
  rcases Bool.eq_false_or_eq_true (ts.all Tk.isTok) with hall | hall
  · exact yes_any a len cap ts w h hr hoo hz hall
  · exact no_any a len cap ts w h hr hoo hz hall
set_option maxRecDepth 100000 in
theorem lifted (os : Os) (started : os.Started) (H : Type) (enc : TypeId × Value → H) :
    ReturnsInHanded {} Tryz.checked os 6 .any (fun w args => (Rows.blockPricesSpec.pre enc Tryz.prog Tryz.f6 Rows.blockPricesRow.domain false w args ∧ laidMetH Tryz.prog [("burnish/block.ownOrder", Rows.laid_burnish_block_ownOrder)] w) ∧ sizedMet enc Tryz.prog Tryz.f6 (OpenSpec.ofChange Rows.blockPricesSpec) false w args)
      (Rows.blockPricesSpec.post enc Tryz.prog Tryz.f6 false true false false) := by
  refine returnsInHanded_of_change_and (C := Tryz.checked) (X := fun w _ => laidMetH Tryz.prog [("burnish/block.ownOrder", Rows.laid_burnish_block_ownOrder)] w) (fun _ _ _ hh h => h.of_heap hh) own started (by kernel_rfl) Tryz.func6
    (ChangeSpec.witness_shaped (enc := enc) (C := Tryz.checked) (os := os) (X := fun w _ => laidMetH Tryz.prog [("burnish/block.ownOrder", Rows.laid_burnish_block_ownOrder)] w) false (World.laidAll Tryz.prog os [("burnish/block.ownOrder", Rows.laid_burnish_block_ownOrder)]) #[.slice none 0 0] 8 (World.laidAll_os _ _ _)
      (World.shaped_of_ZipB (by kernel_rfl) (by kernel_rfl)) (by kernel_rfl) (by kernel_rfl) (by kernel_rfl)
      (by rw [MakeChecks.laidMetH_plain _ _ _ (by kernel_rfl)]; exact laidMet_laidAll _ (by kernel_rfl) (by kernel_rfl))) ?_
  intro W base args ds gs before hval0 hW _ hsz0 hL _
  have hval : ∀ (j : Nat) t v, Tryz.f6.params[j]? = some t → args[j]? = some v → Value.okWide Tryz.prog W .any base t v := hval0
  have hsz : (DataW.weightsEach Tryz.prog (Tryz.f6.params.toList ++ Rows.blockPricesSpec.plain.varTypes Tryz.prog) (ds ++ gs)).all (· ≤ reachBytes) = true := hsz0
  have hW' := hW
  obtain ⟨p, q, hA0, hV, rfl, hfz, hnd⟩ := hW
  have hA : DataW.TrodAll enc Tryz.prog W 0 (fun _ => true) true Tryz.f6.params.toList args.toList ds p := hA0
  rw [Tryz.params6] at hA hval hsz
  obtain ⟨v0, vs0, d0, ds0, p0, q0, hargs, rfl, rfl, h0, r0⟩ := trodAll_cons hA
  obtain ⟨rfl, rfl, rfl⟩ := trodAll_nil r0
  obtain rfl : args = #[v0] := by cases args; simp_all
  obtain ⟨rfl, rfl⟩ := trodVars_none hV
  clear hsz0
  obtain ⟨a0, len0, cap0, rfl⟩ := okWide_slice Tryz.underlying23 (hval 0 23 v0 rfl rfl)
  have k0 := h0
  have lt0 : ∀ x ∈ p0, x.block < W.heap.size := by obtain ⟨m, hm⟩ := k0; exact DataW.trod_lt m _ _ _ hm
  obtain ⟨l0, w0, c0⟩ := open_toks Tryz.underlying23 Tryz.underlying59 Tryz.underlying3 Tryz.underlying3 (by kernel_rfl) (by kernel_rfl) rfl rfl (by kernel_rfl) (by kernel_rfl) h0 hsz 0 rfl rfl
  clear hA0 hval0 hsz
  refine (walk a0 len0 cap0 l0 W w0 c0 hL).mono fun e W' ⟨he, bel⟩ => ?_
  subst he
  exact ⟨_, rfl, _, _, _, [], _, [], hW', trodAll_mk1 (shut_bool Tryz.underlying4 _), (trodAll_cons_mk (Below.trod laidOut (by kernel_rfl) (of_decide_eq_true (by kernel_rfl)) k0 bel lt0) trodAll_mk0), rfl, bel.frame _, fun h => by cases h⟩

theorem proved : Rows.BlockPricesSaid :=
  OpenClaim.holds_of_wide 6 Tryz.f6 rfl rfl rfl rfl rfl rfl rfl ⟨rfl, rfl, rfl, rfl, rfl⟩ rfl rfl rfl rfl rfl (by kernel_rfl) Tryz.func6 (by kernel_rfl)
    (of_decide_eq_true (by kernel_rfl)) (by unfold Func.isWrapper; first | (rw [if_pos (by decide +kernel)]; kernel_rfl) | (rw [if_neg (by decide +kernel)]; exact ⟨rfl, rfl⟩))
    (fun os started H enc _ => lifted os started H enc)
theorem card : Rows.BlockPricesCardSaid :=
  Claim7.holds_tied_plain_at .later [] [.data] true (true, "65bad6b21cccdc52d41acf115da777dcdd277440d6b12d91fd4e78b772aaaea0") true proved (fun _ h => by cases h) (by kernel_rfl) (fun _ h => by cases h) blockPrices_row_tie rfl ⟨rfl, rfl⟩ (by kernel_rfl) rfl
    (fun f fn hf hfn => by
      obtain rfl : f = 6 := Option.some.inj ((show Tryz.prog.funcNamed "burnish/burnishlaw10.BlockPrices" = some 6 by kernel_rfl).symm.trans hf) |>.symm
      obtain rfl : fn = Tryz.f6 := (Option.some.inj (Tryz.func6.symm.trans hfn)).symm
      exact ⟨by kernel_rfl, fun j t ht => by
        rw [Tryz.params6] at ht
        have hm : t ∈ [23] := by simpa using Array.mem_of_getElem? ht
        have hall : ([23].all fun u => !Tryz.prog.wantsStandIn u) = true := by kernel_rfl
        exact (show Tryz.prog.wantsStandIn t = false by simpa using List.all_eq_true.1 hall t hm)⟩)
    (by kernel_rfl)
#print axioms proved
#print axioms card
end Go.Proofs.YtjjbgdmalefdlaaGreatDoor.BlockPrices
