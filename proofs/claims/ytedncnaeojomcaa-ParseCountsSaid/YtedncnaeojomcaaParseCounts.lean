/- For all tokens (at most 3000, as the law itself asks), parse.Count tells how often each symbol stands, as the document's definition does: the end once, tokens that aren't valid not at all. No conditions but those of the law itself. -/
import Derived.Test.YtedncnaeojomcaaRows
import Derived.Test.YtedncnaeojomcaaOpen
import Derived.Test.YtedncnaeojomcaaParCnt
import Derived.Test.YtedncnaeojomcaaNumInts
import Derived.Test.YtedncnaeojomcaaOpenToks
namespace Go.Proofs.Ytedncnaeojomcaa.ParseCounts
open Go.ChangeShapes Go.WideShapes Go.ChangeAt Go.RowKit
open Go.ChangeMaps (open_string shut_string)
set_option linter.unusedVariables false
theorem own : ownKnob Try.prog.godebug = none := by kernel_rfl
theorem laidOut : laidOutB Try.prog = true := by kernel_rfl
set_option maxRecDepth 100000 in
set_option maxHeartbeats 8000000 in
theorem walk (a : Option Addr) (len cap : Nat) (ts : List Tok) (w : World) (h : Ts2 w a len cap ts) (hr : cap * 16 ≤ 140737488351232) :
    Calls Try.prog 4 #[.slice a len cap] w fun e w' => e = .returned (.bool true) ∧ Below w.heap.size w w' := by
  have hle := h.hle
  have H := Lib.hid h
  have HLN := Lib.hid h.hlen
  clear h
  by_cases hbig : 3000 < len
  · have d1 : decide ((3000 : Int) < (len : Int)) = true := by simp; omega
    go_enter Try.func4, Try.ntmps4
    go_wp2
    go_ret
    exact ⟨rfl, Below.refl _ _⟩
  have d1 : decide ((3000 : Int) < (len : Int)) = false := by simp; omega
  go_enter Try.func4, Try.ntmps4
  go_wp2_with fail
  refine (count_any a len cap ts w H.out (by omega)).mono ?_
  rintro e w1 ⟨g1, g2, rfl, hC1⟩
  have HC1 := Lib.hid hC1
  have H1 := Lib.hid (H.out.mono hC1.bel)
  clear hC1 H
  obtain ⟨w2, m1, o1, q1⟩ := mk_ints w1.drew w1.heap.size 286 (Nat.le_refl _) (by omega)
  have b1 : Below w1.heap.size w1 w2 := (Below.drew (Below.refl w1.heap.size w1)).grown q1 (Nat.le_refl _) (by simp)
  obtain ⟨w3, m2, o2, q2⟩ := mk_ints w2 w1.heap.size 30 b1.size (by omega)
  have b2 : Below w2.heap.size w2 w3 := (Below.refl _ _).grown q2 (Nat.le_refl _) (by simp)
  have n1 : (Instr.makeSlice 23 (.int .i64 286) (.int .i64 286)).run Try.prog w1.drew = .ok (.slice (some ⟨w1.heap.size, 0, none⟩) 286 286) w2 := m1
  have n2 : (Instr.makeSlice 23 (.int .i64 30) (.int .i64 30)).run Try.prog w2 = .ok (.slice (some ⟨w2.heap.size, 0, none⟩) 30 30) w3 := m2
  have HCA : Hid (Pa.Cn w1 w3 w1.heap.size w2.heap.size (List.replicate 286 0) (List.replicate 30 0)) := Lib.hid ⟨own_below o1 b2, o2, by have := (o1.lt w1.heap.size rfl).2; omega, below_then b1 b2⟩
  clear m1 m2 o1 o2 q1 q2 b1 b2
  obtain ⟨w4, m1, o1, q1⟩ := mk_ints w1.drew w1.heap.size 30 (Nat.le_refl _) (by omega)
  have b1 : Below w1.heap.size w1 w4 := (Below.drew (Below.refl w1.heap.size w1)).grown q1 (Nat.le_refl _) (by simp)
  obtain ⟨w5, m2, o2, q2⟩ := mk_ints w4 w1.heap.size 286 b1.size (by omega)
  have b2 : Below w4.heap.size w4 w5 := (Below.refl _ _).grown q2 (Nat.le_refl _) (by simp)
  have n3 : (Instr.makeSlice 23 (.int .i64 30) (.int .i64 30)).run Try.prog w1.drew = .ok (.slice (some ⟨w1.heap.size, 0, none⟩) 30 30) w4 := m1
  have n4 : (Instr.makeSlice 23 (.int .i64 286) (.int .i64 286)).run Try.prog w4 = .ok (.slice (some ⟨w4.heap.size, 0, none⟩) 286 286) w5 := m2
  have HCB : Hid (Pa.Cn w1 w5 w4.heap.size w1.heap.size (List.replicate 286 0) (List.replicate 30 0)) := Lib.hid ⟨o2, own_below o1 b2, by have := (o1.lt w1.heap.size rfl).2; omega, below_then b1 b2⟩
  clear m1 m2 o1 o2 q1 q2 b1 b2
  go_wp2
  go_region
  · clear n1 n2 n3 n4 HCB
    revert HCA
    generalize w2.heap.size = h2
    generalize w1.heap.size = h1
    generalize w3 = W
    intro HC
    have hc0 := HC.out.c1 256 (by omega)
    have hf0 := Pa.own_fz HC.out.own1 256
    have HC0 : Hid (Pa.Cn w1 (W.setCell ⟨h1, 256, none⟩ (.int .i64 1)) h1 h2 (Pa.cts ts 0).1 (Pa.cts ts 0).2) := Lib.hid (HC.out.set1 256 1)
    clear HC
    go_wp2_with fail
    clear hc0 hf0
    revert HC0
    generalize W.setCell ⟨h1, 256, none⟩ (.int .i64 1) = W1
    intro HC0
    go_loopw [31] (fun i wr => ∃ k : Nat, k ≤ len ∧ i = .int .i64 ((k : Nat) : Int) ∧ Hid (Pa.Cn w1 wr h1 h2 (Pa.cts ts k).1 (Pa.cts ts k).2)) (fun i _ => len - (intOf i).toNat)
    case atStart => exact ⟨0, by omega, rfl, HC0⟩
    case round =>
      clear HC0
      obtain ⟨k, hk, rfl, HC⟩ := hrel
      by_cases hlt : k < len
      · obtain ⟨b, off, rfl, hbl, t0, t1⟩ := (H1.out.mono HC.out.bel).at' k hlt
        have hwf := H1.out.wf k hlt
        have hnx := Pa.cts_next ts k (by rw [HLN.out]; exact hlt)
        have hin := Pa.in_cts ts k (by rw [HLN.out]; exact hk)
        generalize ts.getD k (0, 0) = t at *
        obtain ⟨x, y⟩ := t
        simp only at t0 t1 hwf
        have hb5 := below_alloc wr (.cells #[.int .i64 x, .int .i64 y] 31)
        have hr5 : (wr.alloc (.cells #[.int .i64 x, .int .i64 y] 31)).heap[wr.heap.size]? = some (.cells #[.int .i64 x, .int .i64 y] 31 (0, 0)) := heap_alloc_last wr _
        have HS := Lib.hid (refGood06_any (x, y) (wr.alloc (.cells #[.int .i64 x, .int .i64 y] 31)) hwf)
        have HNX := Lib.hid hnx
        have HIN := Lib.hid hin
        have HC5 := Lib.hid (HC.out.mono hb5)
        have HG := Lib.hid (And.intro (HC.out.own1.lt h1 rfl).2 (HC.out.own2.lt h2 rfl).2)
        clear hnx hin hwf hb5 HC hbl
        simp only at HS
        go_wp2_with fail
        refine HS.out.mono ?_
        rintro e w6 ⟨rfl, hb6⟩
        have hr6 := (hb6.block wr.heap.size (by simp)).trans hr5
        have HC6 := Lib.hid (HC5.out.mono hb6)
        have HR6 := Lib.hid hr6
        have HTB : Hid (wr.heap.size < w6.heap.size) := Lib.hid (Array.getElem?_eq_some_iff.1 hr6).1
        have x0 : w6.cell? ⟨wr.heap.size, 0, none⟩ = some (.int .i64 x) := by rw [cell_of_row _ _ _ _ _ (0, 0) hr6]; rfl
        have y0 : w6.cell? ⟨wr.heap.size, 1, none⟩ = some (.int .i64 y) := by rw [cell_of_row _ _ _ _ _ (0, 0) hr6]; rfl
        clear hb6 hr6 hr5 HS HC5 t0 t1
        by_cases htok : Tk.isTok (x, y) = true
        · have htr := Tk.tok_range htok
          simp only at htr
          have HST : Hid (Pa.cts ts (k + 1) = if x = 0 then (Pa.bmp (Pa.cts ts k).1 y.toNat, (Pa.cts ts k).2) else (Pa.bmp (Pa.cts ts k).1 (257 + Sy.lsy x.toNat), Pa.bmp (Pa.cts ts k).2 (Sy.dsy y.toNat))) := Lib.hid (by rw [HNX.out]; unfold Pa.stC; rw [if_pos htok])
          rw [htok]
          clear htok HNX
          by_cases hx : x = 0
          · subst hx
            obtain ⟨j, rfl⟩ : ∃ j : Nat, y = (j : Int) := ⟨y.toNat, by omega⟩
            have hj : j < 286 := by omega
            have hcj := HC6.out.c1 j hj
            have hfj := Pa.own_fz HC6.out.own1 j
            have hvr := HIN.out.1.2 j
            have HC7 := Lib.hid (HC6.out.set1 j ((Pa.cts ts k).1.getD j 0 + 1))
            have HE : Hid (Pa.cts ts (k + 1) = ((Pa.cts ts k).1.set j ((Pa.cts ts k).1.getD j 0 + 1), (Pa.cts ts k).2)) := Lib.hid (by rw [HST.out, if_pos rfl, Int.toNat_natCast]; rfl)
            have dj : decide (j < 286) = true := by simp; omega
            clear HST HC6 HIN
            generalize (Pa.cts ts k).1.getD j 0 = z at *
            go_wp2
            go_roundw
            case rel => exact ⟨k + 1, by omega, by go_num, by rw [HE.out]; exact HC7⟩
            case measure => simp [intOf]; omega
          · obtain ⟨xn, rfl⟩ : ∃ xn : Nat, x = (xn : Int) := ⟨x.toNat, by omega⟩
            obtain ⟨yn, rfl⟩ : ∃ yn : Nat, y = (yn : Int) := ⟨y.toNat, by omega⟩
            have dx0 : ((xn : Int) == 0) = false := by simp; omega
            have HRL := Lib.hid (refLength_any xn w6 (by omega) (by omega))
            have HRD : Hid (∀ X, Calls Try.prog 16 #[.int .i64 (yn : Nat)] X fun e w' => e = .returned (.int .i64 ((Sy.dsy yn : Nat) : Int)) ∧ Below X.heap.size X w') := Lib.hid (fun X => refDist_any yn X (by omega) (by omega))
            have HST2 : Hid (Pa.cts ts (k + 1) = (Pa.bmp (Pa.cts ts k).1 (257 + Sy.lsy xn), Pa.bmp (Pa.cts ts k).2 (Sy.dsy yn))) := Lib.hid (by rw [HST.out, if_neg hx, Int.toNat_natCast, Int.toNat_natCast])
            have hj : 257 + Sy.lsy xn < 286 := by have := Sy.cnt_le Sy.lb 28 xn; unfold Sy.lsy; omega
            have hq : Sy.dsy yn < 30 := by have := Sy.cnt_le Sy.db 29 yn; unfold Sy.dsy; omega
            clear HST hx
            generalize 257 + Sy.lsy xn = j at *
            generalize Sy.dsy yn = q at *
            go_wp2_with fail
            refine HRL.out.mono ?_
            rintro e w7 ⟨rfl, hb7⟩
            have HC7 := Lib.hid (HC6.out.mono hb7)
            have hr7 := (hb7.block wr.heap.size HTB.out).trans HR6.out
            have hcj := HC7.out.c1 j hj
            have hfj := Pa.own_fz HC7.out.own1 j
            have hvr := HIN.out.1.2 j
            have hvq := HIN.out.2.2 q
            have HC8 := Lib.hid (HC7.out.set1 j ((Pa.cts ts k).1.getD j 0 + 1))
            have y7 : w7.cell? ⟨wr.heap.size, 1, none⟩ = some (.int .i64 (yn : Nat)) := by rw [cell_of_row _ _ _ _ _ (0, 0) hr7]; rfl
            have y8 : (w7.setCell ⟨h1, j, none⟩ (.int .i64 ((Pa.cts ts k).1.getD j 0 + 1))).cell? ⟨wr.heap.size, 1, none⟩ = some (.int .i64 (yn : Nat)) := by rw [cell_set_other (by have := HG.out.1; omega)]; exact y7
            have dj : decide (j < 286) = true := by simp; omega
            have dq : decide (q < 30) = true := by simp; omega
            have HE : Hid (Pa.cts ts (k + 1) = ((Pa.cts ts k).1.set j ((Pa.cts ts k).1.getD j 0 + 1), (Pa.cts ts k).2.set q ((Pa.cts ts k).2.getD q 0 + 1))) := Lib.hid (by rw [HST2.out]; rfl)
            have HDq : Hid (∀ X, Pa.Cn w1 X h1 h2 ((Pa.cts ts k).1.set j ((Pa.cts ts k).1.getD j 0 + 1)) (Pa.cts ts k).2 → X.cell? ⟨h2, q, none⟩ = some (.int .i64 ((Pa.cts ts k).2.getD q 0))) := Lib.hid (fun X h => h.c2 q hq)
            clear hb7 hr7 HRL HC6 HC7 HST2 HIN
            generalize (Pa.cts ts k).1.getD j 0 = z at *
            generalize (Pa.cts ts k).2.getD q 0 = z2 at *
            go_wp2_with fail
            clear hcj hfj y7
            revert HC8 y8
            generalize w7.setCell ⟨h1, j, none⟩ (.int .i64 (z + 1)) = w8
            intro HC8 y8
            refine (HRD.out w8).mono ?_
            rintro e w9 ⟨rfl, hb9⟩
            have HC9 := Lib.hid (HC8.out.mono hb9)
            have hcq := HDq.out w9 HC9.out
            have hfq := Pa.own_fz HC9.out.own2 q
            have HCA := Lib.hid (HC9.out.set2 q (z2 + 1))
            clear HC8 HC9 hb9 HRD y8 HDq
            go_wp2
            go_roundw
            case rel => exact ⟨k + 1, by omega, by go_num, by rw [HE.out]; exact HCA⟩
            case measure => simp [intOf]; omega
        · have hf : Tk.isTok (x, y) = false := by simpa using htok
          rw [hf]
          have HE : Hid (Pa.cts ts (k + 1) = Pa.cts ts k) := Lib.hid (by rw [HNX.out]; unfold Pa.stC; rw [if_neg htok])
          clear htok hf HNX HIN x0 y0
          go_wp2
          go_roundw
          case rel => exact ⟨k + 1, by omega, by go_num, by rw [HE.out]; exact HC6⟩
          case measure => simp [intOf]; omega
      · obtain rfl : len = k := by omega
        have hin := Pa.in_cts ts len (by rw [HLN.out]; exact Nat.le_refl _)
        have hC1 := HC1.out.mono HC.out.bel
        have i1 := is_of_own hC1.own1 (hin.1.wf (by omega)) 0 286 286 (by omega) (by omega)
        have i2 := is_of_own hC1.own2 (hin.2.wf (by omega)) 0 30 30 (by omega) (by omega)
        have i3 := is_of_own HC.out.own1 (hin.1.wf (by omega)) 0 286 286 (by omega) (by omega)
        have i4 := is_of_own HC.out.own2 (hin.2.wf (by omega)) 0 30 30 (by omega) (by omega)
        rw [List.drop_zero] at i1 i2 i3 i4
        have HB := Lib.hid hC1.bel
        have HI1 : Hid (Calls Try.prog 17 #[.slice (some ⟨g1, 0, none⟩) 286 286, .slice (some ⟨h1, 0, none⟩) 286 286] wr fun e w' => e = .returned (.bool true) ∧ ∃ m, w' = wr.drewN m) := Lib.hid ((ints_any _ _ 286 286 286 286 _ _ wr i1 i3 (by omega) (by omega)).mono (fun e w' h => ⟨by rw [h.1]; simp, h.2⟩))
        have HI2 : Hid (∀ n, Calls Try.prog 17 #[.slice (some ⟨g2, 0, none⟩) 30 30, .slice (some ⟨h2, 0, none⟩) 30 30] (wr.drewN n) fun e w' => e = .returned (.bool true) ∧ ∃ m, w' = (wr.drewN n).drewN m) := Lib.hid (fun n => (ints_any _ _ 30 30 30 30 _ _ (wr.drewN n) (i2.mono (drewN_is wr n)) (i4.mono (drewN_is wr n)) (by omega) (by omega)).mono (fun e w' h => ⟨by rw [h.1]; simp, h.2⟩))
        clear hin hC1 i1 i2 i3 i4 HC
        go_wp2_with fail
        refine HI1.out.mono ?_
        rintro e w' ⟨rfl, n, rfl⟩
        go_wp2_with fail
        refine (HI2.out n).mono ?_
        rintro e w' ⟨rfl, m, rfl⟩
        go_wp2
        go_ret
        exact ⟨rfl, HB.out.trans ((drewN_is wr (n + m)).mono HB.out.size)⟩
  · clear n1 n2 n3 n4 HCA
    revert HCB
    generalize w4.heap.size = h1
    generalize w1.heap.size = h2
    generalize w5 = W
    intro HC
    have hc0 := HC.out.c1 256 (by omega)
    have hf0 := Pa.own_fz HC.out.own1 256
    have HC0 : Hid (Pa.Cn w1 (W.setCell ⟨h1, 256, none⟩ (.int .i64 1)) h1 h2 (Pa.cts ts 0).1 (Pa.cts ts 0).2) := Lib.hid (HC.out.set1 256 1)
    clear HC
    go_wp2_with fail
    clear hc0 hf0
    revert HC0
    generalize W.setCell ⟨h1, 256, none⟩ (.int .i64 1) = W1
    intro HC0
    go_loopw [31] (fun i wr => ∃ k : Nat, k ≤ len ∧ i = .int .i64 ((k : Nat) : Int) ∧ Hid (Pa.Cn w1 wr h1 h2 (Pa.cts ts k).1 (Pa.cts ts k).2)) (fun i _ => len - (intOf i).toNat)
    case atStart => exact ⟨0, by omega, rfl, HC0⟩
    case round =>
      clear HC0
      obtain ⟨k, hk, rfl, HC⟩ := hrel
      by_cases hlt : k < len
      · obtain ⟨b, off, rfl, hbl, t0, t1⟩ := (H1.out.mono HC.out.bel).at' k hlt
        have hwf := H1.out.wf k hlt
        have hnx := Pa.cts_next ts k (by rw [HLN.out]; exact hlt)
        have hin := Pa.in_cts ts k (by rw [HLN.out]; exact hk)
        generalize ts.getD k (0, 0) = t at *
        obtain ⟨x, y⟩ := t
        simp only at t0 t1 hwf
        have hb5 := below_alloc wr (.cells #[.int .i64 x, .int .i64 y] 31)
        have hr5 : (wr.alloc (.cells #[.int .i64 x, .int .i64 y] 31)).heap[wr.heap.size]? = some (.cells #[.int .i64 x, .int .i64 y] 31 (0, 0)) := heap_alloc_last wr _
        have HS := Lib.hid (refGood06_any (x, y) (wr.alloc (.cells #[.int .i64 x, .int .i64 y] 31)) hwf)
        have HNX := Lib.hid hnx
        have HIN := Lib.hid hin
        have HC5 := Lib.hid (HC.out.mono hb5)
        have HG := Lib.hid (And.intro (HC.out.own1.lt h1 rfl).2 (HC.out.own2.lt h2 rfl).2)
        clear hnx hin hwf hb5 HC hbl
        simp only at HS
        go_wp2_with fail
        refine HS.out.mono ?_
        rintro e w6 ⟨rfl, hb6⟩
        have hr6 := (hb6.block wr.heap.size (by simp)).trans hr5
        have HC6 := Lib.hid (HC5.out.mono hb6)
        have HR6 := Lib.hid hr6
        have HTB : Hid (wr.heap.size < w6.heap.size) := Lib.hid (Array.getElem?_eq_some_iff.1 hr6).1
        have x0 : w6.cell? ⟨wr.heap.size, 0, none⟩ = some (.int .i64 x) := by rw [cell_of_row _ _ _ _ _ (0, 0) hr6]; rfl
        have y0 : w6.cell? ⟨wr.heap.size, 1, none⟩ = some (.int .i64 y) := by rw [cell_of_row _ _ _ _ _ (0, 0) hr6]; rfl
        clear hb6 hr6 hr5 HS HC5 t0 t1
        by_cases htok : Tk.isTok (x, y) = true
        · have htr := Tk.tok_range htok
          simp only at htr
          have HST : Hid (Pa.cts ts (k + 1) = if x = 0 then (Pa.bmp (Pa.cts ts k).1 y.toNat, (Pa.cts ts k).2) else (Pa.bmp (Pa.cts ts k).1 (257 + Sy.lsy x.toNat), Pa.bmp (Pa.cts ts k).2 (Sy.dsy y.toNat))) := Lib.hid (by rw [HNX.out]; unfold Pa.stC; rw [if_pos htok])
          rw [htok]
          clear htok HNX
          by_cases hx : x = 0
          · subst hx
            obtain ⟨j, rfl⟩ : ∃ j : Nat, y = (j : Int) := ⟨y.toNat, by omega⟩
            have hj : j < 286 := by omega
            have hcj := HC6.out.c1 j hj
            have hfj := Pa.own_fz HC6.out.own1 j
            have hvr := HIN.out.1.2 j
            have HC7 := Lib.hid (HC6.out.set1 j ((Pa.cts ts k).1.getD j 0 + 1))
            have HE : Hid (Pa.cts ts (k + 1) = ((Pa.cts ts k).1.set j ((Pa.cts ts k).1.getD j 0 + 1), (Pa.cts ts k).2)) := Lib.hid (by rw [HST.out, if_pos rfl, Int.toNat_natCast]; rfl)
            have dj : decide (j < 286) = true := by simp; omega
            clear HST HC6 HIN
            generalize (Pa.cts ts k).1.getD j 0 = z at *
            go_wp2
            go_roundw
            case rel => exact ⟨k + 1, by omega, by go_num, by rw [HE.out]; exact HC7⟩
            case measure => simp [intOf]; omega
          · obtain ⟨xn, rfl⟩ : ∃ xn : Nat, x = (xn : Int) := ⟨x.toNat, by omega⟩
            obtain ⟨yn, rfl⟩ : ∃ yn : Nat, y = (yn : Int) := ⟨y.toNat, by omega⟩
            have dx0 : ((xn : Int) == 0) = false := by simp; omega
            have HRL := Lib.hid (refLength_any xn w6 (by omega) (by omega))
            have HRD : Hid (∀ X, Calls Try.prog 16 #[.int .i64 (yn : Nat)] X fun e w' => e = .returned (.int .i64 ((Sy.dsy yn : Nat) : Int)) ∧ Below X.heap.size X w') := Lib.hid (fun X => refDist_any yn X (by omega) (by omega))
            have HST2 : Hid (Pa.cts ts (k + 1) = (Pa.bmp (Pa.cts ts k).1 (257 + Sy.lsy xn), Pa.bmp (Pa.cts ts k).2 (Sy.dsy yn))) := Lib.hid (by rw [HST.out, if_neg hx, Int.toNat_natCast, Int.toNat_natCast])
            have hj : 257 + Sy.lsy xn < 286 := by have := Sy.cnt_le Sy.lb 28 xn; unfold Sy.lsy; omega
            have hq : Sy.dsy yn < 30 := by have := Sy.cnt_le Sy.db 29 yn; unfold Sy.dsy; omega
            clear HST hx
            generalize 257 + Sy.lsy xn = j at *
            generalize Sy.dsy yn = q at *
            go_wp2_with fail
            refine HRL.out.mono ?_
            rintro e w7 ⟨rfl, hb7⟩
            have HC7 := Lib.hid (HC6.out.mono hb7)
            have hr7 := (hb7.block wr.heap.size HTB.out).trans HR6.out
            have hcj := HC7.out.c1 j hj
            have hfj := Pa.own_fz HC7.out.own1 j
            have hvr := HIN.out.1.2 j
            have hvq := HIN.out.2.2 q
            have HC8 := Lib.hid (HC7.out.set1 j ((Pa.cts ts k).1.getD j 0 + 1))
            have y7 : w7.cell? ⟨wr.heap.size, 1, none⟩ = some (.int .i64 (yn : Nat)) := by rw [cell_of_row _ _ _ _ _ (0, 0) hr7]; rfl
            have y8 : (w7.setCell ⟨h1, j, none⟩ (.int .i64 ((Pa.cts ts k).1.getD j 0 + 1))).cell? ⟨wr.heap.size, 1, none⟩ = some (.int .i64 (yn : Nat)) := by rw [cell_set_other (by have := HG.out.1; omega)]; exact y7
            have dj : decide (j < 286) = true := by simp; omega
            have dq : decide (q < 30) = true := by simp; omega
            have HE : Hid (Pa.cts ts (k + 1) = ((Pa.cts ts k).1.set j ((Pa.cts ts k).1.getD j 0 + 1), (Pa.cts ts k).2.set q ((Pa.cts ts k).2.getD q 0 + 1))) := Lib.hid (by rw [HST2.out]; rfl)
            have HDq : Hid (∀ X, Pa.Cn w1 X h1 h2 ((Pa.cts ts k).1.set j ((Pa.cts ts k).1.getD j 0 + 1)) (Pa.cts ts k).2 → X.cell? ⟨h2, q, none⟩ = some (.int .i64 ((Pa.cts ts k).2.getD q 0))) := Lib.hid (fun X h => h.c2 q hq)
            clear hb7 hr7 HRL HC6 HC7 HST2 HIN
            generalize (Pa.cts ts k).1.getD j 0 = z at *
            generalize (Pa.cts ts k).2.getD q 0 = z2 at *
            go_wp2_with fail
            clear hcj hfj y7
            revert HC8 y8
            generalize w7.setCell ⟨h1, j, none⟩ (.int .i64 (z + 1)) = w8
            intro HC8 y8
            refine (HRD.out w8).mono ?_
            rintro e w9 ⟨rfl, hb9⟩
            have HC9 := Lib.hid (HC8.out.mono hb9)
            have hcq := HDq.out w9 HC9.out
            have hfq := Pa.own_fz HC9.out.own2 q
            have HCA := Lib.hid (HC9.out.set2 q (z2 + 1))
            clear HC8 HC9 hb9 HRD y8 HDq
            go_wp2
            go_roundw
            case rel => exact ⟨k + 1, by omega, by go_num, by rw [HE.out]; exact HCA⟩
            case measure => simp [intOf]; omega
        · have hf : Tk.isTok (x, y) = false := by simpa using htok
          rw [hf]
          have HE : Hid (Pa.cts ts (k + 1) = Pa.cts ts k) := Lib.hid (by rw [HNX.out]; unfold Pa.stC; rw [if_neg htok])
          clear htok hf HNX HIN x0 y0
          go_wp2
          go_roundw
          case rel => exact ⟨k + 1, by omega, by go_num, by rw [HE.out]; exact HC6⟩
          case measure => simp [intOf]; omega
      · obtain rfl : len = k := by omega
        have hin := Pa.in_cts ts len (by rw [HLN.out]; exact Nat.le_refl _)
        have hC1 := HC1.out.mono HC.out.bel
        have i1 := is_of_own hC1.own1 (hin.1.wf (by omega)) 0 286 286 (by omega) (by omega)
        have i2 := is_of_own hC1.own2 (hin.2.wf (by omega)) 0 30 30 (by omega) (by omega)
        have i3 := is_of_own HC.out.own1 (hin.1.wf (by omega)) 0 286 286 (by omega) (by omega)
        have i4 := is_of_own HC.out.own2 (hin.2.wf (by omega)) 0 30 30 (by omega) (by omega)
        rw [List.drop_zero] at i1 i2 i3 i4
        have HB := Lib.hid hC1.bel
        have HI1 : Hid (Calls Try.prog 17 #[.slice (some ⟨g1, 0, none⟩) 286 286, .slice (some ⟨h1, 0, none⟩) 286 286] wr fun e w' => e = .returned (.bool true) ∧ ∃ m, w' = wr.drewN m) := Lib.hid ((ints_any _ _ 286 286 286 286 _ _ wr i1 i3 (by omega) (by omega)).mono (fun e w' h => ⟨by rw [h.1]; simp, h.2⟩))
        have HI2 : Hid (∀ n, Calls Try.prog 17 #[.slice (some ⟨g2, 0, none⟩) 30 30, .slice (some ⟨h2, 0, none⟩) 30 30] (wr.drewN n) fun e w' => e = .returned (.bool true) ∧ ∃ m, w' = (wr.drewN n).drewN m) := Lib.hid (fun n => (ints_any _ _ 30 30 30 30 _ _ (wr.drewN n) (i2.mono (drewN_is wr n)) (i4.mono (drewN_is wr n)) (by omega) (by omega)).mono (fun e w' h => ⟨by rw [h.1]; simp, h.2⟩))
        clear hin hC1 i1 i2 i3 i4 HC
        go_wp2_with fail
        refine HI1.out.mono ?_
        rintro e w' ⟨rfl, n, rfl⟩
        go_wp2_with fail
        refine (HI2.out n).mono ?_
        rintro e w' ⟨rfl, m, rfl⟩
        go_wp2
        go_ret
        exact ⟨rfl, HB.out.trans ((drewN_is wr (n + m)).mono HB.out.size)⟩
set_option maxRecDepth 100000 in
theorem lifted (os : Os) (started : os.Started) (H : Type) (enc : TypeId × Value → H) :
    ReturnsInHanded {} Try.checked os 4 .any (Rows.parseCountsSpec.pre6 enc Try.prog Try.f4 Rows.parseCountsRow.domain false) (Rows.parseCountsSpec.post enc Try.prog Try.f4 false true false false) := by
  refine returnsInHanded_of_change_sized (C := Try.checked) own started (by kernel_rfl) Try.func4
    (ChangeSpec.witness6 (enc := enc) (C := Try.checked) false ⟨#[], #[.slice none 0 0], []⟩ 8 (by kernel_rfl) (by kernel_rfl) (by kernel_rfl) (by kernel_rfl)) ?_
  intro W base args ds gs before hval0 hW _ hsz0 _
  have hval : ∀ (j : Nat) t v, Try.f4.params[j]? = some t → args[j]? = some v → Value.okWide Try.prog W .any base t v := hval0
  have hsz : (DataW.weightsEach Try.prog (Try.f4.params.toList ++ Rows.parseCountsSpec.plain.varTypes Try.prog) (ds ++ gs)).all (· ≤ reachBytes) = true := hsz0
  have hW' := hW
  obtain ⟨p, q, hA0, hV, rfl, hfz, hnd⟩ := hW
  have hA : DataW.TrodAll enc Try.prog W 0 (fun _ => true) true Try.f4.params.toList args.toList ds p := hA0
  rw [Try.params4] at hA hval hsz
  obtain ⟨v0, vs0, d0, ds0, p0, q0, hargs, rfl, rfl, h0, r0⟩ := trodAll_cons hA
  obtain ⟨rfl, rfl, rfl⟩ := trodAll_nil r0
  obtain rfl : args = #[v0] := by cases args; simp_all
  obtain ⟨rfl, rfl⟩ := trodVars_none hV
  clear hsz0
  obtain ⟨a0, len0, cap0, rfl⟩ := okWide_slice Try.underlying22 (hval 0 22 v0 rfl rfl)
  have k0 := h0
  have lt0 : ∀ x ∈ p0, x.block < W.heap.size := by obtain ⟨m, hm⟩ := k0; exact DataW.trod_lt m _ _ _ hm
  obtain ⟨l0, w0, c0⟩ := open_toks Try.underlying22 Try.underlying31 Try.underlying3 Try.underlying3 (by kernel_rfl) (by kernel_rfl) rfl rfl (by kernel_rfl) (by kernel_rfl) h0 hsz 0 rfl rfl
  clear hA0 hval0 hsz
  refine (walk a0 len0 cap0 l0 W w0 c0).mono fun e W' ⟨he, bel⟩ => ?_
  subst he
  exact ⟨_, rfl, _, _, _, [], _, [], hW', trodAll_mk1 (shut_bool Try.underlying4 _), (trodAll_cons_mk (Below.trod laidOut (by kernel_rfl) (of_decide_eq_true (by kernel_rfl)) k0 bel lt0) trodAll_mk0), rfl, bel.frame _, fun h => by cases h⟩

theorem proved : Rows.ParseCountsSaid :=
  OpenClaim.holds_of_wide 4 Try.f4 rfl rfl rfl rfl rfl rfl rfl ⟨rfl, rfl, rfl, rfl, rfl⟩ rfl rfl rfl rfl rfl (by kernel_rfl) Try.func4 (by kernel_rfl)
    (of_decide_eq_true (by kernel_rfl)) (by unfold Func.isWrapper; first | (rw [if_pos (by decide +kernel)]; kernel_rfl) | (rw [if_neg (by decide +kernel)]; exact ⟨rfl, rfl⟩))
    (fun os started H enc _ => lifted os started H enc)
#print axioms proved
end Go.Proofs.Ytedncnaeojomcaa.ParseCounts
