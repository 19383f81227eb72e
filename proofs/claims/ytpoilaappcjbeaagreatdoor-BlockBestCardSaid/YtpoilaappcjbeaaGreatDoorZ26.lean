/- block.Best: its contract. block.Best's kind has the fewest bits, and is the least of these. block's pen in memory; number, symbol, match, head: their contracts. block's pen: match, head, header: their contracts. -/
import Derived.Test.YtpoilaappcjbeaaGreatDoorZ25
import Derived.Deep.RegionHeld3
set_option linter.unusedSimpArgs false
set_option linter.unusedVariables false
section
namespace Go.Proofs.YtpoilaappcjbeaaGreatDoor
open Go.RowKit

namespace Bc
/-- The best of the first k kinds, and its bits. -/
def bst (ts : List Tok) (n : Nat) : Nat → Nat × Int
  | 0 => (1, 9223372036854775807)
  | k + 1 => if k = 0 ∧ 65535 < n then bst ts n k else if szB k ts n < (bst ts n k).2 then (k, szB k ts n) else bst ts n k
theorem bst_next (ts : List Tok) (n k : Nat) : bst ts n (k + 1) = if k = 0 ∧ 65535 < n then bst ts n k else if szB k ts n < (bst ts n k).2 then (k, szB k ts n) else bst ts n k := rfl
theorem bst_le (ts : List Tok) (n : Nat) : ∀ k, k ≤ 3 → (bst ts n k).1 ≤ 2
  | 0, _ => by simp [bst]
  | k + 1, h => by
    have ih := bst_le ts n k (by omega)
    rw [bst_next]
    split
    · exact ih
    · split
      · simp only; omega
      · exact ih
theorem szB_bd (k : Nat) (ts : List Tok) (n : Nat) (h : ts.length ≤ 1000000) (hn : n ≤ 281474976710656) : 3 ≤ szB k ts n ∧ szB k ts n ≤ 3000000000000000 := by
  have := bdLen_bd k ts h
  unfold szB
  split <;> omega
theorem bst_bd (ts : List Tok) (n : Nat) (h : ts.length ≤ 1000000) (hn : n ≤ 281474976710656) : ∀ k, 0 ≤ (bst ts n k).2 ∧ (bst ts n k).2 ≤ 9223372036854775807
  | 0 => by simp [bst]
  | k + 1 => by
    have ih := bst_bd ts n h hn k
    have := szB_bd k ts n h hn
    rw [bst_next]
    split
    · exact ih
    · split
      · simp only; omega
      · exact ih
theorem set3_row {w : World} {q : Nat} {y0 y1 y2 : Value} {t : TypeId} (h : w.heap[q]? = some (.cells #[y0, y1, y2] t (0, 0))) (x0 x1 x2 : Value) : (((w.setCell ⟨q, 0, none⟩ x0).setCell ⟨q, 1, none⟩ x1).setCell ⟨q, 2, none⟩ x2).heap[q]? = some (.cells #[x0, x1, x2] t (0, 0)) :=
  heap_setCell_same _ q 2 _ _ x2 (heap_setCell_same _ q 1 _ _ x1 (heap_setCell_same w q 0 _ _ x0 h))
theorem set3_ch (w : World) (q : Nat) (x0 x1 x2 : Value) : Ch w (((w.setCell ⟨q, 0, none⟩ x0).setCell ⟨q, 1, none⟩ x1).setCell ⟨q, 2, none⟩ x2) (fun k => k = q) :=
  (((Ch.refl w (fun k => k = q)).set (p := ⟨q, 0, none⟩) (.inl rfl) x0).set (p := ⟨q, 1, none⟩) (.inl rfl) x1).set (p := ⟨q, 2, none⟩) (.inl rfl) x2
theorem best_results (tmps : Array Value) (W : World) (cb : Nat) (cs : Array Value) (u : Value) (h2 : tmps.getD 4 undef = .pointer (some ⟨cb, 0, none⟩)) (h3 : tmps.getD 5 undef = u) (hrow : W.heap[cb]? = some (.cells cs 36 (0, 0))) (hs : cs.size = 3) :
    (results Tryz.f20 tmps).run Tryz.prog W = .ok (.tuple #[.agg cs, u]) W := by
  refine (results_cell_tmp (p := 4) (u := 5) (ty := 36) (by kernel_rfl) tmps Tryz.prog W).trans ?_
  rw [h2, h3]
  have hl := run_loadVar_row (P := Tryz.prog) W cb 36 36 cs (0, 0) _ hrow Tryz.underlying36 rfl (by rw [hs]; kernel_rfl)
  simp [asAddr, hl, Result.andThen]
theorem _root_.Go.Proofs.YtpoilaappcjbeaaGreatDoor.Bs.keptB {w w' : World} {T : Nat → Prop} {a : Option Addr} {len cap : Nat} {l : List UInt8} (h : Bs w a len cap l) (c : Ch w w' T) (hn : ∀ ad, a = some ad → ¬ T ad.block) : Bs w' a len cap l :=
  ⟨h.hlen, h.hle, h.hcap, h.hmax, h.hnil, fun i hi => by
    obtain ⟨b, off, e, hlt, hc⟩ := h.at' i hi
    exact ⟨b, off, e, Nat.lt_of_lt_of_le hlt c.size, by rw [World.cell?_of_block (w := w) (c.block b hlt (hn _ e))]; exact hc⟩⟩
def BestPost (w : World) (ts : List Tok) (tx : List UInt8) (e : Ending) (w' : World) : Prop :=
  Below w.heap.size w w' ∧
  ((fit tx ts 0 = false ∧ e = .returned (.tuple #[.agg #[.int .i64 0, .slice none 0 0, .slice none 0 0], .iface 51 (.int .i64 6)])) ∨
   (fit tx ts 0 = true ∧ ∃ ta tc xa xc, e = .returned (.tuple #[.agg #[.int .i64 ((bst ts tx.length 3).1 : Nat), .slice ta ts.length tc, .slice xa tx.length xc], .nilIface]) ∧ Ts2 w' ta ts.length tc ts ∧ Bs w' xa tx.length xc tx))
set_option maxRecDepth 100000 in
set_option maxHeartbeats 800000 in
theorem best_call (a : Option Addr) (len cap : Nat) (ts : List Tok) (xa : Option Addr) (xn xc : Nat) (tx : List UInt8) (w : World) (h : Ts2 w a len cap ts) (hb : Bs w xa xn xc tx) (hlen : len ≤ 1000000) (hx47 : xn ≤ 140737488355328) (hoo : Oo w) (hz : 0 < w.heap.size) :
    Calls Tryz.prog 20 #[.slice a len cap, .slice xa xn xc] w (BestPost w ts tx) := by
  have hl := h.hlen
  have hxl := hb.hlen
  subst hl
  subst hxl
  have hal := below_alloc w (.cells #[.int .i64 0, .slice none 0 0, .slice none 0 0] 36)
  have HV := Lib.hid (isValid_any 1 a ts.length cap ts xa tx.length xc tx _ (h.mono hal) (hb.mono hal) (by omega))
  have HSZ := Lib.hid (fun (k : Nat) (hk : k ≤ 2) w' (hb' : Below w.heap.size w w') => size_any k hk a ts.length cap xa tx.length xc ts w' (h.mono hb') hlen (by omega) (hoo.mono hz hb') (Nat.lt_of_lt_of_le hz hb'.size))
  have HCT := Lib.hid (fun w' (hb' : Below w.heap.size w w') => tclone_any a ts.length cap ts w' (h.mono hb') (by omega))
  have HCX := Lib.hid (fun w' (hb' : Below w.heap.size w w') => clone_any xa tx.length xc tx w' (hb.mono hb') hx47)
  have HTW := Lib.hid h.wf
  have HAL := Lib.hid hal
  have HRW := Lib.hid (heap_alloc_last w (.cells #[.int .i64 0, .slice none 0 0, .slice none 0 0] 36))
  have HBD := Lib.hid (And.intro (fun k => szB_bd k ts tx.length hlen (by omega)) (bst_bd ts tx.length hlen (by omega)))
  have HLE := Lib.hid (bst_le ts tx.length)
  have HVB : Hid (vB 1 ts tx = fit tx ts 0) := Lib.hid (by unfold vB; simp)
  clear h hb hoo hz hal hlen
  go_enter Tryz.func20, Tryz.ntmps20
  go_wp2_with fail
  refine HV.out.mono ?_
  rintro e w1 ⟨rfl, hb1⟩
  rw [HVB.out]
  have HB1 := Lib.hid (below_then HAL.out hb1)
  have HQ : Hid (w.heap.size < w1.heap.size) := Lib.hid (by have := hb1.size; simp at this; omega)
  have HR1 := Lib.hid ((hb1.block w.heap.size (by simp)).trans HRW.out)
  clear hb1 HV HVB HRW HAL
  cases hf : fit tx ts 0
  · have HF := Lib.hid hf
    clear hf HSZ HCT HCX HTW
    have c0 := cell_of_row _ _ 0 _ _ (0, 0) HR1.out
    have c1 := cell_of_row _ _ 1 _ _ (0, 0) HR1.out
    have c2 := cell_of_row _ _ 2 _ _ (0, 0) HR1.out
    have f0 := frozen_of_row _ _ 0 _ _ HR1.out
    have f1 := frozen_of_row _ _ 1 _ _ HR1.out
    have f2 := frozen_of_row _ _ 2 _ _ HR1.out
    simp only [List.getElem?_toArray, List.getElem?_cons_zero, List.getElem?_cons_succ] at c0 c1 c2
    have HRF := Lib.hid (set3_row HR1.out (.int .i64 0) (.slice none 0 0) (.slice none 0 0))
    have HP : Hid (BestPost w ts tx (.returned (.tuple #[.agg #[.int .i64 0, .slice none 0 0, .slice none 0 0], .iface 51 (.int .i64 6)])) (((w1.setCell ⟨w.heap.size, 0, none⟩ (.int .i64 0)).setCell ⟨w.heap.size, 1, none⟩ (.slice none 0 0)).setCell ⟨w.heap.size, 2, none⟩ (.slice none 0 0))) := Lib.hid ⟨HB1.out.trans ((set3_ch w1 w.heap.size _ _ _).below HB1.out.size (fun j e => by omega)), .inl ⟨HF.out, rfl⟩⟩
    go_wp2
    exact bodyPost_ret (best_results _ _ _ _ _ rfl rfl HRF.out rfl) rfl HP.out
  · have HF := Lib.hid hf
    clear hf
    go_wp2_with fail
    go_loopw [6, 7, 18] (fun bv lv iv wr => ∃ k : Nat, k ≤ 3 ∧ iv = .int .i64 k ∧ bv = .int .i64 ((bst ts tx.length k).1 : Nat) ∧ lv = .int .i64 (bst ts tx.length k).2 ∧ Hid (Below w1.heap.size w1 wr)) (fun _ _ iv _ => 3 - (intOf iv).toNat)
    case atStart => exact ⟨0, by omega, rfl, rfl, rfl, Lib.hid (Below.refl _ _)⟩
    case round =>
      obtain ⟨k, hk, rfl, rfl, rfl, HB⟩ := hrel
      by_cases hlt : k < 3
      · have dk : decide ((k : Int) < 3) = true := decide_eq_true (by omega)
        have HN := Lib.hid (bst_next ts tx.length k)
        have hbd := HBD.out.1 k
        have hbb := HBD.out.2 k
        have HS := Lib.hid (HSZ.out k (by omega) wr (below_then HB1.out HB.out))
        by_cases hskip : k = 0 ∧ 65535 < tx.length
        · obtain ⟨rfl, hbig⟩ := hskip
          have HN2 : Hid (bst ts tx.length (0 + 1) = bst ts tx.length 0) := Lib.hid (by rw [HN.out, if_pos ⟨rfl, hbig⟩])
          have db : decide ((65535 : Int) < (tx.length : Int)) = true := decide_eq_true (by omega)
          clear HN HS hbd hbb hbig
          go_wp2
          go_roundw
          case rel => exact ⟨0 + 1, by omega, by go_num, by rw [HN2.out], by rw [HN2.out], HB⟩
          case measure => simp [intOf]
        · have HN2 : Hid (bst ts tx.length (k + 1) = if szB k ts tx.length < (bst ts tx.length k).2 then (k, szB k ts tx.length) else bst ts tx.length k) := Lib.hid (by rw [HN.out, if_neg hskip])
          clear HN
          by_cases hk0 : k = 0
          · have db : decide ((65535 : Int) < (tx.length : Int)) = false := decide_eq_false (by omega)
            have dk0 : ((k : Int) == 0) = true := by simp; omega
            clear hskip hk0
            go_wp2_with fail
            refine HS.out.mono ?_
            rintro e w5 ⟨rfl, hb5⟩
            have HB5 := Lib.hid (below_then HB.out hb5)
            clear hb5 HS HB
            generalize hpe : bst ts tx.length k = p at *
            have HPE := Lib.hid hpe
            clear hpe
            obtain ⟨pb, pl⟩ := p
            simp only at hbb HN2
            generalize szB k ts tx.length = z at *
            by_cases hlz : z < pl
            · have dz : decide (z < pl) = true := decide_eq_true hlz
              have HN3 : Hid (bst ts tx.length (k + 1) = (k, z)) := Lib.hid (by rw [HN2.out, if_pos hlz])
              clear HN2 hlz
              go_wp2
              go_roundw
              case rel => exact ⟨k + 1, by omega, by go_num, by rw [HN3.out], by rw [HN3.out], HB5⟩
              case measure => simp [intOf]; omega
            · have dz : decide (z < pl) = false := decide_eq_false hlz
              have HN3 : Hid (bst ts tx.length (k + 1) = (pb, pl)) := Lib.hid (by rw [HN2.out, if_neg hlz])
              clear HN2 hlz
              go_wp2
              go_roundw
              case rel => exact ⟨k + 1, by omega, by go_num, by rw [HN3.out], by rw [HN3.out], HB5⟩
              case measure => simp [intOf]; omega
          · have dk0 : ((k : Int) == 0) = false := by simp; omega
            clear hskip hk0
            go_wp2_with fail
            refine HS.out.mono ?_
            rintro e w5 ⟨rfl, hb5⟩
            have HB5 := Lib.hid (below_then HB.out hb5)
            clear hb5 HS HB
            generalize hpe : bst ts tx.length k = p at *
            have HPE := Lib.hid hpe
            clear hpe
            obtain ⟨pb, pl⟩ := p
            simp only at hbb HN2
            generalize szB k ts tx.length = z at *
            by_cases hlz : z < pl
            · have dz : decide (z < pl) = true := decide_eq_true hlz
              have HN3 : Hid (bst ts tx.length (k + 1) = (k, z)) := Lib.hid (by rw [HN2.out, if_pos hlz])
              clear HN2 hlz
              go_wp2
              go_roundw
              case rel => exact ⟨k + 1, by omega, by go_num, by rw [HN3.out], by rw [HN3.out], HB5⟩
              case measure => simp [intOf]; omega
            · have dz : decide (z < pl) = false := decide_eq_false hlz
              have HN3 : Hid (bst ts tx.length (k + 1) = (pb, pl)) := Lib.hid (by rw [HN2.out, if_neg hlz])
              clear HN2 hlz
              go_wp2
              go_roundw
              case rel => exact ⟨k + 1, by omega, by go_num, by rw [HN3.out], by rw [HN3.out], HB5⟩
              case measure => simp [intOf]; omega
      · obtain ⟨k3, hk3⟩ : ∃ k3 : Nat, k = k3 ∧ k3 = 3 := ⟨k, rfl, by omega⟩
        obtain ⟨rfl, hk3⟩ := hk3
        have HK3 := Lib.hid hk3
        have dk : decide ((k : Int) < 3) = false := decide_eq_false (by omega)
        have HBW := Lib.hid (below_then HB1.out HB.out)
        have HRW2 := Lib.hid ((HB.out.block w.heap.size HQ.out).trans HR1.out)
        have HT := Lib.hid (HCT.out wr HBW.out)
        have HQW : Hid (w.heap.size < wr.heap.size) := Lib.hid (Nat.lt_of_lt_of_le HQ.out HB.out.size)
        clear hk3 HCT HSZ HB HR1 HB1
        go_wp2_with fail
        refine HT.out.mono ?_
        rintro e w6 ⟨v6, rfl, own6, hb6⟩
        obtain ⟨ta, tc, rfl, hts⟩ := own_ts2 own6 HTW.out
        have HX := Lib.hid (HCX.out w6 (below_then HBW.out hb6))
        have HT6 := Lib.hid hts
        have HR6 := Lib.hid ((hb6.block w.heap.size HQW.out).trans HRW2.out)
        have HB6 := Lib.hid (below_then HBW.out hb6)
        have HZ6 : Hid (wr.heap.size ≤ w6.heap.size) := Lib.hid hb6.size
        have HNT : Hid (∀ ad, ta = some ad → ¬ ad.block = w.heap.size) := Lib.hid (fun ad e he => by
          subst e
          have := (own6.lt ad.block rfl).1
          have := HQW.out
          omega)
        clear own6 hts hb6 HCX HT HRW2
        go_wp2_with fail
        refine HX.out.mono ?_
        rintro e w7 ⟨v7, rfl, own7, hb7⟩
        obtain ⟨ya, yc, rfl, hbs⟩ := own_bs own7 (by omega)
        have hr7 := (hb7.block w.heap.size (Nat.lt_of_lt_of_le HQW.out (by have := HZ6.out; exact this))).trans HR6.out
        have hne6 : ∀ ad, ta = some ad → ¬ ad.block = w.heap.size := HNT.out
        have hne7 : ∀ ad, ya = some ad → ¬ ad.block = w.heap.size := fun ad e he => by
          subst e
          have := (own7.lt ad.block rfl).1
          have := HZ6.out
          have := HQW.out
          omega
        have c0 := cell_of_row _ _ 0 _ _ (0, 0) hr7
        have c1 := cell_of_row _ _ 1 _ _ (0, 0) hr7
        have c2 := cell_of_row _ _ 2 _ _ (0, 0) hr7
        have f0 := frozen_of_row _ _ 0 _ _ hr7
        have f1 := frozen_of_row _ _ 1 _ _ hr7
        have f2 := frozen_of_row _ _ 2 _ _ hr7
        simp only [List.getElem?_toArray, List.getElem?_cons_zero, List.getElem?_cons_succ] at c0 c1 c2
        have ch := set3_ch w7 w.heap.size (.int .i64 ((bst ts tx.length k).1 : Nat)) (.slice ta ts.length tc) (.slice ya tx.length yc)
        have HRF := Lib.hid (set3_row hr7 (.int .i64 ((bst ts tx.length k).1 : Nat)) (.slice ta ts.length tc) (.slice ya tx.length yc))
        have hB7 := below_then HB6.out hb7
        have HP : Hid (BestPost w ts tx (.returned (.tuple #[.agg #[.int .i64 ((bst ts tx.length k).1 : Nat), .slice ta ts.length tc, .slice ya tx.length yc], .nilIface])) (((w7.setCell ⟨w.heap.size, 0, none⟩ (.int .i64 ((bst ts tx.length k).1 : Nat))).setCell ⟨w.heap.size, 1, none⟩ (.slice ta ts.length tc)).setCell ⟨w.heap.size, 2, none⟩ (.slice ya tx.length yc))) := Lib.hid ⟨hB7.trans (ch.below hB7.size (fun j e => by omega)), .inr ⟨HF.out, ta, tc, ya, yc, by rw [HK3.out], (HT6.out.mono hb7).kept ch hne6, hbs.keptB ch hne7⟩⟩
        clear own7 hb7 hbs hr7 hne6 hne7 ch hB7 HX HT6 HR6 HB6 HNT HZ6 HBD HLE
        generalize (bst ts tx.length k).1 = kb at *
        go_wp2
        exact bodyPost_ret (best_results _ _ _ _ _ rfl rfl HRF.out rfl) rfl HP.out
end Bc
end Go.Proofs.YtpoilaappcjbeaaGreatDoor
end

section
namespace Go.Proofs.YtpoilaappcjbeaaGreatDoor
open Go.RowKit

namespace Bc
theorem bst_min (ts : List Tok) (n : Nat) (h : ts.length ≤ 1000000) (hn : n ≤ 65535) : ∀ K, 1 ≤ K → (bst ts n K).2 = szB (bst ts n K).1 ts n ∧ (bst ts n K).1 < K ∧ ∀ j, j < K → (bst ts n K).2 ≤ szB j ts n ∧ (szB j ts n = (bst ts n K).2 → (bst ts n K).1 ≤ j)
  | 0, h1 => absurd h1 (by omega)
  | 1, _ => by
    have hb := szB_bd 0 ts n h (by omega)
    have e : bst ts n 1 = (0, szB 0 ts n) := by
      rw [bst_next, if_neg (by omega)]
      rw [if_pos (by show szB 0 ts n < 9223372036854775807; omega)]
    rw [e]
    refine ⟨rfl, by simp, fun j hj => ?_⟩
    obtain rfl : j = 0 := by omega
    exact ⟨Int.le_refl _, fun _ => Nat.le_refl _⟩
  | K + 2, _ => by
    obtain ⟨i1, i2, i3⟩ := bst_min ts n h hn (K + 1) (by omega)
    rw [bst_next, if_neg (by omega)]
    split
    · rename_i hlt
      refine ⟨rfl, by simp, fun j hj => ?_⟩
      by_cases e : j = K + 1
      · subst e; exact ⟨Int.le_refl _, fun _ => Nat.le_refl _⟩
      · have := (i3 j (by omega)).1
        simp only
        exact ⟨by omega, fun e2 => by omega⟩
    · rename_i hge
      refine ⟨i1, by omega, fun j hj => ?_⟩
      by_cases e : j = K + 1
      · subst e; exact ⟨by omega, fun _ => by omega⟩
      · exact i3 j (by omega)
end Bc
end Go.Proofs.YtpoilaappcjbeaaGreatDoor
end

section
namespace Go.Proofs.YtpoilaappcjbeaaGreatDoor
open Go.RowKit

namespace Bc
/-- A pen: its block, its writer. -/
structure Pn (w : World) (B gp g : Nat) (v : Value) (l : List Bool) : Prop where
  row : w.heap[gp]? = some (.cells #[.pointer (some ⟨g, 0, none⟩), .nilIface] 77 (0, 0))
  wr : Wr w B g false v l
  np : gp ≠ g
  nv : v.ownBlock ≠ some gp
/-- What a pen's call may change. -/
def Pt (gp g : Nat) (v : Value) (k : Nat) : Prop := k = gp ∨ Wt g v k
theorem Pn.lt {w : World} {B gp g : Nat} {v : Value} {l : List Bool} (h : Pn w B gp g v l) : gp < w.heap.size := (Array.getElem?_eq_some_iff.1 h.row).1
theorem Pn.mono {w w' : World} {B gp g : Nat} {v : Value} {l : List Bool} (h : Pn w B gp g v l) (hb : Below w.heap.size w w') : Pn w' B gp g v l :=
  ⟨(hb.block gp h.lt).trans h.row, h.wr.mono hb, h.np, h.nv⟩
theorem Pn.own_lt {w : World} {B gp g : Nat} {v : Value} {l : List Bool} (h : Pn w B gp g v l) {k : Nat} (hk : Pt gp g v k) : k < w.heap.size := by
  rcases hk with rfl | rfl | hk
  · exact h.lt
  · exact h.wr.lt
  · exact (h.wr.own.lt k hk).2
def PPost (w : World) (B gp g : Nat) (v : Value) (l : List Bool) (e : Ending) (w' : World) : Prop :=
  e = .returned (.tuple #[]) ∧ ∃ v', Pn w' B gp g v' l ∧ Ch w w' (Pt gp g v) ∧ ∀ k, v'.ownBlock = some k → v.ownBlock = some k ∨ w.heap.size ≤ k
/-- What was written, and the mark laid behind it. -/
theorem put_pen {w w1 : World} {B gp g : Nat} {v v' : Value} {l l' : List Bool} (h : Pn w B gp g v l) (hw : Wr w1 B g false v' l') (hc : Ch w w1 (Wt g v)) (hf : ∀ k, v'.ownBlock = some k → v.ownBlock = some k ∨ w.heap.size ≤ k) :
    w1.heap[gp]? = some (.cells #[.pointer (some ⟨g, 0, none⟩), .nilIface] 77 (0, 0)) ∧ PPost w B gp g v l' (.returned (.tuple #[])) (w1.setCell ⟨gp, 1, none⟩ .nilIface) := by
  have hr : w1.heap[gp]? = some (.cells #[.pointer (some ⟨g, 0, none⟩), .nilIface] 77 (0, 0)) := (hc.block gp h.lt (fun e => e.elim h.np h.nv)).trans h.row
  have hv : v'.ownBlock ≠ some gp := fun e => (hf gp e).elim h.nv (fun h1 => by have := h.lt; omega)
  have c2 : Ch w1 (w1.setCell ⟨gp, 1, none⟩ .nilIface) (fun k => k = gp) := Bk.ch_set w1 gp 1 _
  refine ⟨hr, rfl, v', ⟨?_, hw.kept c2 (fun e => h.np e.symm) (fun k hk e => hv (e ▸ hk)), h.np, hv⟩, ?_, hf⟩
  · rw [heap_setCell_same w1 gp 1 _ _ _ hr]; rfl
  · exact (hc.wide (U := Pt gp g v) (fun k hk => .inl (.inr hk))).trans c2 (fun k hk => .inl (.inl hk))
set_option maxHeartbeats 1000000 in
theorem number_any (w : World) (B gp g : Nat) (v : Value) (l : List Bool) (n c : Nat) (h : Pn w B gp g v l) (hB : B ≤ w.heap.size) (hc : c ≤ 32) (hn : n < 2 ^ c) (hl : l.length ≤ 1000000000000) :
    Calls Tryz.prog 57 #[.pointer (some ⟨gp, 0, none⟩), .int .i64 (n : Nat), .int .i64 (c : Nat)] w (PPost w B gp g v (l ++ Bt.dg false n c)) := by
  have HPW := Lib.hid (putw_ok w B g false v l n c h.wr hB hc hn hl)
  have c0 := cell_of_row _ _ 0 _ _ (0, 0) h.row
  have c1 := cell_of_row _ _ 1 _ _ (0, 0) h.row
  simp only [List.getElem?_toArray, List.getElem?_cons_zero, List.getElem?_cons_succ] at c0 c1
  have H := Lib.hid h
  clear h hl hn hc
  go_enter Tryz.func57, Tryz.ntmps57
  go_wp2_with fail
  refine HPW.out.mono ?_
  rintro e w1 ⟨rfl, v', hw, hc, hf⟩
  obtain ⟨hr, hp⟩ := put_pen H.out hw hc hf
  have HP := Lib.hid hp
  have k1 := cell_of_row _ _ 1 _ _ (0, 0) hr
  have f1 := frozen_of_row _ _ 1 _ _ hr
  simp only [List.getElem?_toArray, List.getElem?_cons_zero, List.getElem?_cons_succ] at k1
  clear hw hc hf hr hp c0 c1 HPW
  go_wp2
  go_end0
  exact HP.out
theorem PPost.trans {w w1 w2 : World} {B gp g : Nat} {v v1 : Value} {l1 l2 : List Bool} (h1 : Pn w1 B gp g v1 l1) (c1 : Ch w w1 (Pt gp g v)) (f1 : ∀ k, v1.ownBlock = some k → v.ownBlock = some k ∨ w.heap.size ≤ k) {e : Ending} (h : PPost w1 B gp g v1 l2 e w2) : PPost w B gp g v l2 e w2 := by
  obtain ⟨he, v2, h2, c2, f2⟩ := h
  refine ⟨he, v2, h2, c1.trans c2 (fun k hk => ?_), fun k hk => ?_⟩
  · rcases hk with h | h | h
    · exact .inl (.inl h)
    · exact .inl (.inr (.inl h))
    · exact (f1 k h).elim (fun h => .inl (.inr (.inr h))) .inr
  · rcases f2 k hk with h | h
    · exact f1 k h
    · exact .inr (Nat.le_trans c1.size h)
/-- Behind whatever lies below. -/
theorem PPost.below {w w1 : World} {B gp g : Nat} {v : Value} {l2 : List Bool} (hb : Below w.heap.size w w1) {e : Ending} {w2 : World} (h : PPost w1 B gp g v l2 e w2) : PPost w B gp g v l2 e w2 := by
  obtain ⟨he, v2, h2, c2, f2⟩ := h
  exact ⟨he, v2, h2, (Ch.of_below (T := Pt gp g v) hb).trans c2 (fun k hk => .inl hk), fun k hk => (f2 k hk).imp id (fun h => Nat.le_trans hb.size h)⟩
/-- A symbol that has a code. -/
def Sd (L : List Int) (s : Int) : Prop := 0 < (Bk.wAt (wsL L) s).2 ∧ (Bk.wAt (wsL L) s).2 ≤ 16 ∧ (Bk.wAt (wsL L) s).1 < 2 ^ (Bk.wAt (wsL L) s).2
theorem sd_of {L : List Int} (h : Cn.freeB L = true) (s : Nat) (hs : s < L.length) (hp : 0 < L.getD s 0) : Sd L (s : Int) := by
  obtain ⟨m, i, hm, _, _, _, h0, e, hc⟩ := w_good L h s hs hp
  unfold Sd
  rw [e]
  exact ⟨h0, by simp only; omega, hc⟩
set_option maxRecDepth 100000 in
set_option maxHeartbeats 2000000 in
theorem symbol_any (k : Kd) (w : World) (B gp g : Nat) (v : Value) (l : List Bool) (a : Option Addr) (n c : Nat) (b : Option Addr) (m d gb : Nat) (L : List Int) (D : Nat → Prop) (s : Int) (z : Nat) (h : Pn w B gp g v l) (hB : B ≤ w.heap.size) (hbw : Bw w D gb L) (hL : L.length ≤ 600)
    (hsd : Sd L s) (hz : z < 2 ^ xt k s) (hws : (Lit.int .i64 s).wf = true) (hl : l.length ≤ 900000000000) :
    Calls Tryz.prog 61 #[.pointer (some ⟨gp, 0, none⟩), tbV a n c b m d gb k, .int .i64 s, .int .i64 (z : Nat)] w (PPost w B gp g v (l ++ syB k L s z)) := by
  unfold tbV
  have HEX : Hid (∀ (w : World), Calls Tryz.prog 79 #[.agg #[.slice a n c, .slice b m d, .pointer (some ⟨gb, 0, none⟩), fvK k], .int .i64 s] w fun e w' => e = .returned (.int .i64 (xt k s : Nat)) ∧ Below w.heap.size w w') := Lib.hid (fun w => extra_any k a n c b m d gb s w hws)
  have hone : (fvK k).oneCell' = true := by cases k <;> rfl
  have HXL := Lib.hid (xt_le k s)
  have HSY : Hid (syB k L s z = Bt.dg true (Bk.wAt (wsL L) s).1 (Bk.wAt (wsL L) s).2 ++ Bt.dg false z (xt k s)) := Lib.hid rfl
  generalize fvK k = fv at *
  have hal := below_alloc w (.cells #[.slice a n c, .slice b m d, .pointer (some ⟨gb, 0, none⟩), fv] 84)
  have hrow := heap_alloc_last w (.cells #[.slice a n c, .slice b m d, .pointer (some ⟨gb, 0, none⟩), fv] 84)
  have hP1 := h.mono hal
  have HWR := Lib.hid (fun w' (hb : Below (w.alloc (.cells #[.slice a n c, .slice b m d, .pointer (some ⟨gb, 0, none⟩), fv] 84)).heap.size (w.alloc (.cells #[.slice a n c, .slice b m d, .pointer (some ⟨gb, 0, none⟩), fv] 84)) w') =>
    Bk.write_ok w' w'.heap.size gb _ _ ((hbw.mono hal).mono hb).book (by rw [wsL_length]; omega) s (Bk.wAt (wsL L) s).1 (Bk.wAt (wsL L) s).2 rfl hsd.1 hsd.2.1 hsd.2.2 B g false v l (hP1.mono hb).wr (by have := hal.size; have := hb.size; omega) (by omega))
  have HNW : Hid (¬ Wt g v w.heap.size) := Lib.hid (fun e => by have := h.own_lt (.inr e); omega)
  have HW16 := Lib.hid hsd.2.1
  have HH := Lib.hid hP1
  have HAL := Lib.hid hal
  have HRW := Lib.hid hrow
  have HQ : Hid (w.heap.size < (w.alloc (.cells #[.slice a n c, .slice b m d, .pointer (some ⟨gb, 0, none⟩), fv] 84)).heap.size) := Lib.hid (by simp)
  have HGQ : Hid (gp ≠ w.heap.size) := Lib.hid (by have := h.lt; omega)
  have HZ := Lib.hid hz
  clear h hbw hsd hal hrow hP1 hz
  go_enter Tryz.func61, Tryz.ntmps61
  have c1 := cell_of_row _ _ 1 _ _ (0, 0) HH.out.row
  simp only [List.getElem?_toArray, List.getElem?_cons_zero, List.getElem?_cons_succ] at c1
  go_wp2_with fail
  clear c1
  revert HWR HH HAL HRW HQ
  generalize (w.alloc (.cells #[.slice a n c, .slice b m d, .pointer (some ⟨gb, 0, none⟩), fv] 84)) = w1
  intro HWR HH HAL HRW HQ
  have c0 := cell_of_row _ _ 0 _ _ (0, 0) HH.out.row
  have t2 := cell_of_row _ _ 2 _ _ (0, 0) HRW.out
  simp only [List.getElem?_toArray, List.getElem?_cons_zero, List.getElem?_cons_succ] at c0 t2
  have HDR : Hid (Below w1.heap.size w1 w1.drew) := Lib.hid (Below.drew (Below.refl _ _))
  have HPD := Lib.hid (HH.out.mono HDR.out)
  have HWD := Lib.hid (HWR.out _ HDR.out)
  have HQD : Hid (w.heap.size < w1.drew.heap.size) := Lib.hid HQ.out
  go_region_held3 (fun w' => w'.cell? ⟨gp, 0, none⟩ = some (.pointer (some ⟨g, 0, none⟩)) ∧ w'.cell? ⟨w.heap.size, 2, none⟩ = some (.pointer (some ⟨gb, 0, none⟩))) (first | (with_reducible exact ⟨y0', y2'⟩) | go_keep)
    (first | (go_at_call 89; (with_reducible refine HWD.out.mono ?_); rintro e w2 ⟨rfl, v', hw, hc, hf⟩; have hpp := put_pen HPD.out hw hc hf; have s0 := (cell_of_row _ _ 0 _ _ (0, 0) hpp.1); have k1 := (cell_of_row _ _ 1 _ _ (0, 0) hpp.1); have f1 := (frozen_of_row _ _ 1 _ _ hpp.1); have hq2 := (hc.block w.heap.size HQD.out HNW.out).trans HRW.out; have s2 := (cell_of_row _ _ 2 _ _ (0, 0) hq2); have HPP := Lib.hid hpp.2; have HQ2 := Lib.hid hq2; have y0 := (cell_of_row _ _ 0 _ _ (0, 0) (heap_setCell_same w2 gp 1 _ _ .nilIface hpp.1)); have hq3 := ((Bk.ch_set w2 gp 1 .nilIface).block w.heap.size (Array.getElem?_eq_some_iff.1 hq2).1 (fun e => HGQ.out e.symm)).trans hq2; have HQ3 := Lib.hid hq3; have y2 := (cell_of_row _ _ 2 _ _ (0, 0) hq3); have y0' : (w2.setCell ⟨gp, 1, none⟩ .nilIface).cell? ⟨gp, 0, none⟩ = some (.pointer (some ⟨g, 0, none⟩)) := y0; have y2' : (w2.setCell ⟨gp, 1, none⟩ .nilIface).cell? ⟨w.heap.size, 2, none⟩ = some (.pointer (some ⟨gb, 0, none⟩)) := y2; simp only [List.getElem?_toArray, List.getElem?_cons_zero, List.getElem?_cons_succ] at s0 k1 s2; clear hpp hw hc hf hq2 hq3 y0 y2))
  clear y0' y2' s0 s2 k1 f1 HQ2 c0 t2
  rename_i hheld
  clear hheld
  revert HPP HQ3
  generalize w2.setCell ⟨gp, 1, none⟩ .nilIface = w3
  intro HPP HQ3
  have z0 := cell_of_row _ _ 0 _ _ (0, 0) HQ3.out
  have z1 := cell_of_row _ _ 1 _ _ (0, 0) HQ3.out
  have z2 := cell_of_row _ _ 2 _ _ (0, 0) HQ3.out
  have z3 := cell_of_row _ _ 3 _ _ (0, 0) HQ3.out
  simp only [List.getElem?_toArray, List.getElem?_cons_zero, List.getElem?_cons_succ] at z0 z1 z2 z3
  obtain ⟨_, v3, hp3, hc3, hf3⟩ := HPP.out
  have HP3 := Lib.hid (And.intro hp3 (And.intro hc3 hf3))
  clear hp3 hc3 hf3 HPP HQ3 HWD HWR HPD
  go_wp2_with fail
  refine (HEX.out w3).mono ?_
  rintro e w4 ⟨rfl, hb4⟩
  have HNU := Lib.hid (number_any w4 B gp g v3 _ z (xt k s) (HP3.out.1.mono hb4) (by have := HAL.out.size; have := HP3.out.2.1.size; have h2 : w1.drew.heap.size = w1.heap.size := rfl; have := hb4.size; omega) (by have := HXL.out; omega) HZ.out (by rw [List.length_append, Bt.dg_length]; have := HW16.out; omega))
  have HB4 := Lib.hid hb4
  clear hb4 z0 z1 z2 z3
  go_wp2_with fail
  refine HNU.out.mono ?_
  rintro e w5 hpp
  have HF : Hid (PPost w B gp g v (l ++ syB k L s z) e w5) := Lib.hid (by
    rw [HSY.out, ← List.append_assoc]
    exact (PPost.trans HP3.out.1 HP3.out.2.1 HP3.out.2.2 (PPost.below HB4.out hpp)).below (below_then HAL.out HDR.out))
  obtain ⟨he, _⟩ := hpp
  subst he
  clear HNU HB4 HP3
  go_wp2
  go_end0
  exact HF.out
end Bc
end Go.Proofs.YtpoilaappcjbeaaGreatDoor
end

section
namespace Go.Proofs.YtpoilaappcjbeaaGreatDoor
open Go.RowKit

namespace Bc
/-- A call on a pen whose post is known, behind another one. -/
theorem PPost.then {w w1 : World} {B gp g : Nat} {v : Value} {l l1 l2 : List Bool} {e e' : Ending} {w2 : World} (h : PPost w B gp g v l1 e w1) (h2 : ∀ v', Pn w1 B gp g v' l1 → PPost w1 B gp g v' l2 e' w2) : PPost w B gp g v l2 e' w2 := by
  obtain ⟨_, v1, p1, c1, f1⟩ := h
  exact PPost.trans p1 c1 f1 (h2 v1 p1)
def headB (kind : Nat) (last : Bool) : List Bool := Bt.dg false (if last then 1 else 0) 1 ++ Bt.dg false kind 2
set_option maxHeartbeats 1000000 in
theorem head_any (w : World) (B gp g : Nat) (v : Value) (l : List Bool) (kind : Nat) (last : Bool) (h : Pn w B gp g v l) (hB : B ≤ w.heap.size) (hk : kind ≤ 2) (hl : l.length ≤ 900000000000) :
    Calls Tryz.prog 34 #[.pointer (some ⟨gp, 0, none⟩), .int .i64 (kind : Nat), .bool last] w (PPost w B gp g v (l ++ headB kind last)) := by
  cases last
  · have HN := Lib.hid (number_any w B gp g v l 0 1 h hB (by omega) (by omega) (by omega))
    have HBB := Lib.hid hB
    clear h
    go_enter Tryz.func34, Tryz.ntmps34
    go_wp2_with fail
    refine HN.out.mono ?_
    rintro e w1 ⟨rfl, v1, p1, c1, f1⟩
    have HN2 := Lib.hid (number_any w1 B gp g v1 _ kind 2 p1 (Nat.le_trans hB c1.size) (by omega) (by have : (2 : Nat) ^ 2 = 4 := rfl; omega) (by rw [List.length_append, Bt.dg_length]; omega))
    have HP1 := Lib.hid (And.intro p1 (And.intro c1 f1))
    clear p1 c1 f1 HN
    go_wp2_with fail
    refine HN2.out.mono ?_
    rintro e w2 hpp
    have HF : Hid (PPost w B gp g v (l ++ headB kind false) e w2) := Lib.hid (by
      have e1 : l ++ headB kind false = l ++ Bt.dg false 0 1 ++ Bt.dg false kind 2 := by unfold headB; rw [← List.append_assoc]; rfl
      rw [e1]
      exact PPost.trans HP1.out.1 HP1.out.2.1 HP1.out.2.2 hpp)
    obtain ⟨he, _⟩ := hpp
    subst he
    clear HN2 HP1
    go_wp2
    go_end0
    exact HF.out
  · have HN := Lib.hid (number_any w B gp g v l 1 1 h hB (by omega) (by omega) (by omega))
    have HBB := Lib.hid hB
    clear h
    go_enter Tryz.func34, Tryz.ntmps34
    go_wp2_with fail
    refine HN.out.mono ?_
    rintro e w1 ⟨rfl, v1, p1, c1, f1⟩
    have HN2 := Lib.hid (number_any w1 B gp g v1 _ kind 2 p1 (Nat.le_trans hB c1.size) (by omega) (by have : (2 : Nat) ^ 2 = 4 := rfl; omega) (by rw [List.length_append, Bt.dg_length]; omega))
    have HP1 := Lib.hid (And.intro p1 (And.intro c1 f1))
    clear p1 c1 f1 HN
    go_wp2_with fail
    refine HN2.out.mono ?_
    rintro e w2 hpp
    have HF : Hid (PPost w B gp g v (l ++ headB kind true) e w2) := Lib.hid (by
      have e1 : l ++ headB kind true = l ++ Bt.dg false 1 1 ++ Bt.dg false kind 2 := by unfold headB; rw [← List.append_assoc]; rfl
      rw [e1]
      exact PPost.trans HP1.out.1 HP1.out.2.1 HP1.out.2.2 hpp)
    obtain ⟨he, _⟩ := hpp
    subst he
    clear HN2 HP1
    go_wp2
    go_end0
    exact HF.out
set_option maxRecDepth 100000 in
set_option maxHeartbeats 2000000 in
theorem match_any (k : Kd) (w : World) (B gp g : Nat) (v : Value) (l : List Bool) (a : Option Addr) (n c : Nat) (b : Option Addr) (m d gb : Nat) (L : List Int) (D : Nat → Prop) (s : Int) (z : Nat) (h : Pn w B gp g v l) (hB : B ≤ w.heap.size) (hbw : Bw w D gb L) (hL : L.length ≤ 600)
    (hsd : Sd L s) (hz1 : (bse k s).1 ≤ z) (hz : z - (bse k s).1 < 2 ^ xt k s) (hz3 : z ≤ 1000000) (hws : (Lit.int .i64 s).wf = true) (hl : l.length ≤ 900000000000) :
    Calls Tryz.prog 62 #[.pointer (some ⟨gp, 0, none⟩), tbV a n c b m d gb k, .int .i64 s, .int .i64 (z : Nat)] w (PPost w B gp g v (l ++ mtB k L s z)) := by
  have HBS := Lib.hid (And.intro (rfl : (bse k s).1 = (bse k s).1) hz1)
  have HX : Hid (mtB k L s z = syB k L s (z - (bse k s).1)) := Lib.hid rfl
  have HBL := Lib.hid (bse_le k s).1
  have HW := Lib.hid hws
  cases k
  · have hal := below_alloc w (.cells #[.slice a n c, .slice b m d, .pointer (some ⟨gb, 0, none⟩), .func (.func 77) #[] #[]] 84)
    have HRW := Lib.hid (heap_alloc_last w (.cells #[.slice a n c, .slice b m d, .pointer (some ⟨gb, 0, none⟩), .func (.func 77) #[] #[]] 84))
    have HSY := symbol_any .lit (w.alloc (.cells #[.slice a n c, .slice b m d, .pointer (some ⟨gb, 0, none⟩), .func (.func 77) #[] #[]] 84)) B gp g v l a n c b m d gb L D s (z - (bse .lit s).1) (h.mono hal) (Nat.le_trans hB hal.size) (hbw.mono hal) hL hsd hz hws hl
    unfold tbV fvK at HSY
    have HS := Lib.hid HSY
    have HAL := Lib.hid hal
    unfold tbV fvK
    clear h hbw hsd hz hal HSY hz1
    have c3 := cell_of_row _ _ 3 _ _ (0, 0) HRW.out
    have c0 := cell_of_row _ _ 0 _ _ (0, 0) HRW.out
    have c1 := cell_of_row _ _ 1 _ _ (0, 0) HRW.out
    have c2 := cell_of_row _ _ 2 _ _ (0, 0) HRW.out
    simp only [List.getElem?_toArray, List.getElem?_cons_zero, List.getElem?_cons_succ] at c0 c1 c2 c3
    go_enter Tryz.func62, Tryz.ntmps62
    go_wp2_with fail
    refine (lbase_any s _ HW.out).mono ?_
    rintro e w1 ⟨rfl, rfl⟩
    unfold bval
    have hle := HBS.out.2
    have hb2 := HBL.out
    clear HBS HBL
    generalize (bse .lit s).1 = bs at *
    have hfold : (z : Int) - (bs : Int) = ((z - bs : Nat) : Int) := by omega
    go_wp2_with fail
    refine HS.out.mono ?_
    rintro e w2 hpp
    have HF : Hid (PPost w B gp g v (l ++ mtB .lit L s z) e w2) := Lib.hid (by rw [HX.out]; exact hpp.below HAL.out)
    obtain ⟨he, _⟩ := hpp
    subst he
    clear HS
    go_wp2
    go_end0
    exact HF.out
  · have hal := below_alloc w (.cells #[.slice a n c, .slice b m d, .pointer (some ⟨gb, 0, none⟩), .func (.func 78) #[] #[]] 84)
    have HRW := Lib.hid (heap_alloc_last w (.cells #[.slice a n c, .slice b m d, .pointer (some ⟨gb, 0, none⟩), .func (.func 78) #[] #[]] 84))
    have HSY := symbol_any .dst (w.alloc (.cells #[.slice a n c, .slice b m d, .pointer (some ⟨gb, 0, none⟩), .func (.func 78) #[] #[]] 84)) B gp g v l a n c b m d gb L D s (z - (bse .dst s).1) (h.mono hal) (Nat.le_trans hB hal.size) (hbw.mono hal) hL hsd hz hws hl
    unfold tbV fvK at HSY
    have HS := Lib.hid HSY
    have HAL := Lib.hid hal
    unfold tbV fvK
    clear h hbw hsd hz hal HSY hz1
    have c3 := cell_of_row _ _ 3 _ _ (0, 0) HRW.out
    have c0 := cell_of_row _ _ 0 _ _ (0, 0) HRW.out
    have c1 := cell_of_row _ _ 1 _ _ (0, 0) HRW.out
    have c2 := cell_of_row _ _ 2 _ _ (0, 0) HRW.out
    simp only [List.getElem?_toArray, List.getElem?_cons_zero, List.getElem?_cons_succ] at c0 c1 c2 c3
    go_enter Tryz.func62, Tryz.ntmps62
    go_wp2_with fail
    refine (dbase_any s _ HW.out).mono ?_
    rintro e w1 ⟨rfl, rfl⟩
    unfold bval
    have hle := HBS.out.2
    have hb2 := HBL.out
    clear HBS HBL
    generalize (bse .dst s).1 = bs at *
    have hfold : (z : Int) - (bs : Int) = ((z - bs : Nat) : Int) := by omega
    go_wp2_with fail
    refine HS.out.mono ?_
    rintro e w2 hpp
    have HF : Hid (PPost w B gp g v (l ++ mtB .dst L s z) e w2) := Lib.hid (by rw [HX.out]; exact hpp.below HAL.out)
    obtain ⟨he, _⟩ := hpp
    subst he
    clear HS
    go_wp2
    go_end0
    exact HF.out
  · have hal := below_alloc w (.cells #[.slice a n c, .slice b m d, .pointer (some ⟨gb, 0, none⟩), .func (.func 88) #[] #[]] 84)
    have HRW := Lib.hid (heap_alloc_last w (.cells #[.slice a n c, .slice b m d, .pointer (some ⟨gb, 0, none⟩), .func (.func 88) #[] #[]] 84))
    have HSY := symbol_any .run (w.alloc (.cells #[.slice a n c, .slice b m d, .pointer (some ⟨gb, 0, none⟩), .func (.func 88) #[] #[]] 84)) B gp g v l a n c b m d gb L D s (z - (bse .run s).1) (h.mono hal) (Nat.le_trans hB hal.size) (hbw.mono hal) hL hsd hz hws hl
    unfold tbV fvK at HSY
    have HS := Lib.hid HSY
    have HAL := Lib.hid hal
    unfold tbV fvK
    clear h hbw hsd hz hal HSY hz1
    have c3 := cell_of_row _ _ 3 _ _ (0, 0) HRW.out
    have c0 := cell_of_row _ _ 0 _ _ (0, 0) HRW.out
    have c1 := cell_of_row _ _ 1 _ _ (0, 0) HRW.out
    have c2 := cell_of_row _ _ 2 _ _ (0, 0) HRW.out
    simp only [List.getElem?_toArray, List.getElem?_cons_zero, List.getElem?_cons_succ] at c0 c1 c2 c3
    go_enter Tryz.func62, Tryz.ntmps62
    go_wp2_with fail
    refine (rbase_any s _).mono ?_
    rintro e w1 ⟨rfl, rfl⟩
    unfold bval
    have hle := HBS.out.2
    have hb2 := HBL.out
    clear HBS HBL
    generalize (bse .run s).1 = bs at *
    have hfold : (z : Int) - (bs : Int) = ((z - bs : Nat) : Int) := by omega
    go_wp2_with fail
    refine HS.out.mono ?_
    rintro e w2 hpp
    have HF : Hid (PPost w B gp g v (l ++ mtB .run L s z) e w2) := Lib.hid (by rw [HX.out]; exact hpp.below HAL.out)
    obtain ⟨he, _⟩ := hpp
    subst he
    clear HS
    go_wp2
    go_end0
    exact HF.out
end Bc
end Go.Proofs.YtpoilaappcjbeaaGreatDoor
end
