/- block's tables: bits, price: their contracts. block.table's price: its contract. block.Prices, given what tables answers: its contract. -/
import Derived.Test.YtjjbgdmalefdlaaGreatDoorZ12
import Derived.Test.YtjjbgdmalefdlaaGreatDoorZ15
import Derived.Test.YtjjbgdmalefdlaaGreatDoorZ36
import Derived.Deep.RegionHeld3
import Derived.Deep.QuietTactic
import Derived.BigQuiet
import Derived.Laws.ResultCell
import Derived.Deep.DeepCutAuto
set_option linter.unusedSimpArgs false
set_option linter.unusedVariables false
section
namespace Go.Proofs.YtjjbgdmalefdlaaGreatDoor
open Go.RowKit

namespace Bc
theorem tot_le (k : Kd) {C L : List Int} (hC : ∀ i, 0 ≤ C.getD i 0 ∧ C.getD i 0 ≤ 1000000000) (hL : ∀ i, 0 ≤ L.getD i 0 ∧ L.getD i 0 ≤ 16) : ∀ n, 0 ≤ tot k C L n ∧ tot k C L n ≤ (n : Int) * 30000000000
  | 0 => ⟨by simp [tot], by simp [tot]⟩
  | n + 1 => by
    have ih := tot_le k hC hL n
    have h1 := hC n
    have h2 := hL n
    have h3 := xt_le k (n : Int)
    have h4 : 0 ≤ C.getD n 0 * (L.getD n 0 + (xt k (n : Int) : Nat)) := Int.mul_nonneg h1.1 (by omega)
    have h5 : C.getD n 0 * (L.getD n 0 + (xt k (n : Int) : Nat)) ≤ 1000000000 * 30 := Int.mul_le_mul h1.2 (by omega) (by omega) (by omega)
    rw [tot]
    omega
set_option maxRecDepth 100000 in
set_option maxHeartbeats 4000000 in
theorem bits_any (k : Kd) (a : Option Addr) (n c : Nat) (C : List Int) (b : Option Addr) (m d : Nat) (L : List Int) (g : Nat) (w : World) (hi : Is .i64 w a n c C) (hj : Is .i64 w b m d L) (hn : n ≤ m) (hn3 : n ≤ 300)
    (hC : ∀ i, 0 ≤ C.getD i 0 ∧ C.getD i 0 ≤ 1000000000) (hL : ∀ i, 0 ≤ L.getD i 0 ∧ L.getD i 0 ≤ 16) :
    Calls Tryz.prog 91 #[tbV a n c b m d g k] w fun e w' => e = .returned (.int .i64 (tot k C L n)) ∧ Below w.heap.size w w' := by
  unfold tbV
  have HEX : Hid (∀ (s : Int) (w : World), (Lit.int .i64 s).wf = true → Calls Tryz.prog 79 #[.agg #[.slice a n c, .slice b m d, .pointer (some ⟨g, 0, none⟩), fvK k], .int .i64 s] w fun e w' => e = .returned (.int .i64 (xt k s : Nat)) ∧ Below w.heap.size w w') := Lib.hid (fun s w hs => extra_any k a n c b m d g s w hs)
  have HTL := Lib.hid (tot_le k hC hL)
  have HXL := Lib.hid (xt_le k)
  have hone : (fvK k).oneCell' = true := by cases k <;> rfl
  generalize fvK k = fv at *
  have hb0 := below_alloc w (.cells #[.slice a n c, .slice b m d, .pointer (some ⟨g, 0, none⟩), fv] 84)
  have HB0 := Lib.hid hb0
  have HI := Lib.hid (hi.mono hb0)
  have HJ := Lib.hid (hj.mono hb0)
  have HR : Hid ((w.alloc (.cells #[.slice a n c, .slice b m d, .pointer (some ⟨g, 0, none⟩), fv] 84)).heap[w.heap.size]? = some (.cells #[.slice a n c, .slice b m d, .pointer (some ⟨g, 0, none⟩), fv] 84 (0, 0))) := Lib.hid (heap_alloc_last w _)
  have c0 := cell_of_row _ _ 0 _ _ (0, 0) HR.out
  simp only [List.getElem?_toArray, List.getElem?_cons_zero, List.getElem?_cons_succ] at c0
  have HCC := Lib.hid hC
  have HLL := Lib.hid hL
  clear hi hj hb0 hC hL
  go_enter Tryz.func91, Tryz.ntmps91
  go_wp2_with fail
  clear c0
  have HQ : Hid (w.heap.size < (w.alloc (.cells #[.slice a n c, .slice b m d, .pointer (some ⟨g, 0, none⟩), fv] 84)).heap.size) := Lib.hid (by simp)
  revert HB0 HI HJ HR HQ
  generalize w.alloc (.cells #[.slice a n c, .slice b m d, .pointer (some ⟨g, 0, none⟩), fv] 84) = w1
  intro HB0 HI HJ HR HQ
  generalize hqe : w.heap.size = q at *
  have HQE := Lib.hid hqe
  clear hqe
  go_loopw [3, 9] (fun sv iv wr => ∃ j : Nat, j ≤ n ∧ iv = .int .i64 j ∧ sv = .int .i64 (tot k C L j) ∧ Hid (Below w1.heap.size w1 wr)) (fun _ iv _ => n - (intOf iv).toNat)
  case atStart => exact ⟨0, by omega, rfl, rfl, Lib.hid (Below.refl _ _)⟩
  case round =>
    obtain ⟨j, hj, rfl, rfl, HB⟩ := hrel
    by_cases hlt : j < n
    · obtain ⟨b1, o1, rfl, _, t0⟩ := (HI.out.mono HB.out).at' j hlt
      obtain ⟨b2, o2, rfl, hbl, t1⟩ := (HJ.out.mono HB.out).at' j (by omega)
      have hrow := (HB.out.block q HQ.out).trans HR.out
      have c0 := cell_of_row _ _ 0 _ _ (0, 0) hrow
      have c1 := cell_of_row _ _ 1 _ _ (0, 0) hrow
      have c2 := cell_of_row _ _ 2 _ _ (0, 0) hrow
      have c3 := cell_of_row _ _ 3 _ _ (0, 0) hrow
      simp only [List.getElem?_toArray, List.getElem?_cons_zero, List.getElem?_cons_succ] at c0 c1 c2 c3
      have HN : Hid (tot k C L (j + 1) = tot k C L j + C.getD j 0 * (L.getD j 0 + (xt k (j : Int) : Nat))) := Lib.hid rfl
      have hz1 := HCC.out j
      have hz2 := HLL.out j
      have hx := HXL.out (j : Int)
      have htl := HTL.out j
      have HEJ := Lib.hid (fun w => HEX.out (j : Int) w (by go_wf))
      clear hrow
      generalize C.getD j 0 = z at *
      generalize L.getD j 0 = y at *
      generalize xt k (j : Int) = x at *
      generalize tot k C L j = S at *
      have hm1 : 0 ≤ z * (y + (x : Int)) := Int.mul_nonneg hz1.1 (by omega)
      have hm2 : z * (y + (x : Int)) ≤ 1000000000 * 30 := Int.mul_le_mul hz1.2 (by omega) (by omega) (by omega)
      have v1 : IntKind.i64.wrap (y + (x : Int)) = y + (x : Int) := IntWalk.i64_in _ ⟨by omega, by omega⟩
      have v2 : IntKind.i64.wrap (z * (y + (x : Int))) = z * (y + (x : Int)) := IntWalk.i64_in _ ⟨by omega, by omega⟩
      have v3 : IntKind.i64.wrap (S + z * (y + (x : Int))) = S + z * (y + (x : Int)) := IntWalk.i64_in _ ⟨by omega, by omega⟩
      have i0 : (0 : Int) ≤ (j : Int) := by omega
      have i1 : (j : Int) < (m : Int) := by omega
      have HQ2 : Hid (q < wr.heap.size ∧ b2 < wr.heap.size) := Lib.hid ⟨Nat.lt_of_lt_of_le HQ.out HB.out.size, hbl⟩
      clear hm1 hm2 hz1 hz2 hx htl hbl
      go_wp2_with fail
      go_region_held3 (fun w' => w'.cell? ⟨q, 0, none⟩ = some (.slice (some ⟨b1, o1, none⟩) n c) ∧ w'.cell? ⟨q, 1, none⟩ = some (.slice (some ⟨b2, o2, none⟩) m d) ∧ w'.cell? ⟨q, 2, none⟩ = some (.pointer (some ⟨g, 0, none⟩)) ∧ w'.cell? ⟨q, 3, none⟩ = some fv ∧ w'.cell? ⟨b2, o2 + j, none⟩ = some (.int .i64 y)) (go_keep)
        (first | (go_at_call 79; refine (HEJ.out _).mono ?_; rintro e w3 ⟨rfl, hb3⟩; have HB3 := Lib.hid hb3; have s0 := (hb3.cell (p := ⟨q, 0, none⟩) HQ2.out.1).trans c0; have s1 := (hb3.cell (p := ⟨q, 1, none⟩) HQ2.out.1).trans c1; have s2 := (hb3.cell (p := ⟨q, 2, none⟩) HQ2.out.1).trans c2; have s3 := (hb3.cell (p := ⟨q, 3, none⟩) HQ2.out.1).trans c3; have s4 := (hb3.cell (p := ⟨b2, o2 + j, none⟩) HQ2.out.2).trans t1; clear hb3))
      have HBE := Lib.hid (below_then HB.out (below_then (Below.drew (Below.refl wr.heap.size wr)) HB3.out))
      clear v1 v2 c0 c1 c2 c3 s0 s1 s2 s3 s4 HB3 HB
      go_wp2
      go_roundw
      case rel => exact ⟨j + 1, by omega, by go_num, by rw [HN.out], HBE⟩
      case measure => simp [intOf]; omega
    · obtain rfl : n = j := by omega
      have HP : Hid (Below w.heap.size w wr) := Lib.hid (by rw [HQE.out]; exact HB0.out.trans (HB.out.mono (Nat.le_of_lt HQ.out)))
      go_wp2
      go_ret
      exact ⟨rfl, HP.out⟩
end Bc
end Go.Proofs.YtjjbgdmalefdlaaGreatDoor
end

section
namespace Go.Proofs.YtjjbgdmalefdlaaGreatDoor
open Go.RowKit

namespace Bc
/-- What a symbol costs. -/
def prc (k : Kd) (C L : List Int) (s : Nat) : Int := 16 * ((if 0 < C.getD s 0 then L.getD s 0 else 15) + (xt k (s : Int) : Nat))
set_option maxHeartbeats 1000000 in
theorem price_any (k : Kd) (a : Option Addr) (n c : Nat) (C : List Int) (b : Option Addr) (m d : Nat) (L : List Int) (g s : Nat) (w : World) (hi : Is .i64 w a n c C) (hj : Is .i64 w b m d L) (hsn : s < n) (hsm : s < m) (hL : 0 ≤ L.getD s 0 ∧ L.getD s 0 ≤ 15) (hx : xt k (s : Int) ≤ 15) (hn : n ≤ 1000) (hm : m ≤ 1000) :
    Calls Tryz.prog 53 #[tbV a n c b m d g k, .int .i64 (s : Nat)] w fun e w' => e = .returned (.int .i64 (prc k C L s)) ∧ Below w.heap.size w w' := by
  have HEX := Lib.hid (fun w => extra_any k a n c b m d g (s : Int) w (by go_wf))
  unfold tbV at HEX ⊢
  have HP : Hid (prc k C L s = 16 * ((if 0 < C.getD s 0 then L.getD s 0 else 15) + (xt k (s : Int) : Nat))) := Lib.hid rfl
  have hal := below_alloc w (.cells #[.slice a n c, .slice b m d, .pointer (some ⟨g, 0, none⟩), fvK k] 84)
  have hrow := heap_alloc_last w (.cells #[.slice a n c, .slice b m d, .pointer (some ⟨g, 0, none⟩), fvK k] 84)
  obtain ⟨b1, o1, rfl, _, t0⟩ := (hi.mono hal).at' s hsn
  obtain ⟨b2, o2, rfl, _, t1⟩ := (hj.mono hal).at' s hsm
  have HB := Lib.hid hal
  generalize fvK k = fv at *
  have c0 : (w.alloc (.cells #[.slice (some ⟨b1, o1, none⟩) n c, .slice (some ⟨b2, o2, none⟩) m d, .pointer (some ⟨g, 0, none⟩), fv] 84)).cell? ⟨w.heap.size, 0, none⟩ = some (.slice (some ⟨b1, o1, none⟩) n c) := by rw [cell_of_row _ _ _ _ _ (0, 0) hrow]; rfl
  have c1 : (w.alloc (.cells #[.slice (some ⟨b1, o1, none⟩) n c, .slice (some ⟨b2, o2, none⟩) m d, .pointer (some ⟨g, 0, none⟩), fv] 84)).cell? ⟨w.heap.size, 1, none⟩ = some (.slice (some ⟨b2, o2, none⟩) m d) := by rw [cell_of_row _ _ _ _ _ (0, 0) hrow]; rfl
  have c2 : (w.alloc (.cells #[.slice (some ⟨b1, o1, none⟩) n c, .slice (some ⟨b2, o2, none⟩) m d, .pointer (some ⟨g, 0, none⟩), fv] 84)).cell? ⟨w.heap.size, 2, none⟩ = some (.pointer (some ⟨g, 0, none⟩)) := by rw [cell_of_row _ _ _ _ _ (0, 0) hrow]; rfl
  have c3 : (w.alloc (.cells #[.slice (some ⟨b1, o1, none⟩) n c, .slice (some ⟨b2, o2, none⟩) m d, .pointer (some ⟨g, 0, none⟩), fv] 84)).cell? ⟨w.heap.size, 3, none⟩ = some fv := by rw [cell_of_row _ _ _ _ _ (0, 0) hrow]; rfl
  have i0 : (s : Int) < (n : Int) := by omega
  have i1 : (s : Int) < (m : Int) := by omega
  clear hal hrow hi hj
  generalize C.getD s 0 = z at *
  generalize L.getD s 0 = y at *
  generalize xt k (s : Int) = x at *
  generalize prc k C L s = r at *
  by_cases hz : 0 < z
  · have dz : decide (0 < z) = true := by simpa using hz
    rw [if_pos hz] at HP
    clear hz
    go_enter Tryz.func53, Tryz.ntmps53
    go_wp2_with fail
    refine (HEX.out _).mono ?_
    rintro e w2 ⟨rfl, hb2⟩
    have HB2 := Lib.hid (below_then HB.out hb2)
    clear hb2
    go_wp2
    go_ret
    exact ⟨by rw [HP.out]; rfl, HB2.out⟩
  · have dz : decide (0 < z) = false := by simpa using hz
    rw [if_neg hz] at HP
    clear hz
    go_enter Tryz.func53, Tryz.ntmps53
    go_wp2_with fail
    refine (HEX.out _).mono ?_
    rintro e w2 ⟨rfl, hb2⟩
    have HB2 := Lib.hid (below_then HB.out hb2)
    clear hb2
    go_wp2
    go_ret
    exact ⟨by rw [HP.out]; rfl, HB2.out⟩
end Bc
end Go.Proofs.YtjjbgdmalefdlaaGreatDoor
end

section
namespace Go.Proofs.YtjjbgdmalefdlaaGreatDoor
open Go.RowKit

namespace Bc
/-- What tables has to answer. -/
def TqPost (C1 L1 C2 L2 : List Int) (W : World) (e : Ending) (w' : World) : Prop :=
  ∃ a1 c1 b1 m1 d1 g1 a2 c2 b2 m2 d2 g2, e = .returned (.tuple #[tbV a1 286 c1 b1 m1 d1 g1 .lit, tbV a2 30 c2 b2 m2 d2 g2 .dst, .nilIface]) ∧ Hid (Is .i64 w' a1 286 c1 C1 ∧ Is .i64 w' b1 m1 d1 L1 ∧ Is .i64 w' a2 30 c2 C2 ∧ Is .i64 w' b2 m2 d2 L2) ∧ (286 ≤ m1 ∧ m1 ≤ 600 ∧ 30 ≤ m2 ∧ m2 ≤ 600) ∧ Below W.heap.size W w'
set_option maxRecDepth 100000 in
set_option maxHeartbeats 4000000 in
theorem prices_good (a : Option Addr) (len cap : Nat) (ts : List Tok) (w : World) (h : Ts2 w a len cap ts) (hlen : len ≤ 1000000) (hall : ts.all Tk.isTok = true) (C1 L1 C2 L2 : List Int)
    (HTB : ∀ W, Below w.heap.size w W → Calls Tryz.prog 52 #[.int .i64 2, .slice a len cap] W (TqPost C1 L1 C2 L2 W)) (hL1 : ∀ s, s < 286 → 0 ≤ L1.getD s 0 ∧ L1.getD s 0 ≤ 15) (hL2 : ∀ s, s < 30 → 0 ≤ L2.getD s 0 ∧ L2.getD s 0 ≤ 15) :
    Calls Tryz.prog 23 #[.slice a len cap] w (PrPost w ((List.range 256).map (prc .lit C1 L1)) ((List.range 259).map fun n => if 3 ≤ n then prc .lit C1 L1 (257 + Sy.lsy n) else 0) ((List.range 30).map (prc .dst C2 L2))) := by
  have hal := below_alloc w (.cells #[.slice none 0 0, .slice none 0 0, .slice none 0 0] 55)
  have hrow := heap_alloc_last w (.cells #[.slice none 0 0, .slice none 0 0, .slice none 0 0] 55)
  have HAT := Lib.hid (areTokens_any a len cap ts _ (h.mono hal) (by omega))
  rw [hall] at HAT
  have HB0 := Lib.hid hal
  have HR0 := Lib.hid hrow
  clear h hal hrow
  go_enter Tryz.func23, Tryz.ntmps23
  go_wp2_with fail
  refine HAT.out.mono ?_
  rintro e w1 ⟨rfl, hb1⟩
  have HB1 := Lib.hid (below_then HB0.out hb1)
  have HR1 := Lib.hid ((hb1.block w.heap.size (Array.getElem?_eq_some_iff.1 HR0.out).1).trans HR0.out)
  clear hb1 HB0 HR0 HAT
  go_wp2_with fail
  refine (HTB w1 HB1.out).mono ?_
  rintro e w2 ⟨a1, c1, b1, m1, d1, g1, a2, c2, b2, m2, d2, g2, rfl, hIs, ⟨hm1, hm2, hm3, hm4⟩, hb2⟩
  have HB2 := Lib.hid (below_then HB1.out hb2)
  have HR2 := Lib.hid ((hb2.block w.heap.size (Array.getElem?_eq_some_iff.1 HR1.out).1).trans HR1.out)
  clear hb2 HB1 HR1
  unfold tbV fvK
  go_wp2_with fail
  have hbx := below_alloc2 w2 (.cells #[.slice a1 286 c1, .slice b1 m1 d1, .pointer (some ⟨g1, 0, none⟩), (.func (.func 77) #[] #[])] 84) (.cells #[.slice a2 30 c2, .slice b2 m2 d2, .pointer (some ⟨g2, 0, none⟩), (.func (.func 78) #[] #[])] 84)
  have hr1 := (below_alloc (w2.alloc (.cells #[.slice a1 286 c1, .slice b1 m1 d1, .pointer (some ⟨g1, 0, none⟩), (.func (.func 77) #[] #[])] 84)) (.cells #[.slice a2 30 c2, .slice b2 m2 d2, .pointer (some ⟨g2, 0, none⟩), (.func (.func 78) #[] #[])] 84)).block w2.heap.size (by simp) |>.trans (heap_alloc_last w2 _)
  have hr2 := heap_alloc_last (w2.alloc (.cells #[.slice a1 286 c1, .slice b1 m1 d1, .pointer (some ⟨g1, 0, none⟩), (.func (.func 77) #[] #[])] 84)) (.cells #[.slice a2 30 c2, .slice b2 m2 d2, .pointer (some ⟨g2, 0, none⟩), (.func (.func 78) #[] #[])] 84)
  have hsz : ((w2.alloc (.cells #[.slice a1 286 c1, .slice b1 m1 d1, .pointer (some ⟨g1, 0, none⟩), (.func (.func 77) #[] #[])] 84)).alloc (.cells #[.slice a2 30 c2, .slice b2 m2 d2, .pointer (some ⟨g2, 0, none⟩), (.func (.func 78) #[] #[])] 84)).heap.size = w2.heap.size + 2 := by simp
  have hq : (w2.alloc (.cells #[.slice a1 286 c1, .slice b1 m1 d1, .pointer (some ⟨g1, 0, none⟩), (.func (.func 77) #[] #[])] 84)).heap.size = w2.heap.size + 1 := by simp
  rw [hq] at hr2
  have HI := Lib.hid (⟨hIs.out.1.mono hbx, hIs.out.2.1.mono hbx, hIs.out.2.2.1.mono hbx, hIs.out.2.2.2.mono hbx⟩ : _ ∧ _ ∧ _ ∧ _)
  have HBX := Lib.hid (below_then HB2.out hbx)
  have HRX := Lib.hid ((hbx.block w.heap.size (Array.getElem?_eq_some_iff.1 HR2.out).1).trans HR2.out)
  have HR1 := Lib.hid hr1
  have HR2' := Lib.hid hr2
  have HSZ := Lib.hid hsz
  clear hbx hr1 hr2 hsz hq hIs HB2 HR2
  revert HI HBX HRX HR1 HR2' HSZ
  generalize (w2.alloc (.cells #[.slice a1 286 c1, .slice b1 m1 d1, .pointer (some ⟨g1, 0, none⟩), (.func (.func 77) #[] #[])] 84)).alloc (.cells #[.slice a2 30 c2, .slice b2 m2 d2, .pointer (some ⟨g2, 0, none⟩), (.func (.func 78) #[] #[])] 84) = w3
  intro HI HBX HRX HR1 HR2' HSZ
  have e1 : ∀ W, (Instr.makeSlice 53 (.int .i64 256) (.int .i64 256)).run Tryz.prog W = .ok (.slice (some ⟨W.heap.size, 0, none⟩) 256 256) (mkW 256 W) := fun W => mkW_run 256 (by omega) W
  have e2 : ∀ W, (Instr.makeSlice 53 (.int .i64 259) (.int .i64 259)).run Tryz.prog W = .ok (.slice (some ⟨W.heap.size, 0, none⟩) 259 259) (mkW 259 W) := fun W => mkW_run 259 (by omega) W
  have e3 : ∀ W, (Instr.makeSlice 53 (.int .i64 30) (.int .i64 30)).run Tryz.prog W = .ok (.slice (some ⟨W.heap.size, 0, none⟩) 30 30) (mkW 30 W) := fun W => mkW_run 30 (by omega) W
  have k00 : ∀ (a b c : Nat) (Z : World), (mkW a (mkW b (mkW c (Z.alloc (.cells #[.slice none 0 0, .slice none 0 0, .slice none 0 0] 55)).drew))).cell? ⟨Z.heap.size, 0, none⟩ = some (.slice none 0 0) := fun a b c Z => bx0 a b c Z 0 (by decide)
  have k01 : ∀ (a b c : Nat) (Z : World), (mkW a (mkW b (mkW c (Z.alloc (.cells #[.slice none 0 0, .slice none 0 0, .slice none 0 0] 55)).drew))).cell? ⟨Z.heap.size, 1, none⟩ = some (.slice none 0 0) := fun a b c Z => bx0 a b c Z 1 (by decide)
  have k02 : ∀ (a b c : Nat) (Z : World), (mkW a (mkW b (mkW c (Z.alloc (.cells #[.slice none 0 0, .slice none 0 0, .slice none 0 0] 55)).drew))).cell? ⟨Z.heap.size, 2, none⟩ = some (.slice none 0 0) := fun a b c Z => bx0 a b c Z 2 (by decide)
  have z0 : ∀ (a b c : Nat) (Z : World) (o : Nat), (mkW a (mkW b (mkW c (Z.alloc (.cells #[.slice none 0 0, .slice none 0 0, .slice none 0 0] 55)).drew))).frozen? ⟨Z.heap.size, o, none⟩ = false := fun a b c Z o => bz0 a b c Z o
  have k10 : ∀ (a b : Nat) (Z : World), (mkW a (mkW b (Z.alloc (.cells #[.slice none 0 0, .slice none 0 0, .slice none 0 0] 55)))).cell? ⟨Z.heap.size, 0, none⟩ = some (.slice none 0 0) := fun a b Z => bx1 a b Z 0 (by decide)
  have k11 : ∀ (a b : Nat) (Z : World), (mkW a (mkW b (Z.alloc (.cells #[.slice none 0 0, .slice none 0 0, .slice none 0 0] 55)))).cell? ⟨Z.heap.size, 1, none⟩ = some (.slice none 0 0) := fun a b Z => bx1 a b Z 1 (by decide)
  have k12 : ∀ (a b : Nat) (Z : World), (mkW a (mkW b (Z.alloc (.cells #[.slice none 0 0, .slice none 0 0, .slice none 0 0] 55)))).cell? ⟨Z.heap.size, 2, none⟩ = some (.slice none 0 0) := fun a b Z => bx1 a b Z 2 (by decide)
  have z1 : ∀ (a b : Nat) (Z : World) (o : Nat), (mkW a (mkW b (Z.alloc (.cells #[.slice none 0 0, .slice none 0 0, .slice none 0 0] 55)))).frozen? ⟨Z.heap.size, o, none⟩ = false := fun a b Z o => bz1 a b Z o
  have k20 : ∀ (a : Nat) (Z : World), (mkW a (Z.alloc (.cells #[.slice none 0 0, .slice none 0 0, .slice none 0 0] 55))).cell? ⟨Z.heap.size, 0, none⟩ = some (.slice none 0 0) := fun a Z => bx2 a Z 0 (by decide)
  have k21 : ∀ (a : Nat) (Z : World), (mkW a (Z.alloc (.cells #[.slice none 0 0, .slice none 0 0, .slice none 0 0] 55))).cell? ⟨Z.heap.size, 1, none⟩ = some (.slice none 0 0) := fun a Z => bx2 a Z 1 (by decide)
  have k22 : ∀ (a : Nat) (Z : World), (mkW a (Z.alloc (.cells #[.slice none 0 0, .slice none 0 0, .slice none 0 0] 55))).cell? ⟨Z.heap.size, 2, none⟩ = some (.slice none 0 0) := fun a Z => bx2 a Z 2 (by decide)
  have z2 : ∀ (a : Nat) (Z : World) (o : Nat), (mkW a (Z.alloc (.cells #[.slice none 0 0, .slice none 0 0, .slice none 0 0] 55))).frozen? ⟨Z.heap.size, o, none⟩ = false := fun a Z o => bz2 a Z o
  go_cut [7] (fun s7 wx => ∃ h1 h2 h3 ob, s7 = .pointer (some ⟨ob, 0, none⟩) ∧ Hid (Pd w3 wx h1 h2 h3 ob (List.replicate 256 0) (List.replicate 259 0) (List.replicate 30 0)))
  case first =>
    go_region
    all_goals (go_wp2_with fail; go_meet)
    all_goals clear k00 k01 k02 z0 k10 k11 k12 z1 k20 k21 k22 z2 e1 e2 e3
    · exact ⟨_, _, _, _, rfl, Lib.hid (Po.finA (Po.mk2 (Po.mk1 (Po.mk0 (Po.start _)))) (by simp [up]) (by simp [up]) (by simp [up]))⟩
    · exact ⟨_, _, _, _, rfl, Lib.hid (Po.finS (Po.mk2 (Po.box (Po.mk1 (Po.mk0 (Po.start _))))) (by simp [up]) (by simp [up]) (by simp [up]) (by simp [up]))⟩
    · exact ⟨_, _, _, _, rfl, Lib.hid (Po.finA (Po.mk1 (Po.mk2 (Po.mk0 (Po.start _)))) (by simp [up]) (by simp [up]) (by simp [up]))⟩
    · exact ⟨_, _, _, _, rfl, Lib.hid (Po.finS (Po.mk1 (Po.box (Po.mk2 (Po.mk0 (Po.start _))))) (by simp [up]) (by simp [up]) (by simp [up]) (by simp [up]))⟩
    · exact ⟨_, _, _, _, rfl, Lib.hid (Po.finS (Po.mk2 (Po.mk1 (Po.box (Po.mk0 (Po.start _))))) (by simp [up]) (by simp [up]) (by simp [up]) (by simp [up]))⟩
    · exact ⟨_, _, _, _, rfl, Lib.hid (Po.finS (Po.mk1 (Po.mk2 (Po.box (Po.mk0 (Po.start _))))) (by simp [up]) (by simp [up]) (by simp [up]) (by simp [up]))⟩
    · exact ⟨_, _, _, _, rfl, Lib.hid (Po.finA (Po.mk2 (Po.mk0 (Po.mk1 (Po.start _)))) (by simp [up]) (by simp [up]) (by simp [up]))⟩
    · exact ⟨_, _, _, _, rfl, Lib.hid (Po.finS (Po.mk2 (Po.box (Po.mk0 (Po.mk1 (Po.start _))))) (by simp [up]) (by simp [up]) (by simp [up]) (by simp [up]))⟩
    · exact ⟨_, _, _, _, rfl, Lib.hid (Po.finA (Po.mk0 (Po.mk2 (Po.mk1 (Po.start _)))) (by simp [up]) (by simp [up]) (by simp [up]))⟩
    · exact ⟨_, _, _, _, rfl, Lib.hid (Po.finS (Po.mk0 (Po.box (Po.mk2 (Po.mk1 (Po.start _))))) (by simp [up]) (by simp [up]) (by simp [up]) (by simp [up]))⟩
    · exact ⟨_, _, _, _, rfl, Lib.hid (Po.finS (Po.mk2 (Po.mk0 (Po.box (Po.mk1 (Po.start _))))) (by simp [up]) (by simp [up]) (by simp [up]) (by simp [up]))⟩
    · exact ⟨_, _, _, _, rfl, Lib.hid (Po.finS (Po.mk0 (Po.mk2 (Po.box (Po.mk1 (Po.start _))))) (by simp [up]) (by simp [up]) (by simp [up]) (by simp [up]))⟩
    · exact ⟨_, _, _, _, rfl, Lib.hid (Po.finA (Po.mk1 (Po.mk0 (Po.mk2 (Po.start _)))) (by simp [up]) (by simp [up]) (by simp [up]))⟩
    · exact ⟨_, _, _, _, rfl, Lib.hid (Po.finS (Po.mk1 (Po.box (Po.mk0 (Po.mk2 (Po.start _))))) (by simp [up]) (by simp [up]) (by simp [up]) (by simp [up]))⟩
    · exact ⟨_, _, _, _, rfl, Lib.hid (Po.finA (Po.mk0 (Po.mk1 (Po.mk2 (Po.start _)))) (by simp [up]) (by simp [up]) (by simp [up]))⟩
    · exact ⟨_, _, _, _, rfl, Lib.hid (Po.finS (Po.mk0 (Po.box (Po.mk1 (Po.mk2 (Po.start _))))) (by simp [up]) (by simp [up]) (by simp [up]) (by simp [up]))⟩
    · exact ⟨_, _, _, _, rfl, Lib.hid (Po.finS (Po.mk1 (Po.mk0 (Po.box (Po.mk2 (Po.start _))))) (by simp [up]) (by simp [up]) (by simp [up]) (by simp [up]))⟩
    · exact ⟨_, _, _, _, rfl, Lib.hid (Po.finS (Po.mk0 (Po.mk1 (Po.box (Po.mk2 (Po.start _))))) (by simp [up]) (by simp [up]) (by simp [up]) (by simp [up]))⟩
    · exact ⟨_, _, _, _, rfl, Lib.hid (Po.finS (Po.mk2 (Po.mk1 (Po.mk0 (Po.start2 _)))) (by simp [up]) (by simp [up]) (by simp [up]) (by simp [up]))⟩
    · exact ⟨_, _, _, _, rfl, Lib.hid (Po.finS (Po.mk1 (Po.mk2 (Po.mk0 (Po.start2 _)))) (by simp [up]) (by simp [up]) (by simp [up]) (by simp [up]))⟩
    · exact ⟨_, _, _, _, rfl, Lib.hid (Po.finS (Po.mk2 (Po.mk0 (Po.mk1 (Po.start2 _)))) (by simp [up]) (by simp [up]) (by simp [up]) (by simp [up]))⟩
    · exact ⟨_, _, _, _, rfl, Lib.hid (Po.finS (Po.mk0 (Po.mk2 (Po.mk1 (Po.start2 _)))) (by simp [up]) (by simp [up]) (by simp [up]) (by simp [up]))⟩
    · exact ⟨_, _, _, _, rfl, Lib.hid (Po.finS (Po.mk1 (Po.mk0 (Po.mk2 (Po.start2 _)))) (by simp [up]) (by simp [up]) (by simp [up]) (by simp [up]))⟩
    · exact ⟨_, _, _, _, rfl, Lib.hid (Po.finS (Po.mk0 (Po.mk1 (Po.mk2 (Po.start2 _)))) (by simp [up]) (by simp [up]) (by simp [up]) (by simp [up]))⟩
  case rest =>
    clear k00 k01 k02 z0 k10 k11 k12 z1 k20 k21 k22 z2 e1 e2 e3
    obtain ⟨h1, h2, h3, ob, rfl, HP⟩ := hcut
    rw [← fil_zero (prc .lit C1 L1), ← fil_zero (fun n => if 3 ≤ n then prc .lit C1 L1 (257 + Sy.lsy n) else 0), ← fil_zero (prc .dst C2 L2)] at HP
    generalize hf2 : (fun n => if 3 ≤ n then prc .lit C1 L1 (257 + Sy.lsy n) else 0) = F2 at *
    have HF2 := Lib.hid hf2
    clear hf2
    have o0 := cell_of_row _ _ 0 _ _ (0, 0) HP.out.row
    simp only [List.getElem?_toArray, List.getElem?_cons_zero, List.getElem?_cons_succ] at o0
    go_wp2_with fail
    clear o0
    go_loopw [35] (fun iv wr => ∃ j : Nat, j ≤ 256 ∧ iv = .int .i64 j ∧ Hid (Pd w3 wr h1 h2 h3 ob (fil (prc .lit C1 L1) 256 j) (fil F2 259 0) (fil (prc .dst C2 L2) 30 0))) (fun iv _ => 256 - (intOf iv).toNat)
    case atStart => exact ⟨0, by omega, rfl, HP⟩
    case round =>
      obtain ⟨j, hj, rfl, HP2⟩ := hrel
      clear HP
      by_cases hlt : j < 256
      · have HPR := Lib.hid (price_any .lit a1 286 c1 C1 b1 m1 d1 L1 g1 j wr.drew ((HI.out.1.mono HP2.out.bel).mono (Below.drew (Below.refl _ _))) ((HI.out.2.1.mono HP2.out.bel).mono (Below.drew (Below.refl _ _))) (by omega) (by omega) (hL1 j (by omega)) (Nat.le_trans (xt_le _ _) (by decide)) (by omega) (by omega))
        have HP3 : Hid (∀ w4, Below wr.drew.heap.size wr.drew w4 → Pd w3 (w4.setCell ⟨h1, j, none⟩ (.int .i64 (prc .lit C1 L1 j))) h1 h2 h3 ob (fil (prc .lit C1 L1) 256 (j + 1)) (fil F2 259 0) (fil (prc .dst C2 L2) 30 0) ∧ Pd w3 w4 h1 h2 h3 ob (fil (prc .lit C1 L1) 256 j) (fil F2 259 0) (fil (prc .dst C2 L2) 30 0)) := Lib.hid fun w4 hb => by
          have k := HP2.out.mono (below_then (Below.drew (Below.refl _ _)) hb)
          exact ⟨fil_next (prc .lit C1 L1) 256 j ▸ k.set1 j _, k⟩
        generalize prc .lit C1 L1 j = v at *
        have o0 := cell_of_row _ _ 0 _ _ (0, 0) HP2.out.row
        have hq1 := (HP2.out.bel.block w2.heap.size (by have := HSZ.out; omega)).trans HR1.out
        have q0 := cell_of_row _ _ 0 _ _ (0, 0) hq1
        have q1 := cell_of_row _ _ 1 _ _ (0, 0) hq1
        have q2 := cell_of_row _ _ 2 _ _ (0, 0) hq1
        have q3 := cell_of_row _ _ 3 _ _ (0, 0) hq1
        simp only [List.getElem?_toArray, List.getElem?_cons_zero, List.getElem?_cons_succ] at o0 q0 q1 q2 q3
        have i0 : (0 : Int) ≤ (j : Int) := by omega
        have i1 : (j : Int) < 256 := by omega
        have HLQ : Hid (w2.heap.size ≠ h1 ∧ w2.heap.size < wr.heap.size ∧ ob ≠ h1 ∧ ob < wr.heap.size) := Lib.hid ⟨by have := (HP2.out.own1.lt h1 rfl).1; have := HSZ.out; omega, by have := HP2.out.bel.size; have := HSZ.out; omega, HP2.out.o1, (Array.getElem?_eq_some_iff.1 HP2.out.row).1⟩
        clear hq1
        simp only [tbV, fvK] at HPR
        go_wp2_with fail
        go_region_held3 (fun w' => w'.cell? ⟨ob, 0, none⟩ = some (.slice (some ⟨h1, 0, none⟩) 256 256) ∧ w'.cell? ⟨w2.heap.size, 0, none⟩ = some (.slice a1 286 c1) ∧ w'.cell? ⟨w2.heap.size, 1, none⟩ = some (.slice b1 m1 d1) ∧ w'.cell? ⟨w2.heap.size, 2, none⟩ = some (.pointer (some ⟨g1, 0, none⟩)) ∧ w'.cell? ⟨w2.heap.size, 3, none⟩ = some (.func (.func 77) #[] #[])) (first | (with_reducible exact ⟨s0, s1, s2, s3, s4⟩) | (with_reducible exact ⟨r0, r1, r2, r3, r4⟩) | go_keep)
          (first | (go_at_call 53; refine HPR.out.mono ?_; rintro e w4 ⟨rfl, hb4⟩
                    have s0 := (hb4.cell (p := ⟨ob, 0, none⟩) HLQ.out.2.2.2).trans o0
                    have s1 := (hb4.cell (p := ⟨w2.heap.size, 0, none⟩) HLQ.out.2.1).trans q0
                    have s2 := (hb4.cell (p := ⟨w2.heap.size, 1, none⟩) HLQ.out.2.1).trans q1
                    have s3 := (hb4.cell (p := ⟨w2.heap.size, 2, none⟩) HLQ.out.2.1).trans q2
                    have s4 := (hb4.cell (p := ⟨w2.heap.size, 3, none⟩) HLQ.out.2.1).trans q3
                    have r0 : (w4.setCell ⟨h1, j, none⟩ (.int .i64 v)).cell? ⟨ob, 0, none⟩ = some (.slice (some ⟨h1, 0, none⟩) 256 256) := (cell_set_other HLQ.out.2.2.1).trans s0
                    have r1 : (w4.setCell ⟨h1, j, none⟩ (.int .i64 v)).cell? ⟨w2.heap.size, 0, none⟩ = some (.slice a1 286 c1) := (cell_set_other HLQ.out.1).trans s1
                    have r2 : (w4.setCell ⟨h1, j, none⟩ (.int .i64 v)).cell? ⟨w2.heap.size, 1, none⟩ = some (.slice b1 m1 d1) := (cell_set_other HLQ.out.1).trans s2
                    have r3 : (w4.setCell ⟨h1, j, none⟩ (.int .i64 v)).cell? ⟨w2.heap.size, 2, none⟩ = some (.pointer (some ⟨g1, 0, none⟩)) := (cell_set_other HLQ.out.1).trans s3
                    have r4 : (w4.setCell ⟨h1, j, none⟩ (.int .i64 v)).cell? ⟨w2.heap.size, 3, none⟩ = some (.func (.func 77) #[] #[]) := (cell_set_other HLQ.out.1).trans s4
                    have y0 := ownc (HP3.out w4 hb4).2.own1 j hlt
                    have y1 := Pa.own_fz (HP3.out w4 hb4).2.own1 j
                    have HE := Lib.hid (HP3.out w4 hb4).1; clear hb4))
        clear HP3 HPR HLQ o0 q0 q1 q2 q3 s0 s1 s2 s3 s4 r0 r1 r2 r3 r4 y0 y1
        go_wp2
        go_roundw
        case rel => exact ⟨j + 1, by omega, by go_num, HE⟩
        case measure => simp [intOf]; omega
      · have hje : j = 256 := by omega
        subst hje
        have HP := HP2
        clear HP2
        have o0 := cell_of_row _ _ 1 _ _ (0, 0) HP.out.row
        simp only [List.getElem?_toArray, List.getElem?_cons_zero, List.getElem?_cons_succ] at o0
        go_wp2_with fail
        clear o0
        go_loopw [49] (fun iv wr => ∃ j : Nat, j ≤ 259 ∧ iv = .int .i64 j ∧ Hid (Pd w3 wr h1 h2 h3 ob (fil (prc .lit C1 L1) 256 256) (fil F2 259 j) (fil (prc .dst C2 L2) 30 0))) (fun iv _ => 259 - (intOf iv).toNat)
        case atStart => exact ⟨0, by omega, rfl, HP⟩
        case round =>
          obtain ⟨j, hj, rfl, HP2⟩ := hrel
          clear HP
          by_cases hlt : j < 259
          · have hls := lsym_any (j : Int) wr (by go_wf)
            have HLS := Lib.hid hls
            clear hls
            go_wp2_with fail
            refine HLS.out.mono ?_
            rintro e w5 ⟨⟨s, rfl, hs⟩, rfl⟩
            by_cases h3j : 3 ≤ j
            · have hd : decide (3 ≤ (j : Int) ∧ (j : Int) ≤ 258) = true := by simp; omega
              rw [hd]
              obtain rfl := hs (by omega)
              clear hs hd
              rw [Int.toNat_natCast]
              have hsy : 257 + Sy.lsy j < 286 := by have := Sy.cnt_le Sy.lb 28 j; unfold Sy.lsy; omega
              have hF : F2 j = prc .lit C1 L1 (257 + Sy.lsy j) := by rw [← HF2.out]; simp only; rw [if_pos h3j]
              have HFJ := Lib.hid hF
              clear hF HLS
              generalize 257 + Sy.lsy j = q at *
              have HPR := Lib.hid (price_any .lit a1 286 c1 C1 b1 m1 d1 L1 g1 q wr.drew ((HI.out.1.mono HP2.out.bel).mono (Below.drew (Below.refl _ _))) ((HI.out.2.1.mono HP2.out.bel).mono (Below.drew (Below.refl _ _))) (by omega) (by omega) (hL1 q (by omega)) (Nat.le_trans (xt_le _ _) (by decide)) (by omega) (by omega))
              have HP3 : Hid (∀ w4, Below wr.drew.heap.size wr.drew w4 → Pd w3 (w4.setCell ⟨h2, j, none⟩ (.int .i64 (prc .lit C1 L1 q))) h1 h2 h3 ob (fil (prc .lit C1 L1) 256 256) (fil F2 259 (j + 1)) (fil (prc .dst C2 L2) 30 0) ∧ Pd w3 w4 h1 h2 h3 ob (fil (prc .lit C1 L1) 256 256) (fil F2 259 j) (fil (prc .dst C2 L2) 30 0)) := Lib.hid fun w4 hb => by
                have k := HP2.out.mono (below_then (Below.drew (Below.refl _ _)) hb)
                exact ⟨HFJ.out ▸ fil_next F2 259 j ▸ k.set2 j _, k⟩
              generalize prc .lit C1 L1 q = v at *
              have o0 := cell_of_row _ _ 1 _ _ (0, 0) HP2.out.row
              have hq1 := (HP2.out.bel.block w2.heap.size (by have := HSZ.out; omega)).trans HR1.out
              have q0 := cell_of_row _ _ 0 _ _ (0, 0) hq1
              have q1 := cell_of_row _ _ 1 _ _ (0, 0) hq1
              have q2 := cell_of_row _ _ 2 _ _ (0, 0) hq1
              have q3 := cell_of_row _ _ 3 _ _ (0, 0) hq1
              simp only [List.getElem?_toArray, List.getElem?_cons_zero, List.getElem?_cons_succ] at o0 q0 q1 q2 q3
              have i0 : (0 : Int) ≤ (j : Int) := by omega
              have i1 : (j : Int) < 259 := by omega
              have HLQ : Hid (w2.heap.size ≠ h2 ∧ w2.heap.size < wr.heap.size ∧ ob ≠ h2 ∧ ob < wr.heap.size) := Lib.hid ⟨by have := (HP2.out.own2.lt h2 rfl).1; have := HSZ.out; omega, by have := HP2.out.bel.size; have := HSZ.out; omega, HP2.out.o2, (Array.getElem?_eq_some_iff.1 HP2.out.row).1⟩
              clear hq1
              simp only [tbV, fvK] at HPR
              go_wp2_with fail
              go_region_held3 (fun w' => w'.cell? ⟨ob, 1, none⟩ = some (.slice (some ⟨h2, 0, none⟩) 259 259) ∧ w'.cell? ⟨w2.heap.size, 0, none⟩ = some (.slice a1 286 c1) ∧ w'.cell? ⟨w2.heap.size, 1, none⟩ = some (.slice b1 m1 d1) ∧ w'.cell? ⟨w2.heap.size, 2, none⟩ = some (.pointer (some ⟨g1, 0, none⟩)) ∧ w'.cell? ⟨w2.heap.size, 3, none⟩ = some (.func (.func 77) #[] #[])) (first | (with_reducible exact ⟨s0, s1, s2, s3, s4⟩) | (with_reducible exact ⟨r0, r1, r2, r3, r4⟩) | go_keep)
                (first | (go_at_call 53; refine HPR.out.mono ?_; rintro e w4 ⟨rfl, hb4⟩
                          have s0 := (hb4.cell (p := ⟨ob, 1, none⟩) HLQ.out.2.2.2).trans o0
                          have s1 := (hb4.cell (p := ⟨w2.heap.size, 0, none⟩) HLQ.out.2.1).trans q0
                          have s2 := (hb4.cell (p := ⟨w2.heap.size, 1, none⟩) HLQ.out.2.1).trans q1
                          have s3 := (hb4.cell (p := ⟨w2.heap.size, 2, none⟩) HLQ.out.2.1).trans q2
                          have s4 := (hb4.cell (p := ⟨w2.heap.size, 3, none⟩) HLQ.out.2.1).trans q3
                          have r0 : (w4.setCell ⟨h2, j, none⟩ (.int .i64 v)).cell? ⟨ob, 1, none⟩ = some (.slice (some ⟨h2, 0, none⟩) 259 259) := (cell_set_other HLQ.out.2.2.1).trans s0
                          have r1 : (w4.setCell ⟨h2, j, none⟩ (.int .i64 v)).cell? ⟨w2.heap.size, 0, none⟩ = some (.slice a1 286 c1) := (cell_set_other HLQ.out.1).trans s1
                          have r2 : (w4.setCell ⟨h2, j, none⟩ (.int .i64 v)).cell? ⟨w2.heap.size, 1, none⟩ = some (.slice b1 m1 d1) := (cell_set_other HLQ.out.1).trans s2
                          have r3 : (w4.setCell ⟨h2, j, none⟩ (.int .i64 v)).cell? ⟨w2.heap.size, 2, none⟩ = some (.pointer (some ⟨g1, 0, none⟩)) := (cell_set_other HLQ.out.1).trans s3
                          have r4 : (w4.setCell ⟨h2, j, none⟩ (.int .i64 v)).cell? ⟨w2.heap.size, 3, none⟩ = some (.func (.func 77) #[] #[]) := (cell_set_other HLQ.out.1).trans s4
                          have y0 := ownc (HP3.out w4 hb4).2.own2 j hlt
                          have y1 := Pa.own_fz (HP3.out w4 hb4).2.own2 j
                          have HE := Lib.hid (HP3.out w4 hb4).1; clear hb4))
              clear HP3 HPR HLQ o0 q0 q1 q2 q3 s0 s1 s2 s3 s4 r0 r1 r2 r3 r4 y0 y1
              go_wp2
              go_roundw
              case rel => exact ⟨_, _, _, _, _, _, _, _, _, _, _, _, _, _, _, _, _, _, _, _, ⟨j + 1, by omega, by go_num, HE⟩, rfl⟩
              case measure => simp [intOf]; omega
            · have hd : decide (3 ≤ (j : Int) ∧ (j : Int) ≤ 258) = false := by simp; omega
              rw [hd]
              clear hs hd HLS
              have HE : Hid (Pd w3 wr h1 h2 h3 ob (fil (prc .lit C1 L1) 256 256) (fil F2 259 (j + 1)) (fil (prc .dst C2 L2) 30 0)) := Lib.hid (by rw [fil_same F2 259 j (by rw [← HF2.out]; simp only; rw [if_neg h3j])]; exact HP2.out)
              go_wp2
              go_roundw
              case rel => exact ⟨_, _, _, _, _, _, _, _, _, _, _, _, _, _, _, _, _, _, _, _, ⟨j + 1, by omega, by go_num, HE⟩, rfl⟩
              case measure => simp [intOf]; omega
          · have hje : j = 259 := by omega
            subst hje
            have HP := HP2
            clear HP2
            have o0 := cell_of_row _ _ 2 _ _ (0, 0) HP.out.row
            simp only [List.getElem?_toArray, List.getElem?_cons_zero, List.getElem?_cons_succ] at o0
            go_wp2_with fail
            clear o0
            go_loopw [69] (fun iv wr => ∃ j : Nat, j ≤ 30 ∧ iv = .int .i64 j ∧ Hid (Pd w3 wr h1 h2 h3 ob (fil (prc .lit C1 L1) 256 256) (fil F2 259 259) (fil (prc .dst C2 L2) 30 j))) (fun iv _ => 30 - (intOf iv).toNat)
            case atStart => exact ⟨0, by omega, rfl, HP⟩
            case round =>
              obtain ⟨j, hj, rfl, HP2⟩ := hrel
              clear HP
              by_cases hlt : j < 30
              · have HPR := Lib.hid (price_any .dst a2 30 c2 C2 b2 m2 d2 L2 g2 j wr.drew ((HI.out.2.2.1.mono HP2.out.bel).mono (Below.drew (Below.refl _ _))) ((HI.out.2.2.2.mono HP2.out.bel).mono (Below.drew (Below.refl _ _))) (by omega) (by omega) (hL2 j (by omega)) (Nat.le_trans (xt_le _ _) (by decide)) (by omega) (by omega))
                have HP3 : Hid (∀ w4, Below wr.drew.heap.size wr.drew w4 → Pd w3 (w4.setCell ⟨h3, j, none⟩ (.int .i64 (prc .dst C2 L2 j))) h1 h2 h3 ob (fil (prc .lit C1 L1) 256 256) (fil F2 259 259) (fil (prc .dst C2 L2) 30 (j + 1)) ∧ Pd w3 w4 h1 h2 h3 ob (fil (prc .lit C1 L1) 256 256) (fil F2 259 259) (fil (prc .dst C2 L2) 30 j)) := Lib.hid fun w4 hb => by
                  have k := HP2.out.mono (below_then (Below.drew (Below.refl _ _)) hb)
                  exact ⟨fil_next (prc .dst C2 L2) 30 j ▸ k.set3 j _, k⟩
                generalize prc .dst C2 L2 j = v at *
                have o0 := cell_of_row _ _ 2 _ _ (0, 0) HP2.out.row
                have hq1 := (HP2.out.bel.block (w2.heap.size + 1) (by have := HSZ.out; omega)).trans HR2'.out
                have q0 := cell_of_row _ _ 0 _ _ (0, 0) hq1
                have q1 := cell_of_row _ _ 1 _ _ (0, 0) hq1
                have q2 := cell_of_row _ _ 2 _ _ (0, 0) hq1
                have q3 := cell_of_row _ _ 3 _ _ (0, 0) hq1
                simp only [List.getElem?_toArray, List.getElem?_cons_zero, List.getElem?_cons_succ] at o0 q0 q1 q2 q3
                have i0 : (0 : Int) ≤ (j : Int) := by omega
                have i1 : (j : Int) < 30 := by omega
                have HLQ : Hid ((w2.heap.size + 1) ≠ h3 ∧ (w2.heap.size + 1) < wr.heap.size ∧ ob ≠ h3 ∧ ob < wr.heap.size) := Lib.hid ⟨by have := (HP2.out.own3.lt h3 rfl).1; have := HSZ.out; omega, by have := HP2.out.bel.size; have := HSZ.out; omega, HP2.out.o3, (Array.getElem?_eq_some_iff.1 HP2.out.row).1⟩
                clear hq1
                simp only [tbV, fvK] at HPR
                go_wp2_with fail
                go_region_held3 (fun w' => w'.cell? ⟨ob, 2, none⟩ = some (.slice (some ⟨h3, 0, none⟩) 30 30) ∧ w'.cell? ⟨(w2.heap.size + 1), 0, none⟩ = some (.slice a2 30 c2) ∧ w'.cell? ⟨(w2.heap.size + 1), 1, none⟩ = some (.slice b2 m2 d2) ∧ w'.cell? ⟨(w2.heap.size + 1), 2, none⟩ = some (.pointer (some ⟨g2, 0, none⟩)) ∧ w'.cell? ⟨(w2.heap.size + 1), 3, none⟩ = some (.func (.func 78) #[] #[])) (first | (with_reducible exact ⟨s0, s1, s2, s3, s4⟩) | (with_reducible exact ⟨r0, r1, r2, r3, r4⟩) | go_keep)
                  (first | (go_at_call 53; refine HPR.out.mono ?_; rintro e w4 ⟨rfl, hb4⟩
                            have s0 := (hb4.cell (p := ⟨ob, 2, none⟩) HLQ.out.2.2.2).trans o0
                            have s1 := (hb4.cell (p := ⟨(w2.heap.size + 1), 0, none⟩) HLQ.out.2.1).trans q0
                            have s2 := (hb4.cell (p := ⟨(w2.heap.size + 1), 1, none⟩) HLQ.out.2.1).trans q1
                            have s3 := (hb4.cell (p := ⟨(w2.heap.size + 1), 2, none⟩) HLQ.out.2.1).trans q2
                            have s4 := (hb4.cell (p := ⟨(w2.heap.size + 1), 3, none⟩) HLQ.out.2.1).trans q3
                            have r0 : (w4.setCell ⟨h3, j, none⟩ (.int .i64 v)).cell? ⟨ob, 2, none⟩ = some (.slice (some ⟨h3, 0, none⟩) 30 30) := (cell_set_other HLQ.out.2.2.1).trans s0
                            have r1 : (w4.setCell ⟨h3, j, none⟩ (.int .i64 v)).cell? ⟨(w2.heap.size + 1), 0, none⟩ = some (.slice a2 30 c2) := (cell_set_other HLQ.out.1).trans s1
                            have r2 : (w4.setCell ⟨h3, j, none⟩ (.int .i64 v)).cell? ⟨(w2.heap.size + 1), 1, none⟩ = some (.slice b2 m2 d2) := (cell_set_other HLQ.out.1).trans s2
                            have r3 : (w4.setCell ⟨h3, j, none⟩ (.int .i64 v)).cell? ⟨(w2.heap.size + 1), 2, none⟩ = some (.pointer (some ⟨g2, 0, none⟩)) := (cell_set_other HLQ.out.1).trans s3
                            have r4 : (w4.setCell ⟨h3, j, none⟩ (.int .i64 v)).cell? ⟨(w2.heap.size + 1), 3, none⟩ = some (.func (.func 78) #[] #[]) := (cell_set_other HLQ.out.1).trans s4
                            have y0 := ownc (HP3.out w4 hb4).2.own3 j hlt
                            have y1 := Pa.own_fz (HP3.out w4 hb4).2.own3 j
                            have HE := Lib.hid (HP3.out w4 hb4).1; clear hb4))
                clear HP3 HPR HLQ o0 q0 q1 q2 q3 s0 s1 s2 s3 s4 r0 r1 r2 r3 r4 y0 y1
                go_wp2
                go_roundw
                case rel => exact ⟨_, _, _, _, _, _, _, _, _, _, _, _, ⟨j + 1, by omega, by go_num, HE⟩, rfl⟩
                case measure => simp [intOf]; omega
              · have hje : j = 30 := by omega
                subst hje
                have HP := HP2
                clear HP2
                have HT := Lib.hid (HP.out.toPost HBX.out (Array.getElem?_eq_some_iff.1 HRX.out).1 HRX.out)
                have o0 := cell_of_row _ _ 0 _ _ (0, 0) HP.out.row
                have o1 := cell_of_row _ _ 1 _ _ (0, 0) HP.out.row
                have o2 := cell_of_row _ _ 2 _ _ (0, 0) HP.out.row
                have hrw := (HP.out.bel.block w.heap.size (Array.getElem?_eq_some_iff.1 HRX.out).1).trans HRX.out
                have p0 := cell_of_row _ _ 0 _ _ (0, 0) hrw
                have p1 := cell_of_row _ _ 1 _ _ (0, 0) hrw
                have p2 := cell_of_row _ _ 2 _ _ (0, 0) hrw
                have pf := frozen_of_row _ _ 0 _ _ hrw
                have pf1 := frozen_of_row _ _ 1 _ _ hrw
                have pf2 := frozen_of_row _ _ 2 _ _ hrw
                simp only [List.getElem?_toArray, List.getElem?_cons_zero, List.getElem?_cons_succ] at o0 o1 o2 p0 p1 p2
                rw [fil_end, fil_end, fil_end] at HT
                rw [← HF2.out] at HT
                clear hrw HP HI HR1 HR2' HSZ HBX HRX HF2
                go_wp2_with fail
                exact bodyPost_ret (res_pr _ rfl _ _ w.heap.size h1 h2 h3 .nilIface rfl rfl HT.out.1) rfl HT.out.2
end Bc
end Go.Proofs.YtjjbgdmalefdlaaGreatDoor
end
