/- burnishref13.wrong: its contract. -/
import Derived.Test.YtbgaaocgdjkkeaaZ22
import Derived.Test.YtbgaaocgdjkkeaaZ38
set_option linter.unusedSimpArgs false
set_option linter.unusedVariables false
section
namespace Go.Proofs.Ytbgaaocgdjkkeaa
open Go.RowKit

namespace Hd
def A1 : List (List UInt8) := [Nm.IH, Nm.PL, Nm.TR, Nm.BK, Nm.HI, Nm.CH, Nm.GA, Nm.IC, Nm.SB, Nm.SR, Nm.PH, Nm.TI]
def A2 : List (List UInt8) := [Nm.PL, Nm.TR, Nm.BK, Nm.HI, Nm.CH, Nm.GA, Nm.IC, Nm.SB, Nm.SR, Nm.PH, Nm.SP]
def A3 : List (List UInt8) := [Nm.CH, Nm.GA, Nm.IC, Nm.SB, Nm.SR]
def A4 : List (List UInt8) := [Nm.TR, Nm.BK, Nm.HI]
def swPL (x : H) (L : List Ck.C) (i : Nat) (d : List UInt8) : Bool :=
  (decide (0 < bef L i A4) || !decide (d.length % 3 = 0) || decide (d.length / 3 < 1) || decide (256 < d.length / 3)) || (decide (x.c = 0) || decide (x.c = 4) || (decide (x.c = 3) && decide (pw x.d.toNat < d.length / 3)))
def swID (L : List Ck.C) (i : Nat) : Bool := decide (0 < bef L i [Nm.ID]) && !((Ck.nth L (i - 1)).1 == Nm.ID)
def kr (d : List UInt8) (q : Nat) : Nat := 256 * gb d (2 * q) + gb d (2 * q + 1)
def keyR (d : List UInt8) (m dep : Nat) : Bool := (List.range m).any fun q => decide (pw dep ≤ kr d q)
def swTR (x : H) (L : List Ck.C) (i : Nat) (d : List UInt8) : Bool :=
  if x.c = 3 then decide (d.length < 1) || decide (entR (L.take i) < d.length)
  else if x.c = 0 then !decide (d.length = 2) || keyR d 1 x.d.toNat
  else if x.c = 2 then !decide (d.length = 6) || keyR d 3 x.d.toNat
  else true
def swR (x : H) (L : List Ck.C) (i : Nat) (nm d : List UInt8) : Bool :=
  if nm = Nm.PL then swPL x L i d else if nm = Nm.ID then swID L i else if nm = Nm.HI then decide (bef L i [Nm.PL] = 0) else if nm = Nm.TR then swTR x L i d else false
def wrR (x : H) (L : List Ck.C) (i : Nat) (nm d : List UInt8) : Bool :=
  ((inP A1 nm && decide (0 < bef L i [nm])) || (inP A2 nm && decide (0 < bef L i [Nm.ID])) || (inP A3 nm && decide (0 < bef L i [Nm.PL]))) || swR x L i nm d
theorem cat4_one (nm : List UInt8) : cat4 [nm] = nm := by simp [cat4]
set_option maxRecDepth 100000 in
set_option maxHeartbeats 16000000 in
theorem wrong_any (x : H) (hg : bad x = 0) (a : Option Addr) (len cap : Nat) (l : List Ckm) (j : Nat) (w : World) (h : Cs w a len cap l) (hn : j + 1 < len) (hlen : len ≤ 10000) (hnl : (nck l (j + 1)).n.length = 4) (hdl : (nck l (j + 1)).s.len ≤ 1048576) :
    Calls Try.prog 42 #[x.val, .slice a len cap, .int .i64 (j + 1 : Nat)] w fun e w' => e = .returned (.bool (wrR x (cps l) (j + 1) (nck l (j + 1)).n (nck l (j + 1)).s.l)) ∧ Below w.heap.size w w' := by
  have hle := h.hle
  have hgc := good_c hg
  have HGC := Lib.hid hgc.1
  have hb1 := below_alloc w (.cells #[.int .i64 x.w, .int .i64 x.h, .int .i64 x.d, .int .i64 x.c, .int .i64 x.l] 29)
  have hx1 := bx_new w x
  have hz1 : (w.alloc (.cells #[.int .i64 x.w, .int .i64 x.h, .int .i64 x.d, .int .i64 x.c, .int .i64 x.l] 29)).heap.size = w.heap.size + 1 := World.size_alloc _ _
  obtain ⟨b, off, rfl, hbl, t0, t1, t2⟩ := h.at' (j + 1) hn
  obtain ⟨b', off', e', _, u0, _, _⟩ := h.at' j (by omega)
  simp only [Option.some.injEq, Addr.mk.injEq, and_true] at e'
  obtain ⟨rfl, rfl⟩ := e'
  have HPN : Hid ((Ck.nth (cps l) j).1 = (nck l j).n) := Lib.hid (by rw [cps_nth l j (by rw [h.hlen]; omega)]; rfl)
  have HS0 := Lib.hid h
  clear h
  generalize (nck l j).n = pv at *
  generalize hck : nck l (j + 1) = ck at *
  clear hck
  obtain ⟨nm, sa, sn, sc, sd⟩ := ck
  unfold Sl.val at t1
  simp only at t0 t1 t2 hnl hdl ⊢
  have t2 : Bs w sa sn sc sd := t2
  have hb2 := below_alloc (w.alloc (.cells #[.int .i64 x.w, .int .i64 x.h, .int .i64 x.d, .int .i64 x.c, .int .i64 x.l] 29)) (.cells #[.string (str nm), .slice sa sn sc] 26)
  have hrow2 := heap_alloc_last (w.alloc (.cells #[.int .i64 x.w, .int .i64 x.h, .int .i64 x.d, .int .i64 x.c, .int .i64 x.l] 29)) (.cells #[.string (str nm), .slice sa sn sc] 26)
  rw [hz1] at hrow2
  have HBW := Lib.hid (below_then hb1 hb2)
  have hx2 := hx1.below hb2
  obtain ⟨_, _, c2, c3, _⟩ := hx2.cells
  have k0 : ((w.alloc (.cells #[.int .i64 x.w, .int .i64 x.h, .int .i64 x.d, .int .i64 x.c, .int .i64 x.l] 29)).alloc (.cells #[.string (str nm), .slice sa sn sc] 26)).cell? ⟨w.heap.size + 1, 0, none⟩ = some (.string (str nm)) := (cell_of_row _ _ 0 _ _ (0, 0) hrow2).trans rfl
  have k1 : ((w.alloc (.cells #[.int .i64 x.w, .int .i64 x.h, .int .i64 x.d, .int .i64 x.c, .int .i64 x.l] 29)).alloc (.cells #[.string (str nm), .slice sa sn sc] 26)).cell? ⟨w.heap.size + 1, 1, none⟩ = some (.slice sa sn sc) := (cell_of_row _ _ 1 _ _ (0, 0) hrow2).trans rfl
  have t0 := (hb1.cell (p := ⟨b, off + (j + 1) * 2, none⟩) hbl).trans t0
  have t1 := (hb1.cell (p := ⟨b, off + (j + 1) * 2 + 1, none⟩) hbl).trans t1
  have hbl2 : b < (w.alloc (.cells #[.int .i64 x.w, .int .i64 x.h, .int .i64 x.d, .int .i64 x.c, .int .i64 x.l] 29)).heap.size := by omega
  have u0 := (hb2.cell (p := ⟨b, off + j * 2, none⟩) hbl2).trans ((hb1.cell (p := ⟨b, off + j * 2, none⟩) hbl).trans u0)
  have HCS := Lib.hid ((HS0.out.mono hb1).mono hb2)
  have HSD := Lib.hid t2.hlen
  have HDT := Lib.hid ((t2.mono hb1).mono hb2)
  have HWR : Hid (wrR x (cps l) (j + 1) nm sd = (((inP A1 nm && decide (0 < bef (cps l) (j + 1) [nm])) || (inP A2 nm && decide (0 < bef (cps l) (j + 1) [Nm.ID])) || (inP A3 nm && decide (0 < bef (cps l) (j + 1) [Nm.PL]))) || swR x (cps l) (j + 1) nm sd)) := Lib.hid rfl
  clear t2 hrow2 hx1 hx2 hb1 hb2 hz1 HS0
  obtain ⟨w2, hw2⟩ : ∃ w2, ((w.alloc (.cells #[.int .i64 x.w, .int .i64 x.h, .int .i64 x.d, .int .i64 x.c, .int .i64 x.l] 29)).alloc (.cells #[.string (str nm), .slice sa sn sc] 26)) = w2 := ⟨_, rfl⟩
  rw [hw2] at HCS HDT HBW c2 c3 k0 k1 u0
  have HI1 : Hid (Calls Try.prog 41 #[.string (str nm), .string { data := #[73, 72, 68, 82, 80, 76, 84, 69, 116, 82, 78, 83, 98, 75, 71, 68, 104, 73, 83, 84, 99, 72, 82, 77, 103, 65, 77, 65, 105, 67, 67, 80, 115, 66, 73, 84, 115, 82, 71, 66, 112, 72, 89, 115, 116, 73, 77, 69] }] w2 fun e w' => e = .returned (.bool (inP A1 nm)) ∧ w2 = w') := Lib.hid (in_any nm A1 (by decide) (by decide) w2)
  have HI2 : Hid (Calls Try.prog 41 #[.string (str nm), .string { data := #[80, 76, 84, 69, 116, 82, 78, 83, 98, 75, 71, 68, 104, 73, 83, 84, 99, 72, 82, 77, 103, 65, 77, 65, 105, 67, 67, 80, 115, 66, 73, 84, 115, 82, 71, 66, 112, 72, 89, 115, 115, 80, 76, 84] }] w2 fun e w' => e = .returned (.bool (inP A2 nm)) ∧ w2 = w') := Lib.hid (in_any nm A2 (by decide) (by decide) w2)
  have HI3 : Hid (Calls Try.prog 41 #[.string (str nm), .string { data := #[99, 72, 82, 77, 103, 65, 77, 65, 105, 67, 67, 80, 115, 66, 73, 84, 115, 82, 71, 66] }] w2 fun e w' => e = .returned (.bool (inP A3 nm)) ∧ w2 = w') := Lib.hid (in_any nm A3 (by decide) (by decide) w2)
  have HBN : Hid (Calls Try.prog 43 #[.slice (some ⟨b, off, none⟩) len cap, .int .i64 (j + 1 : Nat), .string (str nm)] w2 fun e w' => e = .returned (.int .i64 (bef (cps l) (j + 1) [nm] : Nat)) ∧ w2 = w') := Lib.hid (by
    have h9 := before_any _ len cap l (j + 1) [nm] w2 HCS.out (by omega) hlen (by intro c hc; rw [List.mem_singleton] at hc; rw [hc]; exact hnl) (by simp)
    rwa [cat4_one] at h9)
  have HBI : Hid (Calls Try.prog 43 #[.slice (some ⟨b, off, none⟩) len cap, .int .i64 (j + 1 : Nat), .string { data := #[73, 68, 65, 84] }] w2 fun e w' => e = .returned (.int .i64 (bef (cps l) (j + 1) [Nm.ID] : Nat)) ∧ w2 = w') := Lib.hid (before_any _ len cap l (j + 1) [Nm.ID] w2 HCS.out (by omega) hlen (by decide) (by decide))
  have HBP : Hid (Calls Try.prog 43 #[.slice (some ⟨b, off, none⟩) len cap, .int .i64 (j + 1 : Nat), .string { data := #[80, 76, 84, 69] }] w2 fun e w' => e = .returned (.int .i64 (bef (cps l) (j + 1) [Nm.PL] : Nat)) ∧ w2 = w') := Lib.hid (before_any _ len cap l (j + 1) [Nm.PL] w2 HCS.out (by omega) hlen (by decide) (by decide))
  have HBT : Hid (Calls Try.prog 43 #[.slice (some ⟨b, off, none⟩) len cap, .int .i64 (j + 1 : Nat), .string { data := #[116, 82, 78, 83, 98, 75, 71, 68, 104, 73, 83, 84] }] w2 fun e w' => e = .returned (.int .i64 (bef (cps l) (j + 1) A4 : Nat)) ∧ w2 = w') := Lib.hid (before_any _ len cap l (j + 1) A4 w2 HCS.out (by omega) hlen (by decide) (by decide))
  have HEN := Lib.hid (entries_any _ len cap l (j + 1) w2 HCS.out (by omega) hlen)
  obtain ⟨dn, hdn⟩ := Int.eq_ofNat_of_zero_le (show 0 ≤ x.d by omega)
  have HPW := Lib.hid (power_any dn (by omega) w2)
  have HPQ : Hid (∀ w', Calls Try.prog 70 #[.int .i64 (dn : Nat)] w' fun e w'' => e = .returned (.int .i64 (pw dn : Nat)) ∧ w' = w'') := Lib.hid (fun w' => power_any dn (by omega) w')
  have hz2 : w2.heap.size = w.heap.size + 2 := by rw [← hw2, World.size_alloc, World.size_alloc]
  have HDN : Hid (x.d.toNat = dn) := Lib.hid (by rw [hdn]; rfl)
  rw [hdn] at c2
  generalize wrR x (cps l) (j + 1) nm sd = wr at *
  generalize hsw : swR x (cps l) (j + 1) nm sd = sw at HWR
  have HSW : Hid (sw = swR x (cps l) (j + 1) nm sd) := Lib.hid hsw.symm
  clear hsw hgc
  generalize hLL : cps l = L at *
  clear hLL hdn HCS
  obtain ⟨n1, hn1⟩ : ∃ n1, bef L (j + 1) [nm] = n1 := ⟨_, rfl⟩
  obtain ⟨ni, hni⟩ : ∃ ni, bef L (j + 1) [Nm.ID] = ni := ⟨_, rfl⟩
  obtain ⟨np, hnp⟩ : ∃ np, bef L (j + 1) [Nm.PL] = np := ⟨_, rfl⟩
  obtain ⟨nt, hnt⟩ : ∃ nt, bef L (j + 1) A4 = nt := ⟨_, rfl⟩
  rw [hn1] at HBN HWR
  rw [hni] at HBI HWR
  rw [hnp] at HBP HWR
  rw [hnt] at HBT
  have HNI := Lib.hid hni
  have HNP := Lib.hid hnp
  have HNT := Lib.hid hnt
  have HPV : Hid ((Ck.nth L (j + 1 - 1)).1 = pv) := Lib.hid HPN.out
  clear hn1 hni hnp hnt HPN hnl
  show Calls Try.prog 42 #[.agg #[.int .i64 x.w, .int .i64 x.h, .int .i64 x.d, .int .i64 x.c, .int .i64 x.l], .slice (some ⟨b, off, none⟩) len cap, .int .i64 (j + 1 : Nat)] w _
  have hsub : wrap64 (((j + 1 : Nat) : Int) - 1) = (j : Int) := by rw [IntWalk.wrap64_in _ ⟨by omega, by omega⟩]; omega
  by_cases hPL : nm = Nm.PL
  · have hnm := hPL
    clear hPL
    have ePL : ((str nm).toList == [80, 76, 84, 69]) = true := str_is nm _ true (by rw [hnm]; decide)
    have eID : ((str nm).toList == [73, 68, 65, 84]) = false := str_is nm _ false (by rw [hnm]; decide)
    have eHI : ((str nm).toList == [104, 73, 83, 84]) = false := str_is nm _ false (by rw [hnm]; decide)
    have eTR : ((str nm).toList == [116, 82, 78, 83]) = false := str_is nm _ false (by rw [hnm]; decide)
    have hb1 : inP A1 nm = true := by rw [hnm]; decide
    have hb2 : inP A2 nm = true := by rw [hnm]; decide
    have hb3 : inP A3 nm = false := by rw [hnm]; decide
    have HSW2 : Hid (sw = swPL x L (j + 1) sd) := Lib.hid (by rw [HSW.out, hnm]; rfl)
    rw [hb1] at HI1 HWR
    rw [hb2] at HI2 HWR
    rw [hb3] at HI3 HWR
    rw [HSW2.out] at HWR
    clear HSW HSW2 hb1 hb2 hb3 hnm
    go_enter Try.func42, Try.ntmps42
    go_wp2_with fail
    refine HI1.out.mono ?_
    rintro e w' ⟨rfl, rfl⟩
    go_wp2_with fail
    refine HBN.out.mono ?_
    rintro e w' ⟨rfl, rfl⟩
    by_cases h1 : 0 < n1
    · have d1 : decide (0 < n1) = true := decide_eq_true h1
      have HR : Hid (wr = true) := Lib.hid (by rw [HWR.out, d1]; rfl)
      clear HWR h1
      go_wp2
      go_ret
      exact ⟨by rw [HR.out]; rfl, HBW.out⟩
    have d1 : decide (0 < n1) = false := decide_eq_false h1
    have HWR := Lib.hid (show wr = _ by rw [HWR.out, d1])
    clear h1
    go_wp2_with fail
    refine HBI.out.mono ?_
    rintro e w' ⟨rfl, rfl⟩
    go_wp2_with fail
    refine HI2.out.mono ?_
    rintro e w' ⟨rfl, rfl⟩
    by_cases h2 : 0 < ni
    · have d2 : decide (0 < ni) = true := decide_eq_true h2
      have HR : Hid (wr = true) := Lib.hid (by rw [HWR.out, d2]; simp)
      clear HWR h2
      go_wp2
      go_ret
      exact ⟨by rw [HR.out]; rfl, HBW.out⟩
    have d2 : decide (0 < ni) = false := decide_eq_false h2
    have HWR := Lib.hid (show wr = _ by rw [HWR.out, d2])
    clear h2
    go_wp2_with fail
    refine HI3.out.mono ?_
    rintro e w' ⟨rfl, rfl⟩
    unfold swPL at HWR
    go_wp2_with fail
    refine HBT.out.mono ?_
    rintro e w' ⟨rfl, rfl⟩
    rw [HNT.out, HSD.out] at HWR
    have hq3 : (sn : Int) / 3 = ((sn / 3 : Nat) : Int) := by omega
    by_cases h4 : 0 < nt
    · have d4 : decide (0 < nt) = true := decide_eq_true h4
      have HR : Hid (wr = true) := Lib.hid (by rw [HWR.out, d4]; simp)
      clear HWR h4 hq3
      go_wp2
      go_ret
      exact ⟨by rw [HR.out]; rfl, HBW.out⟩
    have d4 : decide (0 < nt) = false := decide_eq_false h4
    by_cases h5 : sn % 3 = 0
    rotate_left
    · have d5 : (((sn : Int) % 3) != 0) = true := by simp; omega
      have HR : Hid (wr = true) := Lib.hid (by rw [HWR.out, decide_eq_false h5]; simp)
      clear HWR h4 h5 hq3
      go_wp2
      go_ret
      exact ⟨by rw [HR.out]; rfl, HBW.out⟩
    have d5 : (((sn : Int) % 3) != 0) = false := by simp; omega
    by_cases h6 : sn / 3 < 1
    · have d6 : decide ((sn : Int) / 3 < 1) = true := by simp; omega
      have HR : Hid (wr = true) := Lib.hid (by rw [HWR.out, decide_eq_true h6]; simp)
      clear HWR h4 h5 h6 hq3
      go_wp2
      go_ret
      exact ⟨by rw [HR.out]; rfl, HBW.out⟩
    have d6 : decide ((sn : Int) / 3 < 1) = false := by simp; omega
    by_cases h7 : 256 < sn / 3
    · have d7 : decide ((256 : Int) < (sn : Int) / 3) = true := by simp; omega
      have HR : Hid (wr = true) := Lib.hid (by rw [HWR.out, decide_eq_true h7]; simp)
      clear HWR h4 h5 h6 h7 hq3
      go_wp2
      go_ret
      exact ⟨by rw [HR.out]; rfl, HBW.out⟩
    have d7 : decide ((256 : Int) < (sn : Int) / 3) = false := by simp; omega
    rw [d4, decide_eq_true h5, decide_eq_false h6, decide_eq_false h7] at HWR
    clear h4 h5 h6 h7 hq3
    rcases HGC.out with hc | hc | hc | hc | hc
    all_goals
      rw [hc] at c3
    · have HR : Hid (wr = true) := Lib.hid (by rw [HWR.out, hc]; simp)
      clear HWR hc
      go_wp2
      go_ret
      exact ⟨by rw [HR.out]; rfl, HBW.out⟩
    · have HR : Hid (wr = false) := Lib.hid (by rw [HWR.out, hc]; simp)
      clear HWR hc
      go_wp2
      go_ret
      exact ⟨by rw [HR.out]; rfl, HBW.out⟩
    · have HWR := Lib.hid (show wr = decide (pw dn < sn / 3) by rw [HWR.out, hc, HDN.out]; simp)
      clear hc
      go_wp2_with fail
      refine HPW.out.mono ?_
      rintro e w' ⟨rfl, rfl⟩
      generalize pw dn = pd at *
      by_cases h8 : pd < sn / 3
      · have d8 : decide ((pd : Int) < (sn : Int) / 3) = true := by simp; omega
        have HR : Hid (wr = true) := Lib.hid (by rw [HWR.out]; exact decide_eq_true h8)
        clear HWR h8
        go_wp2
        go_ret
        exact ⟨by rw [HR.out]; rfl, HBW.out⟩
      · have d8 : decide ((pd : Int) < (sn : Int) / 3) = false := by simp; omega
        have HR : Hid (wr = false) := Lib.hid (by rw [HWR.out]; exact decide_eq_false h8)
        clear HWR h8
        go_wp2
        go_ret
        exact ⟨by rw [HR.out]; rfl, HBW.out⟩
    · have HR : Hid (wr = true) := Lib.hid (by rw [HWR.out, hc]; simp)
      clear HWR hc
      go_wp2
      go_ret
      exact ⟨by rw [HR.out]; rfl, HBW.out⟩
    · have HR : Hid (wr = false) := Lib.hid (by rw [HWR.out, hc]; simp)
      clear HWR hc
      go_wp2
      go_ret
      exact ⟨by rw [HR.out]; rfl, HBW.out⟩
  by_cases hID : nm = Nm.ID
  · have hnm := hID
    clear hID
    have ePL : ((str nm).toList == [80, 76, 84, 69]) = false := str_is nm _ false (by rw [hnm]; decide)
    have eID : ((str nm).toList == [73, 68, 65, 84]) = true := str_is nm _ true (by rw [hnm]; decide)
    have eHI : ((str nm).toList == [104, 73, 83, 84]) = false := str_is nm _ false (by rw [hnm]; decide)
    have eTR : ((str nm).toList == [116, 82, 78, 83]) = false := str_is nm _ false (by rw [hnm]; decide)
    have hb1 : inP A1 nm = false := by rw [hnm]; decide
    have hb2 : inP A2 nm = false := by rw [hnm]; decide
    have hb3 : inP A3 nm = false := by rw [hnm]; decide
    have HSW2 : Hid (sw = swID L (j + 1)) := Lib.hid (by rw [HSW.out, hnm]; rfl)
    rw [hb1] at HI1 HWR
    rw [hb2] at HI2 HWR
    rw [hb3] at HI3 HWR
    rw [HSW2.out] at HWR
    clear HSW HSW2 hb1 hb2 hb3 hnm
    go_enter Try.func42, Try.ntmps42
    go_wp2_with fail
    refine HI1.out.mono ?_
    rintro e w' ⟨rfl, rfl⟩
    go_wp2_with fail
    refine HBI.out.mono ?_
    rintro e w' ⟨rfl, rfl⟩
    go_wp2_with fail
    refine HI2.out.mono ?_
    rintro e w' ⟨rfl, rfl⟩
    go_wp2_with fail
    refine HI3.out.mono ?_
    rintro e w' ⟨rfl, rfl⟩
    unfold swID at HWR
    rw [HNI.out] at HWR
    by_cases h4 : 0 < ni
    · have d4 : decide (0 < ni) = true := decide_eq_true h4
      rw [d4] at HWR
      cases hpv : (pv == Nm.ID) with
      | true =>
        have e9 : ((str pv).toList == [73, 68, 65, 84]) = true := str_is pv _ true hpv
        have HR : Hid (wr = false) := Lib.hid (by rw [HWR.out, HPV.out, hpv]; rfl)
        clear HWR h4 hpv
        go_wp2
        go_ret
        exact ⟨by rw [HR.out]; rfl, HBW.out⟩
      | false =>
        have e9 : ((str pv).toList == [73, 68, 65, 84]) = false := str_is pv _ false hpv
        have HR : Hid (wr = true) := Lib.hid (by rw [HWR.out, HPV.out, hpv]; rfl)
        clear HWR h4 hpv
        go_wp2
        go_ret
        exact ⟨by rw [HR.out]; rfl, HBW.out⟩
    · have d4 : decide (0 < ni) = false := decide_eq_false h4
      have HR : Hid (wr = false) := Lib.hid (by rw [HWR.out, d4]; rfl)
      clear HWR h4
      go_wp2
      go_ret
      exact ⟨by rw [HR.out]; rfl, HBW.out⟩
  by_cases hHI : nm = Nm.HI
  · have hnm := hHI
    clear hHI
    have ePL : ((str nm).toList == [80, 76, 84, 69]) = false := str_is nm _ false (by rw [hnm]; decide)
    have eID : ((str nm).toList == [73, 68, 65, 84]) = false := str_is nm _ false (by rw [hnm]; decide)
    have eHI : ((str nm).toList == [104, 73, 83, 84]) = true := str_is nm _ true (by rw [hnm]; decide)
    have eTR : ((str nm).toList == [116, 82, 78, 83]) = false := str_is nm _ false (by rw [hnm]; decide)
    have hb1 : inP A1 nm = true := by rw [hnm]; decide
    have hb2 : inP A2 nm = true := by rw [hnm]; decide
    have hb3 : inP A3 nm = false := by rw [hnm]; decide
    have HSW2 : Hid (sw = decide (bef L (j + 1) [Nm.PL] = 0)) := Lib.hid (by rw [HSW.out, hnm]; rfl)
    rw [hb1] at HI1 HWR
    rw [hb2] at HI2 HWR
    rw [hb3] at HI3 HWR
    rw [HSW2.out] at HWR
    clear HSW HSW2 hb1 hb2 hb3 hnm
    go_enter Try.func42, Try.ntmps42
    go_wp2_with fail
    refine HI1.out.mono ?_
    rintro e w' ⟨rfl, rfl⟩
    go_wp2_with fail
    refine HBN.out.mono ?_
    rintro e w' ⟨rfl, rfl⟩
    by_cases h1 : 0 < n1
    · have d1 : decide (0 < n1) = true := decide_eq_true h1
      have HR : Hid (wr = true) := Lib.hid (by rw [HWR.out, d1]; rfl)
      clear HWR h1
      go_wp2
      go_ret
      exact ⟨by rw [HR.out]; rfl, HBW.out⟩
    have d1 : decide (0 < n1) = false := decide_eq_false h1
    have HWR := Lib.hid (show wr = _ by rw [HWR.out, d1])
    clear h1
    go_wp2_with fail
    refine HBI.out.mono ?_
    rintro e w' ⟨rfl, rfl⟩
    go_wp2_with fail
    refine HI2.out.mono ?_
    rintro e w' ⟨rfl, rfl⟩
    by_cases h2 : 0 < ni
    · have d2 : decide (0 < ni) = true := decide_eq_true h2
      have HR : Hid (wr = true) := Lib.hid (by rw [HWR.out, d2]; simp)
      clear HWR h2
      go_wp2
      go_ret
      exact ⟨by rw [HR.out]; rfl, HBW.out⟩
    have d2 : decide (0 < ni) = false := decide_eq_false h2
    have HWR := Lib.hid (show wr = _ by rw [HWR.out, d2])
    clear h2
    go_wp2_with fail
    refine HI3.out.mono ?_
    rintro e w' ⟨rfl, rfl⟩
    go_wp2_with fail
    refine HBP.out.mono ?_
    rintro e w' ⟨rfl, rfl⟩
    rw [HNP.out] at HWR
    by_cases h4 : np = 0
    · have d4 : ((np : Int) == 0) = true := by simp; omega
      have HR : Hid (wr = true) := Lib.hid (by rw [HWR.out]; simp [h4])
      clear HWR h4
      go_wp2
      go_ret
      exact ⟨by rw [HR.out]; rfl, HBW.out⟩
    · have d4 : ((np : Int) == 0) = false := by simp; omega
      have HR : Hid (wr = false) := Lib.hid (by rw [HWR.out]; simp [h4])
      clear HWR h4
      go_wp2
      go_ret
      exact ⟨by rw [HR.out]; rfl, HBW.out⟩
  by_cases hTR : nm = Nm.TR
  · have hnm := hTR
    clear hTR
    have ePL : ((str nm).toList == [80, 76, 84, 69]) = false := str_is nm _ false (by rw [hnm]; decide)
    have eID : ((str nm).toList == [73, 68, 65, 84]) = false := str_is nm _ false (by rw [hnm]; decide)
    have eHI : ((str nm).toList == [104, 73, 83, 84]) = false := str_is nm _ false (by rw [hnm]; decide)
    have eTR : ((str nm).toList == [116, 82, 78, 83]) = true := str_is nm _ true (by rw [hnm]; decide)
    have hb1 : inP A1 nm = true := by rw [hnm]; decide
    have hb2 : inP A2 nm = true := by rw [hnm]; decide
    have hb3 : inP A3 nm = false := by rw [hnm]; decide
    have HSW2 : Hid (sw = swTR x L (j + 1) sd) := Lib.hid (by rw [HSW.out, hnm]; rfl)
    rw [hb1] at HI1 HWR
    rw [hb2] at HI2 HWR
    rw [hb3] at HI3 HWR
    rw [HSW2.out] at HWR
    clear HSW HSW2 hb1 hb2 hb3 hnm
    go_enter Try.func42, Try.ntmps42
    go_wp2_with fail
    refine HI1.out.mono ?_
    rintro e w' ⟨rfl, rfl⟩
    go_wp2_with fail
    refine HBN.out.mono ?_
    rintro e w' ⟨rfl, rfl⟩
    by_cases h1 : 0 < n1
    · have d1 : decide (0 < n1) = true := decide_eq_true h1
      have HR : Hid (wr = true) := Lib.hid (by rw [HWR.out, d1]; rfl)
      clear HWR h1
      go_wp2
      go_ret
      exact ⟨by rw [HR.out]; rfl, HBW.out⟩
    have d1 : decide (0 < n1) = false := decide_eq_false h1
    have HWR := Lib.hid (show wr = _ by rw [HWR.out, d1])
    clear h1
    go_wp2_with fail
    refine HBI.out.mono ?_
    rintro e w' ⟨rfl, rfl⟩
    go_wp2_with fail
    refine HI2.out.mono ?_
    rintro e w' ⟨rfl, rfl⟩
    by_cases h2 : 0 < ni
    · have d2 : decide (0 < ni) = true := decide_eq_true h2
      have HR : Hid (wr = true) := Lib.hid (by rw [HWR.out, d2]; simp)
      clear HWR h2
      go_wp2
      go_ret
      exact ⟨by rw [HR.out]; rfl, HBW.out⟩
    have d2 : decide (0 < ni) = false := decide_eq_false h2
    have HWR := Lib.hid (show wr = _ by rw [HWR.out, d2])
    clear h2
    go_wp2_with fail
    refine HI3.out.mono ?_
    rintro e w' ⟨rfl, rfl⟩
    unfold swTR at HWR
    rw [HSD.out, HDN.out] at HWR
    clear HI1 HI2 HI3 HBN HBI HBP HBT
    rcases HGC.out with hc | hc | hc | hc | hc
    all_goals
      rw [hc] at c3
    · skip
      have HWR := Lib.hid (show wr = (!decide (sn = 2) || keyR sd 1 dn) by rw [HWR.out, hc]; simp)
      clear hc
      by_cases h4 : sn = 2
      rotate_left
      · have d4 : ((sn : Int) != 2) = true := by simp; omega
        have HR : Hid (wr = true) := Lib.hid (by rw [HWR.out, decide_eq_false h4]; rfl)
        clear HWR h4
        go_wp2
        go_ret
        exact ⟨by rw [HR.out]; rfl, HBW.out⟩
      have d4 : ((sn : Int) != 2) = false := by simp; omega
      have HWR := Lib.hid (show wr = keyR sd 1 dn by rw [HWR.out, decide_eq_true h4]; rfl)
      have HN := Lib.hid h4
      obtain ⟨b3, off3, rfl, hb3, _⟩ := HDT.out.at' 0 (by omega)
      clear h4
      have HKT : Hid (∀ q, q < 1 → pw dn ≤ kr sd q → keyR sd 1 dn = true) := Lib.hid (fun q hq h => by unfold keyR; rw [List.any_eq_true]; exact ⟨q, by simpa using hq, decide_eq_true h⟩)
      have HKN : Hid ((∀ q, q < 1 → ¬ pw dn ≤ kr sd q) → keyR sd 1 dn = false) := Lib.hid (fun h => by unfold keyR; rw [List.any_eq_false]; intro q hq; simpa using h q (by simpa using hq))
      obtain ⟨res, hres⟩ : ∃ res, wr = res := ⟨_, rfl⟩
      have HWR := Lib.hid (show res = keyR sd 1 dn by rw [← hres]; exact HWR.out)
      have HRES := Lib.hid hres
      clear hres
      generalize pw dn = pd at *
      go_wp2
      go_loopw [11] (fun v wr => ∃ q i : Nat, q ≤ 1 ∧ v = .int .i64 (i : Nat) ∧ Hid (i = 2 * q) ∧ Hid (∀ t, t < q → ¬ pd ≤ kr sd t) ∧ Hid (Below w.heap.size w wr ∧ Below w2.heap.size w2 wr)) (fun v _ => 2 - (intOf v).toNat)
      case atStart => exact ⟨0, 0, by omega, rfl, Lib.hid rfl, Lib.hid (fun t ht => by omega), Lib.hid ⟨HBW.out, Below.refl _ _⟩⟩
      case round =>
        obtain ⟨q, i, hq, rfl, HI, HA, HB⟩ := hrel
        by_cases hlt : i < sn
        · have hi2 : i = 2 * q := HI.out
          have hs2 : sn = 2 := HN.out
          have hqm : q < 1 := by omega
          obtain ⟨i1, hi1⟩ : ∃ i1, i1 = i + 1 := ⟨_, rfl⟩
          obtain ⟨b4, off4, e4, _, t0⟩ := HDT.out.at' i hlt
          simp only [Option.some.injEq, Addr.mk.injEq, and_true] at e4
          obtain ⟨rfl, rfl⟩ := e4
          obtain ⟨b4, off4, e4, _, t1⟩ := HDT.out.at' i1 (by omega)
          simp only [Option.some.injEq, Addr.mk.injEq, and_true] at e4
          obtain ⟨rfl, rfl⟩ := e4
          have hbb := HB.out.2
          have t0 := (hbb.cell (p := ⟨b3, off3 + i, none⟩) hb3).trans t0
          have t1 := (hbb.cell (p := ⟨b3, off3 + i1, none⟩) hb3).trans t1
          have y2 := (hbb.cell (p := ⟨w.heap.size, 2, none⟩) (by show w.heap.size < _; omega)).trans c2
          have y1 := (hbb.cell (p := ⟨w.heap.size + 1, 1, none⟩) (by show w.heap.size + 1 < _; omega)).trans k1
          clear hbb
          have hi1b : i1 < sn := by omega
          have hfold2 : (i : Int) + 1 = (i1 : Int) := by omega
          have HK : Hid (kr sd q = 256 * gb sd i + gb sd i1) := Lib.hid (by unfold kr; rw [hi1, hi2])
          have hu := gb_lt sd i
          have hv := gb_lt sd i1
          generalize gb sd i = u at *
          generalize gb sd i1 = v at *
          obtain ⟨K, hK⟩ : ∃ K, K = 256 * u + v := ⟨_, rfl⟩
          have HK := Lib.hid (show kr sd q = K by rw [HK.out, hK])
          have HI1 := Lib.hid hi1
          have hdl3 : i1 ≤ 2 := by omega
          clear hi1 hi2 hs2
          by_cases h6 : pd ≤ K
          · have HD7 := Lib.hid (show (pd : Int) ≤ 256 * (u : Int) + (v : Int) by omega)
            have HR : Hid (res = true) := Lib.hid (by rw [HWR.out]; exact HKT.out q hqm (by rw [HK.out]; exact h6))
            clear HKT HKN HWR h6 HA HK hK
            go_wp2_with fail
            go_quiet (first | (go_at_call 70; exact Calls.quiet_of_same ((HPQ.out _).mono (fun e w' h => ⟨h.1, h.2.symm⟩))))
            rename_i nq
            clear hu hv
            have HW := Lib.hid (below_then HB.out.1 (drewN_is _ nq))
            go_wp2
            all_goals try (exfalso; have h9 := HD7.out; rename_i h; omega)
            go_ret
            exact ⟨by rw [HRES.out, HR.out]; rfl, HW.out⟩
          · have HD7 := Lib.hid (show ¬ (pd : Int) ≤ 256 * (u : Int) + (v : Int) by omega)
            have HA2 : Hid (∀ t, t < q + 1 → ¬ pd ≤ kr sd t) := Lib.hid (fun t ht => by
              rcases Nat.lt_succ_iff_lt_or_eq.1 ht with h | rfl
              · exact HA.out t h
              · rw [HK.out]; exact h6)
            clear h6 HA HK hK
            go_wp2_with fail
            go_quiet (first | (go_at_call 70; exact Calls.quiet_of_same ((HPQ.out _).mono (fun e w' h => ⟨h.1, h.2.symm⟩))))
            rename_i nq
            clear hu hv
            have HW : Hid (Below w.heap.size w (wr.drewN nq) ∧ Below w2.heap.size w2 (wr.drewN nq)) := Lib.hid ⟨below_then HB.out.1 (drewN_is _ nq), below_then HB.out.2 (drewN_is _ nq)⟩
            go_wp2
            all_goals try (exfalso; have h9 := HD7.out; rename_i h; omega)
            go_roundw
            case rel => exact ⟨q + 1, i + 2, by omega, by go_num, Lib.hid (by have := HI.out; omega), HA2, HW⟩
            case measure => simp [intOf]; omega
        · have HR : Hid (res = false) := Lib.hid (by
            rw [HWR.out]
            exact HKN.out (fun t ht => HA.out t (by have := HI.out; have := HN.out; omega)))
          clear HKT HKN HWR HA
          go_wp2
          go_ret
          exact ⟨by rw [HRES.out, HR.out]; rfl, HB.out.1⟩
    · skip
      have HWR := Lib.hid (show wr = (!decide (sn = 6) || keyR sd 3 dn) by rw [HWR.out, hc]; simp)
      clear hc
      by_cases h4 : sn = 6
      rotate_left
      · have d4 : ((sn : Int) != 6) = true := by simp; omega
        have HR : Hid (wr = true) := Lib.hid (by rw [HWR.out, decide_eq_false h4]; rfl)
        clear HWR h4
        go_wp2
        go_ret
        exact ⟨by rw [HR.out]; rfl, HBW.out⟩
      have d4 : ((sn : Int) != 6) = false := by simp; omega
      have HWR := Lib.hid (show wr = keyR sd 3 dn by rw [HWR.out, decide_eq_true h4]; rfl)
      have HN := Lib.hid h4
      obtain ⟨b3, off3, rfl, hb3, _⟩ := HDT.out.at' 0 (by omega)
      clear h4
      have HKT : Hid (∀ q, q < 3 → pw dn ≤ kr sd q → keyR sd 3 dn = true) := Lib.hid (fun q hq h => by unfold keyR; rw [List.any_eq_true]; exact ⟨q, by simpa using hq, decide_eq_true h⟩)
      have HKN : Hid ((∀ q, q < 3 → ¬ pw dn ≤ kr sd q) → keyR sd 3 dn = false) := Lib.hid (fun h => by unfold keyR; rw [List.any_eq_false]; intro q hq; simpa using h q (by simpa using hq))
      obtain ⟨res, hres⟩ : ∃ res, wr = res := ⟨_, rfl⟩
      have HWR := Lib.hid (show res = keyR sd 3 dn by rw [← hres]; exact HWR.out)
      have HRES := Lib.hid hres
      clear hres
      generalize pw dn = pd at *
      go_wp2
      go_loopw [11] (fun v wr => ∃ q i : Nat, q ≤ 3 ∧ v = .int .i64 (i : Nat) ∧ Hid (i = 2 * q) ∧ Hid (∀ t, t < q → ¬ pd ≤ kr sd t) ∧ Hid (Below w.heap.size w wr ∧ Below w2.heap.size w2 wr)) (fun v _ => 6 - (intOf v).toNat)
      case atStart => exact ⟨0, 0, by omega, rfl, Lib.hid rfl, Lib.hid (fun t ht => by omega), Lib.hid ⟨HBW.out, Below.refl _ _⟩⟩
      case round =>
        obtain ⟨q, i, hq, rfl, HI, HA, HB⟩ := hrel
        by_cases hlt : i < sn
        · have hi2 : i = 2 * q := HI.out
          have hs2 : sn = 6 := HN.out
          have hqm : q < 3 := by omega
          obtain ⟨i1, hi1⟩ : ∃ i1, i1 = i + 1 := ⟨_, rfl⟩
          obtain ⟨b4, off4, e4, _, t0⟩ := HDT.out.at' i hlt
          simp only [Option.some.injEq, Addr.mk.injEq, and_true] at e4
          obtain ⟨rfl, rfl⟩ := e4
          obtain ⟨b4, off4, e4, _, t1⟩ := HDT.out.at' i1 (by omega)
          simp only [Option.some.injEq, Addr.mk.injEq, and_true] at e4
          obtain ⟨rfl, rfl⟩ := e4
          have hbb := HB.out.2
          have t0 := (hbb.cell (p := ⟨b3, off3 + i, none⟩) hb3).trans t0
          have t1 := (hbb.cell (p := ⟨b3, off3 + i1, none⟩) hb3).trans t1
          have y2 := (hbb.cell (p := ⟨w.heap.size, 2, none⟩) (by show w.heap.size < _; omega)).trans c2
          have y1 := (hbb.cell (p := ⟨w.heap.size + 1, 1, none⟩) (by show w.heap.size + 1 < _; omega)).trans k1
          clear hbb
          have hi1b : i1 < sn := by omega
          have hfold2 : (i : Int) + 1 = (i1 : Int) := by omega
          have HK : Hid (kr sd q = 256 * gb sd i + gb sd i1) := Lib.hid (by unfold kr; rw [hi1, hi2])
          have hu := gb_lt sd i
          have hv := gb_lt sd i1
          generalize gb sd i = u at *
          generalize gb sd i1 = v at *
          obtain ⟨K, hK⟩ : ∃ K, K = 256 * u + v := ⟨_, rfl⟩
          have HK := Lib.hid (show kr sd q = K by rw [HK.out, hK])
          have HI1 := Lib.hid hi1
          have hdl3 : i1 ≤ 6 := by omega
          clear hi1 hi2 hs2
          by_cases h6 : pd ≤ K
          · have HD7 := Lib.hid (show (pd : Int) ≤ 256 * (u : Int) + (v : Int) by omega)
            have HR : Hid (res = true) := Lib.hid (by rw [HWR.out]; exact HKT.out q hqm (by rw [HK.out]; exact h6))
            clear HKT HKN HWR h6 HA HK hK
            go_wp2_with fail
            go_quiet (first | (go_at_call 70; exact Calls.quiet_of_same ((HPQ.out _).mono (fun e w' h => ⟨h.1, h.2.symm⟩))))
            rename_i nq
            clear hu hv
            have HW := Lib.hid (below_then HB.out.1 (drewN_is _ nq))
            go_wp2
            all_goals try (exfalso; have h9 := HD7.out; rename_i h; omega)
            go_ret
            exact ⟨by rw [HRES.out, HR.out]; rfl, HW.out⟩
          · have HD7 := Lib.hid (show ¬ (pd : Int) ≤ 256 * (u : Int) + (v : Int) by omega)
            have HA2 : Hid (∀ t, t < q + 1 → ¬ pd ≤ kr sd t) := Lib.hid (fun t ht => by
              rcases Nat.lt_succ_iff_lt_or_eq.1 ht with h | rfl
              · exact HA.out t h
              · rw [HK.out]; exact h6)
            clear h6 HA HK hK
            go_wp2_with fail
            go_quiet (first | (go_at_call 70; exact Calls.quiet_of_same ((HPQ.out _).mono (fun e w' h => ⟨h.1, h.2.symm⟩))))
            rename_i nq
            clear hu hv
            have HW : Hid (Below w.heap.size w (wr.drewN nq) ∧ Below w2.heap.size w2 (wr.drewN nq)) := Lib.hid ⟨below_then HB.out.1 (drewN_is _ nq), below_then HB.out.2 (drewN_is _ nq)⟩
            go_wp2
            all_goals try (exfalso; have h9 := HD7.out; rename_i h; omega)
            go_roundw
            case rel => exact ⟨q + 1, i + 2, by omega, by go_num, Lib.hid (by have := HI.out; omega), HA2, HW⟩
            case measure => simp [intOf]; omega
        · have HR : Hid (res = false) := Lib.hid (by
            rw [HWR.out]
            exact HKN.out (fun t ht => HA.out t (by have := HI.out; have := HN.out; omega)))
          clear HKT HKN HWR HA
          go_wp2
          go_ret
          exact ⟨by rw [HRES.out, HR.out]; rfl, HB.out.1⟩
    · have HWR := Lib.hid (show wr = (decide (sn < 1) || decide (entR (L.take (j + 1)) < sn)) by rw [HWR.out, hc]; simp)
      clear hc
      by_cases h4 : sn < 1
      · have d4 : decide ((sn : Int) < 1) = true := by simp; omega
        have HR : Hid (wr = true) := Lib.hid (by rw [HWR.out, decide_eq_true h4]; rfl)
        clear HWR h4
        go_wp2
        go_ret
        exact ⟨by rw [HR.out]; rfl, HBW.out⟩
      have d4 : decide ((sn : Int) < 1) = false := by simp; omega
      have HWR := Lib.hid (show wr = decide (entR (L.take (j + 1)) < sn) by rw [HWR.out, decide_eq_false h4]; rfl)
      clear h4
      go_wp2_with fail
      refine HEN.out.mono ?_
      rintro e w' ⟨rfl, rfl⟩
      generalize entR (L.take (j + 1)) = en at *
      by_cases h5 : en < sn
      · have d5 : decide (en < sn) = true := decide_eq_true h5
        have HR : Hid (wr = true) := Lib.hid (by rw [HWR.out, d5])
        clear HWR h5
        go_wp2
        go_ret
        exact ⟨by rw [HR.out]; rfl, HBW.out⟩
      · have d5 : decide (en < sn) = false := decide_eq_false h5
        have HR : Hid (wr = false) := Lib.hid (by rw [HWR.out, d5])
        clear HWR h5
        go_wp2
        go_ret
        exact ⟨by rw [HR.out]; rfl, HBW.out⟩
    · have HR : Hid (wr = true) := Lib.hid (by rw [HWR.out, hc]; simp)
      clear HWR hc
      go_wp2
      go_ret
      exact ⟨by rw [HR.out]; rfl, HBW.out⟩
    · have HR : Hid (wr = true) := Lib.hid (by rw [HWR.out, hc]; simp)
      clear HWR hc
      go_wp2
      go_ret
      exact ⟨by rw [HR.out]; rfl, HBW.out⟩
  cases hb1 : inP A1 nm
  all_goals cases hb2 : inP A2 nm
  all_goals cases hb3 : inP A3 nm
  · skip
    have ePL : ((str nm).toList == [80, 76, 84, 69]) = false := str_is nm _ false (by simpa [Nm.PL] using hPL)
    have eID : ((str nm).toList == [73, 68, 65, 84]) = false := str_is nm _ false (by simpa [Nm.ID] using hID)
    have eHI : ((str nm).toList == [104, 73, 83, 84]) = false := str_is nm _ false (by simpa [Nm.HI] using hHI)
    have eTR : ((str nm).toList == [116, 82, 78, 83]) = false := str_is nm _ false (by simpa [Nm.TR] using hTR)
    have HSW2 : Hid (sw = false) := Lib.hid (by rw [HSW.out]; unfold swR; rw [if_neg hPL, if_neg hID, if_neg hHI, if_neg hTR])
    rw [hb1] at HI1 HWR
    rw [hb2] at HI2 HWR
    rw [hb3] at HI3 HWR
    rw [HSW2.out] at HWR
    clear HSW HSW2 hb1 hb2 hb3 hPL hID hHI hTR
    go_enter Try.func42, Try.ntmps42
    go_wp2_with fail
    refine HI1.out.mono ?_
    rintro e w' ⟨rfl, rfl⟩
    go_wp2_with fail
    refine HBI.out.mono ?_
    rintro e w' ⟨rfl, rfl⟩
    go_wp2_with fail
    refine HI2.out.mono ?_
    rintro e w' ⟨rfl, rfl⟩
    go_wp2_with fail
    refine HI3.out.mono ?_
    rintro e w' ⟨rfl, rfl⟩
    have HR : Hid (wr = false) := Lib.hid (by rw [HWR.out]; simp)
    go_wp2
    go_ret
    exact ⟨by rw [HR.out]; rfl, HBW.out⟩
  · skip
    have ePL : ((str nm).toList == [80, 76, 84, 69]) = false := str_is nm _ false (by simpa [Nm.PL] using hPL)
    have eID : ((str nm).toList == [73, 68, 65, 84]) = false := str_is nm _ false (by simpa [Nm.ID] using hID)
    have eHI : ((str nm).toList == [104, 73, 83, 84]) = false := str_is nm _ false (by simpa [Nm.HI] using hHI)
    have eTR : ((str nm).toList == [116, 82, 78, 83]) = false := str_is nm _ false (by simpa [Nm.TR] using hTR)
    have HSW2 : Hid (sw = false) := Lib.hid (by rw [HSW.out]; unfold swR; rw [if_neg hPL, if_neg hID, if_neg hHI, if_neg hTR])
    rw [hb1] at HI1 HWR
    rw [hb2] at HI2 HWR
    rw [hb3] at HI3 HWR
    rw [HSW2.out] at HWR
    clear HSW HSW2 hb1 hb2 hb3 hPL hID hHI hTR
    go_enter Try.func42, Try.ntmps42
    go_wp2_with fail
    refine HI1.out.mono ?_
    rintro e w' ⟨rfl, rfl⟩
    go_wp2_with fail
    refine HBI.out.mono ?_
    rintro e w' ⟨rfl, rfl⟩
    go_wp2_with fail
    refine HI2.out.mono ?_
    rintro e w' ⟨rfl, rfl⟩
    go_wp2_with fail
    refine HI3.out.mono ?_
    rintro e w' ⟨rfl, rfl⟩
    go_wp2_with fail
    refine HBP.out.mono ?_
    rintro e w' ⟨rfl, rfl⟩
    by_cases h3 : 0 < np
    · have d3 : decide (0 < np) = true := decide_eq_true h3
      have HR : Hid (wr = true) := Lib.hid (by rw [HWR.out, d3]; simp)
      clear HWR h3
      go_wp2
      go_ret
      exact ⟨by rw [HR.out]; rfl, HBW.out⟩
    have d3 : decide (0 < np) = false := decide_eq_false h3
    have HWR := Lib.hid (show wr = _ by rw [HWR.out, d3])
    clear h3
    have HR : Hid (wr = false) := Lib.hid (by rw [HWR.out]; simp)
    go_wp2
    go_ret
    exact ⟨by rw [HR.out]; rfl, HBW.out⟩
  · skip
    have ePL : ((str nm).toList == [80, 76, 84, 69]) = false := str_is nm _ false (by simpa [Nm.PL] using hPL)
    have eID : ((str nm).toList == [73, 68, 65, 84]) = false := str_is nm _ false (by simpa [Nm.ID] using hID)
    have eHI : ((str nm).toList == [104, 73, 83, 84]) = false := str_is nm _ false (by simpa [Nm.HI] using hHI)
    have eTR : ((str nm).toList == [116, 82, 78, 83]) = false := str_is nm _ false (by simpa [Nm.TR] using hTR)
    have HSW2 : Hid (sw = false) := Lib.hid (by rw [HSW.out]; unfold swR; rw [if_neg hPL, if_neg hID, if_neg hHI, if_neg hTR])
    rw [hb1] at HI1 HWR
    rw [hb2] at HI2 HWR
    rw [hb3] at HI3 HWR
    rw [HSW2.out] at HWR
    clear HSW HSW2 hb1 hb2 hb3 hPL hID hHI hTR
    go_enter Try.func42, Try.ntmps42
    go_wp2_with fail
    refine HI1.out.mono ?_
    rintro e w' ⟨rfl, rfl⟩
    go_wp2_with fail
    refine HBI.out.mono ?_
    rintro e w' ⟨rfl, rfl⟩
    go_wp2_with fail
    refine HI2.out.mono ?_
    rintro e w' ⟨rfl, rfl⟩
    by_cases h2 : 0 < ni
    · have d2 : decide (0 < ni) = true := decide_eq_true h2
      have HR : Hid (wr = true) := Lib.hid (by rw [HWR.out, d2]; simp)
      clear HWR h2
      go_wp2
      go_ret
      exact ⟨by rw [HR.out]; rfl, HBW.out⟩
    have d2 : decide (0 < ni) = false := decide_eq_false h2
    have HWR := Lib.hid (show wr = _ by rw [HWR.out, d2])
    clear h2
    go_wp2_with fail
    refine HI3.out.mono ?_
    rintro e w' ⟨rfl, rfl⟩
    have HR : Hid (wr = false) := Lib.hid (by rw [HWR.out]; simp)
    go_wp2
    go_ret
    exact ⟨by rw [HR.out]; rfl, HBW.out⟩
  · skip
    have ePL : ((str nm).toList == [80, 76, 84, 69]) = false := str_is nm _ false (by simpa [Nm.PL] using hPL)
    have eID : ((str nm).toList == [73, 68, 65, 84]) = false := str_is nm _ false (by simpa [Nm.ID] using hID)
    have eHI : ((str nm).toList == [104, 73, 83, 84]) = false := str_is nm _ false (by simpa [Nm.HI] using hHI)
    have eTR : ((str nm).toList == [116, 82, 78, 83]) = false := str_is nm _ false (by simpa [Nm.TR] using hTR)
    have HSW2 : Hid (sw = false) := Lib.hid (by rw [HSW.out]; unfold swR; rw [if_neg hPL, if_neg hID, if_neg hHI, if_neg hTR])
    rw [hb1] at HI1 HWR
    rw [hb2] at HI2 HWR
    rw [hb3] at HI3 HWR
    rw [HSW2.out] at HWR
    clear HSW HSW2 hb1 hb2 hb3 hPL hID hHI hTR
    go_enter Try.func42, Try.ntmps42
    go_wp2_with fail
    refine HI1.out.mono ?_
    rintro e w' ⟨rfl, rfl⟩
    go_wp2_with fail
    refine HBI.out.mono ?_
    rintro e w' ⟨rfl, rfl⟩
    go_wp2_with fail
    refine HI2.out.mono ?_
    rintro e w' ⟨rfl, rfl⟩
    by_cases h2 : 0 < ni
    · have d2 : decide (0 < ni) = true := decide_eq_true h2
      have HR : Hid (wr = true) := Lib.hid (by rw [HWR.out, d2]; simp)
      clear HWR h2
      go_wp2
      go_ret
      exact ⟨by rw [HR.out]; rfl, HBW.out⟩
    have d2 : decide (0 < ni) = false := decide_eq_false h2
    have HWR := Lib.hid (show wr = _ by rw [HWR.out, d2])
    clear h2
    go_wp2_with fail
    refine HI3.out.mono ?_
    rintro e w' ⟨rfl, rfl⟩
    go_wp2_with fail
    refine HBP.out.mono ?_
    rintro e w' ⟨rfl, rfl⟩
    by_cases h3 : 0 < np
    · have d3 : decide (0 < np) = true := decide_eq_true h3
      have HR : Hid (wr = true) := Lib.hid (by rw [HWR.out, d3]; simp)
      clear HWR h3
      go_wp2
      go_ret
      exact ⟨by rw [HR.out]; rfl, HBW.out⟩
    have d3 : decide (0 < np) = false := decide_eq_false h3
    have HWR := Lib.hid (show wr = _ by rw [HWR.out, d3])
    clear h3
    have HR : Hid (wr = false) := Lib.hid (by rw [HWR.out]; simp)
    go_wp2
    go_ret
    exact ⟨by rw [HR.out]; rfl, HBW.out⟩
  · skip
    have ePL : ((str nm).toList == [80, 76, 84, 69]) = false := str_is nm _ false (by simpa [Nm.PL] using hPL)
    have eID : ((str nm).toList == [73, 68, 65, 84]) = false := str_is nm _ false (by simpa [Nm.ID] using hID)
    have eHI : ((str nm).toList == [104, 73, 83, 84]) = false := str_is nm _ false (by simpa [Nm.HI] using hHI)
    have eTR : ((str nm).toList == [116, 82, 78, 83]) = false := str_is nm _ false (by simpa [Nm.TR] using hTR)
    have HSW2 : Hid (sw = false) := Lib.hid (by rw [HSW.out]; unfold swR; rw [if_neg hPL, if_neg hID, if_neg hHI, if_neg hTR])
    rw [hb1] at HI1 HWR
    rw [hb2] at HI2 HWR
    rw [hb3] at HI3 HWR
    rw [HSW2.out] at HWR
    clear HSW HSW2 hb1 hb2 hb3 hPL hID hHI hTR
    go_enter Try.func42, Try.ntmps42
    go_wp2_with fail
    refine HI1.out.mono ?_
    rintro e w' ⟨rfl, rfl⟩
    go_wp2_with fail
    refine HBN.out.mono ?_
    rintro e w' ⟨rfl, rfl⟩
    by_cases h1 : 0 < n1
    · have d1 : decide (0 < n1) = true := decide_eq_true h1
      have HR : Hid (wr = true) := Lib.hid (by rw [HWR.out, d1]; rfl)
      clear HWR h1
      go_wp2
      go_ret
      exact ⟨by rw [HR.out]; rfl, HBW.out⟩
    have d1 : decide (0 < n1) = false := decide_eq_false h1
    have HWR := Lib.hid (show wr = _ by rw [HWR.out, d1])
    clear h1
    go_wp2_with fail
    refine HBI.out.mono ?_
    rintro e w' ⟨rfl, rfl⟩
    go_wp2_with fail
    refine HI2.out.mono ?_
    rintro e w' ⟨rfl, rfl⟩
    go_wp2_with fail
    refine HI3.out.mono ?_
    rintro e w' ⟨rfl, rfl⟩
    have HR : Hid (wr = false) := Lib.hid (by rw [HWR.out]; simp)
    go_wp2
    go_ret
    exact ⟨by rw [HR.out]; rfl, HBW.out⟩
  · skip
    have ePL : ((str nm).toList == [80, 76, 84, 69]) = false := str_is nm _ false (by simpa [Nm.PL] using hPL)
    have eID : ((str nm).toList == [73, 68, 65, 84]) = false := str_is nm _ false (by simpa [Nm.ID] using hID)
    have eHI : ((str nm).toList == [104, 73, 83, 84]) = false := str_is nm _ false (by simpa [Nm.HI] using hHI)
    have eTR : ((str nm).toList == [116, 82, 78, 83]) = false := str_is nm _ false (by simpa [Nm.TR] using hTR)
    have HSW2 : Hid (sw = false) := Lib.hid (by rw [HSW.out]; unfold swR; rw [if_neg hPL, if_neg hID, if_neg hHI, if_neg hTR])
    rw [hb1] at HI1 HWR
    rw [hb2] at HI2 HWR
    rw [hb3] at HI3 HWR
    rw [HSW2.out] at HWR
    clear HSW HSW2 hb1 hb2 hb3 hPL hID hHI hTR
    go_enter Try.func42, Try.ntmps42
    go_wp2_with fail
    refine HI1.out.mono ?_
    rintro e w' ⟨rfl, rfl⟩
    go_wp2_with fail
    refine HBN.out.mono ?_
    rintro e w' ⟨rfl, rfl⟩
    by_cases h1 : 0 < n1
    · have d1 : decide (0 < n1) = true := decide_eq_true h1
      have HR : Hid (wr = true) := Lib.hid (by rw [HWR.out, d1]; rfl)
      clear HWR h1
      go_wp2
      go_ret
      exact ⟨by rw [HR.out]; rfl, HBW.out⟩
    have d1 : decide (0 < n1) = false := decide_eq_false h1
    have HWR := Lib.hid (show wr = _ by rw [HWR.out, d1])
    clear h1
    go_wp2_with fail
    refine HBI.out.mono ?_
    rintro e w' ⟨rfl, rfl⟩
    go_wp2_with fail
    refine HI2.out.mono ?_
    rintro e w' ⟨rfl, rfl⟩
    go_wp2_with fail
    refine HI3.out.mono ?_
    rintro e w' ⟨rfl, rfl⟩
    go_wp2_with fail
    refine HBP.out.mono ?_
    rintro e w' ⟨rfl, rfl⟩
    by_cases h3 : 0 < np
    · have d3 : decide (0 < np) = true := decide_eq_true h3
      have HR : Hid (wr = true) := Lib.hid (by rw [HWR.out, d3]; simp)
      clear HWR h3
      go_wp2
      go_ret
      exact ⟨by rw [HR.out]; rfl, HBW.out⟩
    have d3 : decide (0 < np) = false := decide_eq_false h3
    have HWR := Lib.hid (show wr = _ by rw [HWR.out, d3])
    clear h3
    have HR : Hid (wr = false) := Lib.hid (by rw [HWR.out]; simp)
    go_wp2
    go_ret
    exact ⟨by rw [HR.out]; rfl, HBW.out⟩
  · skip
    have ePL : ((str nm).toList == [80, 76, 84, 69]) = false := str_is nm _ false (by simpa [Nm.PL] using hPL)
    have eID : ((str nm).toList == [73, 68, 65, 84]) = false := str_is nm _ false (by simpa [Nm.ID] using hID)
    have eHI : ((str nm).toList == [104, 73, 83, 84]) = false := str_is nm _ false (by simpa [Nm.HI] using hHI)
    have eTR : ((str nm).toList == [116, 82, 78, 83]) = false := str_is nm _ false (by simpa [Nm.TR] using hTR)
    have HSW2 : Hid (sw = false) := Lib.hid (by rw [HSW.out]; unfold swR; rw [if_neg hPL, if_neg hID, if_neg hHI, if_neg hTR])
    rw [hb1] at HI1 HWR
    rw [hb2] at HI2 HWR
    rw [hb3] at HI3 HWR
    rw [HSW2.out] at HWR
    clear HSW HSW2 hb1 hb2 hb3 hPL hID hHI hTR
    go_enter Try.func42, Try.ntmps42
    go_wp2_with fail
    refine HI1.out.mono ?_
    rintro e w' ⟨rfl, rfl⟩
    go_wp2_with fail
    refine HBN.out.mono ?_
    rintro e w' ⟨rfl, rfl⟩
    by_cases h1 : 0 < n1
    · have d1 : decide (0 < n1) = true := decide_eq_true h1
      have HR : Hid (wr = true) := Lib.hid (by rw [HWR.out, d1]; rfl)
      clear HWR h1
      go_wp2
      go_ret
      exact ⟨by rw [HR.out]; rfl, HBW.out⟩
    have d1 : decide (0 < n1) = false := decide_eq_false h1
    have HWR := Lib.hid (show wr = _ by rw [HWR.out, d1])
    clear h1
    go_wp2_with fail
    refine HBI.out.mono ?_
    rintro e w' ⟨rfl, rfl⟩
    go_wp2_with fail
    refine HI2.out.mono ?_
    rintro e w' ⟨rfl, rfl⟩
    by_cases h2 : 0 < ni
    · have d2 : decide (0 < ni) = true := decide_eq_true h2
      have HR : Hid (wr = true) := Lib.hid (by rw [HWR.out, d2]; simp)
      clear HWR h2
      go_wp2
      go_ret
      exact ⟨by rw [HR.out]; rfl, HBW.out⟩
    have d2 : decide (0 < ni) = false := decide_eq_false h2
    have HWR := Lib.hid (show wr = _ by rw [HWR.out, d2])
    clear h2
    go_wp2_with fail
    refine HI3.out.mono ?_
    rintro e w' ⟨rfl, rfl⟩
    have HR : Hid (wr = false) := Lib.hid (by rw [HWR.out]; simp)
    go_wp2
    go_ret
    exact ⟨by rw [HR.out]; rfl, HBW.out⟩
  · skip
    have ePL : ((str nm).toList == [80, 76, 84, 69]) = false := str_is nm _ false (by simpa [Nm.PL] using hPL)
    have eID : ((str nm).toList == [73, 68, 65, 84]) = false := str_is nm _ false (by simpa [Nm.ID] using hID)
    have eHI : ((str nm).toList == [104, 73, 83, 84]) = false := str_is nm _ false (by simpa [Nm.HI] using hHI)
    have eTR : ((str nm).toList == [116, 82, 78, 83]) = false := str_is nm _ false (by simpa [Nm.TR] using hTR)
    have HSW2 : Hid (sw = false) := Lib.hid (by rw [HSW.out]; unfold swR; rw [if_neg hPL, if_neg hID, if_neg hHI, if_neg hTR])
    rw [hb1] at HI1 HWR
    rw [hb2] at HI2 HWR
    rw [hb3] at HI3 HWR
    rw [HSW2.out] at HWR
    clear HSW HSW2 hb1 hb2 hb3 hPL hID hHI hTR
    go_enter Try.func42, Try.ntmps42
    go_wp2_with fail
    refine HI1.out.mono ?_
    rintro e w' ⟨rfl, rfl⟩
    go_wp2_with fail
    refine HBN.out.mono ?_
    rintro e w' ⟨rfl, rfl⟩
    by_cases h1 : 0 < n1
    · have d1 : decide (0 < n1) = true := decide_eq_true h1
      have HR : Hid (wr = true) := Lib.hid (by rw [HWR.out, d1]; rfl)
      clear HWR h1
      go_wp2
      go_ret
      exact ⟨by rw [HR.out]; rfl, HBW.out⟩
    have d1 : decide (0 < n1) = false := decide_eq_false h1
    have HWR := Lib.hid (show wr = _ by rw [HWR.out, d1])
    clear h1
    go_wp2_with fail
    refine HBI.out.mono ?_
    rintro e w' ⟨rfl, rfl⟩
    go_wp2_with fail
    refine HI2.out.mono ?_
    rintro e w' ⟨rfl, rfl⟩
    by_cases h2 : 0 < ni
    · have d2 : decide (0 < ni) = true := decide_eq_true h2
      have HR : Hid (wr = true) := Lib.hid (by rw [HWR.out, d2]; simp)
      clear HWR h2
      go_wp2
      go_ret
      exact ⟨by rw [HR.out]; rfl, HBW.out⟩
    have d2 : decide (0 < ni) = false := decide_eq_false h2
    have HWR := Lib.hid (show wr = _ by rw [HWR.out, d2])
    clear h2
    go_wp2_with fail
    refine HI3.out.mono ?_
    rintro e w' ⟨rfl, rfl⟩
    go_wp2_with fail
    refine HBP.out.mono ?_
    rintro e w' ⟨rfl, rfl⟩
    by_cases h3 : 0 < np
    · have d3 : decide (0 < np) = true := decide_eq_true h3
      have HR : Hid (wr = true) := Lib.hid (by rw [HWR.out, d3]; simp)
      clear HWR h3
      go_wp2
      go_ret
      exact ⟨by rw [HR.out]; rfl, HBW.out⟩
    have d3 : decide (0 < np) = false := decide_eq_false h3
    have HWR := Lib.hid (show wr = _ by rw [HWR.out, d3])
    clear h3
    have HR : Hid (wr = false) := Lib.hid (by rw [HWR.out]; simp)
    go_wp2
    go_ret
    exact ⟨by rw [HR.out]; rfl, HBW.out⟩
end Hd
end Go.Proofs.Ytbgaaocgdjkkeaa
end
