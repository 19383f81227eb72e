/- What the laws on lengths share. block.fixedLengths, complete, bestLengths: their contracts. block.complete, bestLengths: their contracts. Level by level comes to what the best lengths cost. -/
import Derived.Test.YtjjbgdmalefdlaaGreatDoorZ3
import Derived.Test.YtjjbgdmalefdlaaGreatDoorZ6
import Derived.Test.YtjjbgdmalefdlaaGreatDoorZ8
import Derived.Test.YtjjbgdmalefdlaaGreatDoorZ14
import Derived.Test.YtjjbgdmalefdlaaGreatDoorZ16
import Derived.Test.YtjjbgdmalefdlaaGreatDoorZ21
import Derived.Test.YtjjbgdmalefdlaaGreatDoorZ39
import Derived.Test.YtjjbgdmalefdlaaGreatDoorZ43
import Derived.Test.YtjjbgdmalefdlaaGreatDoorZ45
import Derived.Test.YtjjbgdmalefdlaaGreatDoorZ46
set_option linter.unusedSimpArgs false
set_option linter.unusedVariables false
section
namespace Go.Proofs.YtjjbgdmalefdlaaGreatDoor
open Go.RowKit

theorem wrap_pow16 (n : Nat) (h : n ≤ 16) : wrap64 ((2 : Int) ^ n) = ((2 ^ n : Nat) : Int) := by
  have hcast : ((2 ^ n : Nat) : Int) = (2 : Int) ^ n := Int.natCast_pow 2 n
  have hpn : 2 ^ n ≤ 2 ^ 16 := Nat.pow_le_pow_right (by omega) h
  have hpp : 0 < 2 ^ n := Nat.pow_pos (by omega)
  rw [← hcast]
  generalize 2 ^ n = p at *
  exact IntWalk.wrap64_in _ ⟨by omega, by omega⟩
theorem lensOf_wf (l : List Int) (L : Nat) (h0 : ∀ k, k < l.length → 0 ≤ l.getD k 0) (hL : 0 < L) (hL2 : L ≤ 16) (hu : Mg.used l ≤ 2 ^ L) : Wf (Mg.lensOf l L) := fun x hx => by
  obtain ⟨j, hj, rfl⟩ := List.mem_iff_getElem.1 hx
  have hj' := hj
  rw [Mg.lensOf_length] at hj'
  have := Mg.lensOf_range h0 hL hu j hj'
  rw [show (Mg.lensOf l L).getD j 0 = (Mg.lensOf l L)[j] by simp [List.getD, List.getElem?_eq_getElem hj]] at this
  simp only [Lit.wf, IntKind.min, IntKind.max, IntKind.signed, IntKind.bits, Bool.and_eq_true, decide_eq_true_eq, if_true]
  simp; omega
/-- A longest length that is let in. -/
theorem okL_nat {l : List Int} {L : Int} (h : Mg.okL l L = true) : ∃ n : Nat, L = n ∧ 1 ≤ n ∧ n ≤ 16 ∧ Mg.used l ≤ 2 ^ n := by
  unfold Mg.okL at h
  have h2 := of_decide_eq_true h
  exact ⟨L.toNat, by omega, by omega, by omega, h2.2.2⟩
end Go.Proofs.YtjjbgdmalefdlaaGreatDoor
end

section
namespace Go.Proofs.YtjjbgdmalefdlaaGreatDoor
open Go.RowKit

namespace Bc
theorem rep_step (w : World) (c : Int) (n : Nat) (hn : n ≤ 1000000) (hc : (Lit.int .i64 c).wf = true) :
    Calls Tryz.prog 96 #[.slice (some ⟨w.heap.size, 0, none⟩) 1 1, .int .i64 (n : Nat)] (w.alloc (.cells #[.int .i64 c] 3)) (fun e w' => ∃ a cap, e = .returned (.slice a n cap) ∧ Is .i64 w' a n cap (List.replicate n c) ∧ Below w.heap.size w w') := by
  have hb := below_alloc w (.cells #[.int .i64 c] 3)
  refine (repeat_any w.heap.size c n _ (by rw [cell_of_row _ _ _ _ _ (0, 0) (heap_alloc_last w _)]; rfl) (by simp) hn).mono ?_
  rintro e w' ⟨v, rfl, hown, hb2⟩
  obtain ⟨a, cap, rfl, hI⟩ := own_is hown (by intro m hm; rw [List.eq_of_mem_replicate hm]; exact hc)
  exact ⟨a, cap, rfl, hI, below_then hb hb2⟩
theorem small_wf {l : List Int} (h : ∀ k, k < l.length → 0 ≤ l.getD k 0 ∧ l.getD k 0 ≤ 1000000) : Wf l := by
  intro n hn
  obtain ⟨i, hi, rfl⟩ := List.getElem_of_mem hn
  have h1 := h i hi
  have e : l.getD i 0 = l[i] := by simp [List.getD, List.getElem?_eq_getElem hi]
  rw [e] at h1
  simp only [Lit.wf, IntKind.min, IntKind.max, IntKind.signed, IntKind.bits, Bool.and_eq_true, decide_eq_true_eq, if_true]
  simp; omega
theorem litL_le : ∀ k, k < litL.length → 0 ≤ litL.getD k 0 ∧ litL.getD k 0 ≤ 9 := by rw [litL_length]; decide +kernel
theorem dstL_le : ∀ k, k < dstL.length → 0 ≤ dstL.getD k 0 ∧ dstL.getD k 0 ≤ 5 := by rw [dstL_length]; decide +kernel
theorem litL_pos : ∀ k, k < 288 → 0 < litL.getD k 0 := by decide +kernel
theorem dstL_pos : ∀ k, k < 32 → 0 < dstL.getD k 0 := by decide +kernel
theorem wf_litL : Wf litL := small_wf (fun k hk => by have := litL_le k hk; omega)
theorem wf_dstL : Wf dstL := small_wf (fun k hk => by have := dstL_le k hk; omega)
theorem fix_concat (w : World) (a1 a2 a3 a4 : Option Addr) (c1 c2 c3 c4 : Nat) (I1 : Is .i64 w a1 144 c1 (List.replicate 144 8)) (I2 : Is .i64 w a2 112 c2 (List.replicate 112 9)) (I3 : Is .i64 w a3 24 c3 (List.replicate 24 7)) (I4 : Is .i64 w a4 8 c4 (List.replicate 8 8)) :
    Calls Tryz.prog 86 #[.slice (some ⟨w.heap.size, 0, none⟩) 4 4] (w.alloc (.cells #[.slice a1 144 c1, .slice a2 112 c2, .slice a3 24 c3, .slice a4 8 c4] 53)) (fun e w' => ∃ a cap, e = .returned (.slice a 288 cap) ∧ Is .i64 w' a 288 cap litL ∧ Below w.heap.size w w') := by
  have hb := below_alloc w (.cells #[.slice a1 144 c1, .slice a2 112 c2, .slice a3 24 c3, .slice a4 8 c4] 53)
  have hrow := heap_alloc_last w (.cells #[.slice a1 144 c1, .slice a2 112 c2, .slice a3 24 c3, .slice a4 8 c4] 53)
  obtain ⟨ps, hps⟩ : ∃ ps : List Cp, ps = [(a1, 144, c1, List.replicate 144 8), (a2, 112, c2, List.replicate 112 9), (a3, 24, c3, List.replicate 24 7), (a4, 8, c4, List.replicate 8 8)] := ⟨_, rfl⟩
  have hcat : cat ps 4 = litL := by
    subst hps
    unfold cat litL
    simp only [List.take_succ_cons, List.take_zero, List.flatMap_cons, List.flatMap_nil, List.append_nil, List.append_assoc]
  have hC : CatParts (w.alloc (.cells #[.slice a1 144 c1, .slice a2 112 c2, .slice a3 24 c3, .slice a4 8 c4] 53)) w.heap.size ps := by
    intro k a la ca l hk
    subst hps
    rw [cell_of_row _ _ _ _ _ (0, 0) hrow]
    match k, hk with
    | 0, hk => cases hk; exact ⟨rfl, I1.mono hb⟩
    | 1, hk => cases hk; exact ⟨rfl, I2.mono hb⟩
    | 2, hk => cases hk; exact ⟨rfl, I3.mono hb⟩
    | 3, hk => cases hk; exact ⟨rfl, I4.mono hb⟩
    | k + 4, hk => simp at hk
  refine (concat_all w.heap.size 4 ps _ (by simp) (by subst hps; rfl) hC (by omega) (by rw [hcat, litL_length]; omega) (by rw [hcat, litL_length]; omega)).mono ?_
  rintro e w' ⟨v, rfl, hown, hb2⟩
  rw [hcat, litL_length] at hown
  obtain ⟨a, cap, rfl, hI⟩ := own_is hown wf_litL
  exact ⟨a, cap, rfl, hI, below_then hb hb2⟩
/-- Two slices of lengths. -/
def TwoPost (w : World) (L D : List Int) (n m : Nat) (e : Ending) (w' : World) : Prop := ∃ a c b d, e = .returned (.tuple #[.slice a n c, .slice b m d]) ∧ Is .i64 w' a n c L ∧ Is .i64 w' b m d D ∧ Below w.heap.size w w'
set_option maxRecDepth 100000 in
set_option maxHeartbeats 4000000 in
theorem fixed_any (w : World) : Calls Tryz.prog 74 #[] w (TwoPost w litL dstL 288 32) := by
  go_enter Tryz.func74, Tryz.ntmps74
  go_wp2_with fail
  refine (rep_step w 8 144 (by omega) (by decide +kernel)).mono ?_
  rintro e w1 ⟨a1, c1, rfl, I1, B1⟩
  have H1 := Lib.hid (And.intro I1 B1)
  clear I1 B1
  go_wp2_with fail
  refine (rep_step w1 9 112 (by omega) (by decide +kernel)).mono ?_
  rintro e w2 ⟨a2, c2, rfl, I2, B2⟩
  have H2 := Lib.hid (And.intro (H1.out.1.mono B2) (And.intro I2 (below_then H1.out.2 B2)))
  clear I2 B2 H1
  go_wp2_with fail
  refine (rep_step w2 7 24 (by omega) (by decide +kernel)).mono ?_
  rintro e w3 ⟨a3, c3, rfl, I3, B3⟩
  have H3 := Lib.hid (And.intro (H2.out.1.mono B3) (And.intro (H2.out.2.1.mono B3) (And.intro I3 (below_then H2.out.2.2 B3))))
  clear I3 B3 H2
  go_wp2_with fail
  refine (rep_step w3 8 8 (by omega) (by decide +kernel)).mono ?_
  rintro e w4 ⟨a4, c4, rfl, I4, B4⟩
  have H4 := Lib.hid (And.intro (H3.out.1.mono B4) (And.intro (H3.out.2.1.mono B4) (And.intro (H3.out.2.2.1.mono B4) (And.intro I4 (below_then H3.out.2.2.2 B4)))))
  clear I4 B4 H3
  go_wp2_with fail
  refine (fix_concat w4 a1 a2 a3 a4 c1 c2 c3 c4 H4.out.1 H4.out.2.1 H4.out.2.2.1 H4.out.2.2.2.1).mono ?_
  rintro e w5 ⟨a5, c5, rfl, I5, B5⟩
  have H5 := Lib.hid (And.intro I5 (below_then H4.out.2.2.2.2 B5))
  clear I5 B5 H4
  go_wp2_with fail
  refine (rep_step w5 5 32 (by omega) (by decide +kernel)).mono ?_
  rintro e w7 ⟨a7, c7, rfl, I7, B7⟩
  have H7 := Lib.hid (And.intro (H5.out.1.mono B7) (And.intro I7 (below_then H5.out.2 B7)))
  clear I7 B7 H5
  go_wp2
  go_ret2
  exact ⟨_, _, _, _, rfl, H7.out.1, H7.out.2.1, H7.out.2.2⟩
theorem index_any (a : Option Addr) (len cap : Nat) (l : List Int) (w : World) (h : Is .i64 w a len cap l) (hr : len ≤ 1000000000) (hz : fz l < len) :
    Calls Tryz.prog 107 #[.slice a len cap, .int .i64 0] w fun e w' => e = .returned (.int .i64 (fz l : Nat)) ∧ w = w' := by
  have H := Lib.hid h
  have HLN := Lib.hid h.hlen
  have HZ := Lib.hid hz
  clear h hz
  go_enter Tryz.func107, Tryz.ntmps107
  go_wp2
  go_loop [8] (fun i => ∃ k : Nat, k ≤ len ∧ i = .int .i64 k ∧ Hid (∀ j, j < k → l.getD j 0 ≠ 0)) (fun i => len - (intOf i).toNat)
  case atStart => exact ⟨0, by omega, rfl, Lib.hid (fun j hj => by omega)⟩
  case round =>
    obtain ⟨k, hk, rfl, HA⟩ := hrel
    by_cases hlt : k < len
    · obtain ⟨b, off, rfl, hb, hcell⟩ := H.out.at' k hlt
      have HF : Hid (l.getD k 0 = 0 → fz l = k) := Lib.hid (fun e => fz_of (by rw [HLN.out]; exact hlt) e HA.out)
      have HN : Hid (l.getD k 0 ≠ 0 → ∀ j, j < k + 1 → l.getD j 0 ≠ 0) := Lib.hid (fun h j hj => by
        rcases Nat.lt_succ_iff_lt_or_eq.1 hj with h1 | rfl
        · exact HA.out j h1
        · exact h)
      clear HA
      generalize l.getD k 0 = z at *
      by_cases hz : z = 0
      · subst hz
        have HE := Lib.hid (HF.out rfl)
        clear HF HN
        go_wp2
        go_ret
        exact ⟨by rw [HE.out]; rfl, rfl⟩
      · have d1 : ((0 : Int) == z) = false := by simp; omega
        have d2 : (z == (0 : Int)) = false := by simpa using hz
        have HN2 := Lib.hid (HN.out hz)
        clear HF HN hz
        go_wp2
        go_round
        case rel => exact ⟨k + 1, by omega, by go_num, HN2⟩
        case measure => simp [intOf]; omega
    · obtain rfl : len = k := by omega
      exact absurd (fz_is (by rw [HLN.out]; exact HZ.out)) (HA.out _ HZ.out)
end Bc
end Go.Proofs.YtjjbgdmalefdlaaGreatDoor
end

section
namespace Go.Proofs.YtjjbgdmalefdlaaGreatDoor
open Go.RowKit

namespace Bc
section
variable {C : List Int} {L : Nat}
theorem Co.okB (h : Co C L) : Mg.okB C = true := Mg.within_good C 300 1099511627776 h.h300 (fun k hk => ⟨h.h0 k hk, by have := h.hup k hk; omega⟩)
theorem Co.okL (h : Co C L) : Mg.okL C (L : Nat) = true := decide_eq_true ⟨by have := h.hL; omega, by have := h.h15; omega, by rw [Int.toNat_natCast]; exact h.hu⟩
theorem Co.lwf (h : Co C L) : Wf (Mg.lensOf C L) := small_wf (fun k hk => by
  rw [Mg.lensOf_length] at hk
  have := h.lens k hk
  have := h.h15
  omega)
theorem Co.cwf (h : Co C L) : Wf (cmpl C L) := small_wf (fun k hk => by
  rw [cmpl_length] at hk
  have := h.range k hk
  have := h.h15
  omega)
/-- Lengths of the call's own. -/
def CmPost (w : World) (n : Nat) (l : List Int) (e : Ending) (w' : World) : Prop :=
  ∃ v, e = .returned (.tuple #[v, .nilIface]) ∧ w'.ownsRow w.heap.size 3 1 v n (ivs l) ∧ Below w.heap.size w w'
theorem lens_any (h : Co C L) (a : Option Addr) (len cap : Nat) (w : World) (hi : Is .i64 w a len cap C) :
    Calls Tryz.prog 97 #[.slice a len cap, .int .i64 (L : Nat)] w (CmPost w len (Mg.lensOf C L)) := by
  have hl := hi.hlen
  have h3 := h.h300
  refine (lengths_any a len cap C (L : Nat) w hi (by omega)).mono ?_
  rintro e w' ⟨hb, ⟨h1, _⟩ | ⟨_, h1, _⟩ | ⟨_, _, v, rfl, own⟩⟩
  · rw [h.okB] at h1; cases h1
  · rw [h.okL] at h1; cases h1
  · rw [Int.toNat_natCast, hl] at own
    exact ⟨v, rfl, own, hb⟩
end
set_option maxRecDepth 100000 in
set_option maxHeartbeats 4000000 in
theorem complete_any {C : List Int} {L : Nat} (h : Co C L) (a : Option Addr) (len cap : Nat) (w : World) (hi : Is .i64 w a len cap C) :
    Calls Tryz.prog 87 #[.slice a len cap, .int .i64 (L : Nat)] w (CmPost w len (cmpl C L)) := by
  have HC := Lib.hid (lens_any h a len cap w hi)
  have hl := hi.hlen
  have h2 := h.h2
  have h3 := h.h300
  have hl2 : 2 ≤ len := by omega
  have hl3 : len ≤ 300 := by omega
  have HLN := Lib.hid hl
  have HH := Lib.hid h
  clear hi hl h2 h3 h
  go_enter Tryz.func87, Tryz.ntmps87
  go_wp2_with fail
  refine HC.out.mono ?_
  rintro e w1 ⟨v, rfl, own, hb⟩
  obtain ⟨g, vc, rfl, hle, _⟩ : ∃ g vc, v = .slice (some ⟨g, 0, none⟩) len vc ∧ len ≤ vc ∧ True := by
    rcases own_nil_or own with ⟨_, h0⟩ | ⟨g, cap, h0, h1, _⟩
    · omega
    · exact ⟨g, cap, h0, h1, trivial⟩
  obtain ⟨va, vc', e1, hil⟩ := own_is own HH.out.lwf
  simp only [Value.slice.injEq, true_and] at e1
  obtain ⟨rfl, rfl⟩ := e1
  have hfr := free_any _ len vc (Mg.lensOf C L) w1 hil (by omega)
  unfold FreePost at hfr
  rw [HH.out.free.1] at hfr
  have HFR := Lib.hid hfr
  have HO := Lib.hid own
  have HI := Lib.hid hil
  have HB := Lib.hid hb
  clear own hil hb hfr HC
  go_wp2_with fail
  refine HFR.out.mono ?_
  rintro e w' ⟨rfl, rfl⟩
  have hsum := Cn.sum_le (Mg.lensOf C L)
  have hfn := HH.out.free.2
  have hf1 := HH.out.free.1
  simp only [Cn.freeB, Bool.and_eq_true, decide_eq_true_eq] at hf1
  unfold Cn.freeN at hfn
  rw [if_pos hf1.1] at hfn
  have HN := Lib.hid (And.intro hf1.2 hfn)
  clear hsum hfn hf1 HFR
  by_cases hu : 1 < Mg.used C
  · have hs : 65536 - (Cn.sum (Mg.lensOf C L) : Int) = 0 := HN.out.2.2 hu
    have HE : Hid (cmpl C L = Mg.lensOf C L) := Lib.hid (by unfold cmpl; rw [if_pos hu])
    simp only [if_true]
    rw [hs]
    clear hs HN hu
    go_wp2
    go_ret2
    exact ⟨_, rfl, by rw [HE.out]; exact HO.out, HB.out⟩
  · have hs : 0 < 65536 - (Cn.sum (Mg.lensOf C L) : Int) := by
      have h1 := HN.out.1
      have h2 : ¬ 65536 - (Cn.sum (Mg.lensOf C L) : Int) = 0 := fun e => hu (HN.out.2.1 e)
      omega
    have hz := HH.out.zero hu
    rw [HLN.out] at hz
    have HE : Hid (cmpl C L = (Mg.lensOf C L).set (fz (Mg.lensOf C L)) 1) := Lib.hid (by unfold cmpl; rw [if_neg hu])
    have HIX := Lib.hid (index_any _ len vc (Mg.lensOf C L) w1 HI.out (by omega) hz)
    obtain ⟨⟨z0, s0⟩, s1⟩ := own_slot HO.out _ hz
    have HS := Lib.hid (own_set HO.out (fz (Mg.lensOf C L)) 1)
    have HG := Lib.hid (HO.out.lt g rfl).1
    rw [← HE.out] at HS
    simp only [if_true]
    clear HN hu HI HO HE
    generalize 65536 - (Cn.sum (Mg.lensOf C L) : Int) = fr at *
    have ds : decide (0 < fr) = true := decide_eq_true hs
    generalize fz (Mg.lensOf C L) = j at *
    go_wp2_with fail
    refine HIX.out.mono ?_
    rintro e w' ⟨rfl, rfl⟩
    have HB2 := Lib.hid (HB.out.setCell (p := ⟨g, j, none⟩) HG.out (.int .i64 1))
    clear HIX HB HG hs
    go_wp2
    go_ret2
    exact ⟨_, rfl, HS.out, HB2.out⟩
/-- Three results. -/
def BlPost (w : World) (L D : List Int) (n m : Nat) (e : Ending) (w' : World) : Prop := ∃ a c b d, e = .returned (.tuple #[.slice a n c, .slice b m d, .nilIface]) ∧ Is .i64 w' a n c L ∧ Is .i64 w' b m d D ∧ Below w.heap.size w w'
set_option maxRecDepth 100000 in
theorem best_any {C D : List Int} (h : Co C 15) (h' : Co D 15) (a b : Option Addr) (n c m d : Nat) (w : World) (hi : Is .i64 w a n c C) (hj : Is .i64 w b m d D) :
    Calls Tryz.prog 75 #[.slice a n c, .slice b m d] w (BlPost w (cmpl C 15) (Mg.lensOf D 15) n m) := by
  have HC := Lib.hid (complete_any h a n c w hi)
  have HD := Lib.hid (fun w' (hb : Below w.heap.size w w') => lens_any h' b m d w' (hj.mono hb))
  have HCW := Lib.hid h.cwf
  have HDW := Lib.hid h'.lwf
  clear hi hj h h'
  go_enter Tryz.func75, Tryz.ntmps75
  go_wp2_with fail
  refine HC.out.mono ?_
  rintro e w1 ⟨v, rfl, own, hb⟩
  obtain ⟨va, vc, rfl, hi1⟩ := own_is own HCW.out
  have HD1 := Lib.hid (HD.out w1 hb)
  have HI := Lib.hid hi1
  have HB := Lib.hid hb
  clear HD HC own hi1 hb
  go_wp2_with fail
  refine HD1.out.mono ?_
  rintro e w2 ⟨v, rfl, own, hb⟩
  obtain ⟨vd, ve, rfl, hi2⟩ := own_is own HDW.out
  have HP : Hid (Is .i64 w2 va n vc (cmpl C 15) ∧ Is .i64 w2 vd m ve (Mg.lensOf D 15) ∧ Below w.heap.size w w2) := Lib.hid ⟨HI.out.mono hb, hi2, below_then HB.out hb⟩
  clear own hi2 hb HI HB HD1
  go_wp2
  go_ret3
  exact ⟨_, _, _, _, rfl, HP.out.1, HP.out.2.1, HP.out.2.2⟩
end Bc
end Go.Proofs.YtjjbgdmalefdlaaGreatDoor
end

section
namespace Go.Proofs.YtjjbgdmalefdlaaGreatDoor
open Go.RowKit

/-- Level by level comes to what the best lengths cost. -/
theorem best_lens (l : List Int) (n : Nat) (hn : 0 < n) (hu : Mg.used l ≤ 2 ^ n) (b : Int) (hz : Mg.used l = 0 → b = 0) (hb : 0 < Mg.used l → Mg.Bst (Mg.used l) (fun i => Mg.pre (Mg.rise l) (Mg.used l - i)) n b) : Mg.dot l (Mg.lensOf l n) l.length = b := by
  rw [Mg.lensOf_cost]
  have hr := Mg.rise_length l
  have hU := Mg.rise_up l
  have hP := Mg.rise_Pos l
  generalize Mg.rise l = R at *
  generalize Mg.used l = m at *
  by_cases h0 : m = 0
  · subst h0; rw [hz rfl]; rfl
  have hB := hb (by omega)
  by_cases h1 : m = 1
  · subst h1
    obtain ⟨f1, f2⟩ := Mg.final_one hP hr hn
    have e : Mg.SI (fun i => R.getD i 0 * (Mg.lens R n).getD i 0) 1 = Mg.pre R 1 := by
      rw [Mg.pre_SI R 1 (by omega)]
      refine Mg.SI_congr _ (fun i hi => ?_)
      rw [Mg.lens_one (by omega) i (by omega), Int.mul_one]
    rw [e]
    obtain ⟨g1, g2⟩ := hB
    have g3 := g2 _ f1
    rcases g1 with g1 | ⟨_, g1⟩
    · omega
    · have := f2 _ g1; omega
  · have f1 := Mg.final_back (L := n) hU hP hr (by omega) hn (by rw [← hr]; exact Mg.rnd_room R (by omega) n hn (by omega))
    have e := Mg.cost_back (L := n) R (by omega) hn (by omega)
    rw [hr] at e
    rw [e]
    obtain ⟨g1, g2⟩ := hB
    have g3 := g2 _ f1
    rcases g1 with g1 | ⟨_, g1⟩
    · omega
    · have := Mg.final_ge hU hP hr g1; omega
end Go.Proofs.YtjjbgdmalefdlaaGreatDoor
end
