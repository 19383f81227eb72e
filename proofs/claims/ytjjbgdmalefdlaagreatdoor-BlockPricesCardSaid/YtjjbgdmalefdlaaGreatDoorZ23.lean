/- merge.nextRound: its contract. -/
import Derived.Test.YtjjbgdmalefdlaaGreatDoorZ22
import Derived.Deep.LoopGhost
import Derived.Deep.DeepCutAuto
set_option linter.unusedSimpArgs false
set_option linter.unusedVariables false
section
namespace Go.Proofs.YtjjbgdmalefdlaaGreatDoor
open Go.RowKit
open Mg (Itm)

def NextPost (w : World) (R : List Int) (A : List Itm) (e : Ending) (w' : World) : Prop :=
  ∃ v, e = .returned v ∧ w'.ownsRow w.heap.size 186 2 v (R.length + A.length / 2) (itv (Mg.mrg R (Mg.pairs (Mg.wts A)))) ∧ Below w.heap.size w w'
/-- In the midst: what is left of both, and what is out. -/
structure NR (w wr : World) (R : List Int) (A : List Itm) (v0 v1 v5 : Value) (n0 n1 k cap : Nat) (R' : List Int) (A' : List Itm) (out : List Itm) : Prop where
  bel : Below w.heap.size w wr
  i0 : ∃ a c, v0 = .slice a n0 c ∧ Is .i64 w a n0 c R'
  i1 : ∃ a c, v1 = .slice a n1 c ∧ Its w a n1 c A'
  i5 : ∃ g, v5 = .slice (some ⟨g, 0, none⟩) k cap
  own : wr.ownsRow w.heap.size 186 2 v5 k (itv out)
  eq : out ++ Mg.mrg R' (Mg.pairs (Mg.wts A')) = Mg.mrg R (Mg.pairs (Mg.wts A))
  pos : ∀ x ∈ Mg.wts A', 0 ≤ x ∧ x ≤ 1152921504606846976
/-- A symbol goes out. -/
theorem NR.sym {w wr w3 : World} {R : List Int} {A : List Itm} {v1 : Value} {a0 : Option Addr} {n0 n1 k cap c0 g : Nat} {r : Int} {R' : List Int} {A' out : List Itm} (h : NR w wr R A (.slice a0 n0 c0) v1 (.slice (some ⟨g, 0, none⟩) k cap) n0 n1 k cap (r :: R') A' out)
    (hle : Mg.mrg (r :: R') (Mg.pairs (Mg.wts A')) = (r, true) :: Mg.mrg R' (Mg.pairs (Mg.wts A'))) (hb : Below w.heap.size w w3) (o : w3.ownsRow w.heap.size 186 2 (.slice (some ⟨g, 0, none⟩) (k + 1) cap) (k + 1) (itv out ++ itv [(r, true)]))
    (ao : Option Addr) (hi : Is .i64 w ao (n0 - 1) (c0 - 1) R') : NR w w3 R A (.slice ao (n0 - 1) (c0 - 1)) v1 (.slice (some ⟨g, 0, none⟩) (k + 1) cap) (n0 - 1) n1 (k + 1) cap R' A' (out ++ [(r, true)]) :=
  ⟨hb, ⟨_, _, rfl, hi⟩, h.i1, ⟨_, rfl⟩, by rw [itv_append]; exact o, by rw [← h.eq, hle]; simp, h.pos⟩
/-- A package goes out. -/
theorem NR.pkg {w wr w3 : World} {R : List Int} {A : List Itm} {v0 v1 : Value} {n0 n1 k cap c1 g : Nat} {R' : List Int} {x y : Itm} {A' out : List Itm} (h : NR w wr R A v0 v1 (.slice (some ⟨g, 0, none⟩) k cap) n0 n1 k cap R' (x :: y :: A') out)
    (hle : Mg.mrg R' ((x.1 + y.1) :: Mg.pairs (Mg.wts A')) = (x.1 + y.1, false) :: Mg.mrg R' (Mg.pairs (Mg.wts A'))) (hb : Below w.heap.size w w3) (o : w3.ownsRow w.heap.size 186 2 (.slice (some ⟨g, 0, none⟩) (k + 1) cap) (k + 1) (itv out ++ itv [(x.1 + y.1, false)]))
    (ao : Option Addr) (hi : Its w ao (n1 - 2) (c1 - 2) A') : NR w w3 R A v0 (.slice ao (n1 - 2) (c1 - 2)) (.slice (some ⟨g, 0, none⟩) (k + 1) cap) n0 (n1 - 2) (k + 1) cap R' A' (out ++ [(x.1 + y.1, false)]) :=
  ⟨hb, h.i0, ⟨_, _, rfl, hi⟩, ⟨_, rfl⟩, by rw [itv_append]; exact o, by
    rw [← h.eq]
    have e : Mg.pairs (Mg.wts (x :: y :: A')) = (x.1 + y.1) :: Mg.pairs (Mg.wts A') := rfl
    rw [e, hle]; simp, fun z hz => h.pos z (by simp only [Mg.wts, List.map_cons, List.mem_cons]; exact .inr (.inr hz))⟩
theorem NR.mono {w wr w3 : World} {R : List Int} {A : List Itm} {v0 v1 v5 : Value} {n0 n1 k cap : Nat} {R' : List Int} {A' out : List Itm} (h : NR w wr R A v0 v1 v5 n0 n1 k cap R' A' out) (hb : Below wr.heap.size wr w3) : NR w w3 R A v0 v1 v5 n0 n1 k cap R' A' out :=
  ⟨below_then h.bel hb, h.i0, h.i1, h.i5, own_below h.own hb, h.eq, h.pos⟩
theorem NR.below {w wr w3 : World} {R : List Int} {A : List Itm} {v0 v1 v5 : Value} {n0 n1 k cap : Nat} {R' : List Int} {A' out : List Itm} {g : Nat} (h : NR w wr R A v0 v1 v5 n0 n1 k cap R' A' out) (hg : v5 = .slice (some ⟨g, 0, none⟩) k cap) {o : Obj} (hb : (wr.alloc o).grownBy w3 (some g)) : Below w.heap.size w w3 := by
  refine ((h.bel).alloc h.bel.size o).grown hb (by simp; have := h.bel.size; omega) (fun j hj => ?_)
  cases hj
  have := h.own
  rw [hg] at this
  exact (this.lt g rfl).1
set_option maxHeartbeats 4000000 in
set_option maxRecDepth 100000 in
theorem next_any (a : Option Addr) (len cap : Nat) (R : List Int) (a1 : Option Addr) (len1 cap1 : Nat) (A : List Itm) (w : World) (h : Is .i64 w a len cap R) (h1 : Its w a1 len1 cap1 A) (hl : len ≤ 1000) (hl1 : len1 ≤ 10000)
    (hA : ∀ x ∈ Mg.wts A, 0 ≤ x ∧ x ≤ 1152921504606846976) :
    Calls Tryz.prog 123 #[.slice a len cap, .slice a1 len1 cap1] w (NextPost w R A) := by
  have HL := Lib.hid h.hlen
  have HL1 := Lib.hid h1.hlen
  have H := Lib.hid h
  have H1 := Lib.hid h1
  have HP := Lib.hid hA
  clear h h1 hA
  have e2 : ((len1 : Int)).tdiv 2 = ((len1 / 2 : Nat) : Int) := by rw [Int.tdiv_eq_ediv_of_nonneg (by omega)]; omega
  go_enter Tryz.func123, Tryz.ntmps123
  go_wp2_with (at_make; refine wpl_make tyIt rfl _ _ rfl w.heap.size .i64 .i64 _ (len + len1 / 2) rfl rfl (by omega) (by omega) (by omega) (Nat.le_refl _) ?_)
  intro w1 own1 hg1
  have hb1 : Below w.heap.size w w1 := (Below.refl _ _).grown hg1 (Nat.le_refl _) (by simp)
  have HN : Hid (NR w w1 R A (.slice a len cap) (.slice a1 len1 cap1) (.slice (some ⟨w.heap.size, 0, none⟩) 0 (len + len1 / 2)) len len1 0 (len + len1 / 2) R A []) := Lib.hid ⟨hb1, ⟨_, _, rfl, H.out⟩, ⟨_, _, rfl, H1.out⟩, ⟨_, rfl⟩, own1, rfl, HP.out⟩
  obtain ⟨C, hC⟩ : ∃ C, C = len + len1 / 2 := ⟨_, rfl⟩
  rw [← hC] at HN
  clear own1 hg1 hb1 e2
  go_wp2
  rw [← hC]
  go_loopg [0, 1, 5] len1 (fun gk v0 v1 v5 wr => ∃ (n0 n1 k : Nat) (R' : List Int) (A' out : List Itm), n1 = gk ∧ n0 ≤ 1000 ∧ n1 ≤ 10000 ∧ k + (n0 + n1 / 2) = C ∧ Hid (NR w wr R A v0 v1 v5 n0 n1 k C R' A' out))
  case atStart => exact ⟨len, len1, 0, R, A, [], rfl, hl, hl1, by omega, HN⟩
  case round =>
    obtain ⟨n0, n1, k, R', A', out, rfl, hn0, hn1, hk, HR⟩ := hrel
    obtain ⟨a0, c0, rfl, hi0⟩ := HR.out.i0
    obtain ⟨b1, c1, rfl, hi1⟩ := HR.out.i1
    obtain ⟨g, rfl⟩ := HR.out.i5
    have HI0 := Lib.hid hi0
    have HI1 := Lib.hid hi1
    have hc1 := hi1.hle
    clear hi0 hi1
    by_cases hge : 2 ≤ n1
    · have dge : decide (2 ≤ (n1 : Int)) = true := by simp; omega
      obtain ⟨bb, oo, rfl, _, q0, _⟩ := (HI1.out.mono HR.out.bel).at' 0 (by omega)
      obtain ⟨bb', oo', hbe, _, q1, _⟩ := (HI1.out.mono HR.out.bel).at' 1 (by omega)
      simp only [Option.some.injEq, Addr.mk.injEq, and_true] at hbe
      obtain ⟨rfl, rfl⟩ := hbe
      have hA2 : ∃ x y A'', A' = x :: y :: A'' := by
        have hl := HI1.out.hlen
        match A', hl with
        | [], hl => simp at hl; omega
        | [_], hl => simp at hl; omega
        | x :: y :: A'', _ => exact ⟨x, y, A'', rfl⟩
      obtain ⟨x, y, A'', rfl⟩ := hA2
      obtain ⟨x, xb⟩ := x
      obtain ⟨y, yb⟩ := y
      have px := HR.out.pos x (by simp [Mg.wts])
      have py := HR.out.pos y (by simp [Mg.wts])
      have q0' : wr.cell? ⟨bb, oo, none⟩ = some (.int .i64 x) := q0
      have q1' : wr.cell? ⟨bb, oo + 2, none⟩ = some (.int .i64 y) := q1
      clear q0 q1
      clear HL HL1 H H1 HP HN hl hl1 hC
      go_wp2
      go_quiet (fail)
      go_wp2
      rename World => w0
      have HR0 := Lib.hid (HR.out.mono (drewN_is w0 nq))
      clear HR
      generalize w0.drewN nq = w0 at HR0 ⊢
      go_loopg [0, 5] n0 (fun gk v0 v5 wr => ∃ (m k2 : Nat) (R2 : List Int) (out2 : List Itm), m = gk ∧ m ≤ 1000 ∧ k2 + (m + n1 / 2) = C ∧ Hid (NR w wr R A v0 (.slice (some ⟨bb, oo, none⟩) n1 c1) v5 m n1 k2 C R2 ((x, xb) :: (y, yb) :: A'') out2))
      case atStart => exact ⟨n0, k, R', out, rfl, hn0, hk, HR0⟩
      case round =>
        obtain ⟨m, k2, R2, out2, rfl, hm, hk2, HQ⟩ := hrel
        obtain ⟨a2, c2, rfl, hi2⟩ := HQ.out.i0
        obtain ⟨g2, rfl⟩ := HQ.out.i5
        have HI2 := Lib.hid hi2
        have hc2 := hi2.hle
        clear hi2
        by_cases hm0 : m = 0
        · subst hm0
          have e : R2 = [] := List.eq_nil_of_length_eq_zero HI2.out.hlen
          subst e
          have HM := Lib.hid (show Mg.mrg [] ((x + y) :: Mg.pairs (Mg.wts A'')) = (x + y, false) :: Mg.mrg [] (Mg.pairs (Mg.wts A'')) from rfl)
          go_wp2_with (at_builtin; refine wpl_fits tyIt rfl _ _ rfl (own_below HQ.out.own (below_alloc wr _)) (src_item wr (x + y) false) rfl rfl (by omega) ?_)
          intro w3 own3 hg3
          have hb3 := HQ.out.below rfl hg3
          have HQ2 := Lib.hid (fun ao hao => HQ.out.pkg (w3 := w3) (c1 := c1) HM.out hb3 own3 ao (HI1.out.drop 2 hge ao hao))
          clear own3 hg3 hb3 HQ
          by_cases hcc : c1 = 2
          · obtain rfl : n1 = 2 := by omega
            obtain rfl : C = k2 + 1 := by omega
            subst hcc
            go_wp2
            go_roundg 0
            case rel => exact ⟨0, 0, k2 + 1, [], A'', _, rfl, hm, by omega, by omega, Lib.hid (HQ2.out _ (fun h => absurd trivial h))⟩
            case measure => omega
          · go_wp2
            go_roundg (n1 - 2)
            case rel => exact ⟨0, n1 - 2, k2 + 1, [], A'', _, rfl, hm, by omega, by omega, Lib.hid (HQ2.out _ (fun _ => rfl))⟩
            case measure => omega
        · have d0 : decide (0 < (m : Int)) = true := by simp; omega
          obtain ⟨b2, o2, rfl, _, q2⟩ := (HI2.out.mono HQ.out.bel).at' 0 (by omega)
          obtain ⟨r, R3, rfl⟩ : ∃ r R3, R2 = r :: R3 := by
            have hl := HI2.out.hlen
            cases R2 with
            | nil => simp at hl; omega
            | cons r R3 => exact ⟨r, R3, rfl⟩
          have q2' : wr.cell? ⟨b2, o2, none⟩ = some (.int .i64 r) := q2
          clear q2
          by_cases hle : r ≤ x + y
          · have d1 : decide (r ≤ x + y) = true := by simpa using hle
            have HM := Lib.hid (show Mg.mrg (r :: R3) ((x + y) :: Mg.pairs (Mg.wts A'')) = (r, true) :: Mg.mrg R3 ((x + y) :: Mg.pairs (Mg.wts A'')) by rw [Mg.mrg_cons, if_pos hle])
            have HT := Lib.hid (fun ao hao => HI2.out.tail 1 (by omega) ao hao)
            clear hle
            go_wp2_with (at_builtin; refine wpl_fits tyIt rfl _ _ rfl (own_below HQ.out.own (below_alloc wr _)) (src_item wr r true) rfl rfl (by omega) ?_)
            intro w3 own3 hg3
            have hb3 := HQ.out.below rfl hg3
            have HQ2 := Lib.hid (fun ao hao => HQ.out.sym (w3 := w3) HM.out hb3 own3 ao (HT.out ao hao))
            clear own3 hg3 hb3 HQ HT
            by_cases hcc : c2 = 1
            · obtain rfl : m = 1 := by omega
              subst hcc
              go_wp2
              go_roundg 0
              case rel => exact ⟨0, k2 + 1, R3, _, rfl, by omega, by omega, Lib.hid (HQ2.out _ (fun h => absurd trivial h))⟩
              case measure => omega
            · go_wp2
              go_roundg (m - 1)
              case rel => exact ⟨m - 1, k2 + 1, R3, _, rfl, by omega, by omega, Lib.hid (HQ2.out _ (fun _ => rfl))⟩
              case measure => omega
          · have d1 : decide (r ≤ x + y) = false := by simpa using hle
            have HM := Lib.hid (show Mg.mrg (r :: R3) ((x + y) :: Mg.pairs (Mg.wts A'')) = (x + y, false) :: Mg.mrg (r :: R3) (Mg.pairs (Mg.wts A'')) by rw [Mg.mrg_cons, if_neg hle])
            clear hle
            go_wp2_with (at_builtin; refine wpl_fits tyIt rfl _ _ rfl (own_below HQ.out.own (below_alloc wr _)) (src_item wr (x + y) false) rfl rfl (by omega) ?_)
            intro w3 own3 hg3
            have hb3 := HQ.out.below rfl hg3
            have HQ2 := Lib.hid (fun ao hao => HQ.out.pkg (w3 := w3) (c1 := c1) HM.out hb3 own3 ao (HI1.out.drop 2 hge ao hao))
            clear own3 hg3 hb3 HQ
            by_cases hcc : c1 = 2
            · obtain rfl : n1 = 2 := by omega
              subst hcc
              go_wp2
              go_roundg 0
              case rel => exact ⟨m, 0, k2 + 1, _, A'', _, rfl, hm, by omega, by omega, Lib.hid (HQ2.out _ (fun h => absurd trivial h))⟩
              case measure => omega
            · go_wp2
              go_roundg (n1 - 2)
              case rel => exact ⟨m, n1 - 2, k2 + 1, _, A'', _, rfl, hm, by omega, by omega, Lib.hid (HQ2.out _ (fun _ => rfl))⟩
              case measure => omega
    · have dge : decide (2 ≤ (n1 : Int)) = false := by simp; omega
      have e : Mg.pairs (Mg.wts A') = [] := List.eq_nil_of_length_eq_zero (by rw [Mg.pairs_length, Mg.wts_length, HI1.out.hlen]; omega)
      have HE := Lib.hid (show out ++ R'.map (fun x => (x, true)) = Mg.mrg R (Mg.pairs (Mg.wts A)) by rw [← Mg.mrg_end, ← e]; exact HR.out.eq)
      have HTL : Hid (R.length + A.length / 2 = C) := Lib.hid (by rw [HL.out, HL1.out, hC])
      clear e HL HL1 H H1 HP HN hl hl1 hC HI1
      rename World => w0
      have HO : Hid (Below w.heap.size w w0 ∧ w0.ownsRow w.heap.size 186 2 (.slice (some ⟨g, 0, none⟩) k C) k (itv out)) := Lib.hid ⟨HR.out.bel, HR.out.own⟩
      clear HR
      go_wp2
      go_loopw [5, 56] (fun v5 i wr => ∃ j : Nat, j ≤ n0 ∧ i = .int .i64 j ∧ v5 = .slice (some ⟨g, 0, none⟩) (k + j) C ∧ Hid (Below w.heap.size w wr ∧ wr.ownsRow w.heap.size 186 2 (.slice (some ⟨g, 0, none⟩) (k + j) C) (k + j) (itv (out ++ (R'.map (fun x => (x, true))).take j)))) (fun _ i _ => n0 - (intOf i).toNat)
      case atStart => exact ⟨0, by omega, rfl, rfl, by simpa using HO⟩
      case round =>
        obtain ⟨j, hj, rfl, rfl, HJ⟩ := hrel
        by_cases hlt : j < n0
        · obtain ⟨b2, o2, rfl, _, q2⟩ := (HI0.out.mono HJ.out.1).at' j hlt
          have hjl : j < R'.length := by rw [HI0.out.hlen]; exact hlt
          have HT : Hid (itv (out ++ (R'.map (fun x => (x, true))).take (j + 1)) = itv (out ++ (R'.map (fun x => (x, true))).take j) ++ itv [(R'.getD j 0, true)]) := Lib.hid (by
            rw [← itv_append, List.append_assoc, List.take_succ_eq_append_getElem (by simpa using hjl)]
            simp [List.getD, List.getElem?_eq_getElem hjl])
          clear hjl
          generalize R'.getD j 0 = z at *
          go_wp2_with (at_builtin; refine wpl_fits tyIt rfl _ _ rfl (own_below HJ.out.2 (below_alloc wr _)) (src_item wr z true) rfl rfl (by omega) ?_)
          intro w3 own3 hg3
          have hb3 : Below w.heap.size w w3 := (HJ.out.1.alloc HJ.out.1.size _).grown hg3 (by simp; have := HJ.out.1.size; omega) (fun j hj => by cases hj; exact (HJ.out.2.lt g rfl).1)
          rw [← HT.out] at own3
          have HJ2 := Lib.hid (And.intro hb3 own3)
          clear own3 hg3 hb3 HJ
          go_wp2
          go_roundw
          case rel => exact ⟨j + 1, by omega, by go_num, rfl, HJ2⟩
          case measure => simp [intOf]; omega
        · obtain rfl : n0 = j := by omega
          have hfull : (R'.map (fun x => (x, true))).take n0 = R'.map (fun x => (x, true)) := List.take_of_length_le (by rw [List.length_map, HI0.out.hlen]; exact Nat.le_refl _)
          rw [hfull, HE.out] at HJ
          have hkC : k + n0 = C := by omega
          rw [hkC] at HJ ⊢
          go_wp2
          go_ret
          exact ⟨_, rfl, by rw [HTL.out]; exact HJ.out.2, HJ.out.1⟩
end Go.Proofs.YtjjbgdmalefdlaaGreatDoor
end
