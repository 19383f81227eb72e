/- lace.parts as an iterator. -/
import Derived.Test.YtfdnjblbhbkndaaDoorLcPlace
import Derived.Test.YtfdnjblbhbkndaaDoorIterN
import Derived.Test.YtfdnjblbhbkndaaDoorKc
import Derived.Test.YtfdnjblbhbkndaaDoorFront
import Derived.Deep.MidRow
import Derived.LoopIn
import Derived.LoopNIn
import Derived.RegionIn
import Derived.TacticsInMore
namespace Go.Proofs.YtfdnjblbhbkndaaDoor
open Go.RowKit
attribute [local go_sem] Oper.semAt_some

namespace Lc
theorem from_snoc (w h : Nat) : ∀ n p, from' w h p (n + 1) = from' w h p n ++ (if 0 < (of (p + n) w h).c then [(p + n, of (p + n) w h)] else [])
  | 0, p => by simp [from']
  | n + 1, p => by
    have ih := from_snoc w h n (p + 1)
    rw [show p + 1 + n = p + (n + 1) by omega] at ih
    show (if 0 < (of p w h).c then [(p, of p w h)] else []) ++ from' w h (p + 1) (n + 1) = ((if 0 < (of p w h).c then [(p, of p w h)] else []) ++ from' w h (p + 1) n) ++ _
    rw [ih, List.append_assoc]
theorem from_split (w h : Nat) : ∀ k n p, from' w h p (k + n) = from' w h p k ++ from' w h (p + k) n
  | 0, n, p => by rw [Nat.zero_add]; rfl
  | k + 1, n, p => by
    have ih := from_split w h k n (p + 1)
    rw [show k + 1 + n = (k + n) + 1 by omega]
    show (if 0 < (of p w h).c then [(p, of p w h)] else []) ++ from' w h (p + 1) (k + n) = ((if 0 < (of p w h).c then [(p, of p w h)] else []) ++ from' w h (p + 1) k) ++ _
    rw [ih, List.append_assoc, show p + 1 + k = p + (k + 1) by omega]
/-- What a round adds. -/
theorem from_step (w h k : Nat) (hk : k < 7) : from' w h 0 (k + 1) = from' w h 0 k ++ (if 0 < (of k w h).c then [(k, of k w h)] else []) := by
  have := from_snoc w h k 0
  rwa [Nat.zero_add] at this
theorem from_next (w h k : Nat) (hk : k < 7) (hc : 0 < (of k w h).c) : ∃ s, from' w h 0 7 = from' w h 0 k ++ (k, of k w h) :: s := by
  have e := from_split w h k (7 - k) 0
  rw [Nat.zero_add, show k + (7 - k) = 7 by omega, show 7 - k = (7 - (k + 1)) + 1 by omega] at e
  rw [e]
  exact ⟨from' w h (k + 1) (7 - (k + 1)), by
    show from' w h 0 k ++ ((if 0 < (of k w h).c then [(k, of k w h)] else []) ++ from' w h (k + 1) _) = _
    rw [if_pos hc]; rfl⟩
theorem from_pre (w h k : Nat) (hk : k ≤ 7) : ∃ s, from' w h 0 7 = from' w h 0 k ++ s := by
  have e := from_split w h k (7 - k) 0
  rw [show k + (7 - k) = 7 by omega] at e
  exact ⟨_, e⟩
theorem stp_one (n : Nat) (h : 0 < n) : stp 0 1 n = n := by unfold stp; rw [if_pos h, Nat.div_one]; omega
theorem plain_of (w h : Nat) (hw : 0 < w) (hh : 0 < h) : ofG 0 1 0 1 w h = ⟨0, 1, 0, 1, w, h⟩ := by unfold ofG; rw [stp_one w hw, stp_one h hh, if_neg (by omega)]
theorem laced_eq (w h : Nat) (l : Int) (hl : l ≠ 0) : parts w h l = from' w h 0 7 := by unfold parts; rw [if_neg hl]
theorem plain_eq (w h : Nat) : parts w h 0 = [(0, ⟨0, 1, 0, 1, w, h⟩)] := by unfold parts; rw [if_pos rfl]
def passA : Array Value := #[.int .i64 0, .int .i64 8, .int .i64 0, .int .i64 8, .int .i64 4, .int .i64 8, .int .i64 0, .int .i64 8, .int .i64 0, .int .i64 4, .int .i64 4, .int .i64 8, .int .i64 2, .int .i64 4, .int .i64 0, .int .i64 4, .int .i64 0, .int .i64 2, .int .i64 2, .int .i64 4, .int .i64 1, .int .i64 2, .int .i64 0, .int .i64 2, .int .i64 0, .int .i64 1, .int .i64 1, .int .i64 2]
theorem passA_get : ∀ k, k < 28 → passA[k]? = some (.int .i64 (tab28.getD k 0 : Nat))
  | 0, _ => rfl
  | 1, _ => rfl
  | 2, _ => rfl
  | 3, _ => rfl
  | 4, _ => rfl
  | 5, _ => rfl
  | 6, _ => rfl
  | 7, _ => rfl
  | 8, _ => rfl
  | 9, _ => rfl
  | 10, _ => rfl
  | 11, _ => rfl
  | 12, _ => rfl
  | 13, _ => rfl
  | 14, _ => rfl
  | 15, _ => rfl
  | 16, _ => rfl
  | 17, _ => rfl
  | 18, _ => rfl
  | 19, _ => rfl
  | 20, _ => rfl
  | 21, _ => rfl
  | 22, _ => rfl
  | 23, _ => rfl
  | 24, _ => rfl
  | 25, _ => rfl
  | 26, _ => rfl
  | 27, _ => rfl
  | k + 28, h => absurd h (by omega)
theorem index_pass : ∀ (k : Nat), k < 7 → ∀ (w : World), (Instr.index 59 (.agg passA) (.int .i64 (k : Nat))).run Tryd.prog w = .ok (pval (px k) (pdx k) (py k) (pdy k)) w
  | 0, _, _ => by kernel_rfl
  | 1, _, _ => by kernel_rfl
  | 2, _, _ => by kernel_rfl
  | 3, _, _ => by kernel_rfl
  | 4, _, _ => by kernel_rfl
  | 5, _, _ => by kernel_rfl
  | 6, _, _ => by kernel_rfl
  | k + 7, h, _ => absurd h (by omega)
theorem load_passes {W : World} (h : Lp W) : (loadVar 59 ⟨0, 0, none⟩).run Tryd.prog W = .ok (.agg passA) W := by
  have hl : (loadCells ⟨0, 0, none⟩ passA.toList.length).run Tryd.prog W = .ok passA.toList.toArray W :=
    run_loadCells_list (P := Tryd.prog) W ⟨0, 0, none⟩ passA.toList (fun j v hv => by
      have hj : j < 28 := (List.getElem?_eq_some_iff.1 hv).1
      rw [Addr.add_mid, Nat.zero_add, h.at' j hj, ← passA_get j hj]
      simpa using hv)
  have hi : (Tryd.prog.info? 59).map (·.size) = some 28 := by kernel_rfl
  cases hq : Tryd.prog.info? 59 with
  | none => simp [hq] at hi
  | some i =>
    have hs : i.size = 28 := by simpa [hq] using hi
    have hagg : (isAgg 59).run Tryd.prog W = .ok true W := by
      unfold isAgg
      rw [Sem.run_bind, run_underlying Tryd.underlying59 W]
      rfl
    have e28 : passA.toList.length = 28 := rfl
    rw [e28] at hl
    simp [loadVar, Sem.run_bind, hagg, sizeOf, typeInfo, hq, hs, hl]
def pEnc (q : Nat × Pa) : Array Value := #[.int .i64 (q.1 : Nat), q.2.val]
theorem grown_of_below {W W' : World} (h : Below W.heap.size W W') : W.grownBy W' none := ⟨h.os, h.tape, h.output, h.size, fun k hk _ => h.block k hk⟩
set_option maxRecDepth 100000 in
set_option maxHeartbeats 4000000 in
theorem parts_iter (n : Nat) (hd : 1 ≤ n) (X Y Z wd ht : Nat) (l : Int) (U : Nat → Prop) (w : World) (hX : Boxed w X 3 (.int .i64 l)) (hY : Boxed w Y 3 (.int .i64 (wd : Nat))) (hZ : Boxed w Z 3 (.int .i64 (ht : Nat))) (hlp : Lp w)
    (h1 : 1 ≤ wd) (h2 : wd ≤ 262144) (k1 : 1 ≤ ht) (k2 : ht ≤ 262144) (u1 : ¬ U X) (u2 : ¬ U Y) (u3 : ¬ U Z) :
    IterN Fence.wide n Tryd.prog 22 #[.pointer (some ⟨X, 0, none⟩), .pointer (some ⟨Y, 0, none⟩), .pointer (some ⟨Z, 0, none⟩)] pEnc (Bk.Kc U) (fun xs => xs = parts wd ht l) (fun pre => ∃ s, parts wd ht l = pre ++ s) (fun pre x => ∃ s, parts wd ht l = pre ++ x :: s) w := fun y J Jx V hV hJ hJx h0 hYd => by
  have hro : (Fence.wide).round = none := rfl
  have hX' : Boxed V X 3 (.int .i64 l) := (hV.block X hX.lt).trans hX
  have hY' : Boxed V Y 3 (.int .i64 (wd : Nat)) := (hV.block Y hY.lt).trans hY
  have hZ' : Boxed V Z 3 (.int .i64 (ht : Nat)) := (hV.block Z hZ.lt).trans hZ
  have hlp' := hlp.below hV
  have HYD := Lib.hid hYd
  have HJ := Lib.hid hJ
  have H0 := Lib.hid h0
  have HV0 := Lib.hid hV.size
  have HU : Hid (¬ U X ∧ ¬ U Y ∧ ¬ U Z) := Lib.hid ⟨u1, u2, u3⟩
  have cX := hX'.cell
  have cY := hY'.cell
  have cZ := hZ'.cell
  have HBX : Hid (Boxed V X 3 (.int .i64 l) ∧ Boxed V Y 3 (.int .i64 (wd : Nat)) ∧ Boxed V Z 3 (.int .i64 (ht : Nat))) := Lib.hid ⟨hX', hY', hZ'⟩
  clear hX hY hZ hX' hY' hZ' hlp hYd hJ hJx h0 hV u1 u2 u3
  refine callsIn_of_wp Tryd.func22 rfl trivial ?_ hro
  simp only [Tryd.ntmps22, List.size_toArray, List.length_cons, List.length_nil, Nat.reduceAdd, Nat.reduceSub, Array.replicate_succ, Array.replicate_zero, List.push_toArray, List.append_toArray, List.nil_append, List.cons_append]
  by_cases hl : l = 0
  · subst hl
    rw [plain_eq] at HYD ⊢
    have hof := fun W => of_any 0 1 0 1 wd ht (by omega) (by omega) (by omega) (by omega) (by omega) (by omega) h2 k2 W
    rw [plain_of wd ht (by omega) (by omega)] at hof
    unfold pval pcells Pa.val at hof
    have HOF := Lib.hid hof
    clear hof
    gi_wp2_with fail
    refine ⟨trivial, (callsIn_wide.2 (HOF.out _)).mono ?_⟩
    rintro e w2 ⟨rfl, hb2⟩
    have HJ2 := Lib.hid (HJ.out _ _ _ none H0.out (grown_of_below hb2) (fun r e => by cases e))
    obtain ⟨fn, tmps, assign, body, hy, hRd⟩ := HYD.out [] (0, ⟨0, 1, 0, 1, wd, ht⟩) _ HJ2.out ⟨[], rfl⟩
    have hy : (Instr.yield y #[.int .i64 0, .agg #[.int .i64 0, .int .i64 1, .int .i64 0, .int .i64 1, .int .i64 (wd : Nat), .int .i64 (ht : Nat)]]).run Tryd.prog w2 = .ok (.round y fn tmps assign body) w2 := hy
    clear HOF hb2 H0
    gi_wp2_with fail
    refine hRd.mono ?_
    rintro e W3 ⟨hk3, ⟨rfl, hJ3, hkp⟩ | ⟨rfl, hJx3⟩⟩
    · have HJ4 := Lib.hid hJ3
      clear hJ3 hkp hk3 hRd hy
      gi_wp2
      refine bodyPost_ret (results_none rfl _ _ _) rfl ?_
      exact ⟨⟨_, rfl⟩, .inl ⟨_, rfl, HJ4.out⟩⟩
    · have HX4 := Lib.hid hJx3
      clear hJx3 hk3 hRd hy
      gi_wp2
      refine bodyPost_ret (results_none rfl _ _ _) rfl ?_
      exact ⟨⟨_, rfl⟩, .inr ⟨_, ⟨[], rfl⟩, HX4.out⟩⟩
  have dl : (l == 0) = false := by simpa using hl
  rw [laced_eq wd ht l hl] at HYD ⊢
  have HLD := load_passes hlp'
  have HPA := Lib.hid (fun k w h => index_pass k h w)
  gi_wp2_with (refine Bk.wplIn_load rfl 59 (.global 0) rfl ⟨0, 0, none⟩ rfl _ HLD ?_)
  clear HLD hlp' cX cY cZ
  generalize passA = pA at *
  gi_loopw [17] (fun i wr => ∃ k : Nat, k ≤ 7 ∧ i = .int .i64 (k : Nat) ∧ Hid (J (from' wd ht 0 k) wr) ∧ Hid (Boxed wr X 3 (.int .i64 l) ∧ Boxed wr Y 3 (.int .i64 (wd : Nat)) ∧ Boxed wr Z 3 (.int .i64 (ht : Nat))) ∧ Hid (V.heap.size ≤ wr.heap.size)) (fun i _ => 7 - (intOf i).toNat)
  case atStart => exact ⟨0, by omega, rfl, H0, HBX, Lib.hid (Nat.le_refl _)⟩
  case round =>
    clear H0 HBX
    obtain ⟨k, hk, rfl, HJK, HBX, HVK⟩ := hrel
    by_cases hk7 : k < 7
    · have hix := fun W => HPA.out k W hk7
      have hof := fun W => ofp_any k wd ht hk7 h2 k2 W
      have HST := Lib.hid (from_step wd ht k hk7)
      have HNX : Hid (0 < (of k wd ht).c → ∃ s, from' wd ht 0 7 = from' wd ht 0 k ++ (k, of k wd ht) :: s) := Lib.hid (from_next wd ht k hk7)
      have HPR := Lib.hid (from_pre wd ht (k + 1) (by omega))
      have dk : decide ((k : Int) < 7) = true := by simp; omega
      unfold pval pcells at hix hof
      unfold Pa.val at hof
      generalize px k = a0 at *
      generalize pdx k = a1 at *
      generalize py k = a2 at *
      generalize pdy k = a3 at *
      generalize of k wd ht = z at *
      obtain ⟨z0, z1, z2, z3, z4, z5⟩ := z
      simp only at hof HST HNX
      have HOF := Lib.hid hof
      have hb1 := below_alloc wr (.cells #[.int .i64 (a0 : Nat), .int .i64 (a1 : Nat), .int .i64 (a2 : Nat), .int .i64 (a3 : Nat)] 52)
      have cY := Boxed.cell ((hb1.block Y HBX.out.2.1.lt).trans HBX.out.2.1)
      have cZ := Boxed.cell ((hb1.block Z HBX.out.2.2.lt).trans HBX.out.2.2)
      clear hof HPA
      gi_wp2_with fail
      refine ⟨trivial, (callsIn_wide.2 (HOF.out _)).mono ?_⟩
      rintro e w2 ⟨rfl, hb2⟩
      have hb3 := below_then (below_then hb1 hb2) (below_alloc w2 (.cells #[.int .i64 (z0 : Nat), .int .i64 (z1 : Nat), .int .i64 (z2 : Nat), .int .i64 (z3 : Nat), .int .i64 (z4 : Nat), .int .i64 (z5 : Nat)] 54))
      have hrow := heap_alloc_last w2 (.cells #[.int .i64 (z0 : Nat), .int .i64 (z1 : Nat), .int .i64 (z2 : Nat), .int .i64 (z3 : Nat), .int .i64 (z4 : Nat), .int .i64 (z5 : Nat)] 54)
      have HJ3 := Lib.hid (HJ.out _ _ _ none HJK.out (grown_of_below hb3) (fun r e => by cases e))
      have HB3 : Hid (Boxed _ X 3 (.int .i64 l) ∧ Boxed _ Y 3 (.int .i64 (wd : Nat)) ∧ Boxed _ Z 3 (.int .i64 (ht : Nat))) := Lib.hid ⟨(hb3.block X HBX.out.1.lt).trans HBX.out.1, (hb3.block Y HBX.out.2.1.lt).trans HBX.out.2.1, (hb3.block Z HBX.out.2.2.lt).trans HBX.out.2.2⟩
      have HV3 := Lib.hid (Nat.le_trans HVK.out hb3.size)
      clear hb1 hb2 hb3 HOF HJK HBX HVK cY cZ hix
      by_cases hz : 0 < z4
      · have dz : decide (0 < z4) = true := by simpa using hz
        have HST2 : Hid (from' wd ht 0 (k + 1) = from' wd ht 0 k ++ [(k, (⟨z0, z1, z2, z3, z4, z5⟩ : Pa))]) := Lib.hid (by rw [HST.out, if_pos hz])
        obtain ⟨fn, tmps, assign, body, hy, hRd⟩ := HYD.out (from' wd ht 0 k) (k, ⟨z0, z1, z2, z3, z4, z5⟩) _ HJ3.out (HNX.out hz)
        unfold pEnc Pa.val at hy
        simp only at hy
        clear hz HST HNX
        gi_wp2_with fail
        refine hRd.mono ?_
        rintro e W3 ⟨hk3, ⟨rfl, hJ3, hkp⟩ | ⟨rfl, hJx3⟩⟩
        · have HJ4 : Hid (J (from' wd ht 0 (k + 1)) W3) := Lib.hid (by rw [HST2.out]; exact hJ3)
          have HB4 : Hid (Boxed W3 X 3 (.int .i64 l) ∧ Boxed W3 Y 3 (.int .i64 (wd : Nat)) ∧ Boxed W3 Z 3 (.int .i64 (ht : Nat))) := Lib.hid ⟨hkp X _ HB3.out.1 rfl HU.out.1, hkp Y _ HB3.out.2.1 rfl HU.out.2.1, hkp Z _ HB3.out.2.2 rfl HU.out.2.2⟩
          have HV4 := Lib.hid (Nat.le_trans HV3.out hk3.size)
          clear hJ3 hkp hk3 hRd hy HB3 HJ3 HV3 hrow
          gi_wp2
          go_roundw
          case rel => exact ⟨k + 1, by omega, by go_num, HJ4, HB4, HV4⟩
          case measure => simp [intOf]; omega
        · have HX4 : Hid (Jx (from' wd ht 0 (k + 1)) W3) := Lib.hid (by rw [HST2.out]; exact hJx3)
          clear hJx3 hk3 hRd hy HB3 HJ3 HV3 hrow
          gi_wp2
          refine bodyPost_ret (results_none rfl _ _ _) rfl ?_
          exact ⟨⟨_, rfl⟩, .inr ⟨_, HPR.out, HX4.out⟩⟩
      · have dz : decide (0 < z4) = false := by simpa using hz
        have HJ4 : Hid (J (from' wd ht 0 (k + 1)) _) := Lib.hid (by rw [HST.out, if_neg hz, List.append_nil]; exact HJ3.out)
        clear hz HST HNX HJ3 hrow
        gi_wp2
        refine ⟨fun f hf => (by cases hf), ?_⟩
        gi_wp2
        go_roundw
        case rel => exact ⟨k + 1, by omega, by go_num, HJ4, HB3, HV3⟩
        case measure => simp [intOf]; omega
    · obtain rfl : k = 7 := by omega
      clear hk7
      gi_wp2
      go_end0
      exact ⟨⟨_, rfl⟩, .inl ⟨_, rfl, HJK.out⟩⟩
end Lc
end Go.Proofs.YtfdnjblbhbkndaaDoor
