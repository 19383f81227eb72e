/- Finder.Nearest as an iterator. A region that draws its order within a round of a range over a function: by the laws of a plain one. -/
import Derived.Test.YtdojhglpiejfjaaDoorZ14
import Derived.Deep.RegionHeld3
import Derived.RangeFuncCalls
import Derived.OrdersIn
import Derived.TacticsIn
set_option linter.unusedSimpArgs false
set_option linter.unusedVariables false
section
namespace Go.Proofs.YtdojhglpiejfjaaDoor
open Go.RowKit Go.Shelf
attribute [local go_sem] Oper.semAt_some
namespace Lz
/-- What one record adds. -/
theorem rec_step {b : Nat → Nat} {N t : Nat} {pre s : List (Nat × Nat)} {q : Nat × Nat} (h : Rec b N t (pre ++ q :: s)) :
    2 ≤ top pre ∧ top pre < q.1 ∧ q.1 ≤ 258 ∧ q.2 ≤ 32768 ∧ q.1 ≤ top (pre ++ q :: s) ∧ ∀ m, top pre < m → m ≤ q.1 → far (pre ++ q :: s) m = q.2 := by
  obtain ⟨s1, s2, s3, s4, s5⟩ := h.2.1 q (by simp)
  have h1 : 2 ≤ top pre ∧ top pre < q.1 := by
    cases hl : pre.getLast? with
    | none => rw [List.getLast?_eq_none_iff.1 hl, top_nil]; omega
    | some z =>
      obtain ⟨us, rfl⟩ := List.getLast?_eq_some_iff.1 hl
      rw [top_snoc]
      have hp := (List.pairwise_append.1 h.1).2.2 z (by simp) q (by simp)
      have hz := (h.2.1 z (by simp)).2.2.2.1
      omega
  have h2 : q.1 ≤ top (pre ++ q :: s) := by
    cases hl : (pre ++ q :: s).getLast? with
    | none => simp at hl
    | some z =>
      have := ((last_most h hl).1 q (by simp)).1
      unfold top
      rw [hl]
      exact this
  exact ⟨h1.1, h1.2, Nat.le_trans h2 (top_le h), s3, h2, fun m a c => far_mid h a c⟩
end Lz
def nEnc (q : Nat × Nat) : Array Value := #[.int .i64 (q.1 : Nat), .int .i64 (q.2 : Nat)]
theorem nearest_in (F : Fence) (n : Nat) (h5 : F.fn 48) (hro : F.round = none) (p : Value) (at' : Int) (w : World) (hp : p = .pointer none ∨ ∃ g, p = .pointer (some ⟨g, 0, none⟩)) :
    CallsIn F n Tryd.prog 48 #[p, .int .i64 at'] w fun e w' => e = .returned (.func (.func 58) #[] #[.pointer (some ⟨w.heap.size, 0, none⟩), .pointer (some ⟨w.heap.size + 1, 0, none⟩)]) ∧ w' = (w.alloc (.cells #[p] 55)).alloc (.cells #[.int .i64 at'] 3) := by
  refine callsIn_of_wp Tryd.func48 rfl h5 ?_ hro
  simp only [Tryd.ntmps48, List.size_toArray, List.length_cons, List.length_nil, Nat.reduceAdd, Nat.reduceSub, Array.replicate_succ, Array.replicate_zero, List.push_toArray, List.append_toArray, List.nil_append, List.cons_append]
  rcases hp with rfl | ⟨g, rfl⟩
  · gi_wp2
    go_ret
    exact ⟨rfl, rfl⟩
  · gi_wp2
    go_ret
    exact ⟨rfl, rfl⟩
theorem nkeeps_up {A B : Nat} {W W' : World} (h : KeepsFrom A W W') (hB : A ≤ B) : KeepsFrom B W W' := ⟨h.size, fun k o hk ho hc => h.same k o (Nat.le_trans hB hk) ho hc⟩
theorem nyield_any {m m' l y : Nat} {P : Program} {args : Array Value} {W : World} {Q : Ending → World → Prop} (h : YieldAt Fence.wide m P y args W Q) :
    ∃ fn tmps assign body, (Instr.yield y args).run P W = .ok (.round y fn tmps assign body) W ∧ RoundIn (Fence.wide.inRound l) m' P y fn tmps assign body W Q := by
  obtain ⟨fn, tmps, assign, body, hy, hR⟩ := h
  exact ⟨fn, tmps, assign, body, hy, hR.1, fun c cs _ => hR.2 c cs (room_wide _)⟩
/-- The number in a box. -/
def numIn (w : World) (b : Nat) : Nat := (intOf ((w.cell? ⟨b, 0, none⟩).getD undef)).toNat
theorem numIn_box {w : World} {b : Nat} {t : TypeId} {m : Nat} (h : Boxed w b t (.int .i64 (m : Nat))) : numIn w b = m := by unfold numIn; rw [h.cell]; simp [intOf]
set_option maxRecDepth 100000 in
set_option maxHeartbeats 4000000 in
theorem near_iter (A B gf eb base N : Nat) (at' : Int) (l : List UInt8) (v : Value) (Rs : List (List (Nat × Nat))) (U : Nat → Prop)
    (w : World) (hA : Boxed w A 55 (.pointer (some ⟨gf, 0, none⟩))) (hB : Boxed w B 3 (.int .i64 at')) (hfd : Fd w gf eb base N l N v Rs) (hN : N ≤ 1048576)
    (nv : ∀ b, v.ownBlock = some b → ¬ U b ∧ b < w.heap.size) (hU : ∀ k, U k → k < w.heap.size) :
    IterF Fence.wide 3 Tryd.prog 58 #[.pointer (some ⟨A, 0, none⟩), .pointer (some ⟨B, 0, none⟩)] nEnc (Bk.Kc U) (fun xs => xs = Lz.near (ra Rs at')) (fun pre => ∃ s, Lz.near (ra Rs at') = pre ++ s) (fun pre x => ∃ s, Lz.near (ra Rs at') = pre ++ x :: s) w := fun y J Jx V hV hJ hJx h0 hY => by
  have hro : (Fence.wide).round = none := rfl
  have HRS : Hid (∀ pre q s, ra Rs at' = pre ++ q :: s → 2 ≤ Lz.top pre ∧ Lz.top pre < q.1 ∧ q.1 ≤ 258 ∧ q.2 ≤ 32768 ∧ q.1 ≤ Lz.top (ra Rs at') ∧ ∀ m, Lz.top pre < m → m ≤ q.1 → Lz.far (ra Rs at') m = q.2) := Lib.hid (fun pre q s e => by
    by_cases hin : 0 ≤ at' ∧ at' < (N : Int)
    · obtain ⟨t, rfl⟩ : ∃ t : Nat, at' = (t : Int) := ⟨at'.toNat, by omega⟩
      have hrec := ra_rec hfd.recs (t := t) (by omega)
      rw [e] at hrec ⊢
      exact Lz.rec_step hrec
    · rw [ra_out hfd.recs (p := at') (by omega)] at e
      simp at e)
  have hA' : Boxed V A 55 (.pointer (some ⟨gf, 0, none⟩)) := (hV.block A hA.lt).trans hA
  have hB' : Boxed V B 3 (.int .i64 at') := (hV.block B hB.lt).trans hB
  have HFD := Lib.hid (hfd.below hV)
  have HUL : Hid (∀ k, U k → k < V.heap.size) := Lib.hid (fun k hk => Nat.lt_of_lt_of_le (hU k hk) hV.size)
  have HNV : Hid (∀ b, v.ownBlock = some b → ¬ U b ∧ b < V.heap.size) := Lib.hid (fun b hb => ⟨(nv b hb).1, Nat.lt_of_lt_of_le (nv b hb).2 hV.size⟩)
  have HY := Lib.hid hY
  have HJ := Lib.hid hJ
  have HJX := Lib.hid hJx
  have H0 := Lib.hid h0
  clear hA hB hfd nv hU hY hJ hJx h0 hV
  refine callsIn_of_wp_marks Tryd.func58 rfl trivial ?_ hro
  simp only [Tryd.ntmps58, List.size_toArray, List.length_cons, List.length_nil, Nat.reduceAdd, Nat.reduceSub, Array.replicate_succ, Array.replicate_zero, List.push_toArray, List.append_toArray, List.nil_append, List.cons_append]
  have hb3 := below_alloc2 V (.cells #[.func (.yield y) #[] #[]] 113) (.cells #[.int .i64 3] 3)
  have hy3 : Boxed ((V.alloc (.cells #[.func (.yield y) #[] #[]] 113)).alloc (.cells #[.int .i64 3] 3)) V.heap.size 113 (.func (.yield y) #[] #[]) := heap_alloc2_old _ _ _
  have hl3 : Boxed ((V.alloc (.cells #[.func (.yield y) #[] #[]] 113)).alloc (.cells #[.int .i64 3] 3)) (V.heap.size + 1) 3 (.int .i64 (3 : Nat)) := heap_alloc2_new _ _ _
  have hz3 : ((V.alloc (.cells #[.func (.yield y) #[] #[]] 113)).alloc (.cells #[.int .i64 3] 3)).heap.size = V.heap.size + 2 := by simp
  have cA := Boxed.cell ((hb3.block A hA'.lt).trans hA')
  have cB := Boxed.cell ((hb3.block B hB'.lt).trans hB')
  gi_wp2_with fail
  have hj3 := HJ.out.alloc (.cells #[.int .i64 3] 3) (HJ.out.alloc (.cells #[.func (.yield y) #[] #[]] 113) H0.out)
  revert hb3 hy3 hl3 hz3 cA cB hj3
  generalize (V.alloc (.cells #[.func (.yield y) #[] #[]] 113)).alloc (.cells #[.int .i64 3] 3) = W3
  intro hb3 hy3 hl3 hz3 cA cB hj3
  refine ⟨trivial, (rising_in Fence.wide 2 trivial rfl (.pointer (some ⟨gf, 0, none⟩)) at' W3 (.inr ⟨gf, rfl⟩)).mono ?_⟩
  rintro e w' ⟨rfl, rfl⟩
  gi_wp2_with fail
  have hb5 := below_alloc2 W3 (.cells #[.pointer (some ⟨gf, 0, none⟩)] 55) (.cells #[.int .i64 at'] 3)
  have hB5 : Boxed ((W3.alloc (.cells #[.pointer (some ⟨gf, 0, none⟩)] 55)).alloc (.cells #[.int .i64 at'] 3)) W3.heap.size 55 (.pointer (some ⟨gf, 0, none⟩)) := heap_alloc2_old _ _ _
  have hA5 : Boxed ((W3.alloc (.cells #[.pointer (some ⟨gf, 0, none⟩)] 55)).alloc (.cells #[.int .i64 at'] 3)) (W3.heap.size + 1) 3 (.int .i64 at') := heap_alloc2_new _ _ _
  have hj5 := HJ.out.alloc (.cells #[.int .i64 at'] 3) (HJ.out.alloc (.cells #[.pointer (some ⟨gf, 0, none⟩)] 55) hj3)
  revert hb5 hB5 hA5 hj5
  generalize (W3.alloc (.cells #[.pointer (some ⟨gf, 0, none⟩)] 55)).alloc (.cells #[.int .i64 at'] 3) = W5
  intro hb5 hB5 hA5 hj5
  have hz5 := hb5.size
  have hy5 : Boxed W5 V.heap.size 113 (.func (.yield y) #[] #[]) := (hb5.block _ hy3.lt).trans hy3
  have hl5 : Boxed W5 (V.heap.size + 1) 3 (.int .i64 (3 : Nat)) := (hb5.block _ hl3.lt).trans hl3
  rw [hz3] at hA5 hB5
  have hit := rise_iter 2 (by omega) (V.heap.size + 2 + 1) (V.heap.size + 2) gf eb base N at' l v Rs (fun k => U k ∨ k = V.heap.size + 1) W5 hA5 hB5 (HFD.out.below (below_then hb3 hb5)) hN
    (fun b hb h => h.elim (HNV.out b hb).1 (fun e => by have := (HNV.out b hb).2; omega)) (fun k hk => by rcases hk with hk | hk; exact Nat.lt_of_lt_of_le (HUL.out k hk) (by omega); omega)
  have HVZ : Hid (V.heap.size + 2 ≤ W5.heap.size) := Lib.hid (by omega)
  clear hb3 hy3 hl3 hz3 cA cB hj3 hb5 hA5 hB5 hz5 hA' hB' H0 HFD HNV hN
  refine range_iterA (F := Fence.wide) (n := 3) (P := Tryd.prog) (gf := 55) (lb := #[.pointer (some ⟨V.heap.size + 2 + 1, 0, none⟩), .pointer (some ⟨V.heap.size + 2, 0, none⟩)]) hro (by omega) rfl trivial (enters_of Tryd.func55 (by kernel_rfl) rfl)
    (encs := rEnc) (hseq := hit) (fun h1 h2 => h1.trans h2) (fun W l o o' hl hc => Bk.Kc.put W l o o' hl hc) (fun _ => rfl)
    (fun pre W => J ((Lz.near (ra Rs at')).take (Lz.top pre - 2)) W ∧ Boxed W V.heap.size 113 (.func (.yield y) #[] #[]) ∧ Boxed W (V.heap.size + 1) 3 (.int .i64 ((Lz.top pre + 1 : Nat) : Int)))
    (fun c _ W => c = .ret ∧ ∃ pre', (∃ s, Lz.near (ra Rs at') = pre' ++ s) ∧ Jx pre' W) ?hI ?hX ⟨by rw [Lz.top_nil]; exact hj5, hy5, by rw [Lz.top_nil]; exact hl5⟩ (fun q => tokO q) (fun _ => rfl) (fun _ _ => Bk.Kc.alloc _ _ _)
    (fun q Bx => { tmps := #[.func (.yield y) #[] #[], .pointer (some ⟨A, 0, none⟩), .pointer (some ⟨B, 0, none⟩), .pointer (some ⟨V.heap.size, 0, none⟩), .pointer (some ⟨V.heap.size + 1, 0, none⟩), .pointer (some ⟨Bx, 0, none⟩), .pointer (some ⟨gf, 0, none⟩), .int .i64 at', .func (.func 55) #[] #[.pointer (some ⟨V.heap.size + 2 + 1, 0, none⟩), .pointer (some ⟨V.heap.size + 2, 0, none⟩)], .agg #[.int .i64 (q.1 : Nat), .int .i64 (q.2 : Nat)], undef, undef, undef, undef, undef, undef, undef, undef, undef, undef, undef, undef], defers := [] })
    ?has ?hbo ?hend ?hout
  case hI =>
    rintro s X Y row ⟨h1, h2, h3⟩ hg hr
    have := HVZ.out
    exact ⟨HJ.out _ _ _ _ h1 hg (fun r e => by have := (hr r e).1; omega), Bk.kc_cells hg (fun r e => (hr r e).2) _ _ h2 rfl (fun h => h), Bk.kc_cells hg (fun r e => (hr r e).2) _ _ h3 rfl (fun h => h)⟩
  case hX =>
    rintro c s X Y row ⟨h1, pre', h2, h3⟩ hg hr
    have := HVZ.out
    exact ⟨h1, pre', h2, HJX.out _ _ _ _ h3 hg (fun r e => by have := (hr r e).1; omega)⟩
  case has =>
    intro k x X K hK
    simp only [rEnc]
    gi_wp2
    exact hK
  case hbo =>
    rintro k pre ⟨q1, q2⟩ X Bx ⟨h1, h2, h3⟩ ⟨s, hs⟩ hBx hbx
    obtain ⟨r1, r2, r3, r4, r5, r6⟩ := HRS.out pre (q1, q2) s hs
    simp only at r2 r3 r4 r5 r6
    have HR6 := Lib.hid r6
    have HTS : Hid (Lz.top (pre ++ [(q1, q2)]) = q1) := Lib.hid (Lz.top_snoc _ _)
    obtain ⟨tp, htp⟩ : ∃ tp, Lz.top pre = tp := ⟨_, rfl⟩
    have HNR : Hid (∀ m, tp < m → m ≤ q1 → (Lz.near (ra Rs at')).take (m - 3) ++ [(m, q2)] = (Lz.near (ra Rs at')).take (m + 1 - 3) ∧ ∃ s, Lz.near (ra Rs at') = (Lz.near (ra Rs at')).take (m - 3) ++ (m, q2) :: s) := Lib.hid (fun m h1 h2 => by
      have e := r6 m (by omega) h2
      have e3 : 3 + (m - 3) = m := by omega
      have em : m + 1 - 3 = m - 3 + 1 := by omega
      have a := Lz.near_take (ra Rs at') (m - 3) (by omega)
      have b := Lz.near_next (ra Rs at') (m - 3) (by omega)
      rw [e3, e] at a b
      exact ⟨by rw [em, a], b⟩)
    rw [htp] at h1 h3 r1 r2
    have HS0 : Hid (J ((Lz.near (ra Rs at')).take (tp + 1 - 3)) X) := Lib.hid (by rw [show tp + 1 - 3 = tp - 2 by omega]; exact h1)
    have HBY := Lib.hid h2
    have HBL := Lib.hid h3
    have HBX := Lib.hid hbx
    have HKK : Hid (KeepsFrom W5.heap.size X X ∧ Bk.Kc (fun k => U k ∨ k = V.heap.size + 1) X X) := Lib.hid ⟨KeepsFrom.refl _ _, Bk.Kc.refl _ _⟩
    clear h1 h2 h3 hbx hs r6 htp hit hj5 hy5 hl5 HRS
    gi_wp2
    gi_loopw [] (fun wr => ∃ m : Nat, tp < m ∧ m ≤ q1 + 1 ∧ Hid (J ((Lz.near (ra Rs at')).take (m - 3)) wr) ∧ Hid (Boxed wr V.heap.size 113 (.func (.yield y) #[] #[])) ∧ Hid (Boxed wr (V.heap.size + 1) 3 (.int .i64 ((m : Nat) : Int))) ∧ Hid (wr.heap[Bx]? = some (tokO (q1, q2))) ∧ Hid (KeepsFrom W5.heap.size X wr ∧ Bk.Kc (fun k => U k ∨ k = V.heap.size + 1) X wr)) (fun wr => q1 + 1 - numIn wr (V.heap.size + 1))
    case atStart => exact ⟨tp + 1, by omega, by omega, HS0, HBY, HBL, HBX, HKK⟩
    case round =>
      clear HS0 HBY HBL HBX HKK
      obtain ⟨m, hm1, hm2, HS, HY0, HL0, HX0, HK0⟩ := hrel
      have cy := HY0.out.cell
      have cl := HL0.out.cell
      have c0 : wr.cell? ⟨Bx, 0, none⟩ = some (.int .i64 (q1 : Nat)) := by rw [cell_of_row _ _ _ _ _ (0, 0) HX0.out]; rfl
      have c1 : wr.cell? ⟨Bx, 1, none⟩ = some (.int .i64 (q2 : Nat)) := by rw [cell_of_row _ _ _ _ _ (0, 0) HX0.out]; rfl
      have hzv := HVZ.out
      have HM : Hid (numIn wr (V.heap.size + 1) = m) := Lib.hid (numIn_box HL0.out)
      by_cases hm : m ≤ q1
      · obtain ⟨fn, tm, asg, bo, hy, hRd⟩ := nyield_any (m' := 0) (l := k) (HY.out _ (m, q2) wr HS.out (HNR.out m hm1 hm).2)
        unfold nEnc at hy
        simp only at hy
        have d1 : decide ((m : Int) ≤ (q1 : Int)) = true := by simp; omega
        gi_wp2
        refine hRd.mono ?_
        rintro e W6 ⟨hk6, (⟨rfl, hj6, hu6⟩ | ⟨rfl, hj6⟩)⟩
        · have hL6 : Boxed W6 (V.heap.size + 1) 3 (.int .i64 ((m : Nat) : Int)) := hu6 _ _ HL0.out rfl (fun h => by have := HUL.out _ h; omega)
          have hY6 : Boxed W6 V.heap.size 113 (.func (.yield y) #[] #[]) := hu6 _ _ HY0.out rfl (fun h => by have := HUL.out _ h; omega)
          have hX6 := hu6 _ _ HX0.out rfl (fun h => by have := HUL.out _ h; omega)
          have cl6 := hL6.cell
          have fl6 := hL6.frozen
          have HN : Hid (J ((Lz.near (ra Rs at')).take (m + 1 - 3)) (W6.setCell ⟨V.heap.size + 1, 0, none⟩ (.int .i64 ((m : Int) + 1))) ∧ Boxed (W6.setCell ⟨V.heap.size + 1, 0, none⟩ (.int .i64 ((m : Int) + 1))) V.heap.size 113 (.func (.yield y) #[] #[]) ∧
              Boxed (W6.setCell ⟨V.heap.size + 1, 0, none⟩ (.int .i64 ((m : Int) + 1))) (V.heap.size + 1) 3 (.int .i64 (((m + 1 : Nat) : Int))) ∧ (W6.setCell ⟨V.heap.size + 1, 0, none⟩ (.int .i64 ((m : Int) + 1))).heap[Bx]? = some (tokO (q1, q2)) ∧
              (KeepsFrom W5.heap.size X (W6.setCell ⟨V.heap.size + 1, 0, none⟩ (.int .i64 ((m : Int) + 1))) ∧ Bk.Kc (fun k => U k ∨ k = V.heap.size + 1) X (W6.setCell ⟨V.heap.size + 1, 0, none⟩ (.int .i64 ((m : Int) + 1))))) := Lib.hid (by
            refine ⟨HJ.out.set _ _ (by rw [← (HNR.out m hm1 hm).1]; exact hj6) (by omega), hY6.other (by omega) _, by rw [Int.natCast_add]; exact hL6.set _, (Below.heap_setCell W6 ⟨V.heap.size + 1, 0, none⟩ _ Bx (by show Bx ≠ V.heap.size + 1; omega)).trans hX6, ?_, ?_⟩
            · exact (HK0.out.1.trans (nkeeps_up hk6 (by omega))).trans ((KeepsOthers.setCell W6 _ _).from _)
            · exact (HK0.out.2.trans (fun k o h1 h2 h3 => hu6 k o h1 h2 (fun h => h3 (.inl h)))).trans (Bk.Kc.set (U := fun k => U k ∨ k = V.heap.size + 1) W6 ⟨V.heap.size + 1, 0, none⟩ (.inr rfl) _))
          clear hk6 hj6 hu6 hRd hy hL6 hY6 hX6 cy cl c0 c1
          gi_wp2
          go_roundw
          case rel => exact ⟨m + 1, by omega, by omega, Lib.hid HN.out.1, Lib.hid HN.out.2.1, Lib.hid HN.out.2.2.1, Lib.hid HN.out.2.2.2.1, Lib.hid HN.out.2.2.2.2⟩
          case measure => rw [HM.out, numIn_box HN.out.2.2.1]; omega
        · have HE := Lib.hid (And.intro (HK0.out.1.trans (nkeeps_up hk6 (by omega : V.heap.size ≤ W5.heap.size))) hj6)
          have HPX : Hid (∃ s, Lz.near (ra Rs at') = ((Lz.near (ra Rs at')).take (m - 3) ++ [(m, q2)]) ++ s) := Lib.hid (by obtain ⟨s', hs'⟩ := (HNR.out m hm1 hm).2; exact ⟨s', by rw [List.append_assoc]; exact hs'⟩)
          clear hk6 hj6 hRd hy cy cl c0 c1
          gi_wp2
          exact ⟨HE.out.1, rfl, _, HPX.out, HE.out.2⟩
      · obtain rfl : m = q1 + 1 := by omega
        have d1 : decide (((q1 + 1 : Nat) : Int) ≤ (q1 : Int)) = false := by simp; omega
        gi_wp2
        refine ⟨HK0.out.1, HK0.out.2, ?_, HY0.out, ?_⟩
        · rw [HTS.out]; exact HS.out
        · rw [HTS.out]; exact HL0.out
  case hend =>
    rintro xs X rfl ⟨h1, h2, h3⟩ hK
    have hzv := HVZ.out
    have HP := Lib.hid (HJ.out.putObj (.deferred none) h1 (by omega) hK rfl)
    clear h1 h2 h3 hit
    gi_wp2
    refine ⟨by simp, .inl ⟨_, _, rfl, run_takeDeferred hK, ?_⟩⟩
    exact ⟨_, results_none rfl _ _ _, ⟨_, rfl⟩, .inl ⟨_, rfl, by have := HP.out; rwa [List.take_of_length_le (by rw [Lz.near_length]; exact Nat.le_refl _)] at this⟩⟩
  case hout =>
    rintro c pre X _ ⟨rfl, pre', h2, h3⟩ hK
    have hzv := HVZ.out
    have HP := Lib.hid (HJX.out.putObj (.deferred none) h3 (by omega) hK rfl)
    clear h3 hit
    gi_wp2
    refine ⟨by simp, .inl ⟨_, _, rfl, run_takeDeferred hK, ?_⟩⟩
    exact ⟨_, results_none rfl _ _ _, ⟨_, rfl⟩, .inr ⟨pre', h2, by exact HP.out⟩⟩
end Go.Proofs.YtdojhglpiejfjaaDoor
end

section
namespace Go.Proofs.YtdojhglpiejfjaaDoor
open Go

section
variable {P : Program} {ops : Array Oper} {Q : Exit → Act → World → Prop} {md : Region.Mode} {S : World → Prop} {l n : Nat}
theorem rowsIn_wide {row : String} {args : Array Value} {w : World} {R : Value → World → Prop} (h : Rows P row args w R) : RowsIn (Fence.wide.inRound l) n P row args w R := fun c cs _ => by
  obtain ⟨v, w', r, s⟩ := h c cs
  exact ⟨v, w', r, stepsIn_wide.2 s⟩
theorem upon_round {o : Oper} {a : Act} {K : Act → World → Prop} {r : Result Next} (h : o.upon P a K Q r) : o.uponIn (Fence.wide.inRound l) n P a K Q r := by
  unfold Oper.upon at h
  unfold Oper.uponIn
  split at h
  · exact h
  · exact h
  · exact h
  · exact ⟨fun h => by simp [Fence.wide, Fence.inRound] at h, CallsIn.inRound l (callsIn_wide.2 h)⟩
  · exact ⟨fun h => by simp [Fence.wide, Fence.inRound] at h, rowsIn_wide h⟩
  · exact h
  · exact h.elim
theorem wp_round {o : Oper} {a : Act} {w : World} {K : Act → World → Prop} (hd : ∀ c, o.op ≠ Op.defer c) (h : o.wp P a w K Q) : o.wpIn (Fence.wide.inRound l) n P a w K Q := by
  refine ⟨fun _ _ => trivial, ?_⟩
  show o.uponIn (Fence.wide.inRound l) n P a K Q ((o.semAt (some l) a.eval).run P w)
  rw [Oper.semAt_some l _ _ hd]
  exact upon_round h
theorem any_round (hl : ¬ LetsOut Q) (hd : ∀ (i : Nat) (o : Oper), ops[i]? = some o → ∀ c, o.op ≠ Op.defer c) : ∀ (fuel : Nat) (listed : Array Bool) (a : Act) (w : World), wpAny P md ops Q fuel listed a w → wpAnyIn (Fence.wide.inRound l) n P md ops Q fuel listed a w
  | 0, _, _, _, h => h
  | fuel + 1, listed, a, w, h => by
    refine ⟨h.1, fun i hi => ?_⟩
    have h2 := h.2 i hi
    unfold wpOp at h2
    unfold wpOpIn
    cases ho : ops[i]? with
    | none => rw [ho] at h2; exact any_round hl hd fuel _ _ _ h2
    | some o =>
      rw [ho] at h2
      simp only at h2 ⊢
      split
      · rename_i hw
        rw [if_pos hw] at h2
        rcases h2 with h2 | ⟨_, h2⟩
        · exact wp_round (hd i o ho) (Oper.wp_mono (fun a w h => any_round hl hd fuel _ a w h) h2)
        · exact absurd h2 hl
      · rename_i hw
        rw [if_neg hw] at h2
        exact ⟨fun _ _ => trivial, any_round hl hd fuel _ _ _ h2⟩
def noDefer (ops : Array Oper) : Bool := ops.all fun o => match o.op with | .defer _ => false | _ => true
theorem noDefer_spec (h : noDefer ops = true) : ∀ (i : Nat) (o : Oper), ops[i]? = some o → ∀ c, o.op ≠ Op.defer c := fun i o hi c e => by
  have hm : o ∈ ops := Array.mem_of_getElem? hi
  have := (Array.all_eq_true_iff_forall_mem.1 h) o hm
  rw [e] at this
  cases this
theorem region_round {id : Nat} {a : Act} {w : World} (S : World → Prop) (hm : P.follows .mixedOrders = true) (hd : noDefer ops = true) (hl : ¬ LetsOut Q)
    (h : wpAnyH P .any ops Q S ops.size (Array.replicate ops.size false) a w.drew) : (Code.region id ops true).wpIn (Fence.wide.inRound l) n P Q a w :=
  wpIn_region_any hm (any_round hl (noDefer_spec hd) _ _ _ _ (wpAny_of_held _ _ _ _ h))
/-- Number i is taken first. -/
theorem H_take {i : Nat} {oi : Oper} {v : Value} {fuel : Nat} {listed : Array Bool} {a : Act} {w : World} (hi : ops[i]? = some oi)
    (hs : Region.noSelect ops = true) (hf : Region.free md ops listed i = true) (hr : (Region.ready md ops listed).contains i = true)
    (hQ : ∀ c a w, Q (.panic c) (a.put oi.dst v) w → Q (.panic c) a w) (hS : S w) (hw : Region.wanted oi (yielded ops a.tmps) = true) (hy : ∀ w, S w → (execOp a.eval oi).run P w = .ok (.value v) w)
    (h : wpAnyH P md ops Q S fuel (listed.setIfInBounds i true) (a.put oi.dst v) w) : wpAnyH P md ops Q S (fuel + 1) listed a w :=
  wpAnyH_take hi hs hf hr hQ (.inl ⟨hw, hy⟩) hS h
/-- One alone may come up. -/
theorem H_step {i : Nat} {o : Oper} {fuel : Nat} {listed : Array Bool} {a : Act} {w : World} (hr : Region.ready md ops listed = [i]) (ho : ops[i]? = some o)
    (h : ∀ K' : Act → World → Prop, Shut (∀ a w, S w → wpAnyH P md ops Q S fuel (listed.setIfInBounds i true) a w → K' a w) → if Region.wanted o (yielded ops a.tmps) = true then Oper.wp P o a w K' Q else K' (a.put o.dst undef) w) :
    wpAnyH P md ops Q S (fuel + 1) listed a w :=
  wpAnyH_all hr (by simp) (fun j hj => by
    obtain rfl : j = i := by simpa using hj
    exact wpOp_step ho (fun K' hK => h K' (fun a w hS hW => hK a w ⟨hS, hW⟩)))
/-- What a round's region ends in. -/
def Ends (R : World → Prop) : Exit → Act → World → Prop := fun e _ w => e = .normal ∧ R w
theorem ends_no (R : World → Prop) : ¬ LetsOut (Ends R) := fun ⟨_, _, h⟩ => by cases h.1
end
end Go.Proofs.YtdojhglpiejfjaaDoor
end
