/- For any symbol and any number: the bases, the extra bits and the symbols are those that the chapter's tables say. No conditions. -/
import Derived.Test.YtcagdnajapcmkaaRows
import Derived.Test.YtcagdnajapcmkaaOpen
import Derived.Test.YtcagdnajapcmkaaSym06c
namespace Go.Proofs.Ytcagdnajapcmkaa.InflateBases
open Go.ChangeShapes Go.WideShapes Go.ChangeAt Go.RowKit
open Go.ChangeMaps (open_string shut_string)
set_option linter.unusedVariables false
theorem own : ownKnob Try.prog.godebug = none := by kernel_rfl
theorem laidOut : laidOutB Try.prog = true := by kernel_rfl
/-- What the law asks of a length's symbol, out of two rows of the table. -/
theorem ls_ways {n : Int} {v : Value} (h : Sy.LsPost n v) : (v = .tuple #[.int .i64 0, .bool false] ∧ ¬ (3 ≤ n ∧ n ≤ 258)) ∨ (v = .tuple #[.int .i64 285, .bool true] ∧ n = 258) ∨
    (∃ a r : Nat, n = (a : Int) + 3 ∧ a < 255 ∧ v = .tuple #[.int .i64 (257 + (r : Int)), .bool true] ∧ r ≤ 27 ∧ (Sy.lb r).1 ≤ a + 3 ∧ a + 3 < (Sy.lb (r + 1)).1) := by
  rcases h with ⟨h, e⟩ | ⟨h, e⟩ | ⟨a, r, h, ha, hh, e⟩
  · exact .inl ⟨e, h⟩
  · exact .inr (.inl ⟨e, h⟩)
  · obtain ⟨h1, h2, h3⟩ := Sy.held4 ha hh
    exact .inr (.inr ⟨a, r, h, ha, e, h1, h2, h3⟩)
theorem ds_ways {n : Int} {v : Value} (h : Sy.DsPost n v) : (v = .tuple #[.int .i64 0, .bool false] ∧ ¬ (1 ≤ n ∧ n ≤ 32768)) ∨
    (∃ a r : Nat, n = (a : Int) + 1 ∧ a < 32768 ∧ v = .tuple #[.int .i64 (r : Int), .bool true] ∧ r ≤ 29 ∧ (Sy.db r).1 ≤ a + 1 ∧ (r < 29 → a + 1 < (Sy.db (r + 1)).1)) := by
  rcases h with ⟨h, e⟩ | ⟨a, r, h, ha, hh, e⟩
  · exact .inl ⟨e, h⟩
  · obtain ⟨h1, h2, h3⟩ := Sy.held2 ha hh
    exact .inr ⟨a, r, h, ha, e, h1, h2, h3⟩
theorem ls_258 {v : Value} (h : Sy.LsPost 258 v) : v = .tuple #[.int .i64 285, .bool true] := by
  rcases h with ⟨h, e⟩ | ⟨h, e⟩ | ⟨a, r, h, ha, hh, e⟩
  · omega
  · exact e
  · omega
set_option maxRecDepth 100000 in
set_option maxHeartbeats 4000000 in
theorem walk1 (s n : Int) (w : World) (hws : (Lit.int .i64 s).wf = true) (hwn : (Lit.int .i64 n).wf = true) (hs : 257 ≤ s ∧ s ≤ 285) :
    Calls Try.prog 5 #[.int .i64 s, .int .i64 n] w fun e w' => e = .returned (.bool true) ∧ Below w.heap.size w w' := by
  have H258 := Lib.hid (fun v (h : Sy.LsPost 258 v) => ls_258 h)
  go_enter Try.func5, Try.ntmps5
  go_wp2_with fail
  refine (lens_any w).mono ?_
  rintro e w1 ⟨g1, j1, rfl, ht1, hb1⟩
  go_wp2_with fail
  refine (dists_any w1).mono ?_
  rintro e w2 ⟨g2, j2, rfl, ht2, hb2⟩
  have HT1 := Lib.hid (ht1.mono hb2)
  have HT2 := Lib.hid ht2
  have HB2 := Lib.hid (below_then hb1 hb2)
  clear ht1 ht2 hb1 hb2
  go_wp2_with fail
  refine (lengthBase_any s w2 hws).mono ?_
  rintro e w' ⟨rfl, rfl⟩
  obtain ⟨p, rfl⟩ : ∃ p : Nat, s = (p : Int) + 257 := ⟨(s - 257).toNat, by omega⟩
  have e1 : Sy.lbV ((p : Int) + 257) = .tuple #[.int .i64 ((Sy.lb p).1 : Nat), .int .i64 ((Sy.lb p).2 : Nat), .bool true] := by
    unfold Sy.lbV
    rw [if_pos hs, show ((p : Int) + 257 - 257).toNat = p by omega]
  have e2 : Sy.dbV ((p : Int) + 257) = .tuple #[.int .i64 0, .int .i64 0, .bool false] := by
    unfold Sy.dbV
    rw [if_neg (by omega)]
  have E2 := Lib.hid e2
  rw [e1]
  have c1 := HT1.out.fst p (by omega)
  have c2 := HT1.out.snd p (by omega)
  have es : (p : Int) + 257 - 257 = (p : Int) := by omega
  have d1 : decide ((257 : Int) ≤ (p : Int) + 257) = true := by simp; omega
  have d2 : decide ((p : Int) + 257 ≤ 285) = true := by simp; omega
  have d3 : decide ((p : Int) + 257 < 30) = false := by simp; omega
  have d4 : decide (0 ≤ (p : Int) + 257) = true := by simp; omega
  generalize (Sy.lb p).1 = x at *
  generalize (Sy.lb p).2 = y at *
  clear e1 e2
  go_wp2_with fail
  refine (distBase_any _ w2 hws).mono ?_
  rintro e w' ⟨rfl, rfl⟩
  rw [E2.out]
  go_wp2_with fail
  refine (lengthSymbol_any n w2 hwn).mono ?_
  rintro e w' ⟨⟨v, hv, rfl⟩, rfl⟩
  rcases ls_ways hv with ⟨rfl, x1⟩ | ⟨rfl, x1⟩ | ⟨a, r, x1, k1, rfl, k2, k3, k4⟩
  · clear hv
    by_cases x3 : 3 ≤ n
    · have x4 : decide (3 ≤ n) = true := by simpa using x3
      have x5 : decide (n ≤ 258) = false := by simp; omega
      go_wp2_with fail
      refine (distSymbol_any n w2 hwn).mono ?_
      rintro e w' ⟨⟨v, hv, rfl⟩, rfl⟩
      rcases ds_ways hv with ⟨rfl, y1⟩ | ⟨b, q, y1, l1, rfl, l2, l3, l4⟩
      · clear hv
        have y4 : decide (1 ≤ n) = true := by simp; omega
        have y5 : decide (n ≤ 32768) = false := by simp; omega
        go_wp2_with fail
        refine (lengthSymbol_any 258 w2 (by decide)).mono ?_
        rintro e w' ⟨⟨v, hv, rfl⟩, rfl⟩
        obtain rfl := ls_258 hv
        go_wp2
        go_ret
        exact ⟨rfl, HB2.out⟩
      · have y4 : decide (1 ≤ n) = true := by simp; omega
        have y5 : decide (n ≤ 32768) = true := by simp; omega
        have cd0 := HT2.out.fst q (by omega)
        have z1 : decide (n < ((Sy.db q).1 : Int)) = false := by simp; omega
        have q0 : decide ((q : Int) < 0) = false := by simp
        have q1 : decide (29 < (q : Int)) = false := by simp; omega
        clear hv
        by_cases hq : q = 29
        · subst hq
          clear y1
          generalize (Sy.db 29).1 = u at *
          go_wp2_with fail
          refine (lengthSymbol_any 258 w2 (by decide)).mono ?_
          rintro e w' ⟨⟨v, hv, rfl⟩, rfl⟩
          obtain rfl := ls_258 hv
          go_wp2
          go_ret
          exact ⟨rfl, HB2.out⟩
        · have cd1 := HT2.out.fst (q + 1) (by omega)
          have z3 := l4 (by omega)
          have z2 : decide (((Sy.db (q + 1)).1 : Int) ≤ n) = false := by simp; omega
          have q2 : decide ((q : Int) < 29) = true := by simp; omega
          have q3 : ((q : Int) == 0) = ((q : Int) == 0) := rfl
          clear y1
          generalize (Sy.db q).1 = u at *
          generalize (Sy.db (q + 1)).1 = u' at *
          go_wp2_with fail
          refine (lengthSymbol_any 258 w2 (by decide)).mono ?_
          rintro e w' ⟨⟨v, hv, rfl⟩, rfl⟩
          obtain rfl := ls_258 hv
          go_wp2
          go_ret
          exact ⟨rfl, HB2.out⟩
    · have x4 : decide (3 ≤ n) = false := by simpa using x3
      go_wp2_with fail
      refine (distSymbol_any n w2 hwn).mono ?_
      rintro e w' ⟨⟨v, hv, rfl⟩, rfl⟩
      rcases ds_ways hv with ⟨rfl, y1⟩ | ⟨b, q, y1, l1, rfl, l2, l3, l4⟩
      · clear hv
        have y4 : decide (1 ≤ n) = false := by simp; omega
        have y5 : decide (n ≤ 32768) = true := by simp; omega
        go_wp2_with fail
        refine (lengthSymbol_any 258 w2 (by decide)).mono ?_
        rintro e w' ⟨⟨v, hv, rfl⟩, rfl⟩
        obtain rfl := ls_258 hv
        go_wp2
        go_ret
        exact ⟨rfl, HB2.out⟩
      · have y4 : decide (1 ≤ n) = true := by simp; omega
        have y5 : decide (n ≤ 32768) = true := by simp; omega
        have cd0 := HT2.out.fst q (by omega)
        have z1 : decide (n < ((Sy.db q).1 : Int)) = false := by simp; omega
        have q0 : decide ((q : Int) < 0) = false := by simp
        have q1 : decide (29 < (q : Int)) = false := by simp; omega
        clear hv
        by_cases hq : q = 29
        · subst hq
          have h29 : (Sy.db 29).1 = 24577 := by decide +kernel
          omega
        · have cd1 := HT2.out.fst (q + 1) (by omega)
          have z3 := l4 (by omega)
          have z2 : decide (((Sy.db (q + 1)).1 : Int) ≤ n) = false := by simp; omega
          have q2 : decide ((q : Int) < 29) = true := by simp; omega
          have q3 : ((q : Int) == 0) = ((q : Int) == 0) := rfl
          clear y1
          generalize (Sy.db q).1 = u at *
          generalize (Sy.db (q + 1)).1 = u' at *
          go_wp2_with fail
          refine (lengthSymbol_any 258 w2 (by decide)).mono ?_
          rintro e w' ⟨⟨v, hv, rfl⟩, rfl⟩
          obtain rfl := ls_258 hv
          go_wp2
          go_ret
          exact ⟨rfl, HB2.out⟩
  · clear hv
    have x4 : decide (3 ≤ n) = true := by simp; omega
    have x5 : decide (n ≤ 258) = true := by simp; omega
    have x6 : decide (n < 258) = false := by simp; omega
    have x7 : 258 ≤ n ∧ n ≤ 258 := by omega
    clear x1
    have ca0 := HT1.out.fst 28 (by omega)
    rw [show (Sy.lb 28).1 = 258 from rfl] at ca0
    go_wp2_with fail
    refine (distSymbol_any n w2 hwn).mono ?_
    rintro e w' ⟨⟨v, hv, rfl⟩, rfl⟩
    rcases ds_ways hv with ⟨rfl, y1⟩ | ⟨b, q, y1, l1, rfl, l2, l3, l4⟩
    · exact absurd y1 (by omega)
    · have y4 : decide (1 ≤ n) = true := by simp; omega
      have y5 : decide (n ≤ 32768) = true := by simp; omega
      have cd0 := HT2.out.fst q (by omega)
      have z1 : decide (n < ((Sy.db q).1 : Int)) = false := by simp; omega
      have q0 : decide ((q : Int) < 0) = false := by simp
      have q1 : decide (29 < (q : Int)) = false := by simp; omega
      clear hv
      by_cases hq : q = 29
      · subst hq
        have h29 : (Sy.db 29).1 = 24577 := by decide +kernel
        omega
      · have cd1 := HT2.out.fst (q + 1) (by omega)
        have z3 := l4 (by omega)
        have z2 : decide (((Sy.db (q + 1)).1 : Int) ≤ n) = false := by simp; omega
        have q2 : decide ((q : Int) < 29) = true := by simp; omega
        have q3 : ((q : Int) == 0) = ((q : Int) == 0) := rfl
        clear y1
        generalize (Sy.db q).1 = u at *
        generalize (Sy.db (q + 1)).1 = u' at *
        go_wp2_with fail
        refine (lengthSymbol_any 258 w2 (by decide)).mono ?_
        rintro e w' ⟨⟨v, hv, rfl⟩, rfl⟩
        obtain rfl := ls_258 hv
        go_wp2
        go_ret
        exact ⟨rfl, HB2.out⟩
  · clear hv
    have x4 : decide (3 ≤ n) = true := by simp; omega
    have x5 : decide (n ≤ 258) = true := by simp; omega
    have x6 : n ≤ 257 ∧ 3 ≤ n := by omega
    have ca0 := HT1.out.fst r (by omega)
    have ca1 := HT1.out.fst (r + 1) (by omega)
    have w1 : decide (n < ((Sy.lb r).1 : Int)) = false := by simp; omega
    have w3 : decide (((Sy.lb (r + 1)).1 : Int) ≤ n) = false := by simp; omega
    have r1 : (257 : Int) + (r : Int) - 257 = (r : Int) := by omega
    have r2 : (257 : Int) + (r : Int) - 256 = (r : Int) + 1 := by omega
    have r3 : decide ((257 : Int) + (r : Int) < 257) = false := by simp; omega
    have r4 : decide ((285 : Int) < 257 + (r : Int)) = false := by simp; omega
    have r5 : decide ((257 : Int) + (r : Int) < 285) = true := by simp; omega
    clear x1
    generalize (Sy.lb r).1 = t at *
    generalize (Sy.lb (r + 1)).1 = t' at *
    go_wp2_with fail
    refine (distSymbol_any n w2 hwn).mono ?_
    rintro e w' ⟨⟨v, hv, rfl⟩, rfl⟩
    rcases ds_ways hv with ⟨rfl, y1⟩ | ⟨b, q, y1, l1, rfl, l2, l3, l4⟩
    · exact absurd y1 (by omega)
    · have y4 : decide (1 ≤ n) = true := by simp; omega
      have y5 : decide (n ≤ 32768) = true := by simp; omega
      have cd0 := HT2.out.fst q (by omega)
      have z1 : decide (n < ((Sy.db q).1 : Int)) = false := by simp; omega
      have q0 : decide ((q : Int) < 0) = false := by simp
      have q1 : decide (29 < (q : Int)) = false := by simp; omega
      clear hv
      by_cases hq : q = 29
      · subst hq
        have h29 : (Sy.db 29).1 = 24577 := by decide +kernel
        omega
      · have cd1 := HT2.out.fst (q + 1) (by omega)
        have z3 := l4 (by omega)
        have z2 : decide (((Sy.db (q + 1)).1 : Int) ≤ n) = false := by simp; omega
        have q2 : decide ((q : Int) < 29) = true := by simp; omega
        have q3 : ((q : Int) == 0) = ((q : Int) == 0) := rfl
        clear y1
        generalize (Sy.db q).1 = u at *
        generalize (Sy.db (q + 1)).1 = u' at *
        go_wp2_with fail
        refine (lengthSymbol_any 258 w2 (by decide)).mono ?_
        rintro e w' ⟨⟨v, hv, rfl⟩, rfl⟩
        obtain rfl := ls_258 hv
        go_wp2
        go_ret
        exact ⟨rfl, HB2.out⟩
set_option maxRecDepth 100000 in
set_option maxHeartbeats 4000000 in
theorem walk2 (s n : Int) (w : World) (hws : (Lit.int .i64 s).wf = true) (hwn : (Lit.int .i64 n).wf = true) (hs : ¬ (257 ≤ s ∧ s ≤ 285)) (hd : 0 ≤ s ∧ s ≤ 29) :
    Calls Try.prog 5 #[.int .i64 s, .int .i64 n] w fun e w' => e = .returned (.bool true) ∧ Below w.heap.size w w' := by
  have H258 := Lib.hid (fun v (h : Sy.LsPost 258 v) => ls_258 h)
  go_enter Try.func5, Try.ntmps5
  go_wp2_with fail
  refine (lens_any w).mono ?_
  rintro e w1 ⟨g1, j1, rfl, ht1, hb1⟩
  go_wp2_with fail
  refine (dists_any w1).mono ?_
  rintro e w2 ⟨g2, j2, rfl, ht2, hb2⟩
  have HT1 := Lib.hid (ht1.mono hb2)
  have HT2 := Lib.hid ht2
  have HB2 := Lib.hid (below_then hb1 hb2)
  clear ht1 ht2 hb1 hb2
  go_wp2_with fail
  refine (lengthBase_any s w2 hws).mono ?_
  rintro e w' ⟨rfl, rfl⟩
  have e1 : Sy.lbV s = .tuple #[.int .i64 0, .int .i64 0, .bool false] := by unfold Sy.lbV; rw [if_neg hs]
  rw [e1]
  clear e1
  obtain ⟨p, rfl⟩ := Int.eq_ofNat_of_zero_le hd.1
  have e2 : Sy.dbV (p : Int) = .tuple #[.int .i64 ((Sy.db p).1 : Nat), .int .i64 ((Sy.db p).2 : Nat), .bool true] := by
    unfold Sy.dbV
    rw [if_pos hd, Int.toNat_natCast]
  have E2 := Lib.hid e2
  have c1 := HT2.out.fst p (by omega)
  have c2 := HT2.out.snd p (by omega)
  have d1 : decide ((257 : Int) ≤ (p : Int)) = false := by simp; omega
  have d2 : decide ((p : Int) < 30) = true := by simp; omega
  have d3 : decide (0 ≤ (p : Int)) = true := by simp
  generalize (Sy.db p).1 = x at *
  generalize (Sy.db p).2 = y at *
  clear e2
  go_wp2_with fail
  refine (distBase_any _ w2 hws).mono ?_
  rintro e w' ⟨rfl, rfl⟩
  rw [E2.out]
  go_wp2_with fail
  refine (lengthSymbol_any n w2 hwn).mono ?_
  rintro e w' ⟨⟨v, hv, rfl⟩, rfl⟩
  rcases ls_ways hv with ⟨rfl, x1⟩ | ⟨rfl, x1⟩ | ⟨a, r, x1, k1, rfl, k2, k3, k4⟩
  · clear hv
    by_cases x3 : 3 ≤ n
    · have x4 : decide (3 ≤ n) = true := by simpa using x3
      have x5 : decide (n ≤ 258) = false := by simp; omega
      go_wp2_with fail
      refine (distSymbol_any n w2 hwn).mono ?_
      rintro e w' ⟨⟨v, hv, rfl⟩, rfl⟩
      rcases ds_ways hv with ⟨rfl, y1⟩ | ⟨b, q, y1, l1, rfl, l2, l3, l4⟩
      · clear hv
        have y4 : decide (1 ≤ n) = true := by simp; omega
        have y5 : decide (n ≤ 32768) = false := by simp; omega
        go_wp2_with fail
        refine (lengthSymbol_any 258 w2 (by decide)).mono ?_
        rintro e w' ⟨⟨v, hv, rfl⟩, rfl⟩
        obtain rfl := ls_258 hv
        go_wp2
        go_ret
        exact ⟨rfl, HB2.out⟩
      · have y4 : decide (1 ≤ n) = true := by simp; omega
        have y5 : decide (n ≤ 32768) = true := by simp; omega
        have cd0 := HT2.out.fst q (by omega)
        have z1 : decide (n < ((Sy.db q).1 : Int)) = false := by simp; omega
        have q0 : decide ((q : Int) < 0) = false := by simp
        have q1 : decide (29 < (q : Int)) = false := by simp; omega
        clear hv
        by_cases hq : q = 29
        · subst hq
          clear y1
          generalize (Sy.db 29).1 = u at *
          go_wp2_with fail
          refine (lengthSymbol_any 258 w2 (by decide)).mono ?_
          rintro e w' ⟨⟨v, hv, rfl⟩, rfl⟩
          obtain rfl := ls_258 hv
          go_wp2
          go_ret
          exact ⟨rfl, HB2.out⟩
        · have cd1 := HT2.out.fst (q + 1) (by omega)
          have z3 := l4 (by omega)
          have z2 : decide (((Sy.db (q + 1)).1 : Int) ≤ n) = false := by simp; omega
          have q2 : decide ((q : Int) < 29) = true := by simp; omega
          have q3 : ((q : Int) == 0) = ((q : Int) == 0) := rfl
          clear y1
          generalize (Sy.db q).1 = u at *
          generalize (Sy.db (q + 1)).1 = u' at *
          go_wp2_with fail
          refine (lengthSymbol_any 258 w2 (by decide)).mono ?_
          rintro e w' ⟨⟨v, hv, rfl⟩, rfl⟩
          obtain rfl := ls_258 hv
          go_wp2
          go_ret
          exact ⟨rfl, HB2.out⟩
    · have x4 : decide (3 ≤ n) = false := by simpa using x3
      go_wp2_with fail
      refine (distSymbol_any n w2 hwn).mono ?_
      rintro e w' ⟨⟨v, hv, rfl⟩, rfl⟩
      rcases ds_ways hv with ⟨rfl, y1⟩ | ⟨b, q, y1, l1, rfl, l2, l3, l4⟩
      · clear hv
        have y4 : decide (1 ≤ n) = false := by simp; omega
        have y5 : decide (n ≤ 32768) = true := by simp; omega
        go_wp2_with fail
        refine (lengthSymbol_any 258 w2 (by decide)).mono ?_
        rintro e w' ⟨⟨v, hv, rfl⟩, rfl⟩
        obtain rfl := ls_258 hv
        go_wp2
        go_ret
        exact ⟨rfl, HB2.out⟩
      · have y4 : decide (1 ≤ n) = true := by simp; omega
        have y5 : decide (n ≤ 32768) = true := by simp; omega
        have cd0 := HT2.out.fst q (by omega)
        have z1 : decide (n < ((Sy.db q).1 : Int)) = false := by simp; omega
        have q0 : decide ((q : Int) < 0) = false := by simp
        have q1 : decide (29 < (q : Int)) = false := by simp; omega
        clear hv
        by_cases hq : q = 29
        · subst hq
          have h29 : (Sy.db 29).1 = 24577 := by decide +kernel
          omega
        · have cd1 := HT2.out.fst (q + 1) (by omega)
          have z3 := l4 (by omega)
          have z2 : decide (((Sy.db (q + 1)).1 : Int) ≤ n) = false := by simp; omega
          have q2 : decide ((q : Int) < 29) = true := by simp; omega
          have q3 : ((q : Int) == 0) = ((q : Int) == 0) := rfl
          clear y1
          generalize (Sy.db q).1 = u at *
          generalize (Sy.db (q + 1)).1 = u' at *
          go_wp2_with fail
          refine (lengthSymbol_any 258 w2 (by decide)).mono ?_
          rintro e w' ⟨⟨v, hv, rfl⟩, rfl⟩
          obtain rfl := ls_258 hv
          go_wp2
          go_ret
          exact ⟨rfl, HB2.out⟩
  · clear hv
    have x4 : decide (3 ≤ n) = true := by simp; omega
    have x5 : decide (n ≤ 258) = true := by simp; omega
    have x6 : decide (n < 258) = false := by simp; omega
    have x7 : 258 ≤ n ∧ n ≤ 258 := by omega
    clear x1
    have ca0 := HT1.out.fst 28 (by omega)
    rw [show (Sy.lb 28).1 = 258 from rfl] at ca0
    go_wp2_with fail
    refine (distSymbol_any n w2 hwn).mono ?_
    rintro e w' ⟨⟨v, hv, rfl⟩, rfl⟩
    rcases ds_ways hv with ⟨rfl, y1⟩ | ⟨b, q, y1, l1, rfl, l2, l3, l4⟩
    · exact absurd y1 (by omega)
    · have y4 : decide (1 ≤ n) = true := by simp; omega
      have y5 : decide (n ≤ 32768) = true := by simp; omega
      have cd0 := HT2.out.fst q (by omega)
      have z1 : decide (n < ((Sy.db q).1 : Int)) = false := by simp; omega
      have q0 : decide ((q : Int) < 0) = false := by simp
      have q1 : decide (29 < (q : Int)) = false := by simp; omega
      clear hv
      by_cases hq : q = 29
      · subst hq
        have h29 : (Sy.db 29).1 = 24577 := by decide +kernel
        omega
      · have cd1 := HT2.out.fst (q + 1) (by omega)
        have z3 := l4 (by omega)
        have z2 : decide (((Sy.db (q + 1)).1 : Int) ≤ n) = false := by simp; omega
        have q2 : decide ((q : Int) < 29) = true := by simp; omega
        have q3 : ((q : Int) == 0) = ((q : Int) == 0) := rfl
        clear y1
        generalize (Sy.db q).1 = u at *
        generalize (Sy.db (q + 1)).1 = u' at *
        go_wp2_with fail
        refine (lengthSymbol_any 258 w2 (by decide)).mono ?_
        rintro e w' ⟨⟨v, hv, rfl⟩, rfl⟩
        obtain rfl := ls_258 hv
        go_wp2
        go_ret
        exact ⟨rfl, HB2.out⟩
  · clear hv
    have x4 : decide (3 ≤ n) = true := by simp; omega
    have x5 : decide (n ≤ 258) = true := by simp; omega
    have x6 : n ≤ 257 ∧ 3 ≤ n := by omega
    have ca0 := HT1.out.fst r (by omega)
    have ca1 := HT1.out.fst (r + 1) (by omega)
    have w1 : decide (n < ((Sy.lb r).1 : Int)) = false := by simp; omega
    have w3 : decide (((Sy.lb (r + 1)).1 : Int) ≤ n) = false := by simp; omega
    have r1 : (257 : Int) + (r : Int) - 257 = (r : Int) := by omega
    have r2 : (257 : Int) + (r : Int) - 256 = (r : Int) + 1 := by omega
    have r3 : decide ((257 : Int) + (r : Int) < 257) = false := by simp; omega
    have r4 : decide ((285 : Int) < 257 + (r : Int)) = false := by simp; omega
    have r5 : decide ((257 : Int) + (r : Int) < 285) = true := by simp; omega
    clear x1
    generalize (Sy.lb r).1 = t at *
    generalize (Sy.lb (r + 1)).1 = t' at *
    go_wp2_with fail
    refine (distSymbol_any n w2 hwn).mono ?_
    rintro e w' ⟨⟨v, hv, rfl⟩, rfl⟩
    rcases ds_ways hv with ⟨rfl, y1⟩ | ⟨b, q, y1, l1, rfl, l2, l3, l4⟩
    · exact absurd y1 (by omega)
    · have y4 : decide (1 ≤ n) = true := by simp; omega
      have y5 : decide (n ≤ 32768) = true := by simp; omega
      have cd0 := HT2.out.fst q (by omega)
      have z1 : decide (n < ((Sy.db q).1 : Int)) = false := by simp; omega
      have q0 : decide ((q : Int) < 0) = false := by simp
      have q1 : decide (29 < (q : Int)) = false := by simp; omega
      clear hv
      by_cases hq : q = 29
      · subst hq
        have h29 : (Sy.db 29).1 = 24577 := by decide +kernel
        omega
      · have cd1 := HT2.out.fst (q + 1) (by omega)
        have z3 := l4 (by omega)
        have z2 : decide (((Sy.db (q + 1)).1 : Int) ≤ n) = false := by simp; omega
        have q2 : decide ((q : Int) < 29) = true := by simp; omega
        have q3 : ((q : Int) == 0) = ((q : Int) == 0) := rfl
        clear y1
        generalize (Sy.db q).1 = u at *
        generalize (Sy.db (q + 1)).1 = u' at *
        go_wp2_with fail
        refine (lengthSymbol_any 258 w2 (by decide)).mono ?_
        rintro e w' ⟨⟨v, hv, rfl⟩, rfl⟩
        obtain rfl := ls_258 hv
        go_wp2
        go_ret
        exact ⟨rfl, HB2.out⟩
set_option maxRecDepth 100000 in
set_option maxHeartbeats 4000000 in
theorem walk3 (s n : Int) (w : World) (hws : (Lit.int .i64 s).wf = true) (hwn : (Lit.int .i64 n).wf = true) (hs : ¬ (257 ≤ s ∧ s ≤ 285)) (hd : ¬ (0 ≤ s ∧ s ≤ 29)) (h1 : 257 ≤ s) :
    Calls Try.prog 5 #[.int .i64 s, .int .i64 n] w fun e w' => e = .returned (.bool true) ∧ Below w.heap.size w w' := by
  have H258 := Lib.hid (fun v (h : Sy.LsPost 258 v) => ls_258 h)
  go_enter Try.func5, Try.ntmps5
  go_wp2_with fail
  refine (lens_any w).mono ?_
  rintro e w1 ⟨g1, j1, rfl, ht1, hb1⟩
  go_wp2_with fail
  refine (dists_any w1).mono ?_
  rintro e w2 ⟨g2, j2, rfl, ht2, hb2⟩
  have HT1 := Lib.hid (ht1.mono hb2)
  have HT2 := Lib.hid ht2
  have HB2 := Lib.hid (below_then hb1 hb2)
  clear ht1 ht2 hb1 hb2
  go_wp2_with fail
  refine (lengthBase_any s w2 hws).mono ?_
  rintro e w' ⟨rfl, rfl⟩
  have e1 : Sy.lbV s = .tuple #[.int .i64 0, .int .i64 0, .bool false] := by unfold Sy.lbV; rw [if_neg hs]
  rw [e1]
  clear e1
  have e2 : Sy.dbV s = .tuple #[.int .i64 0, .int .i64 0, .bool false] := by unfold Sy.dbV; rw [if_neg hd]
  have E2 := Lib.hid e2
  clear e2
  have d1 : decide ((257 : Int) ≤ s) = true := by simpa using h1
  have d2 : decide (s ≤ 285) = false := by simp; omega
  have d3 : decide (s < 30) = false := by simp; omega
  have d4 : decide (0 ≤ s) = true := by simp; omega
  go_wp2_with fail
  refine (distBase_any _ w2 hws).mono ?_
  rintro e w' ⟨rfl, rfl⟩
  rw [E2.out]
  go_wp2_with fail
  refine (lengthSymbol_any n w2 hwn).mono ?_
  rintro e w' ⟨⟨v, hv, rfl⟩, rfl⟩
  rcases ls_ways hv with ⟨rfl, x1⟩ | ⟨rfl, x1⟩ | ⟨a, r, x1, k1, rfl, k2, k3, k4⟩
  · clear hv
    by_cases x3 : 3 ≤ n
    · have x4 : decide (3 ≤ n) = true := by simpa using x3
      have x5 : decide (n ≤ 258) = false := by simp; omega
      go_wp2_with fail
      refine (distSymbol_any n w2 hwn).mono ?_
      rintro e w' ⟨⟨v, hv, rfl⟩, rfl⟩
      rcases ds_ways hv with ⟨rfl, y1⟩ | ⟨b, q, y1, l1, rfl, l2, l3, l4⟩
      · clear hv
        have y4 : decide (1 ≤ n) = true := by simp; omega
        have y5 : decide (n ≤ 32768) = false := by simp; omega
        go_wp2_with fail
        refine (lengthSymbol_any 258 w2 (by decide)).mono ?_
        rintro e w' ⟨⟨v, hv, rfl⟩, rfl⟩
        obtain rfl := ls_258 hv
        go_wp2
        go_ret
        exact ⟨rfl, HB2.out⟩
      · have y4 : decide (1 ≤ n) = true := by simp; omega
        have y5 : decide (n ≤ 32768) = true := by simp; omega
        have cd0 := HT2.out.fst q (by omega)
        have z1 : decide (n < ((Sy.db q).1 : Int)) = false := by simp; omega
        have q0 : decide ((q : Int) < 0) = false := by simp
        have q1 : decide (29 < (q : Int)) = false := by simp; omega
        clear hv
        by_cases hq : q = 29
        · subst hq
          clear y1
          generalize (Sy.db 29).1 = u at *
          go_wp2_with fail
          refine (lengthSymbol_any 258 w2 (by decide)).mono ?_
          rintro e w' ⟨⟨v, hv, rfl⟩, rfl⟩
          obtain rfl := ls_258 hv
          go_wp2
          go_ret
          exact ⟨rfl, HB2.out⟩
        · have cd1 := HT2.out.fst (q + 1) (by omega)
          have z3 := l4 (by omega)
          have z2 : decide (((Sy.db (q + 1)).1 : Int) ≤ n) = false := by simp; omega
          have q2 : decide ((q : Int) < 29) = true := by simp; omega
          have q3 : ((q : Int) == 0) = ((q : Int) == 0) := rfl
          clear y1
          generalize (Sy.db q).1 = u at *
          generalize (Sy.db (q + 1)).1 = u' at *
          go_wp2_with fail
          refine (lengthSymbol_any 258 w2 (by decide)).mono ?_
          rintro e w' ⟨⟨v, hv, rfl⟩, rfl⟩
          obtain rfl := ls_258 hv
          go_wp2
          go_ret
          exact ⟨rfl, HB2.out⟩
    · have x4 : decide (3 ≤ n) = false := by simpa using x3
      go_wp2_with fail
      refine (distSymbol_any n w2 hwn).mono ?_
      rintro e w' ⟨⟨v, hv, rfl⟩, rfl⟩
      rcases ds_ways hv with ⟨rfl, y1⟩ | ⟨b, q, y1, l1, rfl, l2, l3, l4⟩
      · clear hv
        have y4 : decide (1 ≤ n) = false := by simp; omega
        have y5 : decide (n ≤ 32768) = true := by simp; omega
        go_wp2_with fail
        refine (lengthSymbol_any 258 w2 (by decide)).mono ?_
        rintro e w' ⟨⟨v, hv, rfl⟩, rfl⟩
        obtain rfl := ls_258 hv
        go_wp2
        go_ret
        exact ⟨rfl, HB2.out⟩
      · have y4 : decide (1 ≤ n) = true := by simp; omega
        have y5 : decide (n ≤ 32768) = true := by simp; omega
        have cd0 := HT2.out.fst q (by omega)
        have z1 : decide (n < ((Sy.db q).1 : Int)) = false := by simp; omega
        have q0 : decide ((q : Int) < 0) = false := by simp
        have q1 : decide (29 < (q : Int)) = false := by simp; omega
        clear hv
        by_cases hq : q = 29
        · subst hq
          have h29 : (Sy.db 29).1 = 24577 := by decide +kernel
          omega
        · have cd1 := HT2.out.fst (q + 1) (by omega)
          have z3 := l4 (by omega)
          have z2 : decide (((Sy.db (q + 1)).1 : Int) ≤ n) = false := by simp; omega
          have q2 : decide ((q : Int) < 29) = true := by simp; omega
          have q3 : ((q : Int) == 0) = ((q : Int) == 0) := rfl
          clear y1
          generalize (Sy.db q).1 = u at *
          generalize (Sy.db (q + 1)).1 = u' at *
          go_wp2_with fail
          refine (lengthSymbol_any 258 w2 (by decide)).mono ?_
          rintro e w' ⟨⟨v, hv, rfl⟩, rfl⟩
          obtain rfl := ls_258 hv
          go_wp2
          go_ret
          exact ⟨rfl, HB2.out⟩
  · clear hv
    have x4 : decide (3 ≤ n) = true := by simp; omega
    have x5 : decide (n ≤ 258) = true := by simp; omega
    have x6 : decide (n < 258) = false := by simp; omega
    have x7 : 258 ≤ n ∧ n ≤ 258 := by omega
    clear x1
    have ca0 := HT1.out.fst 28 (by omega)
    rw [show (Sy.lb 28).1 = 258 from rfl] at ca0
    go_wp2_with fail
    refine (distSymbol_any n w2 hwn).mono ?_
    rintro e w' ⟨⟨v, hv, rfl⟩, rfl⟩
    rcases ds_ways hv with ⟨rfl, y1⟩ | ⟨b, q, y1, l1, rfl, l2, l3, l4⟩
    · exact absurd y1 (by omega)
    · have y4 : decide (1 ≤ n) = true := by simp; omega
      have y5 : decide (n ≤ 32768) = true := by simp; omega
      have cd0 := HT2.out.fst q (by omega)
      have z1 : decide (n < ((Sy.db q).1 : Int)) = false := by simp; omega
      have q0 : decide ((q : Int) < 0) = false := by simp
      have q1 : decide (29 < (q : Int)) = false := by simp; omega
      clear hv
      by_cases hq : q = 29
      · subst hq
        have h29 : (Sy.db 29).1 = 24577 := by decide +kernel
        omega
      · have cd1 := HT2.out.fst (q + 1) (by omega)
        have z3 := l4 (by omega)
        have z2 : decide (((Sy.db (q + 1)).1 : Int) ≤ n) = false := by simp; omega
        have q2 : decide ((q : Int) < 29) = true := by simp; omega
        have q3 : ((q : Int) == 0) = ((q : Int) == 0) := rfl
        clear y1
        generalize (Sy.db q).1 = u at *
        generalize (Sy.db (q + 1)).1 = u' at *
        go_wp2_with fail
        refine (lengthSymbol_any 258 w2 (by decide)).mono ?_
        rintro e w' ⟨⟨v, hv, rfl⟩, rfl⟩
        obtain rfl := ls_258 hv
        go_wp2
        go_ret
        exact ⟨rfl, HB2.out⟩
  · clear hv
    have x4 : decide (3 ≤ n) = true := by simp; omega
    have x5 : decide (n ≤ 258) = true := by simp; omega
    have x6 : n ≤ 257 ∧ 3 ≤ n := by omega
    have ca0 := HT1.out.fst r (by omega)
    have ca1 := HT1.out.fst (r + 1) (by omega)
    have w1 : decide (n < ((Sy.lb r).1 : Int)) = false := by simp; omega
    have w3 : decide (((Sy.lb (r + 1)).1 : Int) ≤ n) = false := by simp; omega
    have r1 : (257 : Int) + (r : Int) - 257 = (r : Int) := by omega
    have r2 : (257 : Int) + (r : Int) - 256 = (r : Int) + 1 := by omega
    have r3 : decide ((257 : Int) + (r : Int) < 257) = false := by simp; omega
    have r4 : decide ((285 : Int) < 257 + (r : Int)) = false := by simp; omega
    have r5 : decide ((257 : Int) + (r : Int) < 285) = true := by simp; omega
    clear x1
    generalize (Sy.lb r).1 = t at *
    generalize (Sy.lb (r + 1)).1 = t' at *
    go_wp2_with fail
    refine (distSymbol_any n w2 hwn).mono ?_
    rintro e w' ⟨⟨v, hv, rfl⟩, rfl⟩
    rcases ds_ways hv with ⟨rfl, y1⟩ | ⟨b, q, y1, l1, rfl, l2, l3, l4⟩
    · exact absurd y1 (by omega)
    · have y4 : decide (1 ≤ n) = true := by simp; omega
      have y5 : decide (n ≤ 32768) = true := by simp; omega
      have cd0 := HT2.out.fst q (by omega)
      have z1 : decide (n < ((Sy.db q).1 : Int)) = false := by simp; omega
      have q0 : decide ((q : Int) < 0) = false := by simp
      have q1 : decide (29 < (q : Int)) = false := by simp; omega
      clear hv
      by_cases hq : q = 29
      · subst hq
        have h29 : (Sy.db 29).1 = 24577 := by decide +kernel
        omega
      · have cd1 := HT2.out.fst (q + 1) (by omega)
        have z3 := l4 (by omega)
        have z2 : decide (((Sy.db (q + 1)).1 : Int) ≤ n) = false := by simp; omega
        have q2 : decide ((q : Int) < 29) = true := by simp; omega
        have q3 : ((q : Int) == 0) = ((q : Int) == 0) := rfl
        clear y1
        generalize (Sy.db q).1 = u at *
        generalize (Sy.db (q + 1)).1 = u' at *
        go_wp2_with fail
        refine (lengthSymbol_any 258 w2 (by decide)).mono ?_
        rintro e w' ⟨⟨v, hv, rfl⟩, rfl⟩
        obtain rfl := ls_258 hv
        go_wp2
        go_ret
        exact ⟨rfl, HB2.out⟩
set_option maxRecDepth 100000 in
set_option maxHeartbeats 4000000 in
theorem walk4 (s n : Int) (w : World) (hws : (Lit.int .i64 s).wf = true) (hwn : (Lit.int .i64 n).wf = true) (hs : ¬ (257 ≤ s ∧ s ≤ 285)) (hd : ¬ (0 ≤ s ∧ s ≤ 29)) (h1 : ¬ 257 ≤ s) (h2 : 0 ≤ s) :
    Calls Try.prog 5 #[.int .i64 s, .int .i64 n] w fun e w' => e = .returned (.bool true) ∧ Below w.heap.size w w' := by
  have H258 := Lib.hid (fun v (h : Sy.LsPost 258 v) => ls_258 h)
  go_enter Try.func5, Try.ntmps5
  go_wp2_with fail
  refine (lens_any w).mono ?_
  rintro e w1 ⟨g1, j1, rfl, ht1, hb1⟩
  go_wp2_with fail
  refine (dists_any w1).mono ?_
  rintro e w2 ⟨g2, j2, rfl, ht2, hb2⟩
  have HT1 := Lib.hid (ht1.mono hb2)
  have HT2 := Lib.hid ht2
  have HB2 := Lib.hid (below_then hb1 hb2)
  clear ht1 ht2 hb1 hb2
  go_wp2_with fail
  refine (lengthBase_any s w2 hws).mono ?_
  rintro e w' ⟨rfl, rfl⟩
  have e1 : Sy.lbV s = .tuple #[.int .i64 0, .int .i64 0, .bool false] := by unfold Sy.lbV; rw [if_neg hs]
  rw [e1]
  clear e1
  have e2 : Sy.dbV s = .tuple #[.int .i64 0, .int .i64 0, .bool false] := by unfold Sy.dbV; rw [if_neg hd]
  have E2 := Lib.hid e2
  clear e2
  have d1 : decide ((257 : Int) ≤ s) = false := by simpa using h1
  have d2 : decide (0 ≤ s) = true := by simpa using h2
  have d3 : decide (s < 30) = false := by simp; omega
  go_wp2_with fail
  refine (distBase_any _ w2 hws).mono ?_
  rintro e w' ⟨rfl, rfl⟩
  rw [E2.out]
  go_wp2_with fail
  refine (lengthSymbol_any n w2 hwn).mono ?_
  rintro e w' ⟨⟨v, hv, rfl⟩, rfl⟩
  rcases ls_ways hv with ⟨rfl, x1⟩ | ⟨rfl, x1⟩ | ⟨a, r, x1, k1, rfl, k2, k3, k4⟩
  · clear hv
    by_cases x3 : 3 ≤ n
    · have x4 : decide (3 ≤ n) = true := by simpa using x3
      have x5 : decide (n ≤ 258) = false := by simp; omega
      go_wp2_with fail
      refine (distSymbol_any n w2 hwn).mono ?_
      rintro e w' ⟨⟨v, hv, rfl⟩, rfl⟩
      rcases ds_ways hv with ⟨rfl, y1⟩ | ⟨b, q, y1, l1, rfl, l2, l3, l4⟩
      · clear hv
        have y4 : decide (1 ≤ n) = true := by simp; omega
        have y5 : decide (n ≤ 32768) = false := by simp; omega
        go_wp2_with fail
        refine (lengthSymbol_any 258 w2 (by decide)).mono ?_
        rintro e w' ⟨⟨v, hv, rfl⟩, rfl⟩
        obtain rfl := ls_258 hv
        go_wp2
        go_ret
        exact ⟨rfl, HB2.out⟩
      · have y4 : decide (1 ≤ n) = true := by simp; omega
        have y5 : decide (n ≤ 32768) = true := by simp; omega
        have cd0 := HT2.out.fst q (by omega)
        have z1 : decide (n < ((Sy.db q).1 : Int)) = false := by simp; omega
        have q0 : decide ((q : Int) < 0) = false := by simp
        have q1 : decide (29 < (q : Int)) = false := by simp; omega
        clear hv
        by_cases hq : q = 29
        · subst hq
          clear y1
          generalize (Sy.db 29).1 = u at *
          go_wp2_with fail
          refine (lengthSymbol_any 258 w2 (by decide)).mono ?_
          rintro e w' ⟨⟨v, hv, rfl⟩, rfl⟩
          obtain rfl := ls_258 hv
          go_wp2
          go_ret
          exact ⟨rfl, HB2.out⟩
        · have cd1 := HT2.out.fst (q + 1) (by omega)
          have z3 := l4 (by omega)
          have z2 : decide (((Sy.db (q + 1)).1 : Int) ≤ n) = false := by simp; omega
          have q2 : decide ((q : Int) < 29) = true := by simp; omega
          have q3 : ((q : Int) == 0) = ((q : Int) == 0) := rfl
          clear y1
          generalize (Sy.db q).1 = u at *
          generalize (Sy.db (q + 1)).1 = u' at *
          go_wp2_with fail
          refine (lengthSymbol_any 258 w2 (by decide)).mono ?_
          rintro e w' ⟨⟨v, hv, rfl⟩, rfl⟩
          obtain rfl := ls_258 hv
          go_wp2
          go_ret
          exact ⟨rfl, HB2.out⟩
    · have x4 : decide (3 ≤ n) = false := by simpa using x3
      go_wp2_with fail
      refine (distSymbol_any n w2 hwn).mono ?_
      rintro e w' ⟨⟨v, hv, rfl⟩, rfl⟩
      rcases ds_ways hv with ⟨rfl, y1⟩ | ⟨b, q, y1, l1, rfl, l2, l3, l4⟩
      · clear hv
        have y4 : decide (1 ≤ n) = false := by simp; omega
        have y5 : decide (n ≤ 32768) = true := by simp; omega
        go_wp2_with fail
        refine (lengthSymbol_any 258 w2 (by decide)).mono ?_
        rintro e w' ⟨⟨v, hv, rfl⟩, rfl⟩
        obtain rfl := ls_258 hv
        go_wp2
        go_ret
        exact ⟨rfl, HB2.out⟩
      · have y4 : decide (1 ≤ n) = true := by simp; omega
        have y5 : decide (n ≤ 32768) = true := by simp; omega
        have cd0 := HT2.out.fst q (by omega)
        have z1 : decide (n < ((Sy.db q).1 : Int)) = false := by simp; omega
        have q0 : decide ((q : Int) < 0) = false := by simp
        have q1 : decide (29 < (q : Int)) = false := by simp; omega
        clear hv
        by_cases hq : q = 29
        · subst hq
          have h29 : (Sy.db 29).1 = 24577 := by decide +kernel
          omega
        · have cd1 := HT2.out.fst (q + 1) (by omega)
          have z3 := l4 (by omega)
          have z2 : decide (((Sy.db (q + 1)).1 : Int) ≤ n) = false := by simp; omega
          have q2 : decide ((q : Int) < 29) = true := by simp; omega
          have q3 : ((q : Int) == 0) = ((q : Int) == 0) := rfl
          clear y1
          generalize (Sy.db q).1 = u at *
          generalize (Sy.db (q + 1)).1 = u' at *
          go_wp2_with fail
          refine (lengthSymbol_any 258 w2 (by decide)).mono ?_
          rintro e w' ⟨⟨v, hv, rfl⟩, rfl⟩
          obtain rfl := ls_258 hv
          go_wp2
          go_ret
          exact ⟨rfl, HB2.out⟩
  · clear hv
    have x4 : decide (3 ≤ n) = true := by simp; omega
    have x5 : decide (n ≤ 258) = true := by simp; omega
    have x6 : decide (n < 258) = false := by simp; omega
    have x7 : 258 ≤ n ∧ n ≤ 258 := by omega
    clear x1
    have ca0 := HT1.out.fst 28 (by omega)
    rw [show (Sy.lb 28).1 = 258 from rfl] at ca0
    go_wp2_with fail
    refine (distSymbol_any n w2 hwn).mono ?_
    rintro e w' ⟨⟨v, hv, rfl⟩, rfl⟩
    rcases ds_ways hv with ⟨rfl, y1⟩ | ⟨b, q, y1, l1, rfl, l2, l3, l4⟩
    · exact absurd y1 (by omega)
    · have y4 : decide (1 ≤ n) = true := by simp; omega
      have y5 : decide (n ≤ 32768) = true := by simp; omega
      have cd0 := HT2.out.fst q (by omega)
      have z1 : decide (n < ((Sy.db q).1 : Int)) = false := by simp; omega
      have q0 : decide ((q : Int) < 0) = false := by simp
      have q1 : decide (29 < (q : Int)) = false := by simp; omega
      clear hv
      by_cases hq : q = 29
      · subst hq
        have h29 : (Sy.db 29).1 = 24577 := by decide +kernel
        omega
      · have cd1 := HT2.out.fst (q + 1) (by omega)
        have z3 := l4 (by omega)
        have z2 : decide (((Sy.db (q + 1)).1 : Int) ≤ n) = false := by simp; omega
        have q2 : decide ((q : Int) < 29) = true := by simp; omega
        have q3 : ((q : Int) == 0) = ((q : Int) == 0) := rfl
        clear y1
        generalize (Sy.db q).1 = u at *
        generalize (Sy.db (q + 1)).1 = u' at *
        go_wp2_with fail
        refine (lengthSymbol_any 258 w2 (by decide)).mono ?_
        rintro e w' ⟨⟨v, hv, rfl⟩, rfl⟩
        obtain rfl := ls_258 hv
        go_wp2
        go_ret
        exact ⟨rfl, HB2.out⟩
  · clear hv
    have x4 : decide (3 ≤ n) = true := by simp; omega
    have x5 : decide (n ≤ 258) = true := by simp; omega
    have x6 : n ≤ 257 ∧ 3 ≤ n := by omega
    have ca0 := HT1.out.fst r (by omega)
    have ca1 := HT1.out.fst (r + 1) (by omega)
    have w1 : decide (n < ((Sy.lb r).1 : Int)) = false := by simp; omega
    have w3 : decide (((Sy.lb (r + 1)).1 : Int) ≤ n) = false := by simp; omega
    have r1 : (257 : Int) + (r : Int) - 257 = (r : Int) := by omega
    have r2 : (257 : Int) + (r : Int) - 256 = (r : Int) + 1 := by omega
    have r3 : decide ((257 : Int) + (r : Int) < 257) = false := by simp; omega
    have r4 : decide ((285 : Int) < 257 + (r : Int)) = false := by simp; omega
    have r5 : decide ((257 : Int) + (r : Int) < 285) = true := by simp; omega
    clear x1
    generalize (Sy.lb r).1 = t at *
    generalize (Sy.lb (r + 1)).1 = t' at *
    go_wp2_with fail
    refine (distSymbol_any n w2 hwn).mono ?_
    rintro e w' ⟨⟨v, hv, rfl⟩, rfl⟩
    rcases ds_ways hv with ⟨rfl, y1⟩ | ⟨b, q, y1, l1, rfl, l2, l3, l4⟩
    · exact absurd y1 (by omega)
    · have y4 : decide (1 ≤ n) = true := by simp; omega
      have y5 : decide (n ≤ 32768) = true := by simp; omega
      have cd0 := HT2.out.fst q (by omega)
      have z1 : decide (n < ((Sy.db q).1 : Int)) = false := by simp; omega
      have q0 : decide ((q : Int) < 0) = false := by simp
      have q1 : decide (29 < (q : Int)) = false := by simp; omega
      clear hv
      by_cases hq : q = 29
      · subst hq
        have h29 : (Sy.db 29).1 = 24577 := by decide +kernel
        omega
      · have cd1 := HT2.out.fst (q + 1) (by omega)
        have z3 := l4 (by omega)
        have z2 : decide (((Sy.db (q + 1)).1 : Int) ≤ n) = false := by simp; omega
        have q2 : decide ((q : Int) < 29) = true := by simp; omega
        have q3 : ((q : Int) == 0) = ((q : Int) == 0) := rfl
        clear y1
        generalize (Sy.db q).1 = u at *
        generalize (Sy.db (q + 1)).1 = u' at *
        go_wp2_with fail
        refine (lengthSymbol_any 258 w2 (by decide)).mono ?_
        rintro e w' ⟨⟨v, hv, rfl⟩, rfl⟩
        obtain rfl := ls_258 hv
        go_wp2
        go_ret
        exact ⟨rfl, HB2.out⟩
set_option maxRecDepth 100000 in
set_option maxHeartbeats 4000000 in
theorem walk5 (s n : Int) (w : World) (hws : (Lit.int .i64 s).wf = true) (hwn : (Lit.int .i64 n).wf = true) (hs : ¬ (257 ≤ s ∧ s ≤ 285)) (hd : ¬ (0 ≤ s ∧ s ≤ 29)) (h1 : ¬ 257 ≤ s) (h2 : ¬ 0 ≤ s) :
    Calls Try.prog 5 #[.int .i64 s, .int .i64 n] w fun e w' => e = .returned (.bool true) ∧ Below w.heap.size w w' := by
  have H258 := Lib.hid (fun v (h : Sy.LsPost 258 v) => ls_258 h)
  go_enter Try.func5, Try.ntmps5
  go_wp2_with fail
  refine (lens_any w).mono ?_
  rintro e w1 ⟨g1, j1, rfl, ht1, hb1⟩
  go_wp2_with fail
  refine (dists_any w1).mono ?_
  rintro e w2 ⟨g2, j2, rfl, ht2, hb2⟩
  have HT1 := Lib.hid (ht1.mono hb2)
  have HT2 := Lib.hid ht2
  have HB2 := Lib.hid (below_then hb1 hb2)
  clear ht1 ht2 hb1 hb2
  go_wp2_with fail
  refine (lengthBase_any s w2 hws).mono ?_
  rintro e w' ⟨rfl, rfl⟩
  have e1 : Sy.lbV s = .tuple #[.int .i64 0, .int .i64 0, .bool false] := by unfold Sy.lbV; rw [if_neg hs]
  rw [e1]
  clear e1
  have e2 : Sy.dbV s = .tuple #[.int .i64 0, .int .i64 0, .bool false] := by unfold Sy.dbV; rw [if_neg hd]
  have E2 := Lib.hid e2
  clear e2
  have d1 : decide ((257 : Int) ≤ s) = false := by simpa using h1
  have d2 : decide (0 ≤ s) = false := by simpa using h2
  go_wp2_with fail
  refine (distBase_any _ w2 hws).mono ?_
  rintro e w' ⟨rfl, rfl⟩
  rw [E2.out]
  go_wp2_with fail
  refine (lengthSymbol_any n w2 hwn).mono ?_
  rintro e w' ⟨⟨v, hv, rfl⟩, rfl⟩
  rcases ls_ways hv with ⟨rfl, x1⟩ | ⟨rfl, x1⟩ | ⟨a, r, x1, k1, rfl, k2, k3, k4⟩
  · clear hv
    by_cases x3 : 3 ≤ n
    · have x4 : decide (3 ≤ n) = true := by simpa using x3
      have x5 : decide (n ≤ 258) = false := by simp; omega
      go_wp2_with fail
      refine (distSymbol_any n w2 hwn).mono ?_
      rintro e w' ⟨⟨v, hv, rfl⟩, rfl⟩
      rcases ds_ways hv with ⟨rfl, y1⟩ | ⟨b, q, y1, l1, rfl, l2, l3, l4⟩
      · clear hv
        have y4 : decide (1 ≤ n) = true := by simp; omega
        have y5 : decide (n ≤ 32768) = false := by simp; omega
        go_wp2_with fail
        refine (lengthSymbol_any 258 w2 (by decide)).mono ?_
        rintro e w' ⟨⟨v, hv, rfl⟩, rfl⟩
        obtain rfl := ls_258 hv
        go_wp2
        go_ret
        exact ⟨rfl, HB2.out⟩
      · have y4 : decide (1 ≤ n) = true := by simp; omega
        have y5 : decide (n ≤ 32768) = true := by simp; omega
        have cd0 := HT2.out.fst q (by omega)
        have z1 : decide (n < ((Sy.db q).1 : Int)) = false := by simp; omega
        have q0 : decide ((q : Int) < 0) = false := by simp
        have q1 : decide (29 < (q : Int)) = false := by simp; omega
        clear hv
        by_cases hq : q = 29
        · subst hq
          clear y1
          generalize (Sy.db 29).1 = u at *
          go_wp2_with fail
          refine (lengthSymbol_any 258 w2 (by decide)).mono ?_
          rintro e w' ⟨⟨v, hv, rfl⟩, rfl⟩
          obtain rfl := ls_258 hv
          go_wp2
          go_ret
          exact ⟨rfl, HB2.out⟩
        · have cd1 := HT2.out.fst (q + 1) (by omega)
          have z3 := l4 (by omega)
          have z2 : decide (((Sy.db (q + 1)).1 : Int) ≤ n) = false := by simp; omega
          have q2 : decide ((q : Int) < 29) = true := by simp; omega
          have q3 : ((q : Int) == 0) = ((q : Int) == 0) := rfl
          clear y1
          generalize (Sy.db q).1 = u at *
          generalize (Sy.db (q + 1)).1 = u' at *
          go_wp2_with fail
          refine (lengthSymbol_any 258 w2 (by decide)).mono ?_
          rintro e w' ⟨⟨v, hv, rfl⟩, rfl⟩
          obtain rfl := ls_258 hv
          go_wp2
          go_ret
          exact ⟨rfl, HB2.out⟩
    · have x4 : decide (3 ≤ n) = false := by simpa using x3
      go_wp2_with fail
      refine (distSymbol_any n w2 hwn).mono ?_
      rintro e w' ⟨⟨v, hv, rfl⟩, rfl⟩
      rcases ds_ways hv with ⟨rfl, y1⟩ | ⟨b, q, y1, l1, rfl, l2, l3, l4⟩
      · clear hv
        have y4 : decide (1 ≤ n) = false := by simp; omega
        have y5 : decide (n ≤ 32768) = true := by simp; omega
        go_wp2_with fail
        refine (lengthSymbol_any 258 w2 (by decide)).mono ?_
        rintro e w' ⟨⟨v, hv, rfl⟩, rfl⟩
        obtain rfl := ls_258 hv
        go_wp2
        go_ret
        exact ⟨rfl, HB2.out⟩
      · have y4 : decide (1 ≤ n) = true := by simp; omega
        have y5 : decide (n ≤ 32768) = true := by simp; omega
        have cd0 := HT2.out.fst q (by omega)
        have z1 : decide (n < ((Sy.db q).1 : Int)) = false := by simp; omega
        have q0 : decide ((q : Int) < 0) = false := by simp
        have q1 : decide (29 < (q : Int)) = false := by simp; omega
        clear hv
        by_cases hq : q = 29
        · subst hq
          have h29 : (Sy.db 29).1 = 24577 := by decide +kernel
          omega
        · have cd1 := HT2.out.fst (q + 1) (by omega)
          have z3 := l4 (by omega)
          have z2 : decide (((Sy.db (q + 1)).1 : Int) ≤ n) = false := by simp; omega
          have q2 : decide ((q : Int) < 29) = true := by simp; omega
          have q3 : ((q : Int) == 0) = ((q : Int) == 0) := rfl
          clear y1
          generalize (Sy.db q).1 = u at *
          generalize (Sy.db (q + 1)).1 = u' at *
          go_wp2_with fail
          refine (lengthSymbol_any 258 w2 (by decide)).mono ?_
          rintro e w' ⟨⟨v, hv, rfl⟩, rfl⟩
          obtain rfl := ls_258 hv
          go_wp2
          go_ret
          exact ⟨rfl, HB2.out⟩
  · clear hv
    have x4 : decide (3 ≤ n) = true := by simp; omega
    have x5 : decide (n ≤ 258) = true := by simp; omega
    have x6 : decide (n < 258) = false := by simp; omega
    have x7 : 258 ≤ n ∧ n ≤ 258 := by omega
    clear x1
    have ca0 := HT1.out.fst 28 (by omega)
    rw [show (Sy.lb 28).1 = 258 from rfl] at ca0
    go_wp2_with fail
    refine (distSymbol_any n w2 hwn).mono ?_
    rintro e w' ⟨⟨v, hv, rfl⟩, rfl⟩
    rcases ds_ways hv with ⟨rfl, y1⟩ | ⟨b, q, y1, l1, rfl, l2, l3, l4⟩
    · exact absurd y1 (by omega)
    · have y4 : decide (1 ≤ n) = true := by simp; omega
      have y5 : decide (n ≤ 32768) = true := by simp; omega
      have cd0 := HT2.out.fst q (by omega)
      have z1 : decide (n < ((Sy.db q).1 : Int)) = false := by simp; omega
      have q0 : decide ((q : Int) < 0) = false := by simp
      have q1 : decide (29 < (q : Int)) = false := by simp; omega
      clear hv
      by_cases hq : q = 29
      · subst hq
        have h29 : (Sy.db 29).1 = 24577 := by decide +kernel
        omega
      · have cd1 := HT2.out.fst (q + 1) (by omega)
        have z3 := l4 (by omega)
        have z2 : decide (((Sy.db (q + 1)).1 : Int) ≤ n) = false := by simp; omega
        have q2 : decide ((q : Int) < 29) = true := by simp; omega
        have q3 : ((q : Int) == 0) = ((q : Int) == 0) := rfl
        clear y1
        generalize (Sy.db q).1 = u at *
        generalize (Sy.db (q + 1)).1 = u' at *
        go_wp2_with fail
        refine (lengthSymbol_any 258 w2 (by decide)).mono ?_
        rintro e w' ⟨⟨v, hv, rfl⟩, rfl⟩
        obtain rfl := ls_258 hv
        go_wp2
        go_ret
        exact ⟨rfl, HB2.out⟩
  · clear hv
    have x4 : decide (3 ≤ n) = true := by simp; omega
    have x5 : decide (n ≤ 258) = true := by simp; omega
    have x6 : n ≤ 257 ∧ 3 ≤ n := by omega
    have ca0 := HT1.out.fst r (by omega)
    have ca1 := HT1.out.fst (r + 1) (by omega)
    have w1 : decide (n < ((Sy.lb r).1 : Int)) = false := by simp; omega
    have w3 : decide (((Sy.lb (r + 1)).1 : Int) ≤ n) = false := by simp; omega
    have r1 : (257 : Int) + (r : Int) - 257 = (r : Int) := by omega
    have r2 : (257 : Int) + (r : Int) - 256 = (r : Int) + 1 := by omega
    have r3 : decide ((257 : Int) + (r : Int) < 257) = false := by simp; omega
    have r4 : decide ((285 : Int) < 257 + (r : Int)) = false := by simp; omega
    have r5 : decide ((257 : Int) + (r : Int) < 285) = true := by simp; omega
    clear x1
    generalize (Sy.lb r).1 = t at *
    generalize (Sy.lb (r + 1)).1 = t' at *
    go_wp2_with fail
    refine (distSymbol_any n w2 hwn).mono ?_
    rintro e w' ⟨⟨v, hv, rfl⟩, rfl⟩
    rcases ds_ways hv with ⟨rfl, y1⟩ | ⟨b, q, y1, l1, rfl, l2, l3, l4⟩
    · exact absurd y1 (by omega)
    · have y4 : decide (1 ≤ n) = true := by simp; omega
      have y5 : decide (n ≤ 32768) = true := by simp; omega
      have cd0 := HT2.out.fst q (by omega)
      have z1 : decide (n < ((Sy.db q).1 : Int)) = false := by simp; omega
      have q0 : decide ((q : Int) < 0) = false := by simp
      have q1 : decide (29 < (q : Int)) = false := by simp; omega
      clear hv
      by_cases hq : q = 29
      · subst hq
        have h29 : (Sy.db 29).1 = 24577 := by decide +kernel
        omega
      · have cd1 := HT2.out.fst (q + 1) (by omega)
        have z3 := l4 (by omega)
        have z2 : decide (((Sy.db (q + 1)).1 : Int) ≤ n) = false := by simp; omega
        have q2 : decide ((q : Int) < 29) = true := by simp; omega
        have q3 : ((q : Int) == 0) = ((q : Int) == 0) := rfl
        clear y1
        generalize (Sy.db q).1 = u at *
        generalize (Sy.db (q + 1)).1 = u' at *
        go_wp2_with fail
        refine (lengthSymbol_any 258 w2 (by decide)).mono ?_
        rintro e w' ⟨⟨v, hv, rfl⟩, rfl⟩
        obtain rfl := ls_258 hv
        go_wp2
        go_ret
        exact ⟨rfl, HB2.out⟩
theorem walk (s n : Int) (w : World) (hws : (Lit.int .i64 s).wf = true) (hwn : (Lit.int .i64 n).wf = true) :
    Calls Try.prog 5 #[.int .i64 s, .int .i64 n] w fun e w' => e = .returned (.bool true) ∧ Below w.heap.size w w' := by
  by_cases hs : 257 ≤ s ∧ s ≤ 285
  · exact walk1 s n w hws hwn hs
  by_cases hd : 0 ≤ s ∧ s ≤ 29
  · exact walk2 s n w hws hwn hs hd
  by_cases h1 : 257 ≤ s
  · exact walk3 s n w hws hwn hs hd h1
  by_cases h2 : 0 ≤ s
  · exact walk4 s n w hws hwn hs hd h1 h2
  · exact walk5 s n w hws hwn hs hd h1 h2
set_option maxRecDepth 100000 in
theorem lifted (os : Os) (started : os.Started) (H : Type) (enc : TypeId × Value → H) :
    ReturnsInHanded {} Try.checked os 5 .any (Rows.inflateBasesSpec.pre6 enc Try.prog Try.f5 Rows.inflateBasesRow.domain false) (Rows.inflateBasesSpec.post enc Try.prog Try.f5 false true false false) := by
  refine returnsInHanded_of_change_sized (C := Try.checked) own started (by kernel_rfl) Try.func5
    (ChangeSpec.witness6 (enc := enc) (C := Try.checked) false ⟨#[], #[.int .i64 0, .int .i64 0], []⟩ 8 (by kernel_rfl) (by kernel_rfl) (by kernel_rfl) (by kernel_rfl)) ?_
  intro W base args ds gs before hval0 hW _ hsz0 _
  have hval : ∀ (j : Nat) t v, Try.f5.params[j]? = some t → args[j]? = some v → Value.okWide Try.prog W .any base t v := hval0
  have hsz : (DataW.weightsEach Try.prog (Try.f5.params.toList ++ Rows.inflateBasesSpec.plain.varTypes Try.prog) (ds ++ gs)).all (· ≤ reachBytes) = true := hsz0
  have hW' := hW
  obtain ⟨p, q, hA0, hV, rfl, hfz, hnd⟩ := hW
  have hA : DataW.TrodAll enc Try.prog W 0 (fun _ => true) true Try.f5.params.toList args.toList ds p := hA0
  rw [Try.params5] at hA hval hsz
  obtain ⟨v0, vs0, d0, ds0, p0, q0, hargs, rfl, rfl, h0, r0⟩ := trodAll_cons hA
  obtain ⟨v1, vs1, d1, ds1, p1, q1, rfl, rfl, rfl, h1, r1⟩ := trodAll_cons r0
  obtain ⟨rfl, rfl, rfl⟩ := trodAll_nil r1
  obtain rfl : args = #[v0, v1] := by cases args; simp_all
  obtain ⟨rfl, rfl⟩ := trodVars_none hV
  clear hsz0
  obtain ⟨a0, rfl, rfl, rfl, w0⟩ := open_int Try.underlying3 (hval 0 3 v0 rfl rfl) h0
  obtain ⟨a1, rfl, rfl, rfl, w1⟩ := open_int Try.underlying3 (hval 1 3 v1 rfl rfl) h1
  clear hA0 hval0 hsz
  refine (walk a0 a1 W w0 w1).mono fun e W' ⟨he, bel⟩ => ?_
  subst he
  exact ⟨_, rfl, _, _, _, [], _, [], hW', trodAll_mk1 (shut_bool Try.underlying4 _), (trodAll_cons_mk (shut_int Try.underlying3 w0) (trodAll_cons_mk (shut_int Try.underlying3 w1) trodAll_mk0)), rfl, bel.frame _, fun h => by cases h⟩

theorem proved : Rows.InflateBasesSaid :=
  OpenClaim.holds_of_wide 5 Try.f5 rfl rfl rfl rfl rfl rfl rfl ⟨rfl, rfl, rfl, rfl, rfl⟩ rfl rfl rfl rfl rfl (by kernel_rfl) Try.func5 (by kernel_rfl)
    (of_decide_eq_true (by kernel_rfl)) (by unfold Func.isWrapper; first | (rw [if_pos (by decide +kernel)]; kernel_rfl) | (rw [if_neg (by decide +kernel)]; exact ⟨rfl, rfl⟩))
    (fun os started H enc _ => lifted os started H enc)
#print axioms proved
end Go.Proofs.Ytcagdnajapcmkaa.InflateBases
