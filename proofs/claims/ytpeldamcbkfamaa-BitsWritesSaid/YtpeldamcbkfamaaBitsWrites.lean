/- For all scripts (of at most 300 steps, as the law itself asks), in both orders: a writer's bytes and how many bits it holds are those that the document says, and the script is left as it was. No conditions. -/
import Derived.Test.YtpeldamcbkfamaaRows
import Derived.Test.YtpeldamcbkfamaaOpen
import Derived.Test.YtpeldamcbkfamaaBitsAlive
import Derived.Test.YtpeldamcbkfamaaNumIs
import Derived.Test.YtpeldamcbkfamaaOver
import Derived.Test.YtpeldamcbkfamaaRef03c
import Derived.Test.YtpeldamcbkfamaaOpenOps
import Derived.Test.YtpeldamcbkfamaaAppend3
namespace Go.Proofs.Ytpeldamcbkfamaa.BitsWrites
open Go.ChangeShapes Go.WideShapes Go.ChangeAt Go.RowKit
open Go.ChangeMaps (open_string shut_string)
set_option linter.unusedVariables false
theorem own : ownKnob Try.prog.godebug = none := by kernel_rfl
theorem laidOut : laidOutB Try.prog = true := by kernel_rfl
/-- A writer, and the list of its bits. -/
structure WS (w wx : World) (g : Nat) (h : Bool) (v vl : Value) (l m : List Bool) : Prop where
  bel : Below w.heap.size w wx
  wr : Wr wx w.heap.size g h v l
  lo : wx.ownsRow w.heap.size 3 1 vl m.length (ivs (bi m))
  n1 : vl.ownBlock ≠ some g
  n2 : ∀ k, v.ownBlock = some k → vl.ownBlock ≠ some k
theorem WS.mono {w wx wy : World} {g : Nat} {h : Bool} {v vl : Value} {l m : List Bool} (H : WS w wx g h v vl l m) (hb : Below wx.heap.size wx wy) : WS w wy g h v vl l m :=
  ⟨H.bel.trans (hb.mono H.bel.size), H.wr.mono hb, own_below H.lo hb, H.n1, H.n2⟩
/-- The writer is written to. -/
theorem WS.put {w wx wy : World} {g : Nat} {h : Bool} {v v' vl : Value} {l l' m : List Bool} (H : WS w wx g h v vl l m) (r : Wr wy w.heap.size g h v' l') (c : Ch wx wy (Wt g v)) (f : ∀ k, v'.ownBlock = some k → v.ownBlock = some k ∨ wx.heap.size ≤ k) : WS w wy g h v' vl l' m :=
  ⟨H.bel.trans (c.below H.bel.size (fun k hk => H.wr.wt_ge hk)), r, c.own H.lo (fun k hk hw => hw.elim (fun e => H.n1 (e ▸ hk)) (fun e => H.n2 k e hk)), H.n1,
    fun k hk he => (f k hk).elim (fun e => H.n2 k e he) (fun e => by have := (H.lo.lt k he).2; omega)⟩
/-- The list is appended to. -/
theorem WS.list {w wx wy : World} {g : Nat} {h : Bool} {v vl vl' : Value} {l m m' : List Bool} (H : WS w wx g h v vl l m) (o : wy.ownsRow w.heap.size 3 1 vl' m'.length (ivs (bi m'))) (c : Ch wx wy (fun k => vl.ownBlock = some k)) (f : ∀ k, vl'.ownBlock = some k → vl.ownBlock = some k ∨ wx.heap.size ≤ k) : WS w wy g h v vl' l m' :=
  ⟨H.bel.trans (c.below H.bel.size (fun k hk => (H.lo.lt k hk).1)), H.wr.kept c H.n1 (fun k hk he => H.n2 k hk he), o,
    fun he => (f g he).elim H.n1 (fun e => by have := H.wr.lt; omega), fun k hk he => (f k he).elim (fun e => H.n2 k hk e) (fun e => by have := (H.wr.own.lt k hk).2; omega)⟩
set_option maxHeartbeats 4000000 in
set_option maxRecDepth 100000 in
theorem walk (h : Bool) (a : Option Addr) (len cap : Nat) (os : List N3) (w : World) (ho : Ts3 w a len cap os) (hr : cap * 24 ≤ 140737488351232) :
    Calls Try.prog 3 #[.bool h, .slice a len cap] w fun e w' => e = .returned (.bool true) ∧ Below w.heap.size w w' := by
  have hle := ho.hle
  have HO := Lib.hid ho
  clear ho
  go_enter Try.func3, Try.ntmps3
  go_wp2_with fail
  refine (alive_any _).mono ?_
  rintro e w1 ⟨rfl, hb1⟩
  by_cases hbig : 300 < len
  · have d1 : decide ((300 : Int) < ↑len) = true := by simp; omega
    go_wp2
    go_ret
    exact ⟨rfl, hb1⟩
  have d1 : decide ((300 : Int) < ↑len) = false := by simp; omega
  go_wp2_with fail
  refine (newWriter_any h w.heap.size _ hb1.size).mono ?_
  rintro e w2 ⟨rfl, wr2, hb2⟩
  have W2 := Lib.hid wr2
  have hbb := below_then hb1 hb2
  have hg1 : w.heap.size ≤ w1.heap.size := hb1.size
  clear wr2 hb1 hb2
  generalize w1.heap.size = g at *
  go_wp2_with fail
  refine (high_any _ _ _ _ _ _ W2.out).mono ?_
  rintro e w' ⟨rfl, rfl⟩
  have dh : (h != h) = false := by cases h <;> rfl
  have S2 : Hid (WS w (w2.alloc (.cells #[] 3)) g h (.slice none 0 0) (.slice (some ⟨w2.heap.size, 0, none⟩) 0 0) [] []) := Lib.hid
    ⟨hbb.alloc hbb.size _, W2.out.mono (below_alloc w2 _), World.ownsRow_made w2 #[] 0 hbb.size (by unfold maxLen; omega) rfl, fun e => by have := W2.out.lt; simp [Value.ownBlock] at e; omega, fun k hk => by simp [Value.ownBlock] at hk⟩
  go_wp2
  clear dh W2 hbb d1
  go_loopg [6, 29] len (fun gk want ix wr => ∃ (i : Nat) (l : List Bool) (v vl : Value), i ≤ len ∧ gk = len - i ∧ ix = .int .i64 i ∧ want = vl ∧ l.length ≤ 32 * i ∧ Hid (WS w wr g h v vl l l))
  case atStart => exact ⟨0, [], _, _, by omega, by omega, rfl, rfl, by simp, S2⟩
  case round =>
    obtain ⟨i, l, v, vl, hi, rfl, rfl, rfl, hl, ST⟩ := hrel
    obtain ⟨la, lc, rfl, hls⟩ := own_is ST.out.lo (bi_wf _)
    by_cases hlt : i < len
    · obtain ⟨ob, oo, rfl, hol, o0, o1, o2⟩ := (HO.out.mono ST.out.bel).at' i hlt
      obtain ⟨f0, f1, f2⟩ := HO.out.wf i hlt
      have HF1 := Lib.hid f1
      have HF2 := Lib.hid f2
      generalize (os.getD i (0, 0, 0)).1 = kd at *
      generalize (os.getD i (0, 0, 0)).2.1 = n at *
      generalize (os.getD i (0, 0, 0)).2.2 = c at *
      clear f0 f1 f2 hls
      go_upto_if 35 with (fail)
      have bel0 := below_alloc wr (.cells #[.int .i64 kd, .int .i64 n, .int .i64 c] 28)
      have hob : (wr.alloc (.cells #[.int .i64 kd, .int .i64 n, .int .i64 c] 28)).heap[wr.heap.size]? = some (.cells #[.int .i64 kd, .int .i64 n, .int .i64 c] 28 (0, 0)) := heap_alloc_last wr _
      have S0 := Lib.hid (ST.out.mono bel0)
      have hpg : wr.heap.size ≠ g := fun e => by have := ST.out.wr.lt; omega
      have hpv : ∀ k, v.ownBlock = some k → k ≠ wr.heap.size := fun k hk e => by have := (ST.out.wr.own.lt k hk).2; omega
      have hl9 : l.length ≤ 9600 := by omega
      clear ST bel0 o0 o1 o2 HO hol
      revert S0 hob
      generalize wr.alloc (.cells #[.int .i64 kd, .int .i64 n, .int .i64 c] 28) = w3
      intro hob S0
      generalize wr.heap.size = p at *
      have HOB := Lib.hid hob
      have HPG := Lib.hid (And.intro hpg hpv)
      have q1 : w3.cell? ⟨p, 1, none⟩ = some (.int .i64 n) := by rw [cell_of_row _ _ _ _ _ (0, 0) hob]; rfl
      have q2 : w3.cell? ⟨p, 2, none⟩ = some (.int .i64 c) := by rw [cell_of_row _ _ _ _ _ (0, 0) hob]; rfl
      clear hob hpg hpv
      go_cut [6] (fun s6 wx => ∃ (l' : List Bool) (v' vl' : Value), s6 = vl' ∧ l'.length ≤ 32 * (i + 1) ∧ Hid (WS w wx g h v' vl' l' l'))
      case first =>
        by_cases hk : kd = 0
        · subst hk
          have hwf1 : -9223372036854775808 ≤ n ∧ n ≤ 9223372036854775807 := by simpa [Lit.wf, IntKind.min, IntKind.max, IntKind.signed, IntKind.bits] using HF1.out
          have dk : ((0 : Int) != 0) = false := rfl
          by_cases hbad : c < 0 ∨ 32 < c ∨ n < 0
          · have HB := Lib.hid hbad
            clear hbad hwf1
            go_wp2_with fail
            refine (put_no _ g n c HB.out).mono ?_
            rintro e w' ⟨rfl, rfl⟩
            go_wp2_with fail
            refine (fits_no n c _ HB.out).mono ?_
            rintro e w' ⟨rfl, rfl⟩
            go_wp2_with fail
            refine (is_yes 7 rfl _).mono ?_
            rintro e w' ⟨rfl, rfl⟩
            go_wp2_with fail
            go_meet
            exact ⟨l, v, _, rfl, by omega, S0⟩
          obtain ⟨cn, rfl⟩ := Int.eq_ofNat_of_zero_le (show 0 ≤ c by omega)
          obtain ⟨nn, rfl⟩ := Int.eq_ofNat_of_zero_le (show 0 ≤ n by omega)
          have hc32 : cn ≤ 32 := by omega
          have hnn : nn ≤ 9223372036854775807 := by omega
          clear hbad hwf1
          by_cases hbig2 : 2 ^ cn ≤ nn
          · have HB := Lib.hid hbig2
            have HD := Lib.hid (show decide (nn < 2 ^ cn) = false from decide_eq_false (Nat.not_lt.2 hbig2))
            clear hbig2
            go_wp2_with fail
            refine (put_big _ g nn cn hc32 HB.out).mono ?_
            rintro e w' ⟨rfl, rfl⟩
            go_wp2_with fail
            refine (fits_nat nn cn _ hc32 hnn).mono ?_
            rintro e w' ⟨rfl, rfl⟩
            rw [HD.out]
            go_wp2_with fail
            refine (is_yes 7 rfl _).mono ?_
            rintro e w' ⟨rfl, rfl⟩
            go_wp2_with fail
            go_meet
            exact ⟨l, v, _, rfl, by omega, S0⟩
          have HB := Lib.hid (Nat.lt_of_not_le hbig2)
          have HD := Lib.hid (show decide (nn < 2 ^ cn) = true from decide_eq_true (Nat.lt_of_not_le hbig2))
          clear hbig2
          have hz3 := S0.out.bel.size
          go_wp2_with fail
          refine (putw_ok _ w.heap.size g h v l nn cn S0.out.wr hz3 hc32 HB.out (by omega)).mono ?_
          rintro e w4 ⟨rfl, v', wr4, c4, f4⟩
          have S4 := Lib.hid (S0.out.put wr4 c4 f4)
          have hob4 : w4.heap[p]? = some (.cells #[.int .i64 0, .int .i64 nn, .int .i64 cn] 28 (0, 0)) := by
            rw [c4.block p (Array.getElem?_eq_some_iff.1 HOB.out).1 (fun hk => hk.elim HPG.out.1 (fun e => HPG.out.2 p e rfl))]; exact HOB.out
          clear q1 q2
          have q1 : w4.cell? ⟨p, 1, none⟩ = some (.int .i64 nn) := by rw [cell_of_row _ _ _ _ _ (0, 0) hob4]; rfl
          have q2 : w4.cell? ⟨p, 2, none⟩ = some (.int .i64 cn) := by rw [cell_of_row _ _ _ _ _ (0, 0) hob4]; rfl
          clear wr4 c4 f4 S0 HOB HPG hob4 hz3
          go_wp2_with fail
          refine (fits_nat nn cn _ hc32 hnn).mono ?_
          rintro e w' ⟨rfl, rfl⟩
          rw [HD.out]
          go_wp2_with fail
          refine (digits_any h nn cn _ hc32 hnn).mono ?_
          rintro e w5 ⟨dv, rfl, own5, hb5⟩
          have S5 := Lib.hid (S4.out.mono hb5)
          obtain ⟨da, dc, rfl, hds⟩ := own_is own5 (bi_wf _)
          have hsrc := hds.src
          have hz5 := S5.out.bel.size
          have hlo := Lib.hid S5.out.lo
          clear S4 own5 hds hb5 q1 q2
          go_wp2_with (at_builtin; refine wpl_append3 tyI rfl _ _ rfl hlo.out hsrc rfl rfl (by omega) (by omega) hz5 ?_)
          intro v6 w6 own6 c6 f6
          rw [← ivs_append, ← bi_append, show l.length + cn = (l ++ Bt.dg h nn cn).length by rw [List.length_append, Bt.dg_length]] at own6
          have S6 := Lib.hid (S5.out.list own6 c6 f6)
          clear own6 c6 f6 hsrc hlo S5
          go_wp2_with fail
          go_meet
          exact ⟨_, v', v6, rfl, by rw [List.length_append, Bt.dg_length]; omega, S6⟩
        · have dk : (kd != 0) = true := by simpa using hk
          clear hk q1 q2
          have hz3 := S0.out.bel.size
          go_wp2_with fail
          refine (align_any _ w.heap.size g h v l S0.out.wr hz3 (by omega)).mono ?_
          rintro e w4 ⟨rfl, v', wr4, c4, f4⟩
          obtain ⟨m, hm⟩ : ∃ m, (8 - l.length % 8) % 8 = m := ⟨_, rfl⟩
          rw [hm] at wr4
          have S4 := Lib.hid (S0.out.put wr4 c4 f4)
          have HM := Lib.hid hm
          clear hm wr4 c4 f4 S0 HOB HPG
          go_wp2
          go_loopg [6] m (fun gk want wx => ∃ (j : Nat) (vl' : Value), j ≤ m ∧ gk = m - j ∧ want = vl' ∧ Hid (WS w wx g h v' vl' (l ++ List.replicate m h) (l ++ List.replicate j h)))
          case atStart => exact ⟨0, _, by omega, by omega, rfl, by simpa using S4⟩
          case round =>
            obtain ⟨j, vl', hj, rfl, rfl, SJ⟩ := hrel
            obtain ⟨la', lc', rfl, _⟩ := own_is SJ.out.lo (bi_wf _)
            obtain ⟨u, hu⟩ : ∃ u, (l ++ List.replicate j h).length = u := ⟨_, rfl⟩
            have hu2 : u = l.length + j := by rw [← hu]; simp
            rw [hu]
            have Hu2 := Lib.hid hu2
            have Hu := Lib.hid hu
            have hub : u ≤ 9700 := by have := HM.out; omega
            by_cases hjm : j < m
            · have e1 : ((u : Int) % 8 != 0) = true := by have := HM.out; simp; omega
              have hz4 := SJ.out.bel.size
              cases h
              · have hsrc : SrcRow (wr.alloc (.cells #[Value.int .i64 0] 3)) (some ⟨wr.heap.size, 0, none⟩) 1 1 (ivs (bi [false])) 1 := src_int wr 0
                have SA := Lib.hid (SJ.out.mono (below_alloc wr (.cells #[Value.int .i64 0] 3)))
                rw [hu] at SA
                have hlo := SA.out.lo
                rw [hu] at hlo
                have HLO := Lib.hid hlo
                have hza : w.heap.size ≤ (wr.alloc (.cells #[Value.int .i64 0] 3)).heap.size := by simp; omega
                have ej : (l ++ List.replicate j false) ++ [false] = l ++ List.replicate (j + 1) false := by rw [List.append_assoc, List.replicate_succ']
                have HEJ := Lib.hid ej
                have huj : u + 1 = (l ++ List.replicate (j + 1) false).length := by rw [← ej, List.length_append, hu]; rfl
                have HUJ := Lib.hid huj
                clear hlo hu hu2 ej huj
                go_wp2_with (at_builtin; refine wpl_append3 tyI rfl _ _ rfl HLO.out hsrc rfl rfl (by omega) (by omega) hza ?_)
                intro v5 w5 own5 c5 f5
                rw [← ivs_append, ← bi_append, HEJ.out, HUJ.out] at own5
                have S5 := Lib.hid (SA.out.list own5 c5 (by simpa using f5))
                clear own5 c5 f5 hsrc SA HLO SJ
                go_wp2
                go_roundg (m - (j + 1))
                case measure => omega
                case rel => exact ⟨j + 1, v5, by omega, rfl, rfl, S5⟩
              · have hsrc : SrcRow (wr.alloc (.cells #[Value.int .i64 1] 3)) (some ⟨wr.heap.size, 0, none⟩) 1 1 (ivs (bi [true])) 1 := src_int wr 1
                have SA := Lib.hid (SJ.out.mono (below_alloc wr (.cells #[Value.int .i64 1] 3)))
                rw [hu] at SA
                have hlo := SA.out.lo
                rw [hu] at hlo
                have HLO := Lib.hid hlo
                have hza : w.heap.size ≤ (wr.alloc (.cells #[Value.int .i64 1] 3)).heap.size := by simp; omega
                have ej : (l ++ List.replicate j true) ++ [true] = l ++ List.replicate (j + 1) true := by rw [List.append_assoc, List.replicate_succ']
                have HEJ := Lib.hid ej
                have huj : u + 1 = (l ++ List.replicate (j + 1) true).length := by rw [← ej, List.length_append, hu]; rfl
                have HUJ := Lib.hid huj
                clear hlo hu hu2 ej huj
                go_wp2_with (at_builtin; refine wpl_append3 tyI rfl _ _ rfl HLO.out hsrc rfl rfl (by omega) (by omega) hza ?_)
                intro v5 w5 own5 c5 f5
                rw [← ivs_append, ← bi_append, HEJ.out, HUJ.out] at own5
                have S5 := Lib.hid (SA.out.list own5 c5 (by simpa using f5))
                clear own5 c5 f5 hsrc SA HLO SJ
                go_wp2
                go_roundg (m - (j + 1))
                case measure => omega
                case rel => exact ⟨j + 1, v5, by omega, rfl, rfl, S5⟩
            · obtain rfl : m = j := by omega
              have e1 : ((u : Int) % 8 != 0) = false := by have := HM.out; simp; omega
              clear hu2
              go_wp2_with fail
              go_meet
              exact ⟨_, v', _, rfl, by rw [hu]; have := HM.out; have := Hu2.out; omega, by rw [← hu]; exact SJ⟩
      case rest =>
        obtain ⟨l', v', vl', rfl, hl', SC⟩ := hcut
        clear S0 HOB HPG q1 q2 HF1 HF2
        go_wp2_with fail
        refine (bytes_any _ w.heap.size g h v' l' SC.out.wr (by omega)).mono ?_
        rintro e w5 ⟨x, rfl, ox, hb5⟩
        have S5 := Lib.hid (SC.out.mono hb5)
        obtain ⟨la', lc', rfl, hls'⟩ := own_is S5.out.lo (bi_wf _)
        have OX := Lib.hid ox
        have HLS := Lib.hid hls'
        clear ox hls'
        go_wp2_with fail
        refine (refBytes_any h _ _ _ l' _ HLS.out (by omega)).mono ?_
        rintro e w6 ⟨y, rfl, oy, hb6⟩
        have OX6 := Lib.hid (own_below OX.out hb6)
        have S6 := Lib.hid (S5.out.mono hb6)
        obtain ⟨xa, xc, rfl, hxs⟩ := own_bs OX6.out (by omega)
        obtain ⟨ya, yc, rfl, hys⟩ := own_bs oy (by omega)
        have hsame : (Bt.packs h h l' == Bt.packs h h l') = true := by simp
        have B6 := Lib.hid (below_then hb5 hb6)
        have HXS := Lib.hid hxs
        have HYS := Lib.hid hys
        clear oy hxs hys hb5 hb6 OX HLS S5
        go_wp2_with fail
        refine (same_any _ _ _ _ _ _ _ _ _ HXS.out HYS.out).mono ?_
        rintro e w' ⟨rfl, rfl⟩
        rw [hsame]
        go_wp2_with fail
        refine (len_any _ _ _ _ _ _ S6.out.wr).mono ?_
        rintro e w' ⟨rfl, rfl⟩
        go_wp2_with fail
        refine (over_any _ _ _ _ _ OX6.out).mono ?_
        rintro e w7 ⟨rfl, c7⟩
        have S7 := Lib.hid (SC.out.mono (B6.out.trans (c7.below B6.out.size (fun k hk => (OX6.out.lt k hk).1))))
        clear c7 OX6 S6 B6 SC HXS HYS hsame
        go_wp2
        go_roundg (len - (i + 1))
        case measure => omega
        case rel => exact ⟨i + 1, l', v', _, by omega, rfl, by go_num, rfl, hl', S7⟩
    · obtain rfl : len = i := by omega
      clear hls
      go_wp2_with fail
      refine (bytes_any _ w.heap.size g h v l ST.out.wr (by omega)).mono ?_
      rintro e w5 ⟨x, rfl, ox, hb5⟩
      have S5 := Lib.hid (ST.out.mono hb5)
      obtain ⟨la', lc', e5, hls'⟩ := own_is S5.out.lo (bi_wf _)
      simp only [Value.slice.injEq] at e5
      obtain ⟨rfl, _, rfl⟩ := e5
      have OX := Lib.hid ox
      have HLS := Lib.hid hls'
      clear ox hls'
      go_wp2_with fail
      refine (refBytes_any h _ _ _ l _ HLS.out (by omega)).mono ?_
      rintro e w6 ⟨y, rfl, oy, hb6⟩
      have OX6 := Lib.hid (own_below OX.out hb6)
      have S6 := Lib.hid (S5.out.mono hb6)
      obtain ⟨xa, xc, rfl, hxs⟩ := own_bs OX6.out (by omega)
      obtain ⟨ya, yc, rfl, hys⟩ := own_bs oy (by omega)
      have hsame : (Bt.packs h h l == Bt.packs h h l) = true := by simp
      have HXS := Lib.hid hxs
      have HYS := Lib.hid hys
      clear oy hxs hys hb5 hb6 OX HLS S5
      go_wp2_with fail
      refine (same_any _ _ _ _ _ _ _ _ _ HXS.out HYS.out).mono ?_
      rintro e w' ⟨rfl, rfl⟩
      rw [hsame]
      go_wp2_with fail
      go_ret
      exact ⟨rfl, S6.out.bel⟩
set_option maxRecDepth 100000 in
theorem lifted (os : Os) (started : os.Started) (H : Type) (enc : TypeId × Value → H) :
    ReturnsInHanded {} Try.checked os 3 .any (Rows.bitsWritesSpec.pre6 enc Try.prog Try.f3 Rows.bitsWritesRow.domain false) (Rows.bitsWritesSpec.post enc Try.prog Try.f3 false true false false) := by
  refine returnsInHanded_of_change_sized (C := Try.checked) own started (by kernel_rfl) Try.func3
    (ChangeSpec.witness6 (enc := enc) (C := Try.checked) false ⟨#[], #[.bool false, .slice none 0 0], []⟩ 8 (by kernel_rfl) (by kernel_rfl) (by kernel_rfl) (by kernel_rfl)) ?_
  intro W base args ds gs before hval0 hW _ hsz0 _
  have hval : ∀ (j : Nat) t v, Try.f3.params[j]? = some t → args[j]? = some v → Value.okWide Try.prog W .any base t v := hval0
  have hsz : (DataW.weightsEach Try.prog (Try.f3.params.toList ++ Rows.bitsWritesSpec.plain.varTypes Try.prog) (ds ++ gs)).all (· ≤ reachBytes) = true := hsz0
  have hW' := hW
  obtain ⟨p, q, hA0, hV, rfl, hfz, hnd⟩ := hW
  have hA : DataW.TrodAll enc Try.prog W 0 (fun _ => true) true Try.f3.params.toList args.toList ds p := hA0
  rw [Try.params3] at hA hval hsz
  obtain ⟨v0, vs0, d0, ds0, p0, q0, hargs, rfl, rfl, h0, r0⟩ := trodAll_cons hA
  obtain ⟨v1, vs1, d1, ds1, p1, q1, rfl, rfl, rfl, h1, r1⟩ := trodAll_cons r0
  obtain ⟨rfl, rfl, rfl⟩ := trodAll_nil r1
  obtain rfl : args = #[v0, v1] := by cases args; simp_all
  obtain ⟨rfl, rfl⟩ := trodVars_none hV
  clear hsz0
  obtain ⟨a0, rfl, rfl, rfl⟩ := open_bool Try.underlying4 (hval 0 4 v0 rfl rfl) h0
  obtain ⟨a1, len1, cap1, rfl⟩ := okWide_slice Try.underlying22 (hval 1 22 v1 rfl rfl)
  have k1 := h1
  have lt1 : ∀ x ∈ p1, x.block < W.heap.size := by obtain ⟨m, hm⟩ := k1; exact DataW.trod_lt m _ _ _ hm
  obtain ⟨l1, w1, c1⟩ := open_ops Try.underlying22 Try.underlying28 Try.underlying3 Try.underlying3 Try.underlying3 (by kernel_rfl) (by kernel_rfl) (by kernel_rfl) rfl rfl rfl (by kernel_rfl) (by kernel_rfl) h1 hsz 1 rfl rfl
  clear hA0 hval0 hsz
  refine (walk a0 a1 len1 cap1 l1 W w1 c1).mono fun e W' ⟨he, bel⟩ => ?_
  subst he
  exact ⟨_, rfl, _, _, _, [], _, [], hW', trodAll_mk1 (shut_bool Try.underlying4 _), (trodAll_cons_mk (shut_bool Try.underlying4 _) (trodAll_cons_mk (Below.trod laidOut (by kernel_rfl) (of_decide_eq_true (by kernel_rfl)) k1 bel lt1) trodAll_mk0)), rfl, bel.frame _, fun h => by cases h⟩

theorem proved : Rows.BitsWritesSaid :=
  OpenClaim.holds_of_wide 3 Try.f3 rfl rfl rfl rfl rfl rfl rfl ⟨rfl, rfl, rfl, rfl, rfl⟩ rfl rfl rfl rfl rfl (by kernel_rfl) Try.func3 (by kernel_rfl)
    (of_decide_eq_true (by kernel_rfl)) (by unfold Func.isWrapper; first | (rw [if_pos (by decide +kernel)]; kernel_rfl) | (rw [if_neg (by decide +kernel)]; exact ⟨rfl, rfl⟩))
    (fun os started H enc _ => lifted os started H enc)
#print axioms proved
end Go.Proofs.Ytpeldamcbkfamaa.BitsWrites
