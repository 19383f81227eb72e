/- For all scripts (of at most 300 steps, as the law itself asks), in both orders: what is put is taken, and the script is left as it was. No conditions. -/
import Derived.Test.YtpeldamcbkfamaaRows
import Derived.Test.YtpeldamcbkfamaaOpen
import Derived.Test.YtpeldamcbkfamaaBitsAlive
import Derived.Test.YtpeldamcbkfamaaBitsTake
import Derived.Test.YtpeldamcbkfamaaBitsNil
import Derived.Test.YtpeldamcbkfamaaBackMath
import Derived.Test.YtpeldamcbkfamaaAppend3
namespace Go.Proofs.Ytpeldamcbkfamaa.BitsBack
open Go.ChangeShapes Go.WideShapes Go.ChangeAt Go.RowKit
open Go.ChangeMaps (open_string shut_string)
set_option linter.unusedVariables false
theorem own : ownKnob Try.prog.godebug = none := by kernel_rfl
theorem laidOut : laidOutB Try.prog = true := by kernel_rfl
/-- A writer, and the list of the steps that it took. -/
structure KS (w wx : World) (g : Nat) (h : Bool) (v vp : Value) (l : List Bool) (ops : List N3) : Prop where
  bel : Below w.heap.size w wx
  wr : Wr wx w.heap.size g h v l
  lo : wx.ownsRow w.heap.size 28 3 vp ops.length (tvs ops)
  n1 : vp.ownBlock ≠ some g
  n2 : ∀ k, v.ownBlock = some k → vp.ownBlock ≠ some k
theorem KS.mono {w wx wy : World} {g : Nat} {h : Bool} {v vp : Value} {l : List Bool} {ops : List N3} (H : KS w wx g h v vp l ops) (hb : Below wx.heap.size wx wy) : KS w wy g h v vp l ops :=
  ⟨H.bel.trans (hb.mono H.bel.size), H.wr.mono hb, own_below H.lo hb, H.n1, H.n2⟩
theorem KS.put {w wx wy : World} {g : Nat} {h : Bool} {v v' vp : Value} {l l' : List Bool} {ops : List N3} (H : KS w wx g h v vp l ops) (r : Wr wy w.heap.size g h v' l') (c : Ch wx wy (Wt g v)) (f : ∀ k, v'.ownBlock = some k → v.ownBlock = some k ∨ wx.heap.size ≤ k) : KS w wy g h v' vp l' ops :=
  ⟨H.bel.trans (c.below H.bel.size (fun k hk => H.wr.wt_ge hk)), r, c.own H.lo (fun k hk hw => hw.elim (fun e => H.n1 (e ▸ hk)) (fun e => H.n2 k e hk)), H.n1,
    fun k hk he => (f k hk).elim (fun e => H.n2 k e he) (fun e => by have := (H.lo.lt k he).2; omega)⟩
theorem KS.list {w wx wy : World} {g : Nat} {h : Bool} {v vp vp' : Value} {l : List Bool} {ops ops' : List N3} (H : KS w wx g h v vp l ops) (o : wy.ownsRow w.heap.size 28 3 vp' ops'.length (tvs ops')) (c : Ch wx wy (fun k => vp.ownBlock = some k)) (f : ∀ k, vp'.ownBlock = some k → vp.ownBlock = some k ∨ wx.heap.size ≤ k) : KS w wy g h v vp' l ops' :=
  ⟨H.bel.trans (c.below H.bel.size (fun k hk => (H.lo.lt k hk).1)), H.wr.kept c H.n1 (fun k hk he => H.n2 k hk he), o,
    fun he => (f g he).elim H.n1 (fun e => by have := H.wr.lt; omega), fun k hk he => (f k he).elim (fun e => H.n2 k hk e) (fun e => by have := (H.wr.own.lt k hk).2; omega)⟩
/-- Beside a reader. -/
structure RB (w wx : World) (g : Nat) (h : Bool) (v vp : Value) (l : List Bool) (ops : List N3) (gr : Nat) (vr : Value) (b : List UInt8) (p : Nat) : Prop where
  ks : KS w wx g h v vp l ops
  rd : Rd wx w.heap.size gr h vr b p
  e1 : g ≠ gr
  e2 : v.ownBlock ≠ some gr
  e3 : vp.ownBlock ≠ some gr
theorem RB.mono {w wx wy : World} {g : Nat} {h : Bool} {v vp : Value} {l : List Bool} {ops : List N3} {gr : Nat} {vr : Value} {b : List UInt8} {p : Nat} (H : RB w wx g h v vp l ops gr vr b p) (hb : Below wx.heap.size wx wy) : RB w wy g h v vp l ops gr vr b p :=
  ⟨H.ks.mono hb, H.rd.mono hb, H.e1, H.e2, H.e3⟩
theorem RB.step {w wx wy : World} {g : Nat} {h : Bool} {v vp : Value} {l : List Bool} {ops : List N3} {gr : Nat} {vr : Value} {b : List UInt8} {p q : Nat} (H : RB w wx g h v vp l ops gr vr b p) (c : Ch wx wy (fun k => k = gr)) (r : Rd wy w.heap.size gr h vr b q) : RB w wy g h v vp l ops gr vr b q :=
  ⟨⟨H.ks.bel.trans (c.below H.ks.bel.size (fun k hk => hk ▸ H.rd.hg)), H.ks.wr.kept c H.e1 (fun k hk e => by subst e; exact H.e2 hk), c.own H.ks.lo (fun k hk e => by subst e; exact H.e3 hk), H.ks.n1, H.ks.n2⟩, r, H.e1, H.e2, H.e3⟩
theorem rd_base {w : World} {B B' g : Nat} {h : Bool} {v : Value} {l : List UInt8} {p : Nat} (H : Rd w B g h v l p) (hB : B' ≤ B) : Rd w B' g h v l p :=
  ⟨H.blk, own_base H.own (fun k hk => Nat.le_trans hB (H.own.lt k hk).1), Nat.le_trans hB H.hg, H.ne⟩
theorem ok_snoc {ops : List N3} {o : N3} (h : ∀ k, k < ops.length → Sc.Ok (ops.getD k (0, 0, 0))) (ho : Sc.Ok o) : ∀ k, k < (ops ++ [o]).length → Sc.Ok ((ops ++ [o]).getD k (0, 0, 0)) := by
  intro k hk
  simp only [List.length_append, List.length_cons, List.length_nil] at hk
  by_cases hkl : k < ops.length
  · have := h k hkl
    simp only [List.getD] at *
    rw [List.getElem?_append_left hkl]; exact this
  · have e : k = ops.length := by omega
    subst e
    simp only [List.getD]
    rw [List.getElem?_append_right (Nat.le_refl _)]
    simpa using ho
set_option maxHeartbeats 4000000 in
set_option maxRecDepth 100000 in
theorem walk (h : Bool) (a : Option Addr) (len cap : Nat) (os : List N3) (w : World) (ho : Ts3 w a len cap os) (hr : cap * 24 ≤ 140737488351232) :
    Calls Try.prog 5 #[.bool h, .slice a len cap] w fun e w' => e = .returned (.bool true) ∧ Below w.heap.size w w' := by
  have hle := ho.hle
  have HO := Lib.hid ho
  clear ho
  go_enter Try.func5, Try.ntmps5
  go_wp2_with fail
  refine (alive_any _).mono ?_
  rintro e w1 ⟨rfl, hb1⟩
  by_cases hbig : 300 < len
  · have d1 : decide ((300 : Int) < ↑len) = true := by simp; omega
    go_wp2
    go_ret
    exact ⟨rfl, hb1⟩
  have d1 : decide ((300 : Int) < ↑len) = false := by simp; omega
  go_wp2_with fail
  refine (newWriter_any h w.heap.size _ hb1.size).mono ?_
  rintro e w2 ⟨rfl, wr2, hb2⟩
  have W2 := Lib.hid wr2
  have hbb := below_then hb1 hb2
  clear wr2 hb1 hb2
  generalize w1.heap.size = g at *
  have S2 : Hid (KS w (w2.alloc (.cells #[] 28)) g h (.slice none 0 0) (.slice (some ⟨w2.heap.size, 0, none⟩) 0 0) (Sc.enc h []) []) := Lib.hid
    ⟨hbb.alloc hbb.size _, W2.out.mono (below_alloc w2 _), World.ownsRow_made w2 #[] 0 hbb.size (by unfold maxLen; omega) rfl, fun e => by have := W2.out.lt; simp [Value.ownBlock] at e; omega, fun k hk => by simp [Value.ownBlock] at hk⟩
  go_wp2
  clear W2 hbb d1
  go_loopg [6, 24] len (fun gk put ix wr => ∃ (i : Nat) (ops : List N3) (v vp : Value), i ≤ len ∧ gk = len - i ∧ ix = .int .i64 i ∧ put = vp ∧ ops.length ≤ i ∧ (Sc.enc h ops).length ≤ 32 * i ∧ Hid (∀ k, k < ops.length → Sc.Ok (ops.getD k (0, 0, 0))) ∧ Hid (KS w wr g h v vp (Sc.enc h ops) ops))
  case atStart => exact ⟨0, [], _, _, by omega, by omega, rfl, rfl, by simp, by simp [Sc.enc], Lib.hid (fun k hk => by simp at hk), S2⟩
  case round =>
    obtain ⟨i, ops, v, vp, hi, rfl, rfl, rfl, hopl, hl, HOK, ST⟩ := hrel
    by_cases hlt : i < len
    · obtain ⟨ob, oo, rfl, hol, o0, o1, o2⟩ := (HO.out.mono ST.out.bel).at' i hlt
      obtain ⟨f0, f1, f2⟩ := HO.out.wf i hlt
      have HF1 := Lib.hid f1
      have HF2 := Lib.hid f2
      generalize (os.getD i (0, 0, 0)).1 = kd at *
      generalize (os.getD i (0, 0, 0)).2.1 = n at *
      generalize (os.getD i (0, 0, 0)).2.2 = c at *
      clear f0 f1 f2
      go_upto_if 30 with (fail)
      have bel0 := below_alloc wr (.cells #[.int .i64 kd, .int .i64 n, .int .i64 c] 28)
      have hob : (wr.alloc (.cells #[.int .i64 kd, .int .i64 n, .int .i64 c] 28)).heap[wr.heap.size]? = some (.cells #[.int .i64 kd, .int .i64 n, .int .i64 c] 28 (0, 0)) := heap_alloc_last wr _
      have S0 := Lib.hid (ST.out.mono bel0)
      have hpg : wr.heap.size ≠ g := fun e => by have := ST.out.wr.lt; omega
      have hpv : ∀ k, v.ownBlock = some k → k ≠ wr.heap.size := fun k hk e => by have := (ST.out.wr.own.lt k hk).2; omega
      have hl9 : (Sc.enc h ops).length ≤ 9600 := by omega
      clear ST bel0 o0 o1 o2 HO hol
      revert S0 hob
      generalize wr.alloc (.cells #[.int .i64 kd, .int .i64 n, .int .i64 c] 28) = w3
      intro hob S0
      generalize wr.heap.size = p at *
      have HOB := Lib.hid hob
      have HPG := Lib.hid (And.intro hpg hpv)
      have q0 : w3.cell? ⟨p, 0, none⟩ = some (.int .i64 kd) := by rw [cell_of_row _ _ _ _ _ (0, 0) hob]; rfl
      have q1 : w3.cell? ⟨p, 1, none⟩ = some (.int .i64 n) := by rw [cell_of_row _ _ _ _ _ (0, 0) hob]; rfl
      have q2 : w3.cell? ⟨p, 2, none⟩ = some (.int .i64 c) := by rw [cell_of_row _ _ _ _ _ (0, 0) hob]; rfl
      clear hob hpg hpv
      have hz3 := S0.out.bel.size
      by_cases hk : kd = 0
      · subst hk
        have hwf1 : -9223372036854775808 ≤ n ∧ n ≤ 9223372036854775807 := by simpa [Lit.wf, IntKind.min, IntKind.max, IntKind.signed, IntKind.bits] using HF1.out
        have dk : ((0 : Int) != 0) = false := rfl
        by_cases hbad : c < 0 ∨ 32 < c ∨ n < 0
        · have HB := Lib.hid hbad
          clear hbad hwf1
          go_wp2_with fail
          refine (put_no _ g n c HB.out).mono ?_
          rintro e w' ⟨rfl, rfl⟩
          go_wp2
          go_roundg (len - (i + 1))
          case measure => omega
          case rel => exact ⟨i + 1, ops, v, _, by omega, rfl, by go_num, rfl, by omega, by omega, HOK, S0⟩
        obtain ⟨cn, rfl⟩ := Int.eq_ofNat_of_zero_le (show 0 ≤ c by omega)
        obtain ⟨nn, rfl⟩ := Int.eq_ofNat_of_zero_le (show 0 ≤ n by omega)
        have hc32 : cn ≤ 32 := by omega
        have hnn : nn ≤ 9223372036854775807 := by omega
        clear hbad hwf1
        by_cases hbig2 : 2 ^ cn ≤ nn
        · have HB := Lib.hid hbig2
          clear hbig2
          go_wp2_with fail
          refine (put_big _ g nn cn hc32 HB.out).mono ?_
          rintro e w' ⟨rfl, rfl⟩
          go_wp2
          go_roundg (len - (i + 1))
          case measure => omega
          case rel => exact ⟨i + 1, ops, v, _, by omega, rfl, by go_num, rfl, by omega, by omega, HOK, S0⟩
        have HB := Lib.hid (Nat.lt_of_not_le hbig2)
        clear hbig2
        go_wp2_with fail
        refine (putw_ok _ w.heap.size g h v (Sc.enc h ops) nn cn S0.out.wr hz3 hc32 HB.out (by omega)).mono ?_
        rintro e w4 ⟨rfl, v', wr4, c4, f4⟩
        have hok : Sc.Ok ((0 : Int), (nn : Int), (cn : Int)) := fun _ => ⟨by simp, by simp, by simp; omega, by simpa using HB.out⟩
        have eenc : Sc.enc h ops ++ Bt.dg h nn cn = Sc.enc h (ops ++ [((0 : Int), (nn : Int), (cn : Int))]) := by rw [Sc.enc_snoc]; simp [Sc.ext]
        have elen : (Sc.enc h (ops ++ [((0 : Int), (nn : Int), (cn : Int))])).length ≤ 32 * (i + 1) := by rw [← eenc, List.length_append, Bt.dg_length]; omega
        rw [eenc] at wr4
        have S4 := Lib.hid (S0.out.put wr4 c4 f4)
        have hob4 : w4.heap[p]? = some (.cells #[.int .i64 0, .int .i64 nn, .int .i64 cn] 28 (0, 0)) := by
          rw [c4.block p (Array.getElem?_eq_some_iff.1 HOB.out).1 (fun hk => hk.elim HPG.out.1 (fun e => HPG.out.2 p e rfl))]; exact HOB.out
        clear q0 q1 q2
        have q0 : w4.cell? ⟨p, 0, none⟩ = some (.int .i64 0) := by rw [cell_of_row _ _ _ _ _ (0, 0) hob4]; rfl
        have q1 : w4.cell? ⟨p, 1, none⟩ = some (.int .i64 nn) := by rw [cell_of_row _ _ _ _ _ (0, 0) hob4]; rfl
        have q2 : w4.cell? ⟨p, 2, none⟩ = some (.int .i64 cn) := by rw [cell_of_row _ _ _ _ _ (0, 0) hob4]; rfl
        have HOK2 := Lib.hid (ok_snoc HOK.out hok)
        have ELEN := Lib.hid elen
        clear wr4 c4 f4 S0 HOB HPG hob4 hz3 hok eenc elen
        have SA := Lib.hid (S4.out.mono (below_alloc w4 (.cells #[.int .i64 0, .int .i64 nn, .int .i64 cn] 28)))
        have hsrc := src_op w4 0 nn cn
        have hlo := Lib.hid SA.out.lo
        have hza : w.heap.size ≤ (w4.alloc (.cells #[.int .i64 0, .int .i64 nn, .int .i64 cn] 28)).heap.size := SA.out.bel.size
        go_wp2_with (at_builtin; refine wpl_append3 tyOps rfl _ _ rfl hlo.out hsrc rfl rfl (by omega) (by omega) hza ?_)
        intro v6 w6 own6 c6 f6
        rw [← tvs_append, show ops.length + 1 = (ops ++ [((0 : Int), (nn : Int), (cn : Int))]).length by simp] at own6
        have S6 := Lib.hid (SA.out.list own6 c6 (by simpa using f6))
        clear own6 c6 f6 hsrc hlo SA S4 q0 q1 q2
        go_wp2
        go_roundg (len - (i + 1))
        case measure => omega
        case rel => exact ⟨i + 1, _, v', v6, by omega, rfl, by go_num, rfl, by simp; omega, ELEN.out, HOK2, S6⟩
      · have dk : (kd != 0) = true := by simpa using hk
        go_wp2_with fail
        refine (align_any _ w.heap.size g h v (Sc.enc h ops) S0.out.wr hz3 (by omega)).mono ?_
        rintro e w4 ⟨rfl, v', wr4, c4, f4⟩
        have hok : Sc.Ok (kd, n, c) := fun e => absurd e hk
        have eenc : Sc.enc h ops ++ List.replicate ((8 - (Sc.enc h ops).length % 8) % 8) h = Sc.enc h (ops ++ [(kd, n, c)]) := by rw [Sc.enc_snoc]; simp [Sc.ext, hk]
        have elen : (Sc.enc h (ops ++ [(kd, n, c)])).length ≤ 32 * (i + 1) := by rw [← eenc, List.length_append, List.length_replicate]; omega
        rw [eenc] at wr4
        have S4 := Lib.hid (S0.out.put wr4 c4 f4)
        have hob4 : w4.heap[p]? = some (.cells #[.int .i64 kd, .int .i64 n, .int .i64 c] 28 (0, 0)) := by
          rw [c4.block p (Array.getElem?_eq_some_iff.1 HOB.out).1 (fun hk => hk.elim HPG.out.1 (fun e => HPG.out.2 p e rfl))]; exact HOB.out
        clear q0 q1 q2
        have q0 : w4.cell? ⟨p, 0, none⟩ = some (.int .i64 kd) := by rw [cell_of_row _ _ _ _ _ (0, 0) hob4]; rfl
        have q1 : w4.cell? ⟨p, 1, none⟩ = some (.int .i64 n) := by rw [cell_of_row _ _ _ _ _ (0, 0) hob4]; rfl
        have q2 : w4.cell? ⟨p, 2, none⟩ = some (.int .i64 c) := by rw [cell_of_row _ _ _ _ _ (0, 0) hob4]; rfl
        have HOK2 := Lib.hid (ok_snoc HOK.out hok)
        have ELEN := Lib.hid elen
        clear wr4 c4 f4 S0 HOB HPG hob4 hz3 hok eenc elen hk
        have SA := Lib.hid (S4.out.mono (below_alloc w4 (.cells #[.int .i64 kd, .int .i64 n, .int .i64 c] 28)))
        have hsrc := src_op w4 kd n c
        have hlo := Lib.hid SA.out.lo
        have hza : w.heap.size ≤ (w4.alloc (.cells #[.int .i64 kd, .int .i64 n, .int .i64 c] 28)).heap.size := SA.out.bel.size
        go_wp2_with (at_builtin; refine wpl_append3 tyOps rfl _ _ rfl hlo.out hsrc rfl rfl (by omega) (by omega) hza ?_)
        intro v6 w6 own6 c6 f6
        rw [← tvs_append, show ops.length + 1 = (ops ++ [(kd, n, c)]).length by simp] at own6
        have S6 := Lib.hid (SA.out.list own6 c6 (by simpa using f6))
        clear own6 c6 f6 hsrc hlo SA S4 q0 q1 q2
        go_wp2
        go_roundg (len - (i + 1))
        case measure => omega
        case rel => exact ⟨i + 1, _, v', v6, by omega, rfl, by go_num, rfl, by simp; omega, ELEN.out, HOK2, S6⟩
    · obtain rfl : len = i := by omega
      clear HO
      have hzw := ST.out.bel.size
      go_wp2_with fail
      refine (bytes_any _ w.heap.size g h v (Sc.enc h ops) ST.out.wr (by omega)).mono ?_
      rintro e w5 ⟨x, rfl, ox, hb5⟩
      have S5 := Lib.hid (ST.out.mono hb5)
      obtain ⟨xa, xc, rfl, hxs⟩ := own_bs ox (by omega)
      have HXS := Lib.hid hxs
      clear ox hxs hb5 ST S2
      go_wp2_with fail
      refine (newReader_any h _ _ _ _ _ HXS.out (by omega)).mono ?_
      rintro e w6 ⟨gr, vr, rfl, rd6, hb6⟩
      have R6 := Lib.hid (show RB w w6 g h v _ (Sc.enc h ops) ops gr vr (Bt.packs h h (Sc.enc h ops)) (Sc.enc h (ops.take 0)).length from
        ⟨S5.out.mono hb6, rd_base rd6 S5.out.bel.size, fun e => by have := S5.out.wr.lt; have := rd6.hg; omega, fun e => by have := (S5.out.wr.own.lt gr e).2; have := rd6.hg; omega, fun e => by have := (S5.out.lo.lt gr e).2; have := rd6.hg; omega⟩)
      clear rd6 hb6 S5 HXS
      obtain ⟨pa, pc, rfl, _⟩ := op_cells R6.out.ks.lo rfl
      have hbl : (Bt.packs h h (Sc.enc h ops)).length = ((Sc.enc h ops).length + 7) / 8 := Bt.packs_length h h _
      have HBL := Lib.hid hbl
      have hL : (Sc.enc h ops).length ≤ 9600 := by omega
      clear hbl hl
      obtain ⟨nn, hnn⟩ : ∃ nn, ops.length = nn := ⟨_, rfl⟩
      have HNN := Lib.hid hnn
      rw [hnn] at hopl R6 ⊢
      clear hnn
      go_wp2
      go_loopg [55] nn (fun gk ix wr => ∃ j : Nat, j ≤ nn ∧ gk = nn - j ∧ ix = .int .i64 j ∧ Hid (RB w wr g h v (.slice pa nn pc) (Sc.enc h ops) ops gr vr (Bt.packs h h (Sc.enc h ops)) (Sc.enc h (ops.take j)).length))
      case atStart => exact ⟨0, by omega, by omega, rfl, R6⟩
      case round =>
        obtain ⟨j, hj, rfl, rfl, RJ⟩ := hrel
        by_cases hlt2 : j < nn
        · obtain ⟨pa', pc', ep, hpc⟩ := op_cells RJ.out.ks.lo rfl
          simp only [Value.slice.injEq] at ep
          obtain ⟨rfl, hjunk, rfl⟩ := ep
          clear hjunk
          obtain ⟨gp, rfl, _, o0, o1, o2⟩ := hpc j (by rw [HNN.out]; exact hlt2)
          have hjl : j < ops.length := by rw [HNN.out]; exact hlt2
          have HOKj := Lib.hid (HOK.out j hjl)
          have HRB := Lib.hid (Sc.read_back h ops j hjl)
          have HSU := Lib.hid (Sc.enc_succ h ops j hjl)
          have HLE := Lib.hid (Sc.len_le h ops j hjl)
          clear hpc hjl
          obtain ⟨oj, hoj⟩ : ∃ oj, ops.getD j (0, 0, 0) = oj := ⟨_, rfl⟩
          rw [hoj] at o0 o1 o2 HOKj HRB HSU HLE
          clear hoj
          obtain ⟨kd, n, c⟩ := oj
          dsimp only at o0 o1 o2 HRB
          obtain ⟨p0, hp0⟩ : ∃ p0, (Sc.enc h (ops.take j)).length = p0 := ⟨_, rfl⟩
          rw [hp0] at HRB HSU HLE RJ
          have hnext : (Sc.enc h (ops.take (j + 1))).length = p0 + (Sc.ext h p0 (kd, n, c)).length := by rw [HSU.out, List.length_append, hp0]
          have HNX := Lib.hid hnext
          clear hp0 hnext HSU
          go_upto_if 61 with (fail)
          have hob : (wr.alloc (.cells #[.int .i64 kd, .int .i64 n, .int .i64 c] 28)).heap[wr.heap.size]? = some (.cells #[.int .i64 kd, .int .i64 n, .int .i64 c] 28 (0, 0)) := heap_alloc_last wr _
          have S0 := Lib.hid (RJ.out.mono (below_alloc wr (.cells #[.int .i64 kd, .int .i64 n, .int .i64 c] 28)))
          have hpg : wr.heap.size ≠ gr := fun e => by have := RJ.out.rd.lt; omega
          clear RJ o0 o1 o2
          revert S0 hob
          generalize wr.alloc (.cells #[.int .i64 kd, .int .i64 n, .int .i64 c] 28) = w3
          intro hob S0
          generalize wr.heap.size = p at *
          have HOB := Lib.hid hob
          have q2 : w3.cell? ⟨p, 2, none⟩ = some (.int .i64 c) := by rw [cell_of_row _ _ _ _ _ (0, 0) hob]; rfl
          have HPG := Lib.hid hpg
          clear hob hpg
          by_cases hk : kd = 0
          · subst hk
            have dk : ((0 : Int) != 0) = false := rfl
            obtain ⟨k1, k2, k3, k4⟩ := HOKj.out rfl
            dsimp only at k1 k2 k3 k4
            have hnum := HRB.out rfl HOKj.out
            obtain ⟨cn, rfl⟩ := Int.eq_ofNat_of_zero_le k2
            have hcl : (Sc.ext h p0 ((0 : Int), n, (cn : Int))).length = cn := by simp [Sc.ext, Bt.dg_length]
            have hle := HLE.out
            rw [hcl] at HNX hle
            dsimp only [Int.toNat_natCast] at hnum
            have HNUM := Lib.hid hnum
            have hc32 : cn ≤ 32 := by omega
            have hz3 := S0.out.ks.bel.size
            clear k1 k2 k3 k4 hnum hcl HRB HOKj HLE
            go_wp2_with fail
            refine (takeR_ok _ w.heap.size gr h vr _ p0 cn S0.out.rd hz3 (by rw [HBL.out]; omega) hc32 (by rw [HBL.out]; omega)).mono ?_
            rintro e w4 ⟨rfl, rd4, c4⟩
            rw [HNUM.out]
            have S4 := Lib.hid (S0.out.step c4 rd4)
            have q1 : w4.cell? ⟨p, 1, none⟩ = some (.int .i64 n) := by
              rw [cell_of_row _ _ _ _ _ (0, 0) (by rw [c4.block p (Array.getElem?_eq_some_iff.1 HOB.out).1 HPG.out]; exact HOB.out)]; rfl
            clear rd4 c4 S0 HOB HPG q2 hz3 hle
            go_wp2
            go_roundg (nn - (j + 1))
            case measure => omega
            case rel => exact ⟨j + 1, by omega, rfl, by go_num, by rw [HNX.out]; exact S4⟩
          · have dk : (kd != 0) = true := by simpa using hk
            have hcl : (Sc.ext h p0 (kd, n, c)).length = (8 - p0 % 8) % 8 := by simp [Sc.ext, hk]
            have hle := HLE.out
            rw [hcl] at HNX hle
            clear hk hcl HRB HOKj HLE q2
            go_wp2_with fail
            refine (alignR_any _ _ _ _ _ _ p0 S0.out.rd (by omega)).mono ?_
            rintro e w4 ⟨rfl, rd4, c4⟩
            have S4 := Lib.hid (S0.out.step c4 rd4)
            clear rd4 c4 S0 HOB HPG hle
            go_wp2
            go_roundg (nn - (j + 1))
            case measure => omega
            case rel => exact ⟨j + 1, by omega, rfl, by go_num, by rw [HNX.out]; exact S4⟩
        · obtain rfl : nn = j := by omega
          have etk : ops.take nn = ops := List.take_of_length_le (by rw [HNN.out]; exact Nat.le_refl _)
          rw [etk] at RJ
          clear etk
          go_wp2_with fail
          refine (at_any _ _ _ _ _ _ _ RJ.out.rd).mono ?_
          rintro e w' ⟨rfl, rfl⟩
          go_wp2_with fail
          refine (len_any _ _ _ _ _ _ RJ.out.ks.wr).mono ?_
          rintro e w' ⟨rfl, rfl⟩
          go_wp2_with fail
          refine (left_any _ _ _ _ _ _ _ RJ.out.rd (by rw [HBL.out]; omega) (by rw [HBL.out]; omega)).mono ?_
          rintro e w' ⟨rfl, dn, rfl⟩
          rw [HBL.out]
          have hx8 : 8 * (((Sc.enc h ops).length + 7) / 8) - (Sc.enc h ops).length < 8 := by omega
          generalize 8 * (((Sc.enc h ops).length + 7) / 8) - (Sc.enc h ops).length = t at *
          have hbel := RJ.out.ks.bel.trans ((drewN_below _ dn).mono RJ.out.ks.bel.size)
          clear RJ
          go_wp2
          go_ret
          exact ⟨by simp; omega, hbel⟩
set_option maxRecDepth 100000 in
theorem lifted (os : Os) (started : os.Started) (H : Type) (enc : TypeId × Value → H) :
    ReturnsInHanded {} Try.checked os 5 .any (Rows.bitsBackSpec.pre6 enc Try.prog Try.f5 Rows.bitsBackRow.domain false) (Rows.bitsBackSpec.post enc Try.prog Try.f5 false true false false) := by
  refine returnsInHanded_of_change_sized (C := Try.checked) own started (by kernel_rfl) Try.func5
    (ChangeSpec.witness6 (enc := enc) (C := Try.checked) false ⟨#[], #[.bool false, .slice none 0 0], []⟩ 8 (by kernel_rfl) (by kernel_rfl) (by kernel_rfl) (by kernel_rfl)) ?_
  intro W base args ds gs before hval0 hW _ hsz0 _
  have hval : ∀ (j : Nat) t v, Try.f5.params[j]? = some t → args[j]? = some v → Value.okWide Try.prog W .any base t v := hval0
  have hsz : (DataW.weightsEach Try.prog (Try.f5.params.toList ++ Rows.bitsBackSpec.plain.varTypes Try.prog) (ds ++ gs)).all (· ≤ reachBytes) = true := hsz0
  have hW' := hW
  obtain ⟨p, q, hA0, hV, rfl, hfz, hnd⟩ := hW
  have hA : DataW.TrodAll enc Try.prog W 0 (fun _ => true) true Try.f5.params.toList args.toList ds p := hA0
  rw [Try.params5] at hA hval hsz
  obtain ⟨v0, vs0, d0, ds0, p0, q0, hargs, rfl, rfl, h0, r0⟩ := trodAll_cons hA
  obtain ⟨v1, vs1, d1, ds1, p1, q1, rfl, rfl, rfl, h1, r1⟩ := trodAll_cons r0
  obtain ⟨rfl, rfl, rfl⟩ := trodAll_nil r1
  obtain rfl : args = #[v0, v1] := by cases args; simp_all
  obtain ⟨rfl, rfl⟩ := trodVars_none hV
  clear hsz0
  obtain ⟨a0, rfl, rfl, rfl⟩ := open_bool Try.underlying4 (hval 0 4 v0 rfl rfl) h0
  obtain ⟨a1, len1, cap1, rfl⟩ := okWide_slice Try.underlying22 (hval 1 22 v1 rfl rfl)
  have k1 := h1
  have lt1 : ∀ x ∈ p1, x.block < W.heap.size := by obtain ⟨m, hm⟩ := k1; exact DataW.trod_lt m _ _ _ hm
  obtain ⟨l1, w1, c1⟩ := open_ops Try.underlying22 Try.underlying28 Try.underlying3 Try.underlying3 Try.underlying3 (by kernel_rfl) (by kernel_rfl) (by kernel_rfl) rfl rfl rfl (by kernel_rfl) (by kernel_rfl) h1 hsz 1 rfl rfl
  clear hA0 hval0 hsz
  refine (walk a0 a1 len1 cap1 l1 W w1 c1).mono fun e W' ⟨he, bel⟩ => ?_
  subst he
  exact ⟨_, rfl, _, _, _, [], _, [], hW', trodAll_mk1 (shut_bool Try.underlying4 _), (trodAll_cons_mk (shut_bool Try.underlying4 _) (trodAll_cons_mk (Below.trod laidOut (by kernel_rfl) (of_decide_eq_true (by kernel_rfl)) k1 bel lt1) trodAll_mk0)), rfl, bel.frame _, fun h => by cases h⟩

theorem proved : Rows.BitsBackSaid :=
  OpenClaim.holds_of_wide 5 Try.f5 rfl rfl rfl rfl rfl rfl rfl ⟨rfl, rfl, rfl, rfl, rfl⟩ rfl rfl rfl rfl rfl (by kernel_rfl) Try.func5 (by kernel_rfl)
    (of_decide_eq_true (by kernel_rfl)) (by unfold Func.isWrapper; first | (rw [if_pos (by decide +kernel)]; kernel_rfl) | (rw [if_neg (by decide +kernel)]; exact ⟨rfl, rfl⟩))
    (fun os started H enc _ => lifted os started H enc)
#print axioms proved
end Go.Proofs.Ytpeldamcbkfamaa.BitsBack
