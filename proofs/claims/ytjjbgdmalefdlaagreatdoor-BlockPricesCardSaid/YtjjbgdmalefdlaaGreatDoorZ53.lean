/- block.Write of the kinds 1 and 2: its contract (made by tools/gen_bcwrite.py). burnishlaw10.alive: its contract. -/
import Derived.Test.YtjjbgdmalefdlaaGreatDoorZ18
import Derived.Test.YtjjbgdmalefdlaaGreatDoorZ20
import Derived.Test.YtjjbgdmalefdlaaGreatDoorZ27
import Derived.Test.YtjjbgdmalefdlaaGreatDoorZ52
import Derived.Lib.SlBytesConst
import Derived.Test.YtjjbgdmalefdlaaGreatDoorZ49
import Derived.Test.YtjjbgdmalefdlaaGreatDoorRows
import Derived.LaidLaws
import Derived.MakeChecks
import Derived.Stop.Joined
import Derived.Test.YtjjbgdmalefdlaaGreatDoorZ1
import Derived.Test.YtjjbgdmalefdlaaGreatDoorZ37
import Derived.Test.YtjjbgdmalefdlaaGreatDoorZ47
import Derived.Test.YtjjbgdmalefdlaaGreatDoorZ48
import Derived.Test.YtjjbgdmalefdlaaGreatDoorZ50
import Derived.Test.YtjjbgdmalefdlaaGreatDoorProg
import Derived.Maps.OwnOps
import Derived.Maps.Keyed
import Derived.Maps.Views
import Derived.Maps.OwnSet
import Derived.WalkKit
section
set_option linter.unusedSimpArgs false
set_option linter.unusedVariables false
section
namespace Go.Proofs.YtjjbgdmalefdlaaGreatDoor
open Go.RowKit

namespace Bc
theorem fit_tok (tx : List UInt8) (ts : List Tok) : ∀ n k a, ts.length - k = n → fit tx (ts.drop k) a = true → ∀ i, k ≤ i → i < ts.length → Tk.isTok (ts.getD i (0, 0)) = true
  | 0, k, a, hn, _, i, h1, h2 => by omega
  | n + 1, k, a, hn, hf, i, h1, h2 => by
    have hk : k < ts.length := by omega
    rw [fit_at hk] at hf
    simp only [Bool.and_eq_true] at hf
    by_cases e : k = i
    · subst e; exact hf.1
    · exact fit_tok tx ts n (k + 1) _ (by omega) hf.2.2.2 i (by omega) h2
theorem bdZ_of {w : World} {B kind : Nat} {ts : List Tok} {v : Value} {a : Option Addr} {cap : Nat} (H : BdIs w B kind ts v) (hv : ∃ cs : Array Value, v = .agg cs ∧ cs[9]? = some (.slice a ts.length cap)) (h : Ts2 w a ts.length cap ts) :
    BdZ w (fun j => (B ≤ j ∧ j < w.heap.size) ∨ (0 < ts.length ∧ ∃ ad, a = some ad ∧ j = ad.block)) kind ts v := by
  obtain ⟨hp, a1, c1, b1, m1, d1, g1, a2, c2, b2, m2, d2, g2, ta, tc, rfl, k2, k1, i1, j1, hw1, i2, j2, hw2, hts⟩ := H
  obtain ⟨cs, e1, e2⟩ := hv
  obtain rfl := (Value.agg.injEq _ _).mp e1
  have e3 : Value.slice ta ts.length tc = .slice a ts.length cap := by
    have : (bdC hp a1 c1 b1 m1 d1 g1 a2 c2 b2 m2 d2 g2 ta ts.length tc)[9]? = some (.slice ta ts.length tc) := rfl
    rw [this] at e2
    exact Option.some.inj e2
  simp only [Value.slice.injEq, true_and] at e3
  obtain ⟨rfl, rfl⟩ := e3
  refine ⟨hp, a1, c1, b1, m1, d1, g1, a2, c2, b2, m2, d2, g2, ta, tc, rfl, fun e => ?_, k1, hw1.here.wide (fun k hk => .inl hk), hw2.here.wide (fun k hk => .inl hk), hts, fun hn ad e => .inr ⟨hn, ad, e, rfl⟩⟩
  obtain ⟨hb, e1, e2⟩ := k2 e
  have hz := hdZ_of e2
  obtain ⟨ra, rcap, oa, oc, ca, cc, la, m, d, g, hrow, h1, h2, h3, h4, h5, h6⟩ := hz
  exact ⟨hb, e1, ra, rcap, oa, oc, ca, cc, la, m, d, g, hrow, h1, fun hn ad e => .inl (h2 hn ad e), h3, fun hn ad e => .inl (h4 hn ad e), h5.wide (fun k hk => .inl hk), .inl h6⟩
theorem BdZ.kept {w w' : World} {D T : Nat → Prop} {kind : Nat} {ts : List Tok} {v : Value} (H : BdZ w D kind ts v) (c : Ch w w' T) (hD : ∀ k, D k → ¬ T k) : BdZ w' D kind ts v := by
  obtain ⟨hp, a1, c1, b1, m1, d1, g1, a2, c2, b2, m2, d2, g2, ta, tc, rfl, k2, k1, hw1, hw2, hts, htD⟩ := H
  exact ⟨hp, a1, c1, b1, m1, d1, g1, a2, c2, b2, m2, d2, g2, ta, tc, rfl, fun e => by obtain ⟨hb, e1, e2⟩ := k2 e; exact ⟨hb, e1, e2.kept c hD⟩, k1, hw1.kept c hD, hw2.kept c hD, hts.kept0 c (fun hn ad e => hD _ (htD hn ad e)), htD⟩
def WPost (w : World) (B g : Nat) (v : Value) (l : List Bool) (e : Ending) (w' : World) : Prop :=
  e = .returned .nilIface ∧ ∃ v', Wr w' B g false v' l ∧ Ch w w' (Wt g v) ∧ ∀ k, v'.ownBlock = some k → v.ownBlock = some k ∨ w.heap.size ≤ k
/-- What a pen did, told of the writer. -/
theorem wpost_of {w w1 w2 : World} {B gp g : Nat} {v : Value} {l : List Bool} {e : Ending} (hb : Below w.heap.size w w1) (hgp : w.heap.size ≤ gp) (h : PPost w1 B gp g v l e w2) : WPost w B g v l (.returned .nilIface) w2 := by
  obtain ⟨_, v', hp, hc, hf⟩ := h
  refine ⟨rfl, v', hp.wr, ?_, fun k hk => (hf k hk).imp id (fun h => Nat.le_trans hb.size h)⟩
  have c1 := Ch.of_below (T := Wt g v) hb
  refine ⟨hc.os.trans c1.os, hc.tape.trans c1.tape, hc.output.trans c1.output, Nat.le_trans c1.size hc.size, fun k hk hn => (hc.block k (Nat.lt_of_lt_of_le hk c1.size) (fun e => ?_)).trans (c1.block k hk hn)⟩
  rcases e with e | e
  · omega
  · exact hn e
set_option maxRecDepth 100000 in
set_option maxHeartbeats 2000000 in
theorem write_1 (w : World) (B g : Nat) (v : Value) (l : List Bool) (a : Option Addr) (cap : Nat) (ts : List Tok) (xa : Option Addr) (xn xc : Nat) (tx : List UInt8) (last : Bool) (hw : Wr w B g false v l) (hB : B ≤ w.heap.size) (h : Ts2 w a ts.length cap ts) (hb : Bs w xa xn xc tx) (hlen : ts.length ≤ 1000000) (hoo : Oo w) (hz : 0 < w.heap.size)
    (hta : 0 < ts.length → ∀ ad, a = some ad → ¬ Wt g v ad.block) (hv : fit tx ts 0 = true) (hl : l.length ≤ 600000000000) :
    Calls Tryz.prog 10 #[.pointer (some ⟨g, 0, none⟩), .agg #[.int .i64 1, .slice a ts.length cap, .slice xa xn xc], .bool last] w (WPost w B g v (l ++ headB 1 last ++ bdBits 1 ts)) := by
  have hal := below_alloc w (.cells #[.int .i64 1, .slice a ts.length cap, .slice xa xn xc] 36)
  have hrow := heap_alloc_last w (.cells #[.int .i64 1, .slice a ts.length cap, .slice xa xn xc] 36)
  have HV := Lib.hid (isValid_any 1 a ts.length cap ts xa xn xc tx _ (h.mono hal) (hb.mono hal) (by omega))
  have HVB : Hid (vB 1 ts tx = true) := Lib.hid (by rw [← hv]; unfold vB; simp)
  have htok := fit_tok tx ts _ 0 0 rfl (by rw [List.drop_zero]; exact hv)
  have HTK := Lib.hid (fun i (hi : i < ts.length) => tkS_of 1 ts hlen i hi (htok i (Nat.zero_le _) hi))
  have HLN := Lib.hid hlen
  have HNB := Lib.hid (fun w' (hb' : Below w.heap.size w w') => newBody_1 a ts.length cap ts xa xn xc w' (h.mono hb') hlen (hoo.mono hz hb') (Nat.lt_of_lt_of_le hz hb'.size))
  have HTS := Lib.hid (fun w' (hb' : Below w.heap.size w w') => h.mono hb')
  have HW := Lib.hid (fun w' (hb' : Below w.heap.size w w') => hw.mono hb')
  have HTA : Hid (∀ k, (0 < ts.length ∧ ∃ ad, a = some ad ∧ k = ad.block) → k < w.heap.size ∧ ¬ Wt g v k) := Lib.hid (fun k hk => by
    obtain ⟨hn, ad, e, rfl⟩ := hk
    refine ⟨?_, hta hn ad e⟩
    obtain ⟨b, off, e1, hlt, _⟩ := h.at' 0 hn
    rw [e1] at e
    obtain rfl := Option.some.inj e
    exact hlt)
  have HLT : Hid (∀ k, Wt g v k → k < w.heap.size) := Lib.hid (fun k hk => by
    rcases hk with rfl | hk
    · exact hw.lt
    · exact (hw.own.lt k hk).2)
  have HB := Lib.hid hB
  have HL := Lib.hid hl
  have HAL := Lib.hid hal
  have HRW := Lib.hid hrow
  have c0 := cell_of_row _ _ 0 _ _ (0, 0) hrow
  have c1 := cell_of_row _ _ 1 _ _ (0, 0) hrow
  have c2 := cell_of_row _ _ 2 _ _ (0, 0) hrow
  simp only [List.getElem?_toArray, List.getElem?_cons_zero, List.getElem?_cons_succ] at c0 c1 c2
  clear hal hrow h hb hoo hz hta hv hw hB hl hlen htok
  obtain ⟨Y, hY⟩ : ∃ Y, Y = l ++ headB 1 last ++ bdBits 1 ts := ⟨_, rfl⟩
  rw [← hY]
  have HY := Lib.hid hY
  clear hY
  go_enter Tryz.func10, Tryz.ntmps10
  go_wp2_with fail
  refine HV.out.mono ?_
  rintro e w2 ⟨rfl, hb2⟩
  rw [HVB.out]
  have HB2 := Lib.hid (below_then HAL.out hb2)
  have HH := Lib.hid (high_any w2 B g false v l (HW.out _ HB2.out))
  have hr2 := (hb2.block w.heap.size (by simp)).trans HRW.out
  have HQ2 : Hid (w.heap.size < w2.heap.size) := Lib.hid (by have := hb2.size; simp at this; omega)
  clear hb2 HV HVB HAL HRW c0 c1 c2
  go_wp2_with fail
  refine HH.out.mono ?_
  rintro e w' ⟨rfl, rfl⟩
  -- the pen
  have hal3 := below_alloc w2 (.cells #[.pointer (some ⟨g, 0, none⟩), .nilIface] 77)
  have hrow3 := heap_alloc_last w2 (.cells #[.pointer (some ⟨g, 0, none⟩), .nilIface] 77)
  have hb3 := below_then HB2.out hal3
  have hp3 : Pn (w2.alloc (.cells #[.pointer (some ⟨g, 0, none⟩), .nilIface] 77)) B w2.heap.size g v l := ⟨hrow3, HW.out _ hb3, fun e => by have := HLT.out g (.inl rfl); have := HQ2.out; omega, fun e => by have := HLT.out _ (.inr e); have := HQ2.out; omega⟩
  have hr3 := (hal3.block w.heap.size HQ2.out).trans hr2
  have HR3 := Lib.hid hr3
  have HP3 := Lib.hid hp3
  have HN3 := Lib.hid (HNB.out _ hb3)
  have HB3 := Lib.hid hb3
  have HQ3 : Hid (w2.heap.size < (w2.alloc (.cells #[.pointer (some ⟨g, 0, none⟩), .nilIface] 77)).heap.size) := Lib.hid (by simp)
  have HGP : Hid (w.heap.size ≤ w2.heap.size) := Lib.hid (by have := HQ2.out; omega)
  have c0 := cell_of_row _ _ 0 _ _ (0, 0) hr3
  have c1 := cell_of_row _ _ 1 _ _ (0, 0) hr3
  have c2 := cell_of_row _ _ 2 _ _ (0, 0) hr3
  simp only [List.getElem?_toArray, List.getElem?_cons_zero, List.getElem?_cons_succ] at c0 c1 c2
  clear hal3 hrow3 hb3 hp3 hr3 hr2 HH HNB
  go_wp2_with fail
  refine HN3.out.mono ?_
  rintro e w4 ⟨vb, rfl, hbi, hb4, hcs⟩
  have HZ0 := bdZ_of hbi hcs (HTS.out _ (below_then HB3.out hb4))
  clear hcs c0 c1 c2
  obtain ⟨hp, a1, c1, b1, m1, d1, g1, a2, c2, b2, m2, d2, g2, ta, tc, rfl, hr⟩ := hbi
  obtain ⟨pp, rfl⟩ : ∃ pp, hp = .pointer pp := by
    exact ⟨none, hr.2.1 rfl⟩
  clear hr
  have hal5 := below_alloc w4 (.cells (bdC (.pointer pp) a1 c1 b1 m1 d1 g1 a2 c2 b2 m2 d2 g2 ta ts.length tc) 86)
  have hrow5 := heap_alloc_last w4 (.cells (bdC (.pointer pp) a1 c1 b1 m1 d1 g1 a2 c2 b2 m2 d2 g2 ta ts.length tc) 86)
  have hb5 := below_then hb4 hal5
  have hp5 := HP3.out.mono hb5
  have hr5 := (hb5.block w.heap.size (by have := HQ2.out; have := HQ3.out; omega)).trans HR3.out
  have HB5 := Lib.hid (below_then HB3.out hb5)
  have hhd := head_any _ B w2.heap.size g v l 1 last hp5 (Nat.le_trans HB.out HB5.out.size) (by omega) (by have := HL.out; omega)
  rw [show (((1 : Nat)) : Int) = 1 from rfl] at hhd
  have HHD := Lib.hid hhd
  clear hhd
  have HK : Hid (∀ w6 e l6, PPost (w4.alloc (.cells (bdC (.pointer pp) a1 c1 b1 m1 d1 g1 a2 c2 b2 m2 d2 g2 ta ts.length tc) 86)) B w2.heap.size g v l6 e w6 → w6.heap[w4.heap.size]? = some (.cells (bdC (.pointer pp) a1 c1 b1 m1 d1 g1 a2 c2 b2 m2 d2 g2 ta ts.length tc) 86 (0, 0))) := Lib.hid (fun w6 e l6 h6 => by
    obtain ⟨_, _, _, c6, _⟩ := h6
    refine (c6.block w4.heap.size (by simp) (fun e => ?_)).trans hrow5
    have h1 := hb4.size
    have h2 := HQ3.out
    have h3 := HGP.out
    rcases e with e | e
    · omega
    · have := HLT.out _ e; omega)
  have HBD : Hid (∀ w6 e l6, l6.length ≤ 700000000000 → PPost (w4.alloc (.cells (bdC (.pointer pp) a1 c1 b1 m1 d1 g1 a2 c2 b2 m2 d2 g2 ta ts.length tc) 86)) B w2.heap.size g v l6 e w6 → Calls Tryz.prog 37 #[.pointer (some ⟨w2.heap.size, 0, none⟩), .agg (bdC (.pointer pp) a1 c1 b1 m1 d1 g1 a2 c2 b2 m2 d2 g2 ta ts.length tc)] w6 (PPost (w4.alloc (.cells (bdC (.pointer pp) a1 c1 b1 m1 d1 g1 a2 c2 b2 m2 d2 g2 ta ts.length tc) 86)) B w2.heap.size g v (l6 ++ bdBits 1 ts))) := Lib.hid (fun w6 e l6 hl6 h6 => by
    obtain ⟨_, v6, p6, c6, f6⟩ := h6
    have hDv : ∀ k, ((w2.alloc (.cells #[.pointer (some ⟨g, 0, none⟩), .nilIface] 77)).heap.size ≤ k ∧ k < w4.heap.size) ∨ (0 < ts.length ∧ ∃ ad, a = some ad ∧ k = ad.block) → k < w4.heap.size ∧ ¬ Pt w2.heap.size g v k := fun k hk => by
      have h2 := HQ3.out
      have h3 := HGP.out
      have h4 := hb4.size
      rcases hk with hk | hk
      · exact ⟨hk.2, fun e => by
          rcases e with e | e
          · omega
          · have := HLT.out _ e; omega⟩
      · have := HTA.out k hk
        exact ⟨by omega, fun e => by
          rcases e with e | e
          · omega
          · exact this.2 e⟩
    have hz6 := (HZ0.kept (Ch.of_below (T := fun _ => False) hal5) (fun _ _ h => h)).kept c6 (fun k hk => (hDv k hk).2)
    refine (pbody_1 w6 B w2.heap.size g v6 l6 ts _ _ p6 (Nat.le_trans (Nat.le_trans HB.out HB5.out.size) c6.size) hz6 (fun k hk e => ?_) HLN.out HTK.out (sd_end 1 ts HLN.out) hl6).mono (fun e7 w7 h7 => PPost.trans p6 c6 f6 h7)
    have hd := hDv k hk
    rcases e with e | e | e
    · exact hd.2 (.inl e)
    · exact hd.2 (.inr (.inl e))
    · rcases f6 k e with h | h
      · exact hd.2 (.inr (.inr h))
      · have := hal5.size; omega)
  have c0 := cell_of_row _ _ 0 _ _ (0, 0) hr5
  have hrb := hrow5
  unfold bdC at hrb
  simp only [List.getElem?_toArray, List.getElem?_cons_zero, List.getElem?_cons_succ] at c0
  have HHL : Hid ((l ++ headB 1 last).length ≤ 700000000000) := Lib.hid (by
    have := HL.out
    unfold headB
    rw [List.length_append, List.length_append, Bt.dg_length, Bt.dg_length]; omega)
  clear hr5 hp5 hrow5 hal5 hb5 hb4 HZ0 hrb HN3 HP3 HR3
  unfold bdC at c0 HHD HK HBD HB5 ⊢
  go_wp2_with fail
  refine HHD.out.mono ?_
  rintro e w6 hp6
  have hk6 := HK.out _ _ _ hp6
  have HBDY := Lib.hid (HBD.out w6 e _ HHL.out hp6)
  obtain ⟨rfl, _⟩ := hp6
  have y0 := cell_of_row _ _ 0 _ _ (0, 0) hk6
  have y1 := cell_of_row _ _ 1 _ _ (0, 0) hk6
  have y2 := cell_of_row _ _ 2 _ _ (0, 0) hk6
  have y3 := cell_of_row _ _ 3 _ _ (0, 0) hk6
  have y4 := cell_of_row _ _ 4 _ _ (0, 0) hk6
  have y5 := cell_of_row _ _ 5 _ _ (0, 0) hk6
  have y6 := cell_of_row _ _ 6 _ _ (0, 0) hk6
  have y7 := cell_of_row _ _ 7 _ _ (0, 0) hk6
  have y8 := cell_of_row _ _ 8 _ _ (0, 0) hk6
  have y9 := cell_of_row _ _ 9 _ _ (0, 0) hk6
  simp only [List.getElem?_toArray, List.getElem?_cons_zero, List.getElem?_cons_succ] at y0 y1 y2 y3 y4 y5 y6 y7 y8 y9
  clear hk6 HHD HBD HK c0
  go_wp2_with fail
  refine HBDY.out.mono ?_
  rintro e w7 hp7
  have HF : Hid (WPost w B g v Y (.returned .nilIface) w7) := Lib.hid (by rw [HY.out]; exact wpost_of HB5.out HGP.out hp7)
  obtain ⟨rfl, v7, p7, _, _⟩ := hp7
  have k1 := cell_of_row _ _ 1 _ _ (0, 0) p7.row
  simp only [List.getElem?_toArray, List.getElem?_cons_zero, List.getElem?_cons_succ] at k1
  clear p7 y0 y1 y2 y3 y4 y5 y6 y7 y8 y9 HBDY HB5
  go_wp2
  go_ret
  exact HF.out
set_option maxRecDepth 100000 in
set_option maxHeartbeats 2000000 in
theorem write_2 (w : World) (B g : Nat) (v : Value) (l : List Bool) (a : Option Addr) (cap : Nat) (ts : List Tok) (xa : Option Addr) (xn xc : Nat) (tx : List UInt8) (last : Bool) (hw : Wr w B g false v l) (hB : B ≤ w.heap.size) (h : Ts2 w a ts.length cap ts) (hb : Bs w xa xn xc tx) (hlen : ts.length ≤ 1000000) (hoo : Oo w) (hz : 0 < w.heap.size)
    (hta : 0 < ts.length → ∀ ad, a = some ad → ¬ Wt g v ad.block) (hv : fit tx ts 0 = true) (hl : l.length ≤ 600000000000) :
    Calls Tryz.prog 10 #[.pointer (some ⟨g, 0, none⟩), .agg #[.int .i64 2, .slice a ts.length cap, .slice xa xn xc], .bool last] w (WPost w B g v (l ++ headB 2 last ++ bdBits 2 ts)) := by
  have hal := below_alloc w (.cells #[.int .i64 2, .slice a ts.length cap, .slice xa xn xc] 36)
  have hrow := heap_alloc_last w (.cells #[.int .i64 2, .slice a ts.length cap, .slice xa xn xc] 36)
  have HV := Lib.hid (isValid_any 2 a ts.length cap ts xa xn xc tx _ (h.mono hal) (hb.mono hal) (by omega))
  have HVB : Hid (vB 2 ts tx = true) := Lib.hid (by rw [← hv]; unfold vB; simp)
  have htok := fit_tok tx ts _ 0 0 rfl (by rw [List.drop_zero]; exact hv)
  have HTK := Lib.hid (fun i (hi : i < ts.length) => tkS_of 2 ts hlen i hi (htok i (Nat.zero_le _) hi))
  have HLN := Lib.hid hlen
  have HNB := Lib.hid (fun w' (hb' : Below w.heap.size w w') => newBody_2 a ts.length cap ts xa xn xc w' (h.mono hb') hlen (hoo.mono hz hb') (Nat.lt_of_lt_of_le hz hb'.size))
  have HTS := Lib.hid (fun w' (hb' : Below w.heap.size w w') => h.mono hb')
  have HW := Lib.hid (fun w' (hb' : Below w.heap.size w w') => hw.mono hb')
  have HTA : Hid (∀ k, (0 < ts.length ∧ ∃ ad, a = some ad ∧ k = ad.block) → k < w.heap.size ∧ ¬ Wt g v k) := Lib.hid (fun k hk => by
    obtain ⟨hn, ad, e, rfl⟩ := hk
    refine ⟨?_, hta hn ad e⟩
    obtain ⟨b, off, e1, hlt, _⟩ := h.at' 0 hn
    rw [e1] at e
    obtain rfl := Option.some.inj e
    exact hlt)
  have HLT : Hid (∀ k, Wt g v k → k < w.heap.size) := Lib.hid (fun k hk => by
    rcases hk with rfl | hk
    · exact hw.lt
    · exact (hw.own.lt k hk).2)
  have HB := Lib.hid hB
  have HL := Lib.hid hl
  have HAL := Lib.hid hal
  have HRW := Lib.hid hrow
  have c0 := cell_of_row _ _ 0 _ _ (0, 0) hrow
  have c1 := cell_of_row _ _ 1 _ _ (0, 0) hrow
  have c2 := cell_of_row _ _ 2 _ _ (0, 0) hrow
  simp only [List.getElem?_toArray, List.getElem?_cons_zero, List.getElem?_cons_succ] at c0 c1 c2
  clear hal hrow h hb hoo hz hta hv hw hB hl hlen htok
  obtain ⟨Y, hY⟩ : ∃ Y, Y = l ++ headB 2 last ++ bdBits 2 ts := ⟨_, rfl⟩
  rw [← hY]
  have HY := Lib.hid hY
  clear hY
  go_enter Tryz.func10, Tryz.ntmps10
  go_wp2_with fail
  refine HV.out.mono ?_
  rintro e w2 ⟨rfl, hb2⟩
  rw [HVB.out]
  have HB2 := Lib.hid (below_then HAL.out hb2)
  have HH := Lib.hid (high_any w2 B g false v l (HW.out _ HB2.out))
  have hr2 := (hb2.block w.heap.size (by simp)).trans HRW.out
  have HQ2 : Hid (w.heap.size < w2.heap.size) := Lib.hid (by have := hb2.size; simp at this; omega)
  clear hb2 HV HVB HAL HRW c0 c1 c2
  go_wp2_with fail
  refine HH.out.mono ?_
  rintro e w' ⟨rfl, rfl⟩
  -- the pen
  have hal3 := below_alloc w2 (.cells #[.pointer (some ⟨g, 0, none⟩), .nilIface] 77)
  have hrow3 := heap_alloc_last w2 (.cells #[.pointer (some ⟨g, 0, none⟩), .nilIface] 77)
  have hb3 := below_then HB2.out hal3
  have hp3 : Pn (w2.alloc (.cells #[.pointer (some ⟨g, 0, none⟩), .nilIface] 77)) B w2.heap.size g v l := ⟨hrow3, HW.out _ hb3, fun e => by have := HLT.out g (.inl rfl); have := HQ2.out; omega, fun e => by have := HLT.out _ (.inr e); have := HQ2.out; omega⟩
  have hr3 := (hal3.block w.heap.size HQ2.out).trans hr2
  have HR3 := Lib.hid hr3
  have HP3 := Lib.hid hp3
  have HN3 := Lib.hid (HNB.out _ hb3)
  have HB3 := Lib.hid hb3
  have HQ3 : Hid (w2.heap.size < (w2.alloc (.cells #[.pointer (some ⟨g, 0, none⟩), .nilIface] 77)).heap.size) := Lib.hid (by simp)
  have HGP : Hid (w.heap.size ≤ w2.heap.size) := Lib.hid (by have := HQ2.out; omega)
  have c0 := cell_of_row _ _ 0 _ _ (0, 0) hr3
  have c1 := cell_of_row _ _ 1 _ _ (0, 0) hr3
  have c2 := cell_of_row _ _ 2 _ _ (0, 0) hr3
  simp only [List.getElem?_toArray, List.getElem?_cons_zero, List.getElem?_cons_succ] at c0 c1 c2
  clear hal3 hrow3 hb3 hp3 hr3 hr2 HH HNB
  go_wp2_with fail
  refine HN3.out.mono ?_
  rintro e w4 ⟨vb, rfl, hbi, hb4, hcs⟩
  have HZ0 := bdZ_of hbi hcs (HTS.out _ (below_then HB3.out hb4))
  clear hcs c0 c1 c2
  obtain ⟨hp, a1, c1, b1, m1, d1, g1, a2, c2, b2, m2, d2, g2, ta, tc, rfl, hr⟩ := hbi
  obtain ⟨pp, rfl⟩ : ∃ pp, hp = .pointer pp := by
    obtain ⟨x, e, _⟩ := hr.1 rfl; exact ⟨_, e⟩
  clear hr
  have hal5 := below_alloc w4 (.cells (bdC (.pointer pp) a1 c1 b1 m1 d1 g1 a2 c2 b2 m2 d2 g2 ta ts.length tc) 86)
  have hrow5 := heap_alloc_last w4 (.cells (bdC (.pointer pp) a1 c1 b1 m1 d1 g1 a2 c2 b2 m2 d2 g2 ta ts.length tc) 86)
  have hb5 := below_then hb4 hal5
  have hp5 := HP3.out.mono hb5
  have hr5 := (hb5.block w.heap.size (by have := HQ2.out; have := HQ3.out; omega)).trans HR3.out
  have HB5 := Lib.hid (below_then HB3.out hb5)
  have hhd := head_any _ B w2.heap.size g v l 2 last hp5 (Nat.le_trans HB.out HB5.out.size) (by omega) (by have := HL.out; omega)
  rw [show (((2 : Nat)) : Int) = 2 from rfl] at hhd
  have HHD := Lib.hid hhd
  clear hhd
  have HK : Hid (∀ w6 e l6, PPost (w4.alloc (.cells (bdC (.pointer pp) a1 c1 b1 m1 d1 g1 a2 c2 b2 m2 d2 g2 ta ts.length tc) 86)) B w2.heap.size g v l6 e w6 → w6.heap[w4.heap.size]? = some (.cells (bdC (.pointer pp) a1 c1 b1 m1 d1 g1 a2 c2 b2 m2 d2 g2 ta ts.length tc) 86 (0, 0))) := Lib.hid (fun w6 e l6 h6 => by
    obtain ⟨_, _, _, c6, _⟩ := h6
    refine (c6.block w4.heap.size (by simp) (fun e => ?_)).trans hrow5
    have h1 := hb4.size
    have h2 := HQ3.out
    have h3 := HGP.out
    rcases e with e | e
    · omega
    · have := HLT.out _ e; omega)
  have HBD : Hid (∀ w6 e l6, l6.length ≤ 700000000000 → PPost (w4.alloc (.cells (bdC (.pointer pp) a1 c1 b1 m1 d1 g1 a2 c2 b2 m2 d2 g2 ta ts.length tc) 86)) B w2.heap.size g v l6 e w6 → Calls Tryz.prog 37 #[.pointer (some ⟨w2.heap.size, 0, none⟩), .agg (bdC (.pointer pp) a1 c1 b1 m1 d1 g1 a2 c2 b2 m2 d2 g2 ta ts.length tc)] w6 (PPost (w4.alloc (.cells (bdC (.pointer pp) a1 c1 b1 m1 d1 g1 a2 c2 b2 m2 d2 g2 ta ts.length tc) 86)) B w2.heap.size g v (l6 ++ bdBits 2 ts))) := Lib.hid (fun w6 e l6 hl6 h6 => by
    obtain ⟨_, v6, p6, c6, f6⟩ := h6
    have hDv : ∀ k, ((w2.alloc (.cells #[.pointer (some ⟨g, 0, none⟩), .nilIface] 77)).heap.size ≤ k ∧ k < w4.heap.size) ∨ (0 < ts.length ∧ ∃ ad, a = some ad ∧ k = ad.block) → k < w4.heap.size ∧ ¬ Pt w2.heap.size g v k := fun k hk => by
      have h2 := HQ3.out
      have h3 := HGP.out
      have h4 := hb4.size
      rcases hk with hk | hk
      · exact ⟨hk.2, fun e => by
          rcases e with e | e
          · omega
          · have := HLT.out _ e; omega⟩
      · have := HTA.out k hk
        exact ⟨by omega, fun e => by
          rcases e with e | e
          · omega
          · exact this.2 e⟩
    have hz6 := (HZ0.kept (Ch.of_below (T := fun _ => False) hal5) (fun _ _ h => h)).kept c6 (fun k hk => (hDv k hk).2)
    refine (pbody_2 w6 B w2.heap.size g v6 l6 ts _ _ p6 (Nat.le_trans (Nat.le_trans HB.out HB5.out.size) c6.size) hz6 (fun k hk e => ?_) (hdT_w ts HLN.out) HLN.out HTK.out (sd_end 2 ts HLN.out) hl6).mono (fun e7 w7 h7 => PPost.trans p6 c6 f6 h7)
    have hd := hDv k hk
    rcases e with e | e | e
    · exact hd.2 (.inl e)
    · exact hd.2 (.inr (.inl e))
    · rcases f6 k e with h | h
      · exact hd.2 (.inr (.inr h))
      · have := hal5.size; omega)
  have c0 := cell_of_row _ _ 0 _ _ (0, 0) hr5
  have hrb := hrow5
  unfold bdC at hrb
  simp only [List.getElem?_toArray, List.getElem?_cons_zero, List.getElem?_cons_succ] at c0
  have HHL : Hid ((l ++ headB 2 last).length ≤ 700000000000) := Lib.hid (by
    have := HL.out
    unfold headB
    rw [List.length_append, List.length_append, Bt.dg_length, Bt.dg_length]; omega)
  clear hr5 hp5 hrow5 hal5 hb5 hb4 HZ0 hrb HN3 HP3 HR3
  unfold bdC at c0 HHD HK HBD HB5 ⊢
  go_wp2_with fail
  refine HHD.out.mono ?_
  rintro e w6 hp6
  have hk6 := HK.out _ _ _ hp6
  have HBDY := Lib.hid (HBD.out w6 e _ HHL.out hp6)
  obtain ⟨rfl, _⟩ := hp6
  have y0 := cell_of_row _ _ 0 _ _ (0, 0) hk6
  have y1 := cell_of_row _ _ 1 _ _ (0, 0) hk6
  have y2 := cell_of_row _ _ 2 _ _ (0, 0) hk6
  have y3 := cell_of_row _ _ 3 _ _ (0, 0) hk6
  have y4 := cell_of_row _ _ 4 _ _ (0, 0) hk6
  have y5 := cell_of_row _ _ 5 _ _ (0, 0) hk6
  have y6 := cell_of_row _ _ 6 _ _ (0, 0) hk6
  have y7 := cell_of_row _ _ 7 _ _ (0, 0) hk6
  have y8 := cell_of_row _ _ 8 _ _ (0, 0) hk6
  have y9 := cell_of_row _ _ 9 _ _ (0, 0) hk6
  simp only [List.getElem?_toArray, List.getElem?_cons_zero, List.getElem?_cons_succ] at y0 y1 y2 y3 y4 y5 y6 y7 y8 y9
  clear hk6 HHD HBD HK c0
  go_wp2_with fail
  refine HBDY.out.mono ?_
  rintro e w7 hp7
  have HF : Hid (WPost w B g v Y (.returned .nilIface) w7) := Lib.hid (by rw [HY.out]; exact wpost_of HB5.out HGP.out hp7)
  obtain ⟨rfl, v7, p7, _, _⟩ := hp7
  have k1 := cell_of_row _ _ 1 _ _ (0, 0) p7.row
  simp only [List.getElem?_toArray, List.getElem?_cons_zero, List.getElem?_cons_succ] at k1
  clear p7 y0 y1 y2 y3 y4 y5 y6 y7 y8 y9 HBDY HB5
  go_wp2
  go_ret
  exact HF.out
end Bc
end Go.Proofs.YtjjbgdmalefdlaaGreatDoor
end

section
namespace Go.Proofs.YtjjbgdmalefdlaaGreatDoor
open Go.RowKit
attribute [local go_sem] Oper.semAt_some

namespace Bc
def alB : List Bool := [] ++ headB 1 true ++ bdBits 1 [(0, 97)]
theorem alB_len : alB.length = 18 := by decide +kernel
theorem alB_val : Bt.packs false false alB = [75, 4, 0] := by decide +kernel
theorem al_fit : fit [97] [(0, 97)] 0 = true := by decide +kernel
end Bc
theorem bs_one (w : World) : Bs (w.alloc (.cells #[.int .u8 97] 5 (1, 2))) (some ⟨w.heap.size, 0, none⟩) 1 1 [97] := by
  refine ⟨rfl, Nat.le_refl _, by omega, by omega, fun h => (by cases h), fun i hi => ⟨w.heap.size, 0, rfl, by simp, ?_⟩⟩
  obtain rfl : i = 0 := by omega
  rw [cell_of_row _ _ _ _ _ (1, 2) (heap_alloc_last w _)]
  rfl
theorem ts_one (w : World) : Ts2 (w.alloc (.cells #[.int .i64 0, .int .i64 97] 59)) (some ⟨w.heap.size, 0, none⟩) 1 1 [(0, 97)] := by
  refine ⟨rfl, Nat.le_refl _, fun h => (by cases h), fun i hi => ⟨w.heap.size, 0, rfl, by simp, ?_⟩, fun i hi => ?_⟩
  · obtain rfl : i = 0 := by omega
    rw [cell_of_row _ _ _ _ _ (0, 0) (heap_alloc_last w _), cell_of_row _ _ _ _ _ (0, 0) (heap_alloc_last w _)]
    exact ⟨rfl, rfl⟩
  · obtain rfl : i = 0 := by omega
    decide
set_option maxRecDepth 100000 in
set_option maxHeartbeats 1000000 in
theorem alive10_any (w : World) (hoo : Bc.Oo w) (hz : 0 < w.heap.size) : Calls Tryz.prog 7 #[] w fun e w' => e = .returned (.bool true) ∧ Below w.heap.size w w' := by
  have HOO := Lib.hid (And.intro hoo hz)
  clear hoo hz
  go_enter Tryz.func7, Tryz.ntmps7
  go_wp2_with fail
  refine (newWriter_any false w.heap.size w (Nat.le_refl _)).mono ?_
  rintro e w1 ⟨rfl, hwr, hb1⟩
  have hal2 := below_alloc w1 (.cells #[.int .i64 0, .int .i64 97] 59)
  have hal3 := below_alloc (w1.alloc (.cells #[.int .i64 0, .int .i64 97] 59)) (.cells #[.int .u8 97] 5 (1, 2))
  have hb3 := below_then hb1 (below_then hal2 hal3)
  have hg := hwr.lt
  have kc2 := Lib.run_convert_bytes_const (P := Tryz.prog) (w1.alloc (.cells #[.int .i64 0, .int .i64 97] 59)) 22 5 #[.int .u8 97] 1 1 Tryz.underlying22 Tryz.underlying5
  have hsz : (w1.alloc (.cells #[.int .i64 0, .int .i64 97] 59)).heap.size = w1.heap.size + 1 := by simp
  have hwt := Bc.write_1 ((w1.alloc (.cells #[.int .i64 0, .int .i64 97] 59)).alloc (.cells #[.int .u8 97] 5 (1, 2))) w.heap.size w.heap.size (.slice none 0 0) [] (some ⟨w1.heap.size, 0, none⟩) 1 [(0, 97)] (some ⟨(w1.alloc (.cells #[.int .i64 0, .int .i64 97] 59)).heap.size, 0, none⟩) 1 1 [97] true
    (hwr.mono (below_then hal2 hal3)) hb3.size ((ts_one w1).mono hal3) (bs_one _) (by decide) (HOO.out.1.mono HOO.out.2 hb3) (Nat.lt_of_lt_of_le HOO.out.2 hb3.size)
    (fun _ ad e hk => by
      obtain rfl := Option.some.inj e
      rcases hk with hk | hk
      · simp only at hk; omega
      · simp [Value.ownBlock] at hk) Bc.al_fit (by decide)
  have HWT : Hid (Calls Tryz.prog 10 #[.pointer (some ⟨w.heap.size, 0, none⟩), .agg #[.int .i64 1, .slice (some ⟨w1.heap.size, 0, none⟩) 1 1, .slice (some ⟨(w1.alloc (.cells #[.int .i64 0, .int .i64 97] 59)).heap.size, 0, none⟩) 1 1], .bool true] ((w1.alloc (.cells #[.int .i64 0, .int .i64 97] 59)).alloc (.cells #[.int .u8 97] 5 (1, 2))) (Bc.WPost ((w1.alloc (.cells #[.int .i64 0, .int .i64 97] 59)).alloc (.cells #[.int .u8 97] 5 (1, 2))) w.heap.size w.heap.size (.slice none 0 0) Bc.alB)) := Lib.hid hwt
  have HB3 := Lib.hid hb3
  rw [hsz] at HWT kc2
  clear hsz
  clear hal2 hal3 hb3 hwt hwr hb1 hg
  go_wp2_with fail
  refine HWT.out.mono ?_
  rintro e w4 ⟨rfl, v4, hw4, hc4, _⟩
  have hb4 := HB3.out.trans (hc4.below HB3.out.size (fun j e => by
    rcases e with rfl | e
    · exact Nat.le_refl _
    · simp [Value.ownBlock] at e))
  have HBY := Lib.hid (bytes_any w4 w.heap.size w.heap.size false v4 Bc.alB hw4 (by rw [Bc.alB_len]; decide))
  have HB4 := Lib.hid hb4
  clear hw4 hc4 hb4 HWT HB3 kc2
  go_wp2_with fail
  refine HBY.out.mono ?_
  rintro e w5 ⟨x, rfl, ox, hb5⟩
  rw [Bc.alB_val, Bc.alB_len] at ox
  obtain ⟨xa, xc, rfl, hxs⟩ := own_bs ox (by decide)
  have hxs2 : Bs w5 xa 3 xc [75, 4, 0] := hxs
  obtain ⟨bx, offx, rfl, _, cx⟩ := hxs2.at' 0 (by omega)
  obtain ⟨bx1, offx1, e1, _, cx1⟩ := hxs2.at' 1 (by omega)
  obtain ⟨bx2, offx2, e2, _, cx2⟩ := hxs2.at' 2 (by omega)
  simp only [Option.some.injEq, Addr.mk.injEq, and_true] at e1 e2
  obtain ⟨rfl, rfl⟩ := e1
  obtain ⟨rfl, rfl⟩ := e2
  have k0 : w5.cell? ⟨bx, offx, none⟩ = some (.int .u8 75) := cx
  have k1 : w5.cell? ⟨bx, offx + 1, none⟩ = some (.int .u8 4) := cx1
  have k2 : w5.cell? ⟨bx, offx + 2, none⟩ = some (.int .u8 0) := cx2
  have HF := Lib.hid (below_then HB4.out hb5)
  clear hxs hxs2 cx cx1 cx2 ox hb5 HB4 HBY
  go_wp2
  go_ret
  exact ⟨rfl, HF.out⟩
end Go.Proofs.YtjjbgdmalefdlaaGreatDoor
end
end
section
set_option linter.unusedSimpArgs false
set_option linter.unusedVariables false
section
namespace Go.Proofs.YtjjbgdmalefdlaaGreatDoor
open Go.ChangeShapes Go.WideShapes Go.ChangeAt Go.RowKit

theorem laid_oo : (Rows.laid_burnish_block_ownOrder : DataW Unit) = .agg (Bc.order.map fun n => .lit (.int .i64 ((n : Nat) : Int))) := by kernel_rfl
theorem oo_of_laid {W : World} (h : laidMetH Tryz.prog [("burnish/block.ownOrder", Rows.laid_burnish_block_ownOrder)] W) : Bc.Oo W ∧ 0 < W.heap.size := by
  rw [MakeChecks.laidMetH_plain _ _ _ (by kernel_rfl)] at h
  obtain ⟨ps, ⟨g, t, cs, fuel, p, q, hg, ht, hv, hd, _, _⟩, _, _⟩ := h
  obtain rfl := Option.some.inj ((show Tryz.prog.globalNamed "burnish/block.ownOrder" = some 0 by kernel_rfl).symm.trans hg)
  obtain rfl := Option.some.inj ((show (Tryz.prog.globals[0]?).map (·.type) = some 135 by kernel_rfl).symm.trans ht)
  obtain ⟨xs, m, _, ex, _, hl, hel⟩ := DataW.trod_array Tryz.underlying135 hd
  have c5 : Tryz.prog.cellsOf 3 = 1 := by kernel_rfl
  have hcell : Bc.Oo W := fun r hr => by
    have hE := hel r hr
    rw [c5, Nat.mul_one, List.getElem?_eq_getElem (by omega)] at hE
    obtain ⟨z, e1, e2, _⟩ := DataW.trod_int Tryz.underlying3 hE
    have hlen : Bc.order.length = 19 := by rfl
    have e3 : (xs.map (·.1)) = Bc.order.map fun n => .lit (.int .i64 ((n : Nat) : Int)) := by
      have := (Prod.mk.inj ex).1
      rw [laid_oo] at this
      exact (DataW.agg.inj this).symm
    have e4 : (xs.map (·.1))[r]? = (Bc.order.map fun n => (DataW.lit (.int .i64 ((n : Nat) : Int)) : DataW Unit))[r]? := by rw [e3]
    rw [List.getElem?_map, List.getElem?_map, List.getElem?_eq_getElem (by omega : r < xs.length), List.getElem?_eq_getElem (by omega : r < Bc.order.length), e2] at e4
    have hz : z = ((Bc.order.getD r 0 : Nat) : Int) := by
      simp only [Option.map_some, Option.some.injEq, DataW.lit.injEq, Lit.int.injEq, true_and] at e4
      rw [e4, List.getD, List.getElem?_eq_getElem (by omega : r < Bc.order.length)]; rfl
    rw [World.var?_cell hg hv r, ← hz]
    have : cs.toList[r]? = some (.int .i64 z) := by
      have h0 : ((cs.toList.drop r).take 1)[0]? = some (.int .i64 z) := by rw [e1]; rfl
      simpa using h0
    simpa using this
  refine ⟨hcell, ?_⟩
  have h0 := hcell 0 (by omega)
  rcases Nat.lt_or_ge 0 W.heap.size with hz | hz
  · exact hz
  · exfalso
    have hn : W.heap[0]? = none := Array.getElem?_eq_none (by omega)
    simp [World.cell?, hn] at h0
end Go.Proofs.YtjjbgdmalefdlaaGreatDoor
end
end
section
set_option linter.unusedSimpArgs false
set_option linter.unusedVariables false
section
namespace Go.Proofs.YtjjbgdmalefdlaaGreatDoor
open Go.RowKit

namespace Bc
def PrOk (w : World) (ts : List Tok) (e : Ending) (w' : World) : Prop :=
  PrPost w ((List.range 256).map (prc .lit (Pa.cts ts ts.length).1 (LL 2 ts))) ((List.range 259).map fun n => if 3 ≤ n then prc .lit (Pa.cts ts ts.length).1 (LL 2 ts) (257 + Sy.lsy n) else 0) ((List.range 30).map (prc .dst (Pa.cts ts ts.length).2 (DL 2 ts))) e w'
theorem LL2_bd (ts : List Tok) (h : ts.length ≤ 1000000) (s : Nat) (_ : s < 286) : 0 ≤ (LL 2 ts).getD s 0 ∧ (LL 2 ts).getD s 0 ≤ 15 := by
  unfold LL
  rw [if_pos rfl]
  exact getD_bd (by omega) (fun i hi => by
    rw [cmpl_length] at hi
    have := (co_cts ts h).1.range i hi
    omega) s
theorem DL2_bd (ts : List Tok) (h : ts.length ≤ 1000000) (s : Nat) (_ : s < 30) : 0 ≤ (DL 2 ts).getD s 0 ∧ (DL 2 ts).getD s 0 ≤ 15 := by
  unfold DL
  rw [if_pos rfl]
  exact getD_bd (by omega) (fun i hi => by
    rw [Mg.lensOf_length] at hi
    have := (co_cts ts h).2.lens i hi
    omega) s
theorem prices_yes (a : Option Addr) (len cap : Nat) (ts : List Tok) (w : World) (h : Ts2 w a len cap ts) (hlen : len ≤ 1000000) (hall : ts.all Tk.isTok = true) :
    Calls Tryz.prog 23 #[.slice a len cap] w (PrOk w ts) := by
  have hl : ts.length ≤ 1000000 := by rw [h.hlen]; exact hlen
  refine prices_good a len cap ts w h hlen hall _ _ _ _ (fun W hb => ?_) (LL2_bd ts hl) (DL2_bd ts hl)
  refine (tables_2 a len cap ts W (h.mono hb) hlen).mono ?_
  rintro e w' ⟨v1, v2, rfl, ⟨a1, c1, b1, m1, d1, g1, rfl, i1, j1, k1⟩, ⟨a2, c2, b2, m2, d2, g2, rfl, i2, j2, k2⟩, hb'⟩
  have e1 := LL_length 2 ts
  have e2 := DL_length 2 ts
  have q1 := j1.hlen
  have q2 := j2.hlen
  exact ⟨_, _, _, _, _, _, _, _, _, _, _, _, rfl, Lib.hid ⟨i1, j1, i2, j2⟩, ⟨by omega, by omega, by omega, by omega⟩, hb'⟩
theorem res_nil3 (fn : Func) (hf : fn.results = #[.cell 2 55, .tmp 3]) (tmps : Array Value) (W : World) (g : Nat) (u : Value) (hp : tmps.getD 2 undef = .pointer (some ⟨g, 0, none⟩)) (hu : tmps.getD 3 undef = u) (h : W.heap[g]? = some (.cells nil3 55 (0, 0))) : (results fn tmps).run Tryz.prog W = .ok (.tuple #[.agg nil3, u]) W := by
  have hl : (loadVar 55 ⟨g, 0, none⟩).run Tryz.prog W = .ok (.agg nil3) W := run_loadVar_row W g 55 55 nil3 (0, 0) _ h Tryz.underlying55 rfl (by kernel_rfl)
  refine (results_cell_tmp (p := 2) (u := 3) (ty := 55) hf tmps Tryz.prog W).trans ?_
  rw [hp, hu]
  simp [asAddr, hl, Result.andThen]
set_option maxHeartbeats 1000000 in
theorem prices_no (a : Option Addr) (len cap : Nat) (ts : List Tok) (w : World) (h : Ts2 w a len cap ts) (hlen : len ≤ 1000000) (hall : ts.all Tk.isTok = false) :
    Calls Tryz.prog 23 #[.slice a len cap] w fun e w' => e = .returned (.tuple #[.agg nil3, .iface 51 (.int .i64 6)]) ∧ Below w.heap.size w w' := by
  have hal := below_alloc w (.cells #[.slice none 0 0, .slice none 0 0, .slice none 0 0] 55)
  have hrow := heap_alloc_last w (.cells #[.slice none 0 0, .slice none 0 0, .slice none 0 0] 55)
  have HAT := Lib.hid (areTokens_any a len cap ts _ (h.mono hal) (by omega))
  rw [hall] at HAT
  have HB0 := Lib.hid hal
  have HR0 := Lib.hid hrow
  clear h hal hrow
  go_enter Tryz.func23, Tryz.ntmps23
  go_wp2_with fail
  refine HAT.out.mono ?_
  rintro e w1 ⟨rfl, hb1⟩
  have HB1 := Lib.hid (below_then HB0.out hb1)
  have HR1 := Lib.hid ((hb1.block w.heap.size (Array.getElem?_eq_some_iff.1 HR0.out).1).trans HR0.out)
  clear hb1 HB0 HR0 HAT
  have p0 := cell_of_row _ _ 0 _ _ (0, 0) HR1.out
  have p1 := cell_of_row _ _ 1 _ _ (0, 0) HR1.out
  have p2 := cell_of_row _ _ 2 _ _ (0, 0) HR1.out
  have pf := frozen_of_row _ _ 0 _ _ HR1.out
  have pf1 := frozen_of_row _ _ 1 _ _ HR1.out
  have pf2 := frozen_of_row _ _ 2 _ _ HR1.out
  simp only [List.getElem?_toArray, List.getElem?_cons_zero, List.getElem?_cons_succ] at p0 p1 p2
  have e0 := heap_setCell_same w1 w.heap.size 0 _ _ (.slice none 0 0) HR1.out
  have e1 := heap_setCell_same _ w.heap.size 1 _ _ (.slice none 0 0) e0
  have HE2 : Hid ((((w1.setCell ⟨w.heap.size, 0, none⟩ (.slice none 0 0)).setCell ⟨w.heap.size, 1, none⟩ (.slice none 0 0)).setCell ⟨w.heap.size, 2, none⟩ (.slice none 0 0)).heap[w.heap.size]? = some (.cells nil3 55 (0, 0))) := Lib.hid (heap_setCell_same _ w.heap.size 2 _ _ (.slice none 0 0) e1)
  have HBE := Lib.hid (((HB1.out.setCell (p := ⟨w.heap.size, 0, none⟩) (Nat.le_refl _) (.slice none 0 0)).setCell (p := ⟨w.heap.size, 1, none⟩) (Nat.le_refl _) (.slice none 0 0)).setCell (p := ⟨w.heap.size, 2, none⟩) (Nat.le_refl _) (.slice none 0 0))
  clear e0 e1 HR1 HB1
  go_wp2_with fail
  exact bodyPost_ret (res_nil3 _ rfl _ _ w.heap.size (.iface 51 (.int .i64 6)) rfl rfl HE2.out) rfl ⟨rfl, HBE.out⟩
end Bc
end Go.Proofs.YtjjbgdmalefdlaaGreatDoor
end

section
namespace Go.Proofs.YtjjbgdmalefdlaaGreatDoor
namespace Bc
theorem bmp_ne (l : List Int) (i j : Nat) (h : i ≠ j) : (Pa.bmp l i).getD j 0 = l.getD j 0 := by
  unfold Pa.bmp
  simp [List.getD, List.getElem?_set, h]
theorem cts_256 (ts : List Tok) : ∀ k, k ≤ ts.length → (Pa.cts ts k).1.getD 256 0 = 1
  | 0, _ => by
    unfold Pa.cts
    rw [List.take_zero]
    decide +kernel
  | k + 1, h => by
    rw [Pa.cts_next ts k (by omega)]
    have ih := cts_256 ts k (by omega)
    generalize Pa.cts ts k = p at *
    generalize ts.getD k (0, 0) = t at *
    unfold Pa.stC
    split
    · rename_i ht
      unfold Tk.isTok at ht
      split
      · rename_i h0
        rw [if_pos h0] at ht
        have := of_decide_eq_true ht
        rw [bmp_ne _ _ _ (by omega)]
        exact ih
      · rw [bmp_ne _ _ _ (by omega)]
        exact ih
    · exact ih
/-- Behind the end's symbol. -/
def tl (C L : List Int) : Nat → Int
  | 0 => 0
  | j + 1 => tl C L j + C.getD (257 + j) 0 * L.getD (257 + j) 0
def ul (C : List Int) : Nat → Nat
  | 0 => 0
  | j + 1 => ul C j + (if 0 < C.getD (257 + j) 0 then 1 else 0)
theorem dot_tl (C L : List Int) : ∀ j, Mg.dot C L (257 + j) = Mg.dot C L 257 + tl C L j
  | 0 => by simp [tl]
  | j + 1 => by
    show Mg.dot C L (257 + j) + C.getD (257 + j) 0 * L.getD (257 + j) 0 = _
    rw [dot_tl C L j]
    simp only [tl]
    omega
theorem used_ul (C : List Int) : ∀ j, 257 + j ≤ C.length → Mg.used (C.take (257 + j)) = Mg.used (C.take 257) + ul C j
  | 0, _ => by simp [ul]
  | j + 1, h => by
    rw [show 257 + (j + 1) = (257 + j) + 1 by omega, Mg.used_snoc C (257 + j) (by omega), used_ul C j (by omega)]
    simp only [ul]
    omega
theorem dot_zero (C L : List Int) (h0 : ∀ k, k < C.length → 0 ≤ C.getD k 0) : ∀ k, k ≤ C.length → Mg.used (C.take k) = 0 → Mg.dot C L k = 0
  | 0, _, _ => rfl
  | k + 1, hk, hu => by
    rw [Mg.used_snoc C k (by omega)] at hu
    have := h0 k (by omega)
    have hz : C.getD k 0 = 0 := by
      split at hu <;> omega
    have ih := dot_zero C L h0 k (by omega) (by omega)
    simp only [Mg.dot, ih, hz]
    simp
theorem tl_zero (C L : List Int) (h0 : ∀ k, k < C.length → 0 ≤ C.getD k 0) : ∀ j, 257 + j ≤ C.length → ul C j = 0 → tl C L j = 0
  | 0, _, _ => rfl
  | j + 1, hk, hu => by
    simp only [ul] at hu
    have := h0 (257 + j) (by omega)
    have hz : C.getD (257 + j) 0 = 0 := by
      split at hu <;> omega
    have ih := tl_zero C L h0 j (by omega) (by omega)
    simp only [tl, ih, hz]
    simp
/-- How many symbols stand, and what is left for the end. -/
theorem end_ok (ts : List Tok) (h : ts.length ≤ 1000000) (b : Int) (hb : 0 < Mg.used (Pa.cts ts ts.length).1 → Mg.Bst (Mg.used (Pa.cts ts ts.length).1) (fun i => Mg.pre (Mg.rise (Pa.cts ts ts.length).1) (Mg.used (Pa.cts ts ts.length).1 - i)) 15 b) :
    Mg.used (Pa.cts ts ts.length).1 = 1 + Mg.used ((Pa.cts ts ts.length).1.take 256) + ul (Pa.cts ts ts.length).1 29 ∧
    (Mg.used (Pa.cts ts ts.length).1 ≠ 1 → 1 ≤ b - (Mg.dot (Pa.cts ts ts.length).1 (LL 2 ts) 256 + tl (Pa.cts ts ts.length).1 (LL 2 ts) 29) ∧ b - (Mg.dot (Pa.cts ts ts.length).1 (LL 2 ts) 256 + tl (Pa.cts ts ts.length).1 (LL 2 ts) 29) ≤ 15) ∧
    (Mg.used (Pa.cts ts ts.length).1 = 1 → Mg.dot (Pa.cts ts ts.length).1 (LL 2 ts) 256 + tl (Pa.cts ts ts.length).1 (LL 2 ts) 29 = 0) := by
  have hin := (Pa.in_cts ts ts.length (Nat.le_refl _)).1
  have hco := (co_cts ts h).1
  have he := cts_256 ts ts.length (Nat.le_refl _)
  rw [LL_2]
  generalize (Pa.cts ts ts.length).1 = C at *
  have hlen : C.length = 286 := hin.1
  have h0 : ∀ k, k < C.length → 0 ≤ C.getD k 0 := hco.h0
  have hU : Mg.used C = 1 + Mg.used (C.take 256) + ul C 29 := by
    have e1 := used_ul C 29 (by omega)
    rw [show 257 + 29 = C.length by omega, List.take_length] at e1
    have e2 : Mg.used (C.take 257) = Mg.used (C.take 256) + (if 0 < C.getD 256 0 then 1 else 0) := Mg.used_snoc C 256 (by omega)
    rw [he, if_pos (by omega)] at e2
    omega
  refine ⟨hU, fun hne => ?_, fun h1 => ?_⟩
  · have hgt : 1 < Mg.used C := by omega
    have e : cmpl C 15 = Mg.lensOf C 15 := by unfold cmpl; rw [if_pos hgt]
    rw [e]
    have hbl := best_lens C 15 (by omega) hco.hu b (fun hz => by omega) hb
    have e1 := dot_tl C (Mg.lensOf C 15) 29
    rw [show 257 + 29 = C.length by omega, hbl] at e1
    have e2 : Mg.dot C (Mg.lensOf C 15) 257 = Mg.dot C (Mg.lensOf C 15) 256 + C.getD 256 0 * (Mg.lensOf C 15).getD 256 0 := rfl
    rw [he, Int.one_mul] at e2
    have hl := hco.lens 256 (by omega)
    have : (Mg.lensOf C 15).getD 256 0 ≠ 0 := fun hz => by have := hl.2.2.1 hz; omega
    omega
  · rw [dot_zero C _ h0 256 (by omega) (by omega), tl_zero C _ h0 29 (by omega) (by omega)]
    rfl
/-- What the distances cost. -/
theorem far_ok (ts : List Tok) (h : ts.length ≤ 1000000) (b : Int) (hz : Mg.used (Pa.cts ts ts.length).2 = 0 → b = 0) (hb : 0 < Mg.used (Pa.cts ts ts.length).2 → Mg.Bst (Mg.used (Pa.cts ts ts.length).2) (fun i => Mg.pre (Mg.rise (Pa.cts ts ts.length).2) (Mg.used (Pa.cts ts ts.length).2 - i)) 15 b) :
    Mg.dot (Pa.cts ts ts.length).2 (DL 2 ts) 30 = b := by
  have hin := (Pa.in_cts ts ts.length (Nat.le_refl _)).2
  have hco := (co_cts ts h).2
  rw [DL_2]
  generalize (Pa.cts ts ts.length).2 = C at *
  have := best_lens C 15 (by omega) hco.hu b hz hb
  rwa [show C.length = 30 from hin.1] at this
/-- Lengths' symbols, one after the other. -/
theorem lsy_three : Sy.lsy 3 = 0 := by decide +kernel
theorem lsy_last : Sy.lsy 258 = 28 := by decide +kernel
theorem lsy_next : ∀ n, n < 255 → Sy.lsy (n + 4) = Sy.lsy (n + 3) ∨ Sy.lsy (n + 4) = Sy.lsy (n + 3) + 1 := by decide +kernel
/-- What one price tells. -/
theorem prc_own (k : Kd) (C L : List Int) (s : Nat) : prc k C L s - 16 * (xt k (s : Int) : Nat) = 16 * (if 0 < C.getD s 0 then L.getD s 0 else 15) := by unfold prc; omega
theorem prc_lit (C L : List Int) (s : Nat) (h : s < 257) : prc .lit C L s = 16 * (if 0 < C.getD s 0 then L.getD s 0 else 15) := by
  have : xt .lit (s : Int) = 0 := by unfold xt bse; simp only; rw [if_neg (by omega)]
  unfold prc
  rw [this]
  simp
end Bc
end Go.Proofs.YtjjbgdmalefdlaaGreatDoor
end

section
namespace Go.Proofs.YtjjbgdmalefdlaaGreatDoor
open Go.RowKit Go.Maps
theorem keyI : Keyed Tryz.prog 3 := int_keyed Tryz.underlying3
theorem zeroI (w : World) : (zeroValue 3).run Tryz.prog w = .ok (.int .i64 0) w := by kernel_rfl
namespace Bc
/-- What the map of seen symbols holds: c j times symbol 257 + j; T symbols so far. -/
structure Seen (W : World) (mb n T : Nat) (c : Nat → Nat) (cnt : Nat) (Dm : DataW Unit) : Prop where
  own : W.ownsMap Tryz.prog 3 (Go.plainElem (H := Unit) Tryz.prog 3) mb cnt Dm
  cn : cnt ≤ n
  at' : ∀ j, j < 29 → Dm.atKey (.int .i64 ((257 + j : Nat) : Int)) (.lit (.int .i64 0)) = .lit (.int .i64 (c j : Nat))
  one : ∀ j, j < T → 1 ≤ c j
  top : ∀ j, c j ≤ n
  zero : ∀ j, T ≤ j → c j = 0
theorem Seen.below {W W' : World} {mb n T : Nat} {c : Nat → Nat} {cnt : Nat} {Dm : DataW Unit} (h : Seen W mb n T c cnt Dm) (hb : Below W.heap.size W W') : Seen W' mb n T c cnt Dm :=
  ⟨h.own.kept (row := none) ⟨hb.os, hb.tape, hb.output, hb.size, fun k hk _ => hb.block k hk⟩ (by simp), h.cn, h.at', h.one, h.top, h.zero⟩
theorem Seen.drew {W : World} {mb n T : Nat} {c : Nat → Nat} {cnt : Nat} {Dm : DataW Unit} (h : Seen W mb n T c cnt Dm) (k : Nat) : Seen (W.drewN k) mb n T c cnt Dm := h.below ⟨rfl, rfl, rfl, Nat.le_refl _, fun _ _ => rfl⟩
theorem Seen.start {W : World} {mb : Nat} (h : W.ownsMap Tryz.prog 3 (Go.plainElem (H := Unit) Tryz.prog 3) mb 0 (.map [])) : Seen W mb 3 0 (fun _ => 0) 0 (.map []) :=
  ⟨h, by omega, fun j _ => rfl, fun j hj => by omega, fun j => by omega, fun j _ => rfl⟩
/-- One more. -/
theorem Seen.put {W W' : World} {mb n T : Nat} {c : Nat → Nat} {cnt : Nat} {Dm : DataW Unit} (h : Seen W mb n T c cnt Dm) (j : Nat) (hT : j < T ∨ j = T)
    (own' : W'.ownsMap Tryz.prog 3 (Go.plainElem (H := Unit) Tryz.prog 3) mb (cnt + 1) (Dm.put (.int .i64 ((257 + j : Nat) : Int)) (.lit (.int .i64 ((c j + 1 : Nat) : Int))))) :
    Seen W' mb (n + 1) (if j = T then T + 1 else T) (fun i => if i = j then c j + 1 else c i) (cnt + 1) (Dm.put (.int .i64 ((257 + j : Nat) : Int)) (.lit (.int .i64 ((c j + 1 : Nat) : Int)))) := by
  refine ⟨own', by have := h.cn; omega, fun i hi => ?_, fun i hi => ?_, fun i => ?_, fun i hi => ?_⟩
  · by_cases e : i = j
    · subst e
      rw [if_pos rfl]
      exact atKey_put_same h.own.isMap (by simp [WideAt.IsKeyLit]) _ _
    · rw [if_neg e, atKey_put_other (by intro hh; injection hh; omega)]
      exact h.at' i hi
  · by_cases e : i = j
    · rw [if_pos e]; omega
    · rw [if_neg e]
      refine h.one i ?_
      split at hi <;> omega
  · by_cases e : i = j
    · rw [if_pos e]; have := h.top j; omega
    · rw [if_neg e]; have := h.top i; omega
  · have e : i ≠ j := by split at hi <;> omega
    rw [if_neg e]
    refine h.zero i ?_
    split at hi <;> omega
/-- Where the symbols stand. -/
def Row (n T : Nat) : Prop := (n = 3 ∧ T = 0) ∨ (3 < n ∧ T = Sy.lsy (n - 1) + 1)
theorem Row.next {n T : Nat} (h : Row n T) (h3 : 3 ≤ n) (hn : n < 259) : (Sy.lsy n < T ∨ Sy.lsy n = T) ∧ Row (n + 1) (if Sy.lsy n = T then T + 1 else T) ∧ Sy.lsy n ≤ 28 := by
  have h28 : Sy.lsy n ≤ 28 := Sy.cnt_le Sy.lb 28 n
  rcases h with ⟨rfl, rfl⟩ | ⟨h4, rfl⟩
  · rw [lsy_three]
    exact ⟨.inr rfl, .inr ⟨by omega, by rw [if_pos rfl]; show 0 + 1 = Sy.lsy 3 + 1; rw [lsy_three]⟩, by omega⟩
  · obtain ⟨k, rfl⟩ : ∃ k, n = k + 4 := ⟨n - 4, by omega⟩
    have := lsy_next k (by omega)
    rw [show k + 4 - 1 = k + 3 by omega]
    refine ⟨by omega, .inr ⟨by omega, ?_⟩, h28⟩
    rw [show k + 4 + 1 - 1 = k + 4 by omega]
    split <;> omega
end Bc
end Go.Proofs.YtjjbgdmalefdlaaGreatDoor
end
end
