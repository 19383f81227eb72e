/- block.Write of the kinds 1 and 2: its contract (made by tools/gen_bcwrite.py). block.Write where the block isn't valid or there is no writer in low order: its contract. -/
import Derived.Test.YtpoilaappcjbeaaGreatDoorZ23
import Derived.Test.YtpoilaappcjbeaaGreatDoorZ43
import Derived.Test.YtpoilaappcjbeaaGreatDoorZ52
set_option linter.unusedSimpArgs false
set_option linter.unusedVariables false
section
namespace Go.Proofs.YtpoilaappcjbeaaGreatDoor
open Go.RowKit

namespace Bc
theorem fit_tok (tx : List UInt8) (ts : List Tok) : ∀ n k a, ts.length - k = n → fit tx (ts.drop k) a = true → ∀ i, k ≤ i → i < ts.length → Tk.isTok (ts.getD i (0, 0)) = true
  | 0, k, a, hn, _, i, h1, h2 => by omega
  | n + 1, k, a, hn, hf, i, h1, h2 => by
    have hk : k < ts.length := by omega
    rw [fit_at hk] at hf
    simp only [Bool.and_eq_true] at hf
    by_cases e : k = i
    · subst e; exact hf.1
    · exact fit_tok tx ts n (k + 1) _ (by omega) hf.2.2.2 i (by omega) h2
theorem bdZ_of {w : World} {B kind : Nat} {ts : List Tok} {v : Value} {a : Option Addr} {cap : Nat} (H : BdIs w B kind ts v) (hv : ∃ cs : Array Value, v = .agg cs ∧ cs[9]? = some (.slice a ts.length cap)) (h : Ts2 w a ts.length cap ts) :
    BdZ w (fun j => (B ≤ j ∧ j < w.heap.size) ∨ (0 < ts.length ∧ ∃ ad, a = some ad ∧ j = ad.block)) kind ts v := by
  obtain ⟨hp, a1, c1, b1, m1, d1, g1, a2, c2, b2, m2, d2, g2, ta, tc, rfl, k2, k1, i1, j1, hw1, i2, j2, hw2, hts⟩ := H
  obtain ⟨cs, e1, e2⟩ := hv
  obtain rfl := (Value.agg.injEq _ _).mp e1
  have e3 : Value.slice ta ts.length tc = .slice a ts.length cap := by
    have : (bdC hp a1 c1 b1 m1 d1 g1 a2 c2 b2 m2 d2 g2 ta ts.length tc)[9]? = some (.slice ta ts.length tc) := rfl
    rw [this] at e2
    exact Option.some.inj e2
  simp only [Value.slice.injEq, true_and] at e3
  obtain ⟨rfl, rfl⟩ := e3
  refine ⟨hp, a1, c1, b1, m1, d1, g1, a2, c2, b2, m2, d2, g2, ta, tc, rfl, fun e => ?_, k1, hw1.here.wide (fun k hk => .inl hk), hw2.here.wide (fun k hk => .inl hk), hts, fun hn ad e => .inr ⟨hn, ad, e, rfl⟩⟩
  obtain ⟨hb, e1, e2⟩ := k2 e
  have hz := hdZ_of e2
  obtain ⟨ra, rcap, oa, oc, ca, cc, la, m, d, g, hrow, h1, h2, h3, h4, h5, h6⟩ := hz
  exact ⟨hb, e1, ra, rcap, oa, oc, ca, cc, la, m, d, g, hrow, h1, fun hn ad e => .inl (h2 hn ad e), h3, fun hn ad e => .inl (h4 hn ad e), h5.wide (fun k hk => .inl hk), .inl h6⟩
theorem BdZ.kept {w w' : World} {D T : Nat → Prop} {kind : Nat} {ts : List Tok} {v : Value} (H : BdZ w D kind ts v) (c : Ch w w' T) (hD : ∀ k, D k → ¬ T k) : BdZ w' D kind ts v := by
  obtain ⟨hp, a1, c1, b1, m1, d1, g1, a2, c2, b2, m2, d2, g2, ta, tc, rfl, k2, k1, hw1, hw2, hts, htD⟩ := H
  exact ⟨hp, a1, c1, b1, m1, d1, g1, a2, c2, b2, m2, d2, g2, ta, tc, rfl, fun e => by obtain ⟨hb, e1, e2⟩ := k2 e; exact ⟨hb, e1, e2.kept c hD⟩, k1, hw1.kept c hD, hw2.kept c hD, hts.kept0 c (fun hn ad e => hD _ (htD hn ad e)), htD⟩
def WPost (w : World) (B g : Nat) (v : Value) (l : List Bool) (e : Ending) (w' : World) : Prop :=
  e = .returned .nilIface ∧ ∃ v', Wr w' B g false v' l ∧ Ch w w' (Wt g v) ∧ ∀ k, v'.ownBlock = some k → v.ownBlock = some k ∨ w.heap.size ≤ k
/-- What a pen did, told of the writer. -/
theorem wpost_of {w w1 w2 : World} {B gp g : Nat} {v : Value} {l : List Bool} {e : Ending} (hb : Below w.heap.size w w1) (hgp : w.heap.size ≤ gp) (h : PPost w1 B gp g v l e w2) : WPost w B g v l (.returned .nilIface) w2 := by
  obtain ⟨_, v', hp, hc, hf⟩ := h
  refine ⟨rfl, v', hp.wr, ?_, fun k hk => (hf k hk).imp id (fun h => Nat.le_trans hb.size h)⟩
  have c1 := Ch.of_below (T := Wt g v) hb
  refine ⟨hc.os.trans c1.os, hc.tape.trans c1.tape, hc.output.trans c1.output, Nat.le_trans c1.size hc.size, fun k hk hn => (hc.block k (Nat.lt_of_lt_of_le hk c1.size) (fun e => ?_)).trans (c1.block k hk hn)⟩
  rcases e with e | e
  · omega
  · exact hn e
set_option maxRecDepth 100000 in
set_option maxHeartbeats 2000000 in
theorem write_1 (w : World) (B g : Nat) (v : Value) (l : List Bool) (a : Option Addr) (cap : Nat) (ts : List Tok) (xa : Option Addr) (xn xc : Nat) (tx : List UInt8) (last : Bool) (hw : Wr w B g false v l) (hB : B ≤ w.heap.size) (h : Ts2 w a ts.length cap ts) (hb : Bs w xa xn xc tx) (hlen : ts.length ≤ 1000000) (hoo : Oo w) (hz : 0 < w.heap.size)
    (hta : 0 < ts.length → ∀ ad, a = some ad → ¬ Wt g v ad.block) (hv : fit tx ts 0 = true) (hl : l.length ≤ 600000000000) :
    Calls Tryz.prog 10 #[.pointer (some ⟨g, 0, none⟩), .agg #[.int .i64 1, .slice a ts.length cap, .slice xa xn xc], .bool last] w (WPost w B g v (l ++ headB 1 last ++ bdBits 1 ts)) := by
  have hal := below_alloc w (.cells #[.int .i64 1, .slice a ts.length cap, .slice xa xn xc] 36)
  have hrow := heap_alloc_last w (.cells #[.int .i64 1, .slice a ts.length cap, .slice xa xn xc] 36)
  have HV := Lib.hid (isValid_any 1 a ts.length cap ts xa xn xc tx _ (h.mono hal) (hb.mono hal) (by omega))
  have HVB : Hid (vB 1 ts tx = true) := Lib.hid (by rw [← hv]; unfold vB; simp)
  have htok := fit_tok tx ts _ 0 0 rfl (by rw [List.drop_zero]; exact hv)
  have HTK := Lib.hid (fun i (hi : i < ts.length) => tkS_of 1 ts hlen i hi (htok i (Nat.zero_le _) hi))
  have HLN := Lib.hid hlen
  have HNB := Lib.hid (fun w' (hb' : Below w.heap.size w w') => newBody_1 a ts.length cap ts xa xn xc w' (h.mono hb') hlen (hoo.mono hz hb') (Nat.lt_of_lt_of_le hz hb'.size))
  have HTS := Lib.hid (fun w' (hb' : Below w.heap.size w w') => h.mono hb')
  have HW := Lib.hid (fun w' (hb' : Below w.heap.size w w') => hw.mono hb')
  have HTA : Hid (∀ k, (0 < ts.length ∧ ∃ ad, a = some ad ∧ k = ad.block) → k < w.heap.size ∧ ¬ Wt g v k) := Lib.hid (fun k hk => by
    obtain ⟨hn, ad, e, rfl⟩ := hk
    refine ⟨?_, hta hn ad e⟩
    obtain ⟨b, off, e1, hlt, _⟩ := h.at' 0 hn
    rw [e1] at e
    obtain rfl := Option.some.inj e
    exact hlt)
  have HLT : Hid (∀ k, Wt g v k → k < w.heap.size) := Lib.hid (fun k hk => by
    rcases hk with rfl | hk
    · exact hw.lt
    · exact (hw.own.lt k hk).2)
  have HB := Lib.hid hB
  have HL := Lib.hid hl
  have HAL := Lib.hid hal
  have HRW := Lib.hid hrow
  have c0 := cell_of_row _ _ 0 _ _ (0, 0) hrow
  have c1 := cell_of_row _ _ 1 _ _ (0, 0) hrow
  have c2 := cell_of_row _ _ 2 _ _ (0, 0) hrow
  simp only [List.getElem?_toArray, List.getElem?_cons_zero, List.getElem?_cons_succ] at c0 c1 c2
  clear hal hrow h hb hoo hz hta hv hw hB hl hlen htok
  obtain ⟨Y, hY⟩ : ∃ Y, Y = l ++ headB 1 last ++ bdBits 1 ts := ⟨_, rfl⟩
  rw [← hY]
  have HY := Lib.hid hY
  clear hY
  go_enter Tryz.func10, Tryz.ntmps10
  go_wp2_with fail
  refine HV.out.mono ?_
  rintro e w2 ⟨rfl, hb2⟩
  rw [HVB.out]
  have HB2 := Lib.hid (below_then HAL.out hb2)
  have HH := Lib.hid (high_any w2 B g false v l (HW.out _ HB2.out))
  have hr2 := (hb2.block w.heap.size (by simp)).trans HRW.out
  have HQ2 : Hid (w.heap.size < w2.heap.size) := Lib.hid (by have := hb2.size; simp at this; omega)
  clear hb2 HV HVB HAL HRW c0 c1 c2
  go_wp2_with fail
  refine HH.out.mono ?_
  rintro e w' ⟨rfl, rfl⟩
  -- the pen
  have hal3 := below_alloc w2 (.cells #[.pointer (some ⟨g, 0, none⟩), .nilIface] 77)
  have hrow3 := heap_alloc_last w2 (.cells #[.pointer (some ⟨g, 0, none⟩), .nilIface] 77)
  have hb3 := below_then HB2.out hal3
  have hp3 : Pn (w2.alloc (.cells #[.pointer (some ⟨g, 0, none⟩), .nilIface] 77)) B w2.heap.size g v l := ⟨hrow3, HW.out _ hb3, fun e => by have := HLT.out g (.inl rfl); have := HQ2.out; omega, fun e => by have := HLT.out _ (.inr e); have := HQ2.out; omega⟩
  have hr3 := (hal3.block w.heap.size HQ2.out).trans hr2
  have HR3 := Lib.hid hr3
  have HP3 := Lib.hid hp3
  have HN3 := Lib.hid (HNB.out _ hb3)
  have HB3 := Lib.hid hb3
  have HQ3 : Hid (w2.heap.size < (w2.alloc (.cells #[.pointer (some ⟨g, 0, none⟩), .nilIface] 77)).heap.size) := Lib.hid (by simp)
  have HGP : Hid (w.heap.size ≤ w2.heap.size) := Lib.hid (by have := HQ2.out; omega)
  have c0 := cell_of_row _ _ 0 _ _ (0, 0) hr3
  have c1 := cell_of_row _ _ 1 _ _ (0, 0) hr3
  have c2 := cell_of_row _ _ 2 _ _ (0, 0) hr3
  simp only [List.getElem?_toArray, List.getElem?_cons_zero, List.getElem?_cons_succ] at c0 c1 c2
  clear hal3 hrow3 hb3 hp3 hr3 hr2 HH HNB
  go_wp2_with fail
  refine HN3.out.mono ?_
  rintro e w4 ⟨vb, rfl, hbi, hb4, hcs⟩
  have HZ0 := bdZ_of hbi hcs (HTS.out _ (below_then HB3.out hb4))
  clear hcs c0 c1 c2
  obtain ⟨hp, a1, c1, b1, m1, d1, g1, a2, c2, b2, m2, d2, g2, ta, tc, rfl, hr⟩ := hbi
  obtain ⟨pp, rfl⟩ : ∃ pp, hp = .pointer pp := by
    exact ⟨none, hr.2.1 rfl⟩
  clear hr
  have hal5 := below_alloc w4 (.cells (bdC (.pointer pp) a1 c1 b1 m1 d1 g1 a2 c2 b2 m2 d2 g2 ta ts.length tc) 86)
  have hrow5 := heap_alloc_last w4 (.cells (bdC (.pointer pp) a1 c1 b1 m1 d1 g1 a2 c2 b2 m2 d2 g2 ta ts.length tc) 86)
  have hb5 := below_then hb4 hal5
  have hp5 := HP3.out.mono hb5
  have hr5 := (hb5.block w.heap.size (by have := HQ2.out; have := HQ3.out; omega)).trans HR3.out
  have HB5 := Lib.hid (below_then HB3.out hb5)
  have hhd := head_any _ B w2.heap.size g v l 1 last hp5 (Nat.le_trans HB.out HB5.out.size) (by omega) (by have := HL.out; omega)
  rw [show (((1 : Nat)) : Int) = 1 from rfl] at hhd
  have HHD := Lib.hid hhd
  clear hhd
  have HK : Hid (∀ w6 e l6, PPost (w4.alloc (.cells (bdC (.pointer pp) a1 c1 b1 m1 d1 g1 a2 c2 b2 m2 d2 g2 ta ts.length tc) 86)) B w2.heap.size g v l6 e w6 → w6.heap[w4.heap.size]? = some (.cells (bdC (.pointer pp) a1 c1 b1 m1 d1 g1 a2 c2 b2 m2 d2 g2 ta ts.length tc) 86 (0, 0))) := Lib.hid (fun w6 e l6 h6 => by
    obtain ⟨_, _, _, c6, _⟩ := h6
    refine (c6.block w4.heap.size (by simp) (fun e => ?_)).trans hrow5
    have h1 := hb4.size
    have h2 := HQ3.out
    have h3 := HGP.out
    rcases e with e | e
    · omega
    · have := HLT.out _ e; omega)
  have HBD : Hid (∀ w6 e l6, l6.length ≤ 700000000000 → PPost (w4.alloc (.cells (bdC (.pointer pp) a1 c1 b1 m1 d1 g1 a2 c2 b2 m2 d2 g2 ta ts.length tc) 86)) B w2.heap.size g v l6 e w6 → Calls Tryz.prog 37 #[.pointer (some ⟨w2.heap.size, 0, none⟩), .agg (bdC (.pointer pp) a1 c1 b1 m1 d1 g1 a2 c2 b2 m2 d2 g2 ta ts.length tc)] w6 (PPost (w4.alloc (.cells (bdC (.pointer pp) a1 c1 b1 m1 d1 g1 a2 c2 b2 m2 d2 g2 ta ts.length tc) 86)) B w2.heap.size g v (l6 ++ bdBits 1 ts))) := Lib.hid (fun w6 e l6 hl6 h6 => by
    obtain ⟨_, v6, p6, c6, f6⟩ := h6
    have hDv : ∀ k, ((w2.alloc (.cells #[.pointer (some ⟨g, 0, none⟩), .nilIface] 77)).heap.size ≤ k ∧ k < w4.heap.size) ∨ (0 < ts.length ∧ ∃ ad, a = some ad ∧ k = ad.block) → k < w4.heap.size ∧ ¬ Pt w2.heap.size g v k := fun k hk => by
      have h2 := HQ3.out
      have h3 := HGP.out
      have h4 := hb4.size
      rcases hk with hk | hk
      · exact ⟨hk.2, fun e => by
          rcases e with e | e
          · omega
          · have := HLT.out _ e; omega⟩
      · have := HTA.out k hk
        exact ⟨by omega, fun e => by
          rcases e with e | e
          · omega
          · exact this.2 e⟩
    have hz6 := (HZ0.kept (Ch.of_below (T := fun _ => False) hal5) (fun _ _ h => h)).kept c6 (fun k hk => (hDv k hk).2)
    refine (pbody_1 w6 B w2.heap.size g v6 l6 ts _ _ p6 (Nat.le_trans (Nat.le_trans HB.out HB5.out.size) c6.size) hz6 (fun k hk e => ?_) HLN.out HTK.out (sd_end 1 ts HLN.out) hl6).mono (fun e7 w7 h7 => PPost.trans p6 c6 f6 h7)
    have hd := hDv k hk
    rcases e with e | e | e
    · exact hd.2 (.inl e)
    · exact hd.2 (.inr (.inl e))
    · rcases f6 k e with h | h
      · exact hd.2 (.inr (.inr h))
      · have := hal5.size; omega)
  have c0 := cell_of_row _ _ 0 _ _ (0, 0) hr5
  have hrb := hrow5
  unfold bdC at hrb
  simp only [List.getElem?_toArray, List.getElem?_cons_zero, List.getElem?_cons_succ] at c0
  have HHL : Hid ((l ++ headB 1 last).length ≤ 700000000000) := Lib.hid (by
    have := HL.out
    unfold headB
    rw [List.length_append, List.length_append, Bt.dg_length, Bt.dg_length]; omega)
  clear hr5 hp5 hrow5 hal5 hb5 hb4 HZ0 hrb HN3 HP3 HR3
  unfold bdC at c0 HHD HK HBD HB5 ⊢
  go_wp2_with fail
  refine HHD.out.mono ?_
  rintro e w6 hp6
  have hk6 := HK.out _ _ _ hp6
  have HBDY := Lib.hid (HBD.out w6 e _ HHL.out hp6)
  obtain ⟨rfl, _⟩ := hp6
  have y0 := cell_of_row _ _ 0 _ _ (0, 0) hk6
  have y1 := cell_of_row _ _ 1 _ _ (0, 0) hk6
  have y2 := cell_of_row _ _ 2 _ _ (0, 0) hk6
  have y3 := cell_of_row _ _ 3 _ _ (0, 0) hk6
  have y4 := cell_of_row _ _ 4 _ _ (0, 0) hk6
  have y5 := cell_of_row _ _ 5 _ _ (0, 0) hk6
  have y6 := cell_of_row _ _ 6 _ _ (0, 0) hk6
  have y7 := cell_of_row _ _ 7 _ _ (0, 0) hk6
  have y8 := cell_of_row _ _ 8 _ _ (0, 0) hk6
  have y9 := cell_of_row _ _ 9 _ _ (0, 0) hk6
  simp only [List.getElem?_toArray, List.getElem?_cons_zero, List.getElem?_cons_succ] at y0 y1 y2 y3 y4 y5 y6 y7 y8 y9
  clear hk6 HHD HBD HK c0
  go_wp2_with fail
  refine HBDY.out.mono ?_
  rintro e w7 hp7
  have HF : Hid (WPost w B g v Y (.returned .nilIface) w7) := Lib.hid (by rw [HY.out]; exact wpost_of HB5.out HGP.out hp7)
  obtain ⟨rfl, v7, p7, _, _⟩ := hp7
  have k1 := cell_of_row _ _ 1 _ _ (0, 0) p7.row
  simp only [List.getElem?_toArray, List.getElem?_cons_zero, List.getElem?_cons_succ] at k1
  clear p7 y0 y1 y2 y3 y4 y5 y6 y7 y8 y9 HBDY HB5
  go_wp2
  go_ret
  exact HF.out
set_option maxRecDepth 100000 in
set_option maxHeartbeats 2000000 in
theorem write_2 (w : World) (B g : Nat) (v : Value) (l : List Bool) (a : Option Addr) (cap : Nat) (ts : List Tok) (xa : Option Addr) (xn xc : Nat) (tx : List UInt8) (last : Bool) (hw : Wr w B g false v l) (hB : B ≤ w.heap.size) (h : Ts2 w a ts.length cap ts) (hb : Bs w xa xn xc tx) (hlen : ts.length ≤ 1000000) (hoo : Oo w) (hz : 0 < w.heap.size)
    (hta : 0 < ts.length → ∀ ad, a = some ad → ¬ Wt g v ad.block) (hv : fit tx ts 0 = true) (hl : l.length ≤ 600000000000) :
    Calls Tryz.prog 10 #[.pointer (some ⟨g, 0, none⟩), .agg #[.int .i64 2, .slice a ts.length cap, .slice xa xn xc], .bool last] w (WPost w B g v (l ++ headB 2 last ++ bdBits 2 ts)) := by
  have hal := below_alloc w (.cells #[.int .i64 2, .slice a ts.length cap, .slice xa xn xc] 36)
  have hrow := heap_alloc_last w (.cells #[.int .i64 2, .slice a ts.length cap, .slice xa xn xc] 36)
  have HV := Lib.hid (isValid_any 2 a ts.length cap ts xa xn xc tx _ (h.mono hal) (hb.mono hal) (by omega))
  have HVB : Hid (vB 2 ts tx = true) := Lib.hid (by rw [← hv]; unfold vB; simp)
  have htok := fit_tok tx ts _ 0 0 rfl (by rw [List.drop_zero]; exact hv)
  have HTK := Lib.hid (fun i (hi : i < ts.length) => tkS_of 2 ts hlen i hi (htok i (Nat.zero_le _) hi))
  have HLN := Lib.hid hlen
  have HNB := Lib.hid (fun w' (hb' : Below w.heap.size w w') => newBody_2 a ts.length cap ts xa xn xc w' (h.mono hb') hlen (hoo.mono hz hb') (Nat.lt_of_lt_of_le hz hb'.size))
  have HTS := Lib.hid (fun w' (hb' : Below w.heap.size w w') => h.mono hb')
  have HW := Lib.hid (fun w' (hb' : Below w.heap.size w w') => hw.mono hb')
  have HTA : Hid (∀ k, (0 < ts.length ∧ ∃ ad, a = some ad ∧ k = ad.block) → k < w.heap.size ∧ ¬ Wt g v k) := Lib.hid (fun k hk => by
    obtain ⟨hn, ad, e, rfl⟩ := hk
    refine ⟨?_, hta hn ad e⟩
    obtain ⟨b, off, e1, hlt, _⟩ := h.at' 0 hn
    rw [e1] at e
    obtain rfl := Option.some.inj e
    exact hlt)
  have HLT : Hid (∀ k, Wt g v k → k < w.heap.size) := Lib.hid (fun k hk => by
    rcases hk with rfl | hk
    · exact hw.lt
    · exact (hw.own.lt k hk).2)
  have HB := Lib.hid hB
  have HL := Lib.hid hl
  have HAL := Lib.hid hal
  have HRW := Lib.hid hrow
  have c0 := cell_of_row _ _ 0 _ _ (0, 0) hrow
  have c1 := cell_of_row _ _ 1 _ _ (0, 0) hrow
  have c2 := cell_of_row _ _ 2 _ _ (0, 0) hrow
  simp only [List.getElem?_toArray, List.getElem?_cons_zero, List.getElem?_cons_succ] at c0 c1 c2
  clear hal hrow h hb hoo hz hta hv hw hB hl hlen htok
  obtain ⟨Y, hY⟩ : ∃ Y, Y = l ++ headB 2 last ++ bdBits 2 ts := ⟨_, rfl⟩
  rw [← hY]
  have HY := Lib.hid hY
  clear hY
  go_enter Tryz.func10, Tryz.ntmps10
  go_wp2_with fail
  refine HV.out.mono ?_
  rintro e w2 ⟨rfl, hb2⟩
  rw [HVB.out]
  have HB2 := Lib.hid (below_then HAL.out hb2)
  have HH := Lib.hid (high_any w2 B g false v l (HW.out _ HB2.out))
  have hr2 := (hb2.block w.heap.size (by simp)).trans HRW.out
  have HQ2 : Hid (w.heap.size < w2.heap.size) := Lib.hid (by have := hb2.size; simp at this; omega)
  clear hb2 HV HVB HAL HRW c0 c1 c2
  go_wp2_with fail
  refine HH.out.mono ?_
  rintro e w' ⟨rfl, rfl⟩
  -- the pen
  have hal3 := below_alloc w2 (.cells #[.pointer (some ⟨g, 0, none⟩), .nilIface] 77)
  have hrow3 := heap_alloc_last w2 (.cells #[.pointer (some ⟨g, 0, none⟩), .nilIface] 77)
  have hb3 := below_then HB2.out hal3
  have hp3 : Pn (w2.alloc (.cells #[.pointer (some ⟨g, 0, none⟩), .nilIface] 77)) B w2.heap.size g v l := ⟨hrow3, HW.out _ hb3, fun e => by have := HLT.out g (.inl rfl); have := HQ2.out; omega, fun e => by have := HLT.out _ (.inr e); have := HQ2.out; omega⟩
  have hr3 := (hal3.block w.heap.size HQ2.out).trans hr2
  have HR3 := Lib.hid hr3
  have HP3 := Lib.hid hp3
  have HN3 := Lib.hid (HNB.out _ hb3)
  have HB3 := Lib.hid hb3
  have HQ3 : Hid (w2.heap.size < (w2.alloc (.cells #[.pointer (some ⟨g, 0, none⟩), .nilIface] 77)).heap.size) := Lib.hid (by simp)
  have HGP : Hid (w.heap.size ≤ w2.heap.size) := Lib.hid (by have := HQ2.out; omega)
  have c0 := cell_of_row _ _ 0 _ _ (0, 0) hr3
  have c1 := cell_of_row _ _ 1 _ _ (0, 0) hr3
  have c2 := cell_of_row _ _ 2 _ _ (0, 0) hr3
  simp only [List.getElem?_toArray, List.getElem?_cons_zero, List.getElem?_cons_succ] at c0 c1 c2
  clear hal3 hrow3 hb3 hp3 hr3 hr2 HH HNB
  go_wp2_with fail
  refine HN3.out.mono ?_
  rintro e w4 ⟨vb, rfl, hbi, hb4, hcs⟩
  have HZ0 := bdZ_of hbi hcs (HTS.out _ (below_then HB3.out hb4))
  clear hcs c0 c1 c2
  obtain ⟨hp, a1, c1, b1, m1, d1, g1, a2, c2, b2, m2, d2, g2, ta, tc, rfl, hr⟩ := hbi
  obtain ⟨pp, rfl⟩ : ∃ pp, hp = .pointer pp := by
    obtain ⟨x, e, _⟩ := hr.1 rfl; exact ⟨_, e⟩
  clear hr
  have hal5 := below_alloc w4 (.cells (bdC (.pointer pp) a1 c1 b1 m1 d1 g1 a2 c2 b2 m2 d2 g2 ta ts.length tc) 86)
  have hrow5 := heap_alloc_last w4 (.cells (bdC (.pointer pp) a1 c1 b1 m1 d1 g1 a2 c2 b2 m2 d2 g2 ta ts.length tc) 86)
  have hb5 := below_then hb4 hal5
  have hp5 := HP3.out.mono hb5
  have hr5 := (hb5.block w.heap.size (by have := HQ2.out; have := HQ3.out; omega)).trans HR3.out
  have HB5 := Lib.hid (below_then HB3.out hb5)
  have hhd := head_any _ B w2.heap.size g v l 2 last hp5 (Nat.le_trans HB.out HB5.out.size) (by omega) (by have := HL.out; omega)
  rw [show (((2 : Nat)) : Int) = 2 from rfl] at hhd
  have HHD := Lib.hid hhd
  clear hhd
  have HK : Hid (∀ w6 e l6, PPost (w4.alloc (.cells (bdC (.pointer pp) a1 c1 b1 m1 d1 g1 a2 c2 b2 m2 d2 g2 ta ts.length tc) 86)) B w2.heap.size g v l6 e w6 → w6.heap[w4.heap.size]? = some (.cells (bdC (.pointer pp) a1 c1 b1 m1 d1 g1 a2 c2 b2 m2 d2 g2 ta ts.length tc) 86 (0, 0))) := Lib.hid (fun w6 e l6 h6 => by
    obtain ⟨_, _, _, c6, _⟩ := h6
    refine (c6.block w4.heap.size (by simp) (fun e => ?_)).trans hrow5
    have h1 := hb4.size
    have h2 := HQ3.out
    have h3 := HGP.out
    rcases e with e | e
    · omega
    · have := HLT.out _ e; omega)
  have HBD : Hid (∀ w6 e l6, l6.length ≤ 700000000000 → PPost (w4.alloc (.cells (bdC (.pointer pp) a1 c1 b1 m1 d1 g1 a2 c2 b2 m2 d2 g2 ta ts.length tc) 86)) B w2.heap.size g v l6 e w6 → Calls Tryz.prog 37 #[.pointer (some ⟨w2.heap.size, 0, none⟩), .agg (bdC (.pointer pp) a1 c1 b1 m1 d1 g1 a2 c2 b2 m2 d2 g2 ta ts.length tc)] w6 (PPost (w4.alloc (.cells (bdC (.pointer pp) a1 c1 b1 m1 d1 g1 a2 c2 b2 m2 d2 g2 ta ts.length tc) 86)) B w2.heap.size g v (l6 ++ bdBits 2 ts))) := Lib.hid (fun w6 e l6 hl6 h6 => by
    obtain ⟨_, v6, p6, c6, f6⟩ := h6
    have hDv : ∀ k, ((w2.alloc (.cells #[.pointer (some ⟨g, 0, none⟩), .nilIface] 77)).heap.size ≤ k ∧ k < w4.heap.size) ∨ (0 < ts.length ∧ ∃ ad, a = some ad ∧ k = ad.block) → k < w4.heap.size ∧ ¬ Pt w2.heap.size g v k := fun k hk => by
      have h2 := HQ3.out
      have h3 := HGP.out
      have h4 := hb4.size
      rcases hk with hk | hk
      · exact ⟨hk.2, fun e => by
          rcases e with e | e
          · omega
          · have := HLT.out _ e; omega⟩
      · have := HTA.out k hk
        exact ⟨by omega, fun e => by
          rcases e with e | e
          · omega
          · exact this.2 e⟩
    have hz6 := (HZ0.kept (Ch.of_below (T := fun _ => False) hal5) (fun _ _ h => h)).kept c6 (fun k hk => (hDv k hk).2)
    refine (pbody_2 w6 B w2.heap.size g v6 l6 ts _ _ p6 (Nat.le_trans (Nat.le_trans HB.out HB5.out.size) c6.size) hz6 (fun k hk e => ?_) (hdT_w ts HLN.out) HLN.out HTK.out (sd_end 2 ts HLN.out) hl6).mono (fun e7 w7 h7 => PPost.trans p6 c6 f6 h7)
    have hd := hDv k hk
    rcases e with e | e | e
    · exact hd.2 (.inl e)
    · exact hd.2 (.inr (.inl e))
    · rcases f6 k e with h | h
      · exact hd.2 (.inr (.inr h))
      · have := hal5.size; omega)
  have c0 := cell_of_row _ _ 0 _ _ (0, 0) hr5
  have hrb := hrow5
  unfold bdC at hrb
  simp only [List.getElem?_toArray, List.getElem?_cons_zero, List.getElem?_cons_succ] at c0
  have HHL : Hid ((l ++ headB 2 last).length ≤ 700000000000) := Lib.hid (by
    have := HL.out
    unfold headB
    rw [List.length_append, List.length_append, Bt.dg_length, Bt.dg_length]; omega)
  clear hr5 hp5 hrow5 hal5 hb5 hb4 HZ0 hrb HN3 HP3 HR3
  unfold bdC at c0 HHD HK HBD HB5 ⊢
  go_wp2_with fail
  refine HHD.out.mono ?_
  rintro e w6 hp6
  have hk6 := HK.out _ _ _ hp6
  have HBDY := Lib.hid (HBD.out w6 e _ HHL.out hp6)
  obtain ⟨rfl, _⟩ := hp6
  have y0 := cell_of_row _ _ 0 _ _ (0, 0) hk6
  have y1 := cell_of_row _ _ 1 _ _ (0, 0) hk6
  have y2 := cell_of_row _ _ 2 _ _ (0, 0) hk6
  have y3 := cell_of_row _ _ 3 _ _ (0, 0) hk6
  have y4 := cell_of_row _ _ 4 _ _ (0, 0) hk6
  have y5 := cell_of_row _ _ 5 _ _ (0, 0) hk6
  have y6 := cell_of_row _ _ 6 _ _ (0, 0) hk6
  have y7 := cell_of_row _ _ 7 _ _ (0, 0) hk6
  have y8 := cell_of_row _ _ 8 _ _ (0, 0) hk6
  have y9 := cell_of_row _ _ 9 _ _ (0, 0) hk6
  simp only [List.getElem?_toArray, List.getElem?_cons_zero, List.getElem?_cons_succ] at y0 y1 y2 y3 y4 y5 y6 y7 y8 y9
  clear hk6 HHD HBD HK c0
  go_wp2_with fail
  refine HBDY.out.mono ?_
  rintro e w7 hp7
  have HF : Hid (WPost w B g v Y (.returned .nilIface) w7) := Lib.hid (by rw [HY.out]; exact wpost_of HB5.out HGP.out hp7)
  obtain ⟨rfl, v7, p7, _, _⟩ := hp7
  have k1 := cell_of_row _ _ 1 _ _ (0, 0) p7.row
  simp only [List.getElem?_toArray, List.getElem?_cons_zero, List.getElem?_cons_succ] at k1
  clear p7 y0 y1 y2 y3 y4 y5 y6 y7 y8 y9 HBDY HB5
  go_wp2
  go_ret
  exact HF.out
end Bc
end Go.Proofs.YtpoilaappcjbeaaGreatDoor
end

section
namespace Go.Proofs.YtpoilaappcjbeaaGreatDoor
open Go.RowKit

namespace Bc
def NoPost (w : World) (e : Ending) (w' : World) : Prop := e = .returned (.iface 51 (.int .i64 6)) ∧ Below w.heap.size w w'
set_option maxRecDepth 100000 in
set_option maxHeartbeats 1000000 in
theorem write_inv (p : Option Addr) (w : World) (kind : Int) (a : Option Addr) (len cap : Nat) (ts : List Tok) (xa : Option Addr) (xn xc : Nat) (tx : List UInt8) (last : Bool) (h : Ts2 w a len cap ts) (hb : Bs w xa xn xc tx) (hlen : len ≤ 1000000) (hv : vB kind ts tx = false) :
    Calls Tryz.prog 10 #[.pointer p, .agg #[.int .i64 kind, .slice a len cap, .slice xa xn xc], .bool last] w (NoPost w) := by
  have hal := below_alloc w (.cells #[.int .i64 kind, .slice a len cap, .slice xa xn xc] 36)
  have hrow := heap_alloc_last w (.cells #[.int .i64 kind, .slice a len cap, .slice xa xn xc] 36)
  have HV := Lib.hid (isValid_any kind a len cap ts xa xn xc tx _ (h.mono hal) (hb.mono hal) (by omega))
  have HVB := Lib.hid hv
  have HAL := Lib.hid hal
  have c0 := cell_of_row _ _ 0 _ _ (0, 0) hrow
  have c1 := cell_of_row _ _ 1 _ _ (0, 0) hrow
  have c2 := cell_of_row _ _ 2 _ _ (0, 0) hrow
  simp only [List.getElem?_toArray, List.getElem?_cons_zero, List.getElem?_cons_succ] at c0 c1 c2
  clear hal hrow h hb hv hlen
  go_enter Tryz.func10, Tryz.ntmps10
  go_wp2_with fail
  refine HV.out.mono ?_
  rintro e w2 ⟨rfl, hb2⟩
  rw [HVB.out]
  have HB2 := Lib.hid (below_then HAL.out hb2)
  clear hb2 HV HVB HAL c0 c1 c2
  go_wp2
  go_ret
  exact ⟨rfl, HB2.out⟩
set_option maxRecDepth 100000 in
set_option maxHeartbeats 1000000 in
theorem write_nil (w : World) (kind : Int) (a : Option Addr) (len cap : Nat) (ts : List Tok) (xa : Option Addr) (xn xc : Nat) (tx : List UInt8) (last : Bool) (h : Ts2 w a len cap ts) (hb : Bs w xa xn xc tx) (hlen : len ≤ 1000000) :
    Calls Tryz.prog 10 #[.pointer none, .agg #[.int .i64 kind, .slice a len cap, .slice xa xn xc], .bool last] w (NoPost w) := by
  cases hv : vB kind ts tx
  · exact write_inv none w kind a len cap ts xa xn xc tx last h hb hlen hv
  have hal := below_alloc w (.cells #[.int .i64 kind, .slice a len cap, .slice xa xn xc] 36)
  have hrow := heap_alloc_last w (.cells #[.int .i64 kind, .slice a len cap, .slice xa xn xc] 36)
  have HV := Lib.hid (isValid_any kind a len cap ts xa xn xc tx _ (h.mono hal) (hb.mono hal) (by omega))
  have HVB := Lib.hid hv
  have HAL := Lib.hid hal
  have c0 := cell_of_row _ _ 0 _ _ (0, 0) hrow
  have c1 := cell_of_row _ _ 1 _ _ (0, 0) hrow
  have c2 := cell_of_row _ _ 2 _ _ (0, 0) hrow
  simp only [List.getElem?_toArray, List.getElem?_cons_zero, List.getElem?_cons_succ] at c0 c1 c2
  clear hal hrow h hb hv hlen
  go_enter Tryz.func10, Tryz.ntmps10
  go_wp2_with fail
  refine HV.out.mono ?_
  rintro e w2 ⟨rfl, hb2⟩
  rw [HVB.out]
  have HB2 := Lib.hid (below_then HAL.out hb2)
  clear hb2 HV HVB HAL c0 c1 c2
  go_wp2
  go_ret
  exact ⟨rfl, HB2.out⟩
set_option maxRecDepth 100000 in
set_option maxHeartbeats 1000000 in
theorem write_high (w : World) (B g : Nat) (v : Value) (l : List Bool) (kind : Int) (a : Option Addr) (len cap : Nat) (ts : List Tok) (xa : Option Addr) (xn xc : Nat) (tx : List UInt8) (last : Bool) (hw : Wr w B g true v l) (h : Ts2 w a len cap ts) (hb : Bs w xa xn xc tx) (hlen : len ≤ 1000000) :
    Calls Tryz.prog 10 #[.pointer (some ⟨g, 0, none⟩), .agg #[.int .i64 kind, .slice a len cap, .slice xa xn xc], .bool last] w (NoPost w) := by
  cases hv : vB kind ts tx
  · exact write_inv _ w kind a len cap ts xa xn xc tx last h hb hlen hv
  have hal := below_alloc w (.cells #[.int .i64 kind, .slice a len cap, .slice xa xn xc] 36)
  have hrow := heap_alloc_last w (.cells #[.int .i64 kind, .slice a len cap, .slice xa xn xc] 36)
  have HV := Lib.hid (isValid_any kind a len cap ts xa xn xc tx _ (h.mono hal) (hb.mono hal) (by omega))
  have HVB := Lib.hid hv
  have HAL := Lib.hid hal
  have HW := Lib.hid (fun w' (hb' : Below w.heap.size w w') => high_any w' B g true v l (hw.mono hb'))
  have c0 := cell_of_row _ _ 0 _ _ (0, 0) hrow
  have c1 := cell_of_row _ _ 1 _ _ (0, 0) hrow
  have c2 := cell_of_row _ _ 2 _ _ (0, 0) hrow
  simp only [List.getElem?_toArray, List.getElem?_cons_zero, List.getElem?_cons_succ] at c0 c1 c2
  clear hal hrow h hb hv hlen hw
  go_enter Tryz.func10, Tryz.ntmps10
  go_wp2_with fail
  refine HV.out.mono ?_
  rintro e w2 ⟨rfl, hb2⟩
  rw [HVB.out]
  have HB2 := Lib.hid (below_then HAL.out hb2)
  have HH := Lib.hid (HW.out _ HB2.out)
  clear hb2 HV HVB HAL HW c0 c1 c2
  go_wp2_with fail
  refine HH.out.mono ?_
  rintro e w' ⟨rfl, rfl⟩
  clear HH
  go_wp2
  go_ret
  exact ⟨rfl, HB2.out⟩
end Bc
end Go.Proofs.YtpoilaappcjbeaaGreatDoor
end
