/- For all tokens (at most 300), every text (at most 70000 bytes), every kind and either end: Bits and Write refuse, by ErrForm, just the blocks that aren't in form, Best just the tokens that don't come to the text by the document's own Fits; nothing is written by a refusal, and a nil writer and one that takes the highest bits first are refused. block.ownOrder holds what the program's own text lays (the tied card). -/
import Derived.Test.YtpoilaappcjbeaaGreatDoorCards
import Derived.Test.YtpoilaappcjbeaaGreatDoorTie
import Derived.ProofKit
import Derived.Handy
import Derived.Lay
import Derived.SevenTiedAt
import Derived.Test.YtpoilaappcjbeaaGreatDoorRows
import Derived.Test.YtpoilaappcjbeaaGreatDoorZ2
import Derived.Test.YtpoilaappcjbeaaGreatDoorZ7
import Derived.Test.YtpoilaappcjbeaaGreatDoorZ23
import Derived.Test.YtpoilaappcjbeaaGreatDoorZ40
import Derived.Test.YtpoilaappcjbeaaGreatDoorZ43
import Derived.Test.YtpoilaappcjbeaaGreatDoorZ50
import Derived.Test.YtpoilaappcjbeaaGreatDoorZ53
import Derived.Test.YtpoilaappcjbeaaGreatDoorZ54
set_option linter.unusedSimpArgs false
set_option linter.unusedVariables false
namespace Go.Proofs.YtpoilaappcjbeaaGreatDoor.BlockForms
open Go.ChangeShapes Go.WideShapes Go.ChangeAt Go.RowKit
open Go.ChangeMaps (open_string shut_string)
set_option linter.unusedVariables false
theorem own : ownKnob Tryz.prog.godebug = none := by kernel_rfl
theorem laidOut : laidOutB Tryz.prog = true := by kernel_rfl
theorem box4 {W : World} {g : Nat} {x0 x1 x2 x3 : Value} {t : TypeId} (h : W.heap[g]? = some (.cells #[x0, x1, x2, x3] t (0, 0))) : W.cell? ⟨g, 0, none⟩ = some x0 ∧ W.cell? ⟨g, 1, none⟩ = some x1 ∧ W.cell? ⟨g, 2, none⟩ = some x2 ∧ W.cell? ⟨g, 3, none⟩ = some x3 := by
  refine ⟨?_, ?_, ?_, ?_⟩
  all_goals rw [cell_of_row _ _ _ _ _ (0, 0) h]; rfl
theorem box3 {W : World} {g : Nat} {x0 x1 x2 : Value} {t : TypeId} (h : W.heap[g]? = some (.cells #[x0, x1, x2] t (0, 0))) : W.cell? ⟨g, 0, none⟩ = some x0 ∧ W.cell? ⟨g, 1, none⟩ = some x1 ∧ W.cell? ⟨g, 2, none⟩ = some x2 := by
  refine ⟨?_, ?_, ?_⟩
  all_goals rw [cell_of_row _ _ _ _ _ (0, 0) h]; rfl
theorem row_below {W W' : World} {g : Nat} {o : Obj} (h : W.heap[g]? = some o) (hb : Below W.heap.size W W') : W'.heap[g]? = some o := (hb.block g (Array.getElem?_eq_some_iff.1 h).1).trans h
theorem wt_ge {g j : Nat} (h : Wt g (.slice none 0 0) j) : g ≤ j := by
  rcases h with h | h
  · omega
  · simp [Value.ownBlock] at h
theorem hbl3 (k : Nat) (last : Bool) : (Bc.headB k last).length = 3 := by unfold Bc.headB; rw [List.length_append, Bt.dg_length, Bt.dg_length]
set_option maxRecDepth 100000 in
set_option maxHeartbeats 16000000 in
theorem walk (pa : Option Addr) (plen pcap : Nat) (pl : List UInt8) (b : Option Addr) (blen bcap : Nat) (ts : List Tok) (n : Int) (last : Bool) (xa : Option Addr) (xlen xc : Nat) (tx : List UInt8) (w : World) (_ : Bs w pa plen pcap pl) (_ : pcap ≤ 140737488351232) (h2 : Ts2 w b blen bcap ts) (hr2 : bcap * 16 ≤ 140737488351232) (_ : (Lit.int .i64 n).wf = true) (h : Bs w xa xlen xc tx) (hr : xc ≤ 140737488351232) (hL : laidMetH Tryz.prog [("burnish/block.ownOrder", Rows.laid_burnish_block_ownOrder)] w) :
    Calls Tryz.prog 4 #[.agg #[.slice pa plen pcap, .slice b blen bcap, .int .i64 n, .bool last], .slice xa xlen xc] w fun e w' => e = .returned (.bool true) ∧ Below w.heap.size w w' := by
  obtain ⟨hoo, hz⟩ := oo_of_laid hL
  clear hL
  have hl1 := h.hlen
  have hl2 := h2.hlen
  subst hl1 hl2
  have hle1 := h.hle
  have hle2 := h2.hle
  have HO0 : Hid (∀ W, Below w.heap.size w W → Bc.Oo W ∧ 0 < W.heap.size) := Lib.hid (fun W hb => ⟨hoo.mono hz hb, Nat.lt_of_lt_of_le hz hb.size⟩)
  have H := Lib.hid h
  have H2 := Lib.hid h2
  have HR := Lib.hid (heap_alloc_last w (.cells #[.slice pa plen pcap, .slice b ts.length bcap, .int .i64 n, .bool last] 25))
  have HA := Lib.hid (below_alloc w (.cells #[.slice pa plen pcap, .slice b ts.length bcap, .int .i64 n, .bool last] 25))
  clear hoo hz h h2
  go_enter Tryz.func4, Tryz.ntmps4
  go_wp2_with fail
  refine (alive10_any _ (HO0.out _ HA.out).1 (HO0.out _ HA.out).2).mono ?_
  rintro e w1 ⟨rfl, hb1⟩
  have HR1 := Lib.hid (row_below HR.out hb1)
  have HB1 := Lib.hid (below_then HA.out hb1)
  clear hb1 HR HA
  obtain ⟨c0, c1, c2, c3⟩ := box4 HR1.out
  by_cases hts : 300 < ts.length
  · have d1 : decide ((300 : Int) < (ts.length : Int)) = true := by simp; omega
    clear hts
    go_wp2
    go_ret
    exact ⟨rfl, HB1.out⟩
  have d1 : decide ((300 : Int) < (ts.length : Int)) = false := by simp; omega
  by_cases htx : 70000 < tx.length
  · have d2 : decide ((70000 : Int) < (tx.length : Int)) = true := by simp; omega
    clear hts htx
    go_wp2
    go_ret
    exact ⟨rfl, HB1.out⟩
  have d2 : decide ((70000 : Int) < (tx.length : Int)) = false := by simp; omega
  have hbx := below_alloc w1 (.cells #[.int .i64 n, .slice b ts.length bcap, .slice xa tx.length xc] 36)
  have HR5 := Lib.hid (row_below HR1.out hbx)
  have HQ5 := Lib.hid (heap_alloc_last w1 (.cells #[.int .i64 n, .slice b ts.length bcap, .slice xa tx.length xc] 36))
  have HB5 := Lib.hid (below_then HB1.out hbx)
  clear hbx
  go_wp2_with fail
  revert HR5 HQ5 HB5
  generalize (w1.alloc (.cells #[.int .i64 n, .slice b ts.length bcap, .slice xa tx.length xc] 36)) = w5
  intro HR5 HQ5 HB5
  have HFIN : Hid (∀ W, Below w5.heap.size w5 W → Below w.heap.size w W) := Lib.hid (fun W hb => below_then HB5.out hb)
  have HOO : Hid (∀ W, Below w5.heap.size w5 W → Bc.Oo W ∧ 0 < W.heap.size) := Lib.hid (fun W hb => HO0.out W (below_then HB5.out hb))
  have HD : Hid (∀ W, Below w5.heap.size w5 W → W.heap[w.heap.size]? = some (.cells #[.slice pa plen pcap, .slice b ts.length bcap, .int .i64 n, .bool last] 25 (0, 0)) ∧ W.heap[w1.heap.size]? = some (.cells #[.int .i64 n, .slice b ts.length bcap, .slice xa tx.length xc] 36 (0, 0)) ∧ Ts2 W b ts.length bcap ts ∧ Bs W xa tx.length xc tx) := Lib.hid (fun W hb => ⟨row_below HR5.out hb, row_below HQ5.out hb, (H2.out.mono HB5.out).mono hb, (H.out.mono HB5.out).mono hb⟩)
  have HC : Hid (∀ W, Below w5.heap.size w5 W → W.cell? ⟨w.heap.size, 3, none⟩ = some (.bool last) ∧ W.cell? ⟨w1.heap.size, 0, none⟩ = some (.int .i64 n) ∧ W.cell? ⟨w1.heap.size, 1, none⟩ = some (.slice b ts.length bcap) ∧ W.cell? ⟨w1.heap.size, 2, none⟩ = some (.slice xa tx.length xc)) := Lib.hid (fun W hb => ⟨(box4 (HD.out W hb).1).2.2.2, box3 (HD.out W hb).2.1⟩)
  have HC1 : Hid (∀ W, Below w5.heap.size w5 W → W.cell? ⟨w.heap.size, 1, none⟩ = some (.slice b ts.length bcap)) := Lib.hid (fun W hb => (box4 (HD.out W hb).1).2.1)
  have HC2 : Hid (∀ W, Below w5.heap.size w5 W → W.cell? ⟨w.heap.size, 2, none⟩ = some (.int .i64 n)) := Lib.hid (fun W hb => (box4 (HD.out W hb).1).2.2.1)
  have HTB : Hid (0 < ts.length → ∀ ad, b = some ad → ¬ Wt w5.heap.size (.slice none 0 0) ad.block) := Lib.hid (fun h ad e ht => by
    obtain ⟨bb, off, e2, hlt, _⟩ := (H2.out.mono HB5.out).at' 0 h
    rw [e] at e2
    obtain rfl := Option.some.inj e2
    rcases ht with ht | ht
    · simp only at ht; omega
    · simp [Value.ownBlock] at ht)
  have HXB : Hid (0 < tx.length → ∀ ad, xa = some ad → ¬ Wt w5.heap.size (.slice none 0 0) ad.block) := Lib.hid (fun h ad e ht => by
    obtain ⟨bb, off, e2, hlt, _⟩ := (H.out.mono HB5.out).at' 0 h
    rw [e] at e2
    obtain rfl := Option.some.inj e2
    rcases ht with ht | ht
    · simp only at ht; omega
    · simp [Value.ownBlock] at ht)
  clear c0 c1 c2 c3 HR5 HQ5 HR1 HB1 HO0 H H2 HB5
  have hw6 := newWriter_any false w5.heap.size w5 (Nat.le_refl _)
  refine hw6.mono ?_
  rintro e w6 ⟨rfl, hwr, hb6⟩
  have HB6 := Lib.hid hb6
  have HW6 := Lib.hid hwr
  clear hwr hb6 hw6
  have c1 := HC1.out _ HB6.out
  go_wp2_with fail
  refine (Bc.refFits_any b ts.length bcap ts xa tx.length xc tx w6 (HD.out _ HB6.out).2.2.1 (HD.out _ HB6.out).2.2.2 (by omega) (by omega)).mono ?_
  rintro e w7 ⟨rfl, hb7⟩
  have HB7 := Lib.hid (HB6.out.trans (hb7.mono HB6.out.size))
  have HW7 := Lib.hid (HW6.out.mono hb7)
  clear hb7 c1 HB6 HW6
  have HB6 := HB7
  have HW6 := HW7
  clear HB7 HW7
  revert HB6 HW6
  generalize w7 = w6
  intro HB6 HW6
  have hvb : Bc.vB n ts tx = ((decide (n = 0 ∧ tx.length ≤ 65535) || decide (n = 1 ∨ n = 2)) && Bc.fit tx ts 0) := rfl
  have c2 := HC2.out _ HB6.out
  cases hF : Bc.fit tx ts 0 with
  | false =>
    have HF := Lib.hid hF
    have HV : Hid (Bc.vB n ts tx = false) := Lib.hid (by rw [hvb, hF, Bool.and_false])
    clear hF hvb
    have HBI := Lib.hid (Bc.bits_call n b ts.length bcap ts xa tx.length xc tx w6 (HD.out _ HB6.out).2.2.1 (HD.out _ HB6.out).2.2.2 (by omega) (HOO.out _ HB6.out).1 (HOO.out _ HB6.out).2)
    unfold Bc.sizeOk at HBI
    rw [HV.out, if_neg (by exact Bool.false_ne_true)] at HBI
    obtain ⟨c3, q0, q1, q2⟩ := HC.out w6 HB6.out
    go_wp2_with fail
    refine HBI.out.mono ?_
    rintro e w7 ⟨rfl, hb7⟩
    have HB7 := Lib.hid (HB6.out.trans (hb7.mono HB6.out.size))
    have HW7 := Lib.hid (HW6.out.mono hb7)
    clear hb7 HBI c3 q0 q1 q2 HB6 HW6
    obtain ⟨c3, q0, q1, q2⟩ := HC.out w7 HB7.out
    go_wp2_with fail
    refine (Bc.write_inv _ w7 n b ts.length bcap ts xa tx.length xc tx last (HD.out _ HB7.out).2.2.1 (HD.out _ HB7.out).2.2.2 (by omega) HV.out).mono ?_
    rintro e w8 ⟨rfl, hb8⟩
    have HB8 := Lib.hid (HB7.out.trans (hb8.mono HB7.out.size))
    have HW8 := Lib.hid (HW7.out.mono hb8)
    clear hb8 c3 q0 q1 q2 HB7 HW7
    have c1 := (HC1.out w8 HB8.out)
    go_wp2_with fail
    refine (Bc.best_call b ts.length bcap ts xa tx.length xc tx w8 (HD.out _ HB8.out).2.2.1 (HD.out _ HB8.out).2.2.2 (by omega) (by omega) (HOO.out _ HB8.out).1 (HOO.out _ HB8.out).2).mono ?_
    rintro e w9 ⟨hb9, hcase⟩
    have HB9 := Lib.hid (HB8.out.trans (hb9.mono HB8.out.size))
    have HW9 := Lib.hid (HW8.out.mono hb9)
    clear hb9 HB8 HW8
    rcases hcase with ⟨_, rfl⟩ | ⟨hff, _⟩
    rotate_left
    · rw [HF.out] at hff; cases hff
    have hbz := below_alloc w9 (.cells #[.int .i64 0, .slice none 0 0, .slice none 0 0] 36)
    have HBc := Lib.hid (HB9.out.trans (hbz.mono HB9.out.size))
    have HWc := Lib.hid (HW9.out.mono hbz)
    clear hbz HB9 HW9
    go_wp2_with fail
    revert HBc HWc
    generalize (w9.alloc (.cells #[.int .i64 0, .slice none 0 0, .slice none 0 0] 36)) = wc
    intro HBc HWc
    have HWc : Hid (Wr wc.drew w5.heap.size w5.heap.size false (.slice none 0 0) []) := Lib.hid (HWc.out.mono (Below.refl _ wc).drew)
    refine wp_region_noPanic ?_
    refine region_RH (fun w' => Below w5.heap.size w5 w') (by kernel_rfl) ?_
    refine RH_take (i := 0) (v := ?_) rfl (by kernel_rfl) (by kernel_rfl) (by kernel_rfl) (fun _ _ _ h => h) HBc.out.drew (by rfl) ?_ ?_
    rotate_left
    · (intro w' hw'; obtain ⟨j3, q0, q1, q2⟩ := HC.out w' hw'; first | (go_simp; done) | (go_simp; with_reducible rfl))
    try simp only [List.getElem_toArray, List.getElem_cons_zero, List.getElem_cons_succ, Act.put, List.setIfInBounds_toArray, List.set_cons_zero, List.set_cons_succ]
    refine RH_take (i := 1) (v := ?_) rfl (by kernel_rfl) (by kernel_rfl) (by kernel_rfl) (fun _ _ _ h => h) HBc.out.drew (by rfl) ?_ ?_
    rotate_left
    · (intro w' hw'; obtain ⟨j3, q0, q1, q2⟩ := HC.out w' hw'; first | (go_simp; done) | (go_simp; with_reducible rfl))
    try simp only [List.getElem_toArray, List.getElem_cons_zero, List.getElem_cons_succ, Act.put, List.setIfInBounds_toArray, List.set_cons_zero, List.set_cons_succ]
    refine RH_take (i := 2) (v := ?_) rfl (by kernel_rfl) (by kernel_rfl) (by kernel_rfl) (fun _ _ _ h => h) HBc.out.drew (by rfl) ?_ ?_
    rotate_left
    · (intro w' hw'; obtain ⟨j3, q0, q1, q2⟩ := HC.out w' hw'; first | (go_simp; done) | (go_simp; with_reducible rfl))
    try simp only [List.getElem_toArray, List.getElem_cons_zero, List.getElem_cons_succ, Act.put, List.setIfInBounds_toArray, List.set_cons_zero, List.set_cons_succ]
    refine RH_step (i := 3) (by kernel_rfl) rfl (fun K hK => ?_)
    go_simp
    go_at_call 10
    refine (Bc.write_nil _ n b ts.length bcap ts xa tx.length xc tx last (HD.out _ HBc.out.drew).2.2.1 (HD.out _ HBc.out.drew).2.2.2 (by omega)).mono ?_
    rintro e wa ⟨rfl, hba⟩
    have HBa := Lib.hid (HBc.out.drew.trans (hba.mono HBc.out.drew.size))
    have HWa := Lib.hid (HWc.out.mono hba)
    clear hba
    go_simp
    refine hK.out _ _ HBa.out ?_
    clear hK K
    try simp only [List.getElem_toArray, List.getElem_cons_zero, List.getElem_cons_succ, Act.put, List.setIfInBounds_toArray, List.set_cons_zero, List.set_cons_succ]
    refine RH_step (i := 4) (by kernel_rfl) rfl (fun K hK => ?_)
    go_simp
    go_at_call 21
    refine (is_yes 6 rfl _).mono ?_
    rintro e w' ⟨rfl, rfl⟩
    go_simp
    refine hK.out _ _ HBa.out ?_
    clear hK K
    try simp only [List.getElem_toArray, List.getElem_cons_zero, List.getElem_cons_succ, Act.put, List.setIfInBounds_toArray, List.set_cons_zero, List.set_cons_succ]
    refine RH_take (i := 5) (v := ?_) rfl (by kernel_rfl) (by kernel_rfl) (by kernel_rfl) (fun _ _ _ h => h) HBa.out (by rfl) ?_ ?_
    rotate_left
    · (intro w' hw'; obtain ⟨j3, q0, q1, q2⟩ := HC.out w' hw'; first | (go_simp; done) | (go_simp; with_reducible rfl))
    try simp only [List.getElem_toArray, List.getElem_cons_zero, List.getElem_cons_succ, Act.put, List.setIfInBounds_toArray, List.set_cons_zero, List.set_cons_succ]
    refine RH_take (i := 6) (v := ?_) rfl (by kernel_rfl) (by kernel_rfl) (by kernel_rfl) (fun _ _ _ h => h) HBa.out (by rfl) ?_ ?_
    rotate_left
    · (intro w' hw'; obtain ⟨j3, q0, q1, q2⟩ := HC.out w' hw'; first | (go_simp; done) | (go_simp; with_reducible rfl))
    try simp only [List.getElem_toArray, List.getElem_cons_zero, List.getElem_cons_succ, Act.put, List.setIfInBounds_toArray, List.set_cons_zero, List.set_cons_succ]
    refine RH_take (i := 8) (v := ?_) rfl (by kernel_rfl) (by kernel_rfl) (by kernel_rfl) (fun _ _ _ h => h) HBa.out (by rfl) ?_ ?_
    rotate_left
    · (intro w' hw'; obtain ⟨j3, q0, q1, q2⟩ := HC.out w' hw'; first | (go_simp; done) | (go_simp; with_reducible rfl))
    try simp only [List.getElem_toArray, List.getElem_cons_zero, List.getElem_cons_succ, Act.put, List.setIfInBounds_toArray, List.set_cons_zero, List.set_cons_succ]
    refine RH_take (i := 9) (v := ?_) rfl (by kernel_rfl) (by kernel_rfl) (by kernel_rfl) (fun _ _ _ h => h) HBa.out (by rfl) ?_ ?_
    rotate_left
    · (intro w' hw'; obtain ⟨j3, q0, q1, q2⟩ := HC.out w' hw'; first | (go_simp; done) | (go_simp; with_reducible rfl))
    try simp only [List.getElem_toArray, List.getElem_cons_zero, List.getElem_cons_succ, Act.put, List.setIfInBounds_toArray, List.set_cons_zero, List.set_cons_succ]
    refine RH_take (i := 10) (v := ?_) rfl (by kernel_rfl) (by kernel_rfl) (by kernel_rfl) (fun _ _ _ h => h) HBa.out (by rfl) ?_ ?_
    rotate_left
    · (intro w' hw'; obtain ⟨j3, q0, q1, q2⟩ := HC.out w' hw'; first | (go_simp; done) | (go_simp; with_reducible rfl))
    try simp only [List.getElem_toArray, List.getElem_cons_zero, List.getElem_cons_succ, Act.put, List.setIfInBounds_toArray, List.set_cons_zero, List.set_cons_succ]
    refine RH_step (i := 7) (by kernel_rfl) rfl (fun K hK => ?_)
    go_simp
    go_at_call 9
    refine (newWriter_any true w5.heap.size _ HBa.out.size).mono ?_
    rintro e wb ⟨rfl, hwr, hbb⟩
    have HBb := Lib.hid (HBa.out.trans (hbb.mono HBa.out.size))
    have HWb := Lib.hid (HWa.out.mono hbb)
    have HHb := Lib.hid hwr
    clear hbb hwr
    go_simp
    refine hK.out _ _ HBb.out ?_
    clear hK K
    try simp only [List.getElem_toArray, List.getElem_cons_zero, List.getElem_cons_succ, Act.put, List.setIfInBounds_toArray, List.set_cons_zero, List.set_cons_succ]
    refine RH_step (i := 11) (by kernel_rfl) rfl (fun K hK => ?_)
    go_simp
    go_at_call 10
    refine (Bc.write_high _ w5.heap.size _ _ _ n b ts.length bcap ts xa tx.length xc tx last HHb.out (HD.out _ HBb.out).2.2.1 (HD.out _ HBb.out).2.2.2 (by omega)).mono ?_
    rintro e wd ⟨rfl, hbd⟩
    have HBd := Lib.hid (HBb.out.trans (hbd.mono HBb.out.size))
    have HWd := Lib.hid (HWb.out.mono hbd)
    clear hbd HHb
    go_simp
    refine hK.out _ _ HBd.out ?_
    clear hK K
    try simp only [List.getElem_toArray, List.getElem_cons_zero, List.getElem_cons_succ, Act.put, List.setIfInBounds_toArray, List.set_cons_zero, List.set_cons_succ]
    refine RH_step (i := 12) (by kernel_rfl) rfl (fun K hK => ?_)
    go_simp
    go_at_call 21
    refine (is_yes 6 rfl _).mono ?_
    rintro e w' ⟨rfl, rfl⟩
    go_simp
    refine hK.out _ _ HBd.out ?_
    clear hK K
    try simp only [List.getElem_toArray, List.getElem_cons_zero, List.getElem_cons_succ, Act.put, List.setIfInBounds_toArray, List.set_cons_zero, List.set_cons_succ]
    refine RH_take (i := 13) (v := ?_) rfl (by kernel_rfl) (by kernel_rfl) (by kernel_rfl) (fun _ _ _ h => h) HBd.out (by rfl) ?_ ?_
    rotate_left
    · (intro w' hw'; obtain ⟨j3, q0, q1, q2⟩ := HC.out w' hw'; first | (go_simp; done) | (go_simp; with_reducible rfl))
    try simp only [List.getElem_toArray, List.getElem_cons_zero, List.getElem_cons_succ, Act.put, List.setIfInBounds_toArray, List.set_cons_zero, List.set_cons_succ]
    refine RH_take (i := 14) (v := ?_) rfl (by kernel_rfl) (by kernel_rfl) (by kernel_rfl) (fun _ _ _ h => h) HBd.out (by rfl) ?_ ?_
    rotate_left
    · (intro w' hw'; obtain ⟨j3, q0, q1, q2⟩ := HC.out w' hw'; first | (go_simp; done) | (go_simp; with_reducible rfl))
    try simp only [List.getElem_toArray, List.getElem_cons_zero, List.getElem_cons_succ, Act.put, List.setIfInBounds_toArray, List.set_cons_zero, List.set_cons_succ]
    refine wpAnyH_done (by kernel_rfl) ?_ _
    refine NoPanic.normal ?_
    clear HWc HBc HBa HWa HBb HWb c1
    go_wp2_with fail
    refine (is_yes 6 rfl _).mono ?_
    rintro e w' ⟨rfl, rfl⟩
    go_wp2_with fail
    refine (is_yes 6 rfl _).mono ?_
    rintro e w' ⟨rfl, rfl⟩
    go_wp2_with fail
    refine (is_yes 6 rfl _).mono ?_
    rintro e w' ⟨rfl, rfl⟩
    go_wp2_with fail
    refine (len_any _ _ _ _ _ _ HWd.out).mono ?_
    rintro e w' ⟨rfl, rfl⟩
    go_wp2_with fail
    go_ret
    exact ⟨rfl, HFIN.out _ HBd.out⟩
  | true =>
    have HF := Lib.hid hF
    by_cases h0 : n = 0
    · subst h0
      by_cases hx : tx.length ≤ 65535
      · have HV : Hid (Bc.vB 0 ts tx = true) := Lib.hid (by rw [hvb, hF]; simp [hx])
        have d3 : decide ((tx.length : Int) ≤ 65535) = true := by simp; omega
        clear hF hvb
        have HBI := Lib.hid (Bc.bits_call 0 b ts.length bcap ts xa tx.length xc tx w6 (HD.out _ HB6.out).2.2.1 (HD.out _ HB6.out).2.2.2 (by omega) (HOO.out _ HB6.out).1 (HOO.out _ HB6.out).2)
        unfold Bc.sizeOk at HBI
        rw [HV.out, if_pos rfl] at HBI
        generalize Bc.szB ((0 : Int).toNat) ts tx.length = sz at *
        obtain ⟨c3, q0, q1, q2⟩ := HC.out w6 HB6.out
        go_wp2_with fail
        refine HBI.out.mono ?_
        rintro e w7 ⟨rfl, hb7⟩
        have HB7 := Lib.hid (HB6.out.trans (hb7.mono HB6.out.size))
        have HW7 := Lib.hid (HW6.out.mono hb7)
        clear hb7 HBI c3 q0 q1 q2 HB6 HW6
        obtain ⟨c3, q0, q1, q2⟩ := HC.out w7 HB7.out
        have hln : 0 < ([] ++ Bc.headB 0 last ++ Bc.stB ([] ++ Bc.headB 0 last) tx).length := by rw [List.append_assoc, List.nil_append, List.length_append, hbl3]; omega
        have HLN := Lib.hid hln
        clear hln
        go_wp2_with fail
        refine (Bc.write_0 w7 w5.heap.size w5.heap.size (.slice none 0 0) [] b bcap ts xa xc tx last HW7.out HB7.out.size (HD.out _ HB7.out).2.2.1 (HD.out _ HB7.out).2.2.2 (by omega) (fun h ad e ht => HXB.out h ad e ht) HV.out (by omega) (Nat.zero_le _)).mono ?_
        rintro e w8 ⟨rfl, v8, hw8, hc8, _⟩
        have HB8 := Lib.hid (HB7.out.trans (hc8.below HB7.out.size (fun j hj => wt_ge hj)))
        have HW8 := Lib.hid hw8
        clear hw8 hc8 c3 q0 q1 q2 HB7 HW7
        generalize [] ++ Bc.headB 0 last ++ Bc.stB ([] ++ Bc.headB 0 last) tx = bl at *
        have c1 := (HC1.out w8 HB8.out)
        go_wp2_with fail
        refine (Bc.best_call b ts.length bcap ts xa tx.length xc tx w8 (HD.out _ HB8.out).2.2.1 (HD.out _ HB8.out).2.2.2 (by omega) (by omega) (HOO.out _ HB8.out).1 (HOO.out _ HB8.out).2).mono ?_
        rintro e w9 ⟨hb9, hcase⟩
        have HB9 := Lib.hid (HB8.out.trans (hb9.mono HB8.out.size))
        have HW9 := Lib.hid (HW8.out.mono hb9)
        clear hb9 HB8 HW8
        rcases hcase with ⟨hff, _⟩ | ⟨_, ta, tc, xa3, xc3, rfl, _, _⟩
        · rw [HF.out] at hff; cases hff
        generalize Bc.bst ts tx.length 3 = bp at *
        have hbz := below_alloc w9 (.cells #[.int .i64 (bp.1 : Nat), .slice ta ts.length tc, .slice xa3 tx.length xc3] 36)
        have HBc := Lib.hid (HB9.out.trans (hbz.mono HB9.out.size))
        have HWc := Lib.hid (HW9.out.mono hbz)
        clear hbz HB9 HW9
        go_wp2_with fail
        revert HBc HWc
        generalize (w9.alloc (.cells #[.int .i64 (bp.1 : Nat), .slice ta ts.length tc, .slice xa3 tx.length xc3] 36)) = wc
        intro HBc HWc
        have HWc : Hid (Wr wc.drew w5.heap.size w5.heap.size false v8 bl) := Lib.hid (HWc.out.mono (Below.refl _ wc).drew)
        refine wp_region_noPanic ?_
        refine region_RH (fun w' => Below w5.heap.size w5 w') (by kernel_rfl) ?_
        refine RH_take (i := 0) (v := ?_) rfl (by kernel_rfl) (by kernel_rfl) (by kernel_rfl) (fun _ _ _ h => h) HBc.out.drew (by rfl) ?_ ?_
        rotate_left
        · (intro w' hw'; obtain ⟨j3, q0, q1, q2⟩ := HC.out w' hw'; first | (go_simp; done) | (go_simp; with_reducible rfl))
        try simp only [List.getElem_toArray, List.getElem_cons_zero, List.getElem_cons_succ, Act.put, List.setIfInBounds_toArray, List.set_cons_zero, List.set_cons_succ]
        refine RH_take (i := 1) (v := ?_) rfl (by kernel_rfl) (by kernel_rfl) (by kernel_rfl) (fun _ _ _ h => h) HBc.out.drew (by rfl) ?_ ?_
        rotate_left
        · (intro w' hw'; obtain ⟨j3, q0, q1, q2⟩ := HC.out w' hw'; first | (go_simp; done) | (go_simp; with_reducible rfl))
        try simp only [List.getElem_toArray, List.getElem_cons_zero, List.getElem_cons_succ, Act.put, List.setIfInBounds_toArray, List.set_cons_zero, List.set_cons_succ]
        refine RH_take (i := 2) (v := ?_) rfl (by kernel_rfl) (by kernel_rfl) (by kernel_rfl) (fun _ _ _ h => h) HBc.out.drew (by rfl) ?_ ?_
        rotate_left
        · (intro w' hw'; obtain ⟨j3, q0, q1, q2⟩ := HC.out w' hw'; first | (go_simp; done) | (go_simp; with_reducible rfl))
        try simp only [List.getElem_toArray, List.getElem_cons_zero, List.getElem_cons_succ, Act.put, List.setIfInBounds_toArray, List.set_cons_zero, List.set_cons_succ]
        refine RH_step (i := 3) (by kernel_rfl) rfl (fun K hK => ?_)
        go_simp
        go_at_call 10
        refine (Bc.write_nil _ 0 b ts.length bcap ts xa tx.length xc tx last (HD.out _ HBc.out.drew).2.2.1 (HD.out _ HBc.out.drew).2.2.2 (by omega)).mono ?_
        rintro e wa ⟨rfl, hba⟩
        have HBa := Lib.hid (HBc.out.drew.trans (hba.mono HBc.out.drew.size))
        have HWa := Lib.hid (HWc.out.mono hba)
        clear hba
        go_simp
        refine hK.out _ _ HBa.out ?_
        clear hK K
        try simp only [List.getElem_toArray, List.getElem_cons_zero, List.getElem_cons_succ, Act.put, List.setIfInBounds_toArray, List.set_cons_zero, List.set_cons_succ]
        refine RH_step (i := 4) (by kernel_rfl) rfl (fun K hK => ?_)
        go_simp
        go_at_call 21
        refine (is_yes 6 rfl _).mono ?_
        rintro e w' ⟨rfl, rfl⟩
        go_simp
        refine hK.out _ _ HBa.out ?_
        clear hK K
        try simp only [List.getElem_toArray, List.getElem_cons_zero, List.getElem_cons_succ, Act.put, List.setIfInBounds_toArray, List.set_cons_zero, List.set_cons_succ]
        refine RH_take (i := 5) (v := ?_) rfl (by kernel_rfl) (by kernel_rfl) (by kernel_rfl) (fun _ _ _ h => h) HBa.out (by rfl) ?_ ?_
        rotate_left
        · (intro w' hw'; obtain ⟨j3, q0, q1, q2⟩ := HC.out w' hw'; first | (go_simp; done) | (go_simp; with_reducible rfl))
        try simp only [List.getElem_toArray, List.getElem_cons_zero, List.getElem_cons_succ, Act.put, List.setIfInBounds_toArray, List.set_cons_zero, List.set_cons_succ]
        refine RH_take (i := 6) (v := ?_) rfl (by kernel_rfl) (by kernel_rfl) (by kernel_rfl) (fun _ _ _ h => h) HBa.out (by rfl) ?_ ?_
        rotate_left
        · (intro w' hw'; obtain ⟨j3, q0, q1, q2⟩ := HC.out w' hw'; first | (go_simp; done) | (go_simp; with_reducible rfl))
        try simp only [List.getElem_toArray, List.getElem_cons_zero, List.getElem_cons_succ, Act.put, List.setIfInBounds_toArray, List.set_cons_zero, List.set_cons_succ]
        refine RH_take (i := 8) (v := ?_) rfl (by kernel_rfl) (by kernel_rfl) (by kernel_rfl) (fun _ _ _ h => h) HBa.out (by rfl) ?_ ?_
        rotate_left
        · (intro w' hw'; obtain ⟨j3, q0, q1, q2⟩ := HC.out w' hw'; first | (go_simp; done) | (go_simp; with_reducible rfl))
        try simp only [List.getElem_toArray, List.getElem_cons_zero, List.getElem_cons_succ, Act.put, List.setIfInBounds_toArray, List.set_cons_zero, List.set_cons_succ]
        refine RH_take (i := 9) (v := ?_) rfl (by kernel_rfl) (by kernel_rfl) (by kernel_rfl) (fun _ _ _ h => h) HBa.out (by rfl) ?_ ?_
        rotate_left
        · (intro w' hw'; obtain ⟨j3, q0, q1, q2⟩ := HC.out w' hw'; first | (go_simp; done) | (go_simp; with_reducible rfl))
        try simp only [List.getElem_toArray, List.getElem_cons_zero, List.getElem_cons_succ, Act.put, List.setIfInBounds_toArray, List.set_cons_zero, List.set_cons_succ]
        refine RH_take (i := 10) (v := ?_) rfl (by kernel_rfl) (by kernel_rfl) (by kernel_rfl) (fun _ _ _ h => h) HBa.out (by rfl) ?_ ?_
        rotate_left
        · (intro w' hw'; obtain ⟨j3, q0, q1, q2⟩ := HC.out w' hw'; first | (go_simp; done) | (go_simp; with_reducible rfl))
        try simp only [List.getElem_toArray, List.getElem_cons_zero, List.getElem_cons_succ, Act.put, List.setIfInBounds_toArray, List.set_cons_zero, List.set_cons_succ]
        refine RH_step (i := 7) (by kernel_rfl) rfl (fun K hK => ?_)
        go_simp
        go_at_call 9
        refine (newWriter_any true w5.heap.size _ HBa.out.size).mono ?_
        rintro e wb ⟨rfl, hwr, hbb⟩
        have HBb := Lib.hid (HBa.out.trans (hbb.mono HBa.out.size))
        have HWb := Lib.hid (HWa.out.mono hbb)
        have HHb := Lib.hid hwr
        clear hbb hwr
        go_simp
        refine hK.out _ _ HBb.out ?_
        clear hK K
        try simp only [List.getElem_toArray, List.getElem_cons_zero, List.getElem_cons_succ, Act.put, List.setIfInBounds_toArray, List.set_cons_zero, List.set_cons_succ]
        refine RH_step (i := 11) (by kernel_rfl) rfl (fun K hK => ?_)
        go_simp
        go_at_call 10
        refine (Bc.write_high _ w5.heap.size _ _ _ 0 b ts.length bcap ts xa tx.length xc tx last HHb.out (HD.out _ HBb.out).2.2.1 (HD.out _ HBb.out).2.2.2 (by omega)).mono ?_
        rintro e wd ⟨rfl, hbd⟩
        have HBd := Lib.hid (HBb.out.trans (hbd.mono HBb.out.size))
        have HWd := Lib.hid (HWb.out.mono hbd)
        clear hbd HHb
        go_simp
        refine hK.out _ _ HBd.out ?_
        clear hK K
        try simp only [List.getElem_toArray, List.getElem_cons_zero, List.getElem_cons_succ, Act.put, List.setIfInBounds_toArray, List.set_cons_zero, List.set_cons_succ]
        refine RH_step (i := 12) (by kernel_rfl) rfl (fun K hK => ?_)
        go_simp
        go_at_call 21
        refine (is_yes 6 rfl _).mono ?_
        rintro e w' ⟨rfl, rfl⟩
        go_simp
        refine hK.out _ _ HBd.out ?_
        clear hK K
        try simp only [List.getElem_toArray, List.getElem_cons_zero, List.getElem_cons_succ, Act.put, List.setIfInBounds_toArray, List.set_cons_zero, List.set_cons_succ]
        refine RH_take (i := 13) (v := ?_) rfl (by kernel_rfl) (by kernel_rfl) (by kernel_rfl) (fun _ _ _ h => h) HBd.out (by rfl) ?_ ?_
        rotate_left
        · (intro w' hw'; obtain ⟨j3, q0, q1, q2⟩ := HC.out w' hw'; first | (go_simp; done) | (go_simp; with_reducible rfl))
        try simp only [List.getElem_toArray, List.getElem_cons_zero, List.getElem_cons_succ, Act.put, List.setIfInBounds_toArray, List.set_cons_zero, List.set_cons_succ]
        refine RH_take (i := 14) (v := ?_) rfl (by kernel_rfl) (by kernel_rfl) (by kernel_rfl) (fun _ _ _ h => h) HBd.out (by rfl) ?_ ?_
        rotate_left
        · (intro w' hw'; obtain ⟨j3, q0, q1, q2⟩ := HC.out w' hw'; first | (go_simp; done) | (go_simp; with_reducible rfl))
        try simp only [List.getElem_toArray, List.getElem_cons_zero, List.getElem_cons_succ, Act.put, List.setIfInBounds_toArray, List.set_cons_zero, List.set_cons_succ]
        refine wpAnyH_done (by kernel_rfl) ?_ _
        refine NoPanic.normal ?_
        clear HWc HBc HBa HWa HBb HWb c1
        have hl0 := HLN.out
        have HLE := Lib.hid (len_any _ _ _ _ _ _ HWd.out)
        generalize bl.length = bn at *
        have hl1 : decide (0 < bn) = true := by simpa using hl0
        have hl2 : decide ((0 : Int) < (bn : Int)) = true := by simp; omega
        clear hl0
        go_wp2_with fail
        refine HLE.out.mono ?_
        rintro e w' ⟨rfl, rfl⟩
        go_wp2_with fail
        go_ret
        exact ⟨rfl, HFIN.out _ HBd.out⟩
      · have HV : Hid (Bc.vB 0 ts tx = false) := Lib.hid (by rw [hvb, hF]; simp; omega)
        have d3 : decide ((tx.length : Int) ≤ 65535) = false := by simp; omega
        clear hF hvb
        generalize hnn : (0 : Int) = n at HV HC HC2 HD c2
        have d5 : decide (0 ≤ n) = true := by simp; omega
        have d6 : decide (n ≤ 2) = true := by simp; omega
        have d7 : decide (0 < n) = false := by simp; omega
        have HNN := Lib.hid hnn
        clear hnn
        have HBI := Lib.hid (Bc.bits_call n b ts.length bcap ts xa tx.length xc tx w6 (HD.out _ HB6.out).2.2.1 (HD.out _ HB6.out).2.2.2 (by omega) (HOO.out _ HB6.out).1 (HOO.out _ HB6.out).2)
        unfold Bc.sizeOk at HBI
        rw [HV.out, if_neg (by exact Bool.false_ne_true)] at HBI
        obtain ⟨c3, q0, q1, q2⟩ := HC.out w6 HB6.out
        go_wp2_with fail
        refine HBI.out.mono ?_
        rintro e w7 ⟨rfl, hb7⟩
        have HB7 := Lib.hid (HB6.out.trans (hb7.mono HB6.out.size))
        have HW7 := Lib.hid (HW6.out.mono hb7)
        clear hb7 HBI c3 q0 q1 q2 HB6 HW6
        obtain ⟨c3, q0, q1, q2⟩ := HC.out w7 HB7.out
        go_wp2_with fail
        refine (Bc.write_inv _ w7 n b ts.length bcap ts xa tx.length xc tx last (HD.out _ HB7.out).2.2.1 (HD.out _ HB7.out).2.2.2 (by omega) HV.out).mono ?_
        rintro e w8 ⟨rfl, hb8⟩
        have HB8 := Lib.hid (HB7.out.trans (hb8.mono HB7.out.size))
        have HW8 := Lib.hid (HW7.out.mono hb8)
        clear hb8 c3 q0 q1 q2 HB7 HW7
        have c1 := (HC1.out w8 HB8.out)
        go_wp2_with fail
        refine (Bc.best_call b ts.length bcap ts xa tx.length xc tx w8 (HD.out _ HB8.out).2.2.1 (HD.out _ HB8.out).2.2.2 (by omega) (by omega) (HOO.out _ HB8.out).1 (HOO.out _ HB8.out).2).mono ?_
        rintro e w9 ⟨hb9, hcase⟩
        have HB9 := Lib.hid (HB8.out.trans (hb9.mono HB8.out.size))
        have HW9 := Lib.hid (HW8.out.mono hb9)
        clear hb9 HB8 HW8
        rcases hcase with ⟨hff, _⟩ | ⟨_, ta, tc, xa3, xc3, rfl, _, _⟩
        · rw [HF.out] at hff; cases hff
        generalize Bc.bst ts tx.length 3 = bp at *
        have hbz := below_alloc w9 (.cells #[.int .i64 (bp.1 : Nat), .slice ta ts.length tc, .slice xa3 tx.length xc3] 36)
        have HBc := Lib.hid (HB9.out.trans (hbz.mono HB9.out.size))
        have HWc := Lib.hid (HW9.out.mono hbz)
        clear hbz HB9 HW9
        go_wp2_with fail
        revert HBc HWc
        generalize (w9.alloc (.cells #[.int .i64 (bp.1 : Nat), .slice ta ts.length tc, .slice xa3 tx.length xc3] 36)) = wc
        intro HBc HWc
        have HWc : Hid (Wr wc.drew w5.heap.size w5.heap.size false (.slice none 0 0) []) := Lib.hid (HWc.out.mono (Below.refl _ wc).drew)
        refine wp_region_noPanic ?_
        refine region_RH (fun w' => Below w5.heap.size w5 w') (by kernel_rfl) ?_
        refine RH_take (i := 0) (v := ?_) rfl (by kernel_rfl) (by kernel_rfl) (by kernel_rfl) (fun _ _ _ h => h) HBc.out.drew (by rfl) ?_ ?_
        rotate_left
        · (intro w' hw'; obtain ⟨j3, q0, q1, q2⟩ := HC.out w' hw'; first | (go_simp; done) | (go_simp; with_reducible rfl))
        try simp only [List.getElem_toArray, List.getElem_cons_zero, List.getElem_cons_succ, Act.put, List.setIfInBounds_toArray, List.set_cons_zero, List.set_cons_succ]
        refine RH_take (i := 1) (v := ?_) rfl (by kernel_rfl) (by kernel_rfl) (by kernel_rfl) (fun _ _ _ h => h) HBc.out.drew (by rfl) ?_ ?_
        rotate_left
        · (intro w' hw'; obtain ⟨j3, q0, q1, q2⟩ := HC.out w' hw'; first | (go_simp; done) | (go_simp; with_reducible rfl))
        try simp only [List.getElem_toArray, List.getElem_cons_zero, List.getElem_cons_succ, Act.put, List.setIfInBounds_toArray, List.set_cons_zero, List.set_cons_succ]
        refine RH_take (i := 2) (v := ?_) rfl (by kernel_rfl) (by kernel_rfl) (by kernel_rfl) (fun _ _ _ h => h) HBc.out.drew (by rfl) ?_ ?_
        rotate_left
        · (intro w' hw'; obtain ⟨j3, q0, q1, q2⟩ := HC.out w' hw'; first | (go_simp; done) | (go_simp; with_reducible rfl))
        try simp only [List.getElem_toArray, List.getElem_cons_zero, List.getElem_cons_succ, Act.put, List.setIfInBounds_toArray, List.set_cons_zero, List.set_cons_succ]
        refine RH_step (i := 3) (by kernel_rfl) rfl (fun K hK => ?_)
        go_simp
        go_at_call 10
        refine (Bc.write_nil _ n b ts.length bcap ts xa tx.length xc tx last (HD.out _ HBc.out.drew).2.2.1 (HD.out _ HBc.out.drew).2.2.2 (by omega)).mono ?_
        rintro e wa ⟨rfl, hba⟩
        have HBa := Lib.hid (HBc.out.drew.trans (hba.mono HBc.out.drew.size))
        have HWa := Lib.hid (HWc.out.mono hba)
        clear hba
        go_simp
        refine hK.out _ _ HBa.out ?_
        clear hK K
        try simp only [List.getElem_toArray, List.getElem_cons_zero, List.getElem_cons_succ, Act.put, List.setIfInBounds_toArray, List.set_cons_zero, List.set_cons_succ]
        refine RH_step (i := 4) (by kernel_rfl) rfl (fun K hK => ?_)
        go_simp
        go_at_call 21
        refine (is_yes 6 rfl _).mono ?_
        rintro e w' ⟨rfl, rfl⟩
        go_simp
        refine hK.out _ _ HBa.out ?_
        clear hK K
        try simp only [List.getElem_toArray, List.getElem_cons_zero, List.getElem_cons_succ, Act.put, List.setIfInBounds_toArray, List.set_cons_zero, List.set_cons_succ]
        refine RH_take (i := 5) (v := ?_) rfl (by kernel_rfl) (by kernel_rfl) (by kernel_rfl) (fun _ _ _ h => h) HBa.out (by rfl) ?_ ?_
        rotate_left
        · (intro w' hw'; obtain ⟨j3, q0, q1, q2⟩ := HC.out w' hw'; first | (go_simp; done) | (go_simp; with_reducible rfl))
        try simp only [List.getElem_toArray, List.getElem_cons_zero, List.getElem_cons_succ, Act.put, List.setIfInBounds_toArray, List.set_cons_zero, List.set_cons_succ]
        refine RH_take (i := 6) (v := ?_) rfl (by kernel_rfl) (by kernel_rfl) (by kernel_rfl) (fun _ _ _ h => h) HBa.out (by rfl) ?_ ?_
        rotate_left
        · (intro w' hw'; obtain ⟨j3, q0, q1, q2⟩ := HC.out w' hw'; first | (go_simp; done) | (go_simp; with_reducible rfl))
        try simp only [List.getElem_toArray, List.getElem_cons_zero, List.getElem_cons_succ, Act.put, List.setIfInBounds_toArray, List.set_cons_zero, List.set_cons_succ]
        refine RH_take (i := 8) (v := ?_) rfl (by kernel_rfl) (by kernel_rfl) (by kernel_rfl) (fun _ _ _ h => h) HBa.out (by rfl) ?_ ?_
        rotate_left
        · (intro w' hw'; obtain ⟨j3, q0, q1, q2⟩ := HC.out w' hw'; first | (go_simp; done) | (go_simp; with_reducible rfl))
        try simp only [List.getElem_toArray, List.getElem_cons_zero, List.getElem_cons_succ, Act.put, List.setIfInBounds_toArray, List.set_cons_zero, List.set_cons_succ]
        refine RH_take (i := 9) (v := ?_) rfl (by kernel_rfl) (by kernel_rfl) (by kernel_rfl) (fun _ _ _ h => h) HBa.out (by rfl) ?_ ?_
        rotate_left
        · (intro w' hw'; obtain ⟨j3, q0, q1, q2⟩ := HC.out w' hw'; first | (go_simp; done) | (go_simp; with_reducible rfl))
        try simp only [List.getElem_toArray, List.getElem_cons_zero, List.getElem_cons_succ, Act.put, List.setIfInBounds_toArray, List.set_cons_zero, List.set_cons_succ]
        refine RH_take (i := 10) (v := ?_) rfl (by kernel_rfl) (by kernel_rfl) (by kernel_rfl) (fun _ _ _ h => h) HBa.out (by rfl) ?_ ?_
        rotate_left
        · (intro w' hw'; obtain ⟨j3, q0, q1, q2⟩ := HC.out w' hw'; first | (go_simp; done) | (go_simp; with_reducible rfl))
        try simp only [List.getElem_toArray, List.getElem_cons_zero, List.getElem_cons_succ, Act.put, List.setIfInBounds_toArray, List.set_cons_zero, List.set_cons_succ]
        refine RH_step (i := 7) (by kernel_rfl) rfl (fun K hK => ?_)
        go_simp
        go_at_call 9
        refine (newWriter_any true w5.heap.size _ HBa.out.size).mono ?_
        rintro e wb ⟨rfl, hwr, hbb⟩
        have HBb := Lib.hid (HBa.out.trans (hbb.mono HBa.out.size))
        have HWb := Lib.hid (HWa.out.mono hbb)
        have HHb := Lib.hid hwr
        clear hbb hwr
        go_simp
        refine hK.out _ _ HBb.out ?_
        clear hK K
        try simp only [List.getElem_toArray, List.getElem_cons_zero, List.getElem_cons_succ, Act.put, List.setIfInBounds_toArray, List.set_cons_zero, List.set_cons_succ]
        refine RH_step (i := 11) (by kernel_rfl) rfl (fun K hK => ?_)
        go_simp
        go_at_call 10
        refine (Bc.write_high _ w5.heap.size _ _ _ n b ts.length bcap ts xa tx.length xc tx last HHb.out (HD.out _ HBb.out).2.2.1 (HD.out _ HBb.out).2.2.2 (by omega)).mono ?_
        rintro e wd ⟨rfl, hbd⟩
        have HBd := Lib.hid (HBb.out.trans (hbd.mono HBb.out.size))
        have HWd := Lib.hid (HWb.out.mono hbd)
        clear hbd HHb
        go_simp
        refine hK.out _ _ HBd.out ?_
        clear hK K
        try simp only [List.getElem_toArray, List.getElem_cons_zero, List.getElem_cons_succ, Act.put, List.setIfInBounds_toArray, List.set_cons_zero, List.set_cons_succ]
        refine RH_step (i := 12) (by kernel_rfl) rfl (fun K hK => ?_)
        go_simp
        go_at_call 21
        refine (is_yes 6 rfl _).mono ?_
        rintro e w' ⟨rfl, rfl⟩
        go_simp
        refine hK.out _ _ HBd.out ?_
        clear hK K
        try simp only [List.getElem_toArray, List.getElem_cons_zero, List.getElem_cons_succ, Act.put, List.setIfInBounds_toArray, List.set_cons_zero, List.set_cons_succ]
        refine RH_take (i := 13) (v := ?_) rfl (by kernel_rfl) (by kernel_rfl) (by kernel_rfl) (fun _ _ _ h => h) HBd.out (by rfl) ?_ ?_
        rotate_left
        · (intro w' hw'; obtain ⟨j3, q0, q1, q2⟩ := HC.out w' hw'; first | (go_simp; done) | (go_simp; with_reducible rfl))
        try simp only [List.getElem_toArray, List.getElem_cons_zero, List.getElem_cons_succ, Act.put, List.setIfInBounds_toArray, List.set_cons_zero, List.set_cons_succ]
        refine RH_take (i := 14) (v := ?_) rfl (by kernel_rfl) (by kernel_rfl) (by kernel_rfl) (fun _ _ _ h => h) HBd.out (by rfl) ?_ ?_
        rotate_left
        · (intro w' hw'; obtain ⟨j3, q0, q1, q2⟩ := HC.out w' hw'; first | (go_simp; done) | (go_simp; with_reducible rfl))
        try simp only [List.getElem_toArray, List.getElem_cons_zero, List.getElem_cons_succ, Act.put, List.setIfInBounds_toArray, List.set_cons_zero, List.set_cons_succ]
        refine wpAnyH_done (by kernel_rfl) ?_ _
        refine NoPanic.normal ?_
        clear HWc HBc HBa HWa HBb HWb c1
        go_wp2_with fail
        refine (is_yes 6 rfl _).mono ?_
        rintro e w' ⟨rfl, rfl⟩
        go_wp2_with fail
        refine (is_yes 6 rfl _).mono ?_
        rintro e w' ⟨rfl, rfl⟩
        go_wp2_with fail
        refine (len_any _ _ _ _ _ _ HWd.out).mono ?_
        rintro e w' ⟨rfl, rfl⟩
        go_wp2_with fail
        go_ret
        exact ⟨rfl, HFIN.out _ HBd.out⟩
    by_cases h1 : n = 1
    · subst h1
      have HV : Hid (Bc.vB 1 ts tx = true) := Lib.hid (by rw [hvb, hF]; simp)
      clear hF hvb h0
      have HBI := Lib.hid (Bc.bits_call 1 b ts.length bcap ts xa tx.length xc tx w6 (HD.out _ HB6.out).2.2.1 (HD.out _ HB6.out).2.2.2 (by omega) (HOO.out _ HB6.out).1 (HOO.out _ HB6.out).2)
      unfold Bc.sizeOk at HBI
      rw [HV.out, if_pos rfl] at HBI
      generalize Bc.szB ((1 : Int).toNat) ts tx.length = sz at *
      obtain ⟨c3, q0, q1, q2⟩ := HC.out w6 HB6.out
      go_wp2_with fail
      refine HBI.out.mono ?_
      rintro e w7 ⟨rfl, hb7⟩
      have HB7 := Lib.hid (HB6.out.trans (hb7.mono HB6.out.size))
      have HW7 := Lib.hid (HW6.out.mono hb7)
      clear hb7 HBI c3 q0 q1 q2 HB6 HW6
      obtain ⟨c3, q0, q1, q2⟩ := HC.out w7 HB7.out
      have hln : 0 < ([] ++ Bc.headB 1 last ++ Bc.bdBits 1 ts).length := by rw [List.append_assoc, List.nil_append, List.length_append, hbl3]; omega
      have HLN := Lib.hid hln
      clear hln
      go_wp2_with fail
      refine (Bc.write_1 w7 w5.heap.size w5.heap.size (.slice none 0 0) [] b bcap ts xa tx.length xc tx last HW7.out HB7.out.size (HD.out _ HB7.out).2.2.1 (HD.out _ HB7.out).2.2.2 (by omega) (HOO.out _ HB7.out).1 (HOO.out _ HB7.out).2 (fun h ad e ht => HTB.out h ad e ht) HF.out (Nat.zero_le _)).mono ?_
      rintro e w8 ⟨rfl, v8, hw8, hc8, _⟩
      have HB8 := Lib.hid (HB7.out.trans (hc8.below HB7.out.size (fun j hj => wt_ge hj)))
      have HW8 := Lib.hid hw8
      clear hw8 hc8 c3 q0 q1 q2 HB7 HW7
      generalize [] ++ Bc.headB 1 last ++ Bc.bdBits 1 ts = bl at *
      have c1 := (HC1.out w8 HB8.out)
      go_wp2_with fail
      refine (Bc.best_call b ts.length bcap ts xa tx.length xc tx w8 (HD.out _ HB8.out).2.2.1 (HD.out _ HB8.out).2.2.2 (by omega) (by omega) (HOO.out _ HB8.out).1 (HOO.out _ HB8.out).2).mono ?_
      rintro e w9 ⟨hb9, hcase⟩
      have HB9 := Lib.hid (HB8.out.trans (hb9.mono HB8.out.size))
      have HW9 := Lib.hid (HW8.out.mono hb9)
      clear hb9 HB8 HW8
      rcases hcase with ⟨hff, _⟩ | ⟨_, ta, tc, xa3, xc3, rfl, _, _⟩
      · rw [HF.out] at hff; cases hff
      generalize Bc.bst ts tx.length 3 = bp at *
      have hbz := below_alloc w9 (.cells #[.int .i64 (bp.1 : Nat), .slice ta ts.length tc, .slice xa3 tx.length xc3] 36)
      have HBc := Lib.hid (HB9.out.trans (hbz.mono HB9.out.size))
      have HWc := Lib.hid (HW9.out.mono hbz)
      clear hbz HB9 HW9
      go_wp2_with fail
      revert HBc HWc
      generalize (w9.alloc (.cells #[.int .i64 (bp.1 : Nat), .slice ta ts.length tc, .slice xa3 tx.length xc3] 36)) = wc
      intro HBc HWc
      have HWc : Hid (Wr wc.drew w5.heap.size w5.heap.size false v8 bl) := Lib.hid (HWc.out.mono (Below.refl _ wc).drew)
      refine wp_region_noPanic ?_
      refine region_RH (fun w' => Below w5.heap.size w5 w') (by kernel_rfl) ?_
      refine RH_take (i := 0) (v := ?_) rfl (by kernel_rfl) (by kernel_rfl) (by kernel_rfl) (fun _ _ _ h => h) HBc.out.drew (by rfl) ?_ ?_
      rotate_left
      · (intro w' hw'; obtain ⟨j3, q0, q1, q2⟩ := HC.out w' hw'; first | (go_simp; done) | (go_simp; with_reducible rfl))
      try simp only [List.getElem_toArray, List.getElem_cons_zero, List.getElem_cons_succ, Act.put, List.setIfInBounds_toArray, List.set_cons_zero, List.set_cons_succ]
      refine RH_take (i := 1) (v := ?_) rfl (by kernel_rfl) (by kernel_rfl) (by kernel_rfl) (fun _ _ _ h => h) HBc.out.drew (by rfl) ?_ ?_
      rotate_left
      · (intro w' hw'; obtain ⟨j3, q0, q1, q2⟩ := HC.out w' hw'; first | (go_simp; done) | (go_simp; with_reducible rfl))
      try simp only [List.getElem_toArray, List.getElem_cons_zero, List.getElem_cons_succ, Act.put, List.setIfInBounds_toArray, List.set_cons_zero, List.set_cons_succ]
      refine RH_take (i := 2) (v := ?_) rfl (by kernel_rfl) (by kernel_rfl) (by kernel_rfl) (fun _ _ _ h => h) HBc.out.drew (by rfl) ?_ ?_
      rotate_left
      · (intro w' hw'; obtain ⟨j3, q0, q1, q2⟩ := HC.out w' hw'; first | (go_simp; done) | (go_simp; with_reducible rfl))
      try simp only [List.getElem_toArray, List.getElem_cons_zero, List.getElem_cons_succ, Act.put, List.setIfInBounds_toArray, List.set_cons_zero, List.set_cons_succ]
      refine RH_step (i := 3) (by kernel_rfl) rfl (fun K hK => ?_)
      go_simp
      go_at_call 10
      refine (Bc.write_nil _ 1 b ts.length bcap ts xa tx.length xc tx last (HD.out _ HBc.out.drew).2.2.1 (HD.out _ HBc.out.drew).2.2.2 (by omega)).mono ?_
      rintro e wa ⟨rfl, hba⟩
      have HBa := Lib.hid (HBc.out.drew.trans (hba.mono HBc.out.drew.size))
      have HWa := Lib.hid (HWc.out.mono hba)
      clear hba
      go_simp
      refine hK.out _ _ HBa.out ?_
      clear hK K
      try simp only [List.getElem_toArray, List.getElem_cons_zero, List.getElem_cons_succ, Act.put, List.setIfInBounds_toArray, List.set_cons_zero, List.set_cons_succ]
      refine RH_step (i := 4) (by kernel_rfl) rfl (fun K hK => ?_)
      go_simp
      go_at_call 21
      refine (is_yes 6 rfl _).mono ?_
      rintro e w' ⟨rfl, rfl⟩
      go_simp
      refine hK.out _ _ HBa.out ?_
      clear hK K
      try simp only [List.getElem_toArray, List.getElem_cons_zero, List.getElem_cons_succ, Act.put, List.setIfInBounds_toArray, List.set_cons_zero, List.set_cons_succ]
      refine RH_take (i := 5) (v := ?_) rfl (by kernel_rfl) (by kernel_rfl) (by kernel_rfl) (fun _ _ _ h => h) HBa.out (by rfl) ?_ ?_
      rotate_left
      · (intro w' hw'; obtain ⟨j3, q0, q1, q2⟩ := HC.out w' hw'; first | (go_simp; done) | (go_simp; with_reducible rfl))
      try simp only [List.getElem_toArray, List.getElem_cons_zero, List.getElem_cons_succ, Act.put, List.setIfInBounds_toArray, List.set_cons_zero, List.set_cons_succ]
      refine RH_take (i := 6) (v := ?_) rfl (by kernel_rfl) (by kernel_rfl) (by kernel_rfl) (fun _ _ _ h => h) HBa.out (by rfl) ?_ ?_
      rotate_left
      · (intro w' hw'; obtain ⟨j3, q0, q1, q2⟩ := HC.out w' hw'; first | (go_simp; done) | (go_simp; with_reducible rfl))
      try simp only [List.getElem_toArray, List.getElem_cons_zero, List.getElem_cons_succ, Act.put, List.setIfInBounds_toArray, List.set_cons_zero, List.set_cons_succ]
      refine RH_take (i := 8) (v := ?_) rfl (by kernel_rfl) (by kernel_rfl) (by kernel_rfl) (fun _ _ _ h => h) HBa.out (by rfl) ?_ ?_
      rotate_left
      · (intro w' hw'; obtain ⟨j3, q0, q1, q2⟩ := HC.out w' hw'; first | (go_simp; done) | (go_simp; with_reducible rfl))
      try simp only [List.getElem_toArray, List.getElem_cons_zero, List.getElem_cons_succ, Act.put, List.setIfInBounds_toArray, List.set_cons_zero, List.set_cons_succ]
      refine RH_take (i := 9) (v := ?_) rfl (by kernel_rfl) (by kernel_rfl) (by kernel_rfl) (fun _ _ _ h => h) HBa.out (by rfl) ?_ ?_
      rotate_left
      · (intro w' hw'; obtain ⟨j3, q0, q1, q2⟩ := HC.out w' hw'; first | (go_simp; done) | (go_simp; with_reducible rfl))
      try simp only [List.getElem_toArray, List.getElem_cons_zero, List.getElem_cons_succ, Act.put, List.setIfInBounds_toArray, List.set_cons_zero, List.set_cons_succ]
      refine RH_take (i := 10) (v := ?_) rfl (by kernel_rfl) (by kernel_rfl) (by kernel_rfl) (fun _ _ _ h => h) HBa.out (by rfl) ?_ ?_
      rotate_left
      · (intro w' hw'; obtain ⟨j3, q0, q1, q2⟩ := HC.out w' hw'; first | (go_simp; done) | (go_simp; with_reducible rfl))
      try simp only [List.getElem_toArray, List.getElem_cons_zero, List.getElem_cons_succ, Act.put, List.setIfInBounds_toArray, List.set_cons_zero, List.set_cons_succ]
      refine RH_step (i := 7) (by kernel_rfl) rfl (fun K hK => ?_)
      go_simp
      go_at_call 9
      refine (newWriter_any true w5.heap.size _ HBa.out.size).mono ?_
      rintro e wb ⟨rfl, hwr, hbb⟩
      have HBb := Lib.hid (HBa.out.trans (hbb.mono HBa.out.size))
      have HWb := Lib.hid (HWa.out.mono hbb)
      have HHb := Lib.hid hwr
      clear hbb hwr
      go_simp
      refine hK.out _ _ HBb.out ?_
      clear hK K
      try simp only [List.getElem_toArray, List.getElem_cons_zero, List.getElem_cons_succ, Act.put, List.setIfInBounds_toArray, List.set_cons_zero, List.set_cons_succ]
      refine RH_step (i := 11) (by kernel_rfl) rfl (fun K hK => ?_)
      go_simp
      go_at_call 10
      refine (Bc.write_high _ w5.heap.size _ _ _ 1 b ts.length bcap ts xa tx.length xc tx last HHb.out (HD.out _ HBb.out).2.2.1 (HD.out _ HBb.out).2.2.2 (by omega)).mono ?_
      rintro e wd ⟨rfl, hbd⟩
      have HBd := Lib.hid (HBb.out.trans (hbd.mono HBb.out.size))
      have HWd := Lib.hid (HWb.out.mono hbd)
      clear hbd HHb
      go_simp
      refine hK.out _ _ HBd.out ?_
      clear hK K
      try simp only [List.getElem_toArray, List.getElem_cons_zero, List.getElem_cons_succ, Act.put, List.setIfInBounds_toArray, List.set_cons_zero, List.set_cons_succ]
      refine RH_step (i := 12) (by kernel_rfl) rfl (fun K hK => ?_)
      go_simp
      go_at_call 21
      refine (is_yes 6 rfl _).mono ?_
      rintro e w' ⟨rfl, rfl⟩
      go_simp
      refine hK.out _ _ HBd.out ?_
      clear hK K
      try simp only [List.getElem_toArray, List.getElem_cons_zero, List.getElem_cons_succ, Act.put, List.setIfInBounds_toArray, List.set_cons_zero, List.set_cons_succ]
      refine RH_take (i := 13) (v := ?_) rfl (by kernel_rfl) (by kernel_rfl) (by kernel_rfl) (fun _ _ _ h => h) HBd.out (by rfl) ?_ ?_
      rotate_left
      · (intro w' hw'; obtain ⟨j3, q0, q1, q2⟩ := HC.out w' hw'; first | (go_simp; done) | (go_simp; with_reducible rfl))
      try simp only [List.getElem_toArray, List.getElem_cons_zero, List.getElem_cons_succ, Act.put, List.setIfInBounds_toArray, List.set_cons_zero, List.set_cons_succ]
      refine RH_take (i := 14) (v := ?_) rfl (by kernel_rfl) (by kernel_rfl) (by kernel_rfl) (fun _ _ _ h => h) HBd.out (by rfl) ?_ ?_
      rotate_left
      · (intro w' hw'; obtain ⟨j3, q0, q1, q2⟩ := HC.out w' hw'; first | (go_simp; done) | (go_simp; with_reducible rfl))
      try simp only [List.getElem_toArray, List.getElem_cons_zero, List.getElem_cons_succ, Act.put, List.setIfInBounds_toArray, List.set_cons_zero, List.set_cons_succ]
      refine wpAnyH_done (by kernel_rfl) ?_ _
      refine NoPanic.normal ?_
      clear HWc HBc HBa HWa HBb HWb c1
      have hl0 := HLN.out
      have HLE := Lib.hid (len_any _ _ _ _ _ _ HWd.out)
      generalize bl.length = bn at *
      have hl1 : decide (0 < bn) = true := by simpa using hl0
      have hl2 : decide ((0 : Int) < (bn : Int)) = true := by simp; omega
      clear hl0
      go_wp2_with fail
      refine HLE.out.mono ?_
      rintro e w' ⟨rfl, rfl⟩
      go_wp2_with fail
      go_ret
      exact ⟨rfl, HFIN.out _ HBd.out⟩
    by_cases h2 : n = 2
    · subst h2
      have HV : Hid (Bc.vB 2 ts tx = true) := Lib.hid (by rw [hvb, hF]; simp)
      clear hF hvb h0 h1
      have HBI := Lib.hid (Bc.bits_call 2 b ts.length bcap ts xa tx.length xc tx w6 (HD.out _ HB6.out).2.2.1 (HD.out _ HB6.out).2.2.2 (by omega) (HOO.out _ HB6.out).1 (HOO.out _ HB6.out).2)
      unfold Bc.sizeOk at HBI
      rw [HV.out, if_pos rfl] at HBI
      generalize Bc.szB ((2 : Int).toNat) ts tx.length = sz at *
      obtain ⟨c3, q0, q1, q2⟩ := HC.out w6 HB6.out
      go_wp2_with fail
      refine HBI.out.mono ?_
      rintro e w7 ⟨rfl, hb7⟩
      have HB7 := Lib.hid (HB6.out.trans (hb7.mono HB6.out.size))
      have HW7 := Lib.hid (HW6.out.mono hb7)
      clear hb7 HBI c3 q0 q1 q2 HB6 HW6
      obtain ⟨c3, q0, q1, q2⟩ := HC.out w7 HB7.out
      have hln : 0 < ([] ++ Bc.headB 2 last ++ Bc.bdBits 2 ts).length := by rw [List.append_assoc, List.nil_append, List.length_append, hbl3]; omega
      have HLN := Lib.hid hln
      clear hln
      go_wp2_with fail
      refine (Bc.write_2 w7 w5.heap.size w5.heap.size (.slice none 0 0) [] b bcap ts xa tx.length xc tx last HW7.out HB7.out.size (HD.out _ HB7.out).2.2.1 (HD.out _ HB7.out).2.2.2 (by omega) (HOO.out _ HB7.out).1 (HOO.out _ HB7.out).2 (fun h ad e ht => HTB.out h ad e ht) HF.out (Nat.zero_le _)).mono ?_
      rintro e w8 ⟨rfl, v8, hw8, hc8, _⟩
      have HB8 := Lib.hid (HB7.out.trans (hc8.below HB7.out.size (fun j hj => wt_ge hj)))
      have HW8 := Lib.hid hw8
      clear hw8 hc8 c3 q0 q1 q2 HB7 HW7
      generalize [] ++ Bc.headB 2 last ++ Bc.bdBits 2 ts = bl at *
      have c1 := (HC1.out w8 HB8.out)
      go_wp2_with fail
      refine (Bc.best_call b ts.length bcap ts xa tx.length xc tx w8 (HD.out _ HB8.out).2.2.1 (HD.out _ HB8.out).2.2.2 (by omega) (by omega) (HOO.out _ HB8.out).1 (HOO.out _ HB8.out).2).mono ?_
      rintro e w9 ⟨hb9, hcase⟩
      have HB9 := Lib.hid (HB8.out.trans (hb9.mono HB8.out.size))
      have HW9 := Lib.hid (HW8.out.mono hb9)
      clear hb9 HB8 HW8
      rcases hcase with ⟨hff, _⟩ | ⟨_, ta, tc, xa3, xc3, rfl, _, _⟩
      · rw [HF.out] at hff; cases hff
      generalize Bc.bst ts tx.length 3 = bp at *
      have hbz := below_alloc w9 (.cells #[.int .i64 (bp.1 : Nat), .slice ta ts.length tc, .slice xa3 tx.length xc3] 36)
      have HBc := Lib.hid (HB9.out.trans (hbz.mono HB9.out.size))
      have HWc := Lib.hid (HW9.out.mono hbz)
      clear hbz HB9 HW9
      go_wp2_with fail
      revert HBc HWc
      generalize (w9.alloc (.cells #[.int .i64 (bp.1 : Nat), .slice ta ts.length tc, .slice xa3 tx.length xc3] 36)) = wc
      intro HBc HWc
      have HWc : Hid (Wr wc.drew w5.heap.size w5.heap.size false v8 bl) := Lib.hid (HWc.out.mono (Below.refl _ wc).drew)
      refine wp_region_noPanic ?_
      refine region_RH (fun w' => Below w5.heap.size w5 w') (by kernel_rfl) ?_
      refine RH_take (i := 0) (v := ?_) rfl (by kernel_rfl) (by kernel_rfl) (by kernel_rfl) (fun _ _ _ h => h) HBc.out.drew (by rfl) ?_ ?_
      rotate_left
      · (intro w' hw'; obtain ⟨j3, q0, q1, q2⟩ := HC.out w' hw'; first | (go_simp; done) | (go_simp; with_reducible rfl))
      try simp only [List.getElem_toArray, List.getElem_cons_zero, List.getElem_cons_succ, Act.put, List.setIfInBounds_toArray, List.set_cons_zero, List.set_cons_succ]
      refine RH_take (i := 1) (v := ?_) rfl (by kernel_rfl) (by kernel_rfl) (by kernel_rfl) (fun _ _ _ h => h) HBc.out.drew (by rfl) ?_ ?_
      rotate_left
      · (intro w' hw'; obtain ⟨j3, q0, q1, q2⟩ := HC.out w' hw'; first | (go_simp; done) | (go_simp; with_reducible rfl))
      try simp only [List.getElem_toArray, List.getElem_cons_zero, List.getElem_cons_succ, Act.put, List.setIfInBounds_toArray, List.set_cons_zero, List.set_cons_succ]
      refine RH_take (i := 2) (v := ?_) rfl (by kernel_rfl) (by kernel_rfl) (by kernel_rfl) (fun _ _ _ h => h) HBc.out.drew (by rfl) ?_ ?_
      rotate_left
      · (intro w' hw'; obtain ⟨j3, q0, q1, q2⟩ := HC.out w' hw'; first | (go_simp; done) | (go_simp; with_reducible rfl))
      try simp only [List.getElem_toArray, List.getElem_cons_zero, List.getElem_cons_succ, Act.put, List.setIfInBounds_toArray, List.set_cons_zero, List.set_cons_succ]
      refine RH_step (i := 3) (by kernel_rfl) rfl (fun K hK => ?_)
      go_simp
      go_at_call 10
      refine (Bc.write_nil _ 2 b ts.length bcap ts xa tx.length xc tx last (HD.out _ HBc.out.drew).2.2.1 (HD.out _ HBc.out.drew).2.2.2 (by omega)).mono ?_
      rintro e wa ⟨rfl, hba⟩
      have HBa := Lib.hid (HBc.out.drew.trans (hba.mono HBc.out.drew.size))
      have HWa := Lib.hid (HWc.out.mono hba)
      clear hba
      go_simp
      refine hK.out _ _ HBa.out ?_
      clear hK K
      try simp only [List.getElem_toArray, List.getElem_cons_zero, List.getElem_cons_succ, Act.put, List.setIfInBounds_toArray, List.set_cons_zero, List.set_cons_succ]
      refine RH_step (i := 4) (by kernel_rfl) rfl (fun K hK => ?_)
      go_simp
      go_at_call 21
      refine (is_yes 6 rfl _).mono ?_
      rintro e w' ⟨rfl, rfl⟩
      go_simp
      refine hK.out _ _ HBa.out ?_
      clear hK K
      try simp only [List.getElem_toArray, List.getElem_cons_zero, List.getElem_cons_succ, Act.put, List.setIfInBounds_toArray, List.set_cons_zero, List.set_cons_succ]
      refine RH_take (i := 5) (v := ?_) rfl (by kernel_rfl) (by kernel_rfl) (by kernel_rfl) (fun _ _ _ h => h) HBa.out (by rfl) ?_ ?_
      rotate_left
      · (intro w' hw'; obtain ⟨j3, q0, q1, q2⟩ := HC.out w' hw'; first | (go_simp; done) | (go_simp; with_reducible rfl))
      try simp only [List.getElem_toArray, List.getElem_cons_zero, List.getElem_cons_succ, Act.put, List.setIfInBounds_toArray, List.set_cons_zero, List.set_cons_succ]
      refine RH_take (i := 6) (v := ?_) rfl (by kernel_rfl) (by kernel_rfl) (by kernel_rfl) (fun _ _ _ h => h) HBa.out (by rfl) ?_ ?_
      rotate_left
      · (intro w' hw'; obtain ⟨j3, q0, q1, q2⟩ := HC.out w' hw'; first | (go_simp; done) | (go_simp; with_reducible rfl))
      try simp only [List.getElem_toArray, List.getElem_cons_zero, List.getElem_cons_succ, Act.put, List.setIfInBounds_toArray, List.set_cons_zero, List.set_cons_succ]
      refine RH_take (i := 8) (v := ?_) rfl (by kernel_rfl) (by kernel_rfl) (by kernel_rfl) (fun _ _ _ h => h) HBa.out (by rfl) ?_ ?_
      rotate_left
      · (intro w' hw'; obtain ⟨j3, q0, q1, q2⟩ := HC.out w' hw'; first | (go_simp; done) | (go_simp; with_reducible rfl))
      try simp only [List.getElem_toArray, List.getElem_cons_zero, List.getElem_cons_succ, Act.put, List.setIfInBounds_toArray, List.set_cons_zero, List.set_cons_succ]
      refine RH_take (i := 9) (v := ?_) rfl (by kernel_rfl) (by kernel_rfl) (by kernel_rfl) (fun _ _ _ h => h) HBa.out (by rfl) ?_ ?_
      rotate_left
      · (intro w' hw'; obtain ⟨j3, q0, q1, q2⟩ := HC.out w' hw'; first | (go_simp; done) | (go_simp; with_reducible rfl))
      try simp only [List.getElem_toArray, List.getElem_cons_zero, List.getElem_cons_succ, Act.put, List.setIfInBounds_toArray, List.set_cons_zero, List.set_cons_succ]
      refine RH_take (i := 10) (v := ?_) rfl (by kernel_rfl) (by kernel_rfl) (by kernel_rfl) (fun _ _ _ h => h) HBa.out (by rfl) ?_ ?_
      rotate_left
      · (intro w' hw'; obtain ⟨j3, q0, q1, q2⟩ := HC.out w' hw'; first | (go_simp; done) | (go_simp; with_reducible rfl))
      try simp only [List.getElem_toArray, List.getElem_cons_zero, List.getElem_cons_succ, Act.put, List.setIfInBounds_toArray, List.set_cons_zero, List.set_cons_succ]
      refine RH_step (i := 7) (by kernel_rfl) rfl (fun K hK => ?_)
      go_simp
      go_at_call 9
      refine (newWriter_any true w5.heap.size _ HBa.out.size).mono ?_
      rintro e wb ⟨rfl, hwr, hbb⟩
      have HBb := Lib.hid (HBa.out.trans (hbb.mono HBa.out.size))
      have HWb := Lib.hid (HWa.out.mono hbb)
      have HHb := Lib.hid hwr
      clear hbb hwr
      go_simp
      refine hK.out _ _ HBb.out ?_
      clear hK K
      try simp only [List.getElem_toArray, List.getElem_cons_zero, List.getElem_cons_succ, Act.put, List.setIfInBounds_toArray, List.set_cons_zero, List.set_cons_succ]
      refine RH_step (i := 11) (by kernel_rfl) rfl (fun K hK => ?_)
      go_simp
      go_at_call 10
      refine (Bc.write_high _ w5.heap.size _ _ _ 2 b ts.length bcap ts xa tx.length xc tx last HHb.out (HD.out _ HBb.out).2.2.1 (HD.out _ HBb.out).2.2.2 (by omega)).mono ?_
      rintro e wd ⟨rfl, hbd⟩
      have HBd := Lib.hid (HBb.out.trans (hbd.mono HBb.out.size))
      have HWd := Lib.hid (HWb.out.mono hbd)
      clear hbd HHb
      go_simp
      refine hK.out _ _ HBd.out ?_
      clear hK K
      try simp only [List.getElem_toArray, List.getElem_cons_zero, List.getElem_cons_succ, Act.put, List.setIfInBounds_toArray, List.set_cons_zero, List.set_cons_succ]
      refine RH_step (i := 12) (by kernel_rfl) rfl (fun K hK => ?_)
      go_simp
      go_at_call 21
      refine (is_yes 6 rfl _).mono ?_
      rintro e w' ⟨rfl, rfl⟩
      go_simp
      refine hK.out _ _ HBd.out ?_
      clear hK K
      try simp only [List.getElem_toArray, List.getElem_cons_zero, List.getElem_cons_succ, Act.put, List.setIfInBounds_toArray, List.set_cons_zero, List.set_cons_succ]
      refine RH_take (i := 13) (v := ?_) rfl (by kernel_rfl) (by kernel_rfl) (by kernel_rfl) (fun _ _ _ h => h) HBd.out (by rfl) ?_ ?_
      rotate_left
      · (intro w' hw'; obtain ⟨j3, q0, q1, q2⟩ := HC.out w' hw'; first | (go_simp; done) | (go_simp; with_reducible rfl))
      try simp only [List.getElem_toArray, List.getElem_cons_zero, List.getElem_cons_succ, Act.put, List.setIfInBounds_toArray, List.set_cons_zero, List.set_cons_succ]
      refine RH_take (i := 14) (v := ?_) rfl (by kernel_rfl) (by kernel_rfl) (by kernel_rfl) (fun _ _ _ h => h) HBd.out (by rfl) ?_ ?_
      rotate_left
      · (intro w' hw'; obtain ⟨j3, q0, q1, q2⟩ := HC.out w' hw'; first | (go_simp; done) | (go_simp; with_reducible rfl))
      try simp only [List.getElem_toArray, List.getElem_cons_zero, List.getElem_cons_succ, Act.put, List.setIfInBounds_toArray, List.set_cons_zero, List.set_cons_succ]
      refine wpAnyH_done (by kernel_rfl) ?_ _
      refine NoPanic.normal ?_
      clear HWc HBc HBa HWa HBb HWb c1
      have hl0 := HLN.out
      have HLE := Lib.hid (len_any _ _ _ _ _ _ HWd.out)
      generalize bl.length = bn at *
      have hl1 : decide (0 < bn) = true := by simpa using hl0
      have hl2 : decide ((0 : Int) < (bn : Int)) = true := by simp; omega
      clear hl0
      go_wp2_with fail
      refine HLE.out.mono ?_
      rintro e w' ⟨rfl, rfl⟩
      go_wp2_with fail
      go_ret
      exact ⟨rfl, HFIN.out _ HBd.out⟩
    have HV : Hid (Bc.vB n ts tx = false) := Lib.hid (by rw [hvb, hF]; simp; omega)
    clear hF hvb
    by_cases hneg : 0 ≤ n
    · have d5 : decide (0 ≤ n) = true := by simpa using hneg
      have d6 : decide (n ≤ 2) = false := by simp; omega
      clear hneg h0 h1 h2
      have HBI := Lib.hid (Bc.bits_call n b ts.length bcap ts xa tx.length xc tx w6 (HD.out _ HB6.out).2.2.1 (HD.out _ HB6.out).2.2.2 (by omega) (HOO.out _ HB6.out).1 (HOO.out _ HB6.out).2)
      unfold Bc.sizeOk at HBI
      rw [HV.out, if_neg (by exact Bool.false_ne_true)] at HBI
      obtain ⟨c3, q0, q1, q2⟩ := HC.out w6 HB6.out
      go_wp2_with fail
      refine HBI.out.mono ?_
      rintro e w7 ⟨rfl, hb7⟩
      have HB7 := Lib.hid (HB6.out.trans (hb7.mono HB6.out.size))
      have HW7 := Lib.hid (HW6.out.mono hb7)
      clear hb7 HBI c3 q0 q1 q2 HB6 HW6
      obtain ⟨c3, q0, q1, q2⟩ := HC.out w7 HB7.out
      go_wp2_with fail
      refine (Bc.write_inv _ w7 n b ts.length bcap ts xa tx.length xc tx last (HD.out _ HB7.out).2.2.1 (HD.out _ HB7.out).2.2.2 (by omega) HV.out).mono ?_
      rintro e w8 ⟨rfl, hb8⟩
      have HB8 := Lib.hid (HB7.out.trans (hb8.mono HB7.out.size))
      have HW8 := Lib.hid (HW7.out.mono hb8)
      clear hb8 c3 q0 q1 q2 HB7 HW7
      have c1 := (HC1.out w8 HB8.out)
      go_wp2_with fail
      refine (Bc.best_call b ts.length bcap ts xa tx.length xc tx w8 (HD.out _ HB8.out).2.2.1 (HD.out _ HB8.out).2.2.2 (by omega) (by omega) (HOO.out _ HB8.out).1 (HOO.out _ HB8.out).2).mono ?_
      rintro e w9 ⟨hb9, hcase⟩
      have HB9 := Lib.hid (HB8.out.trans (hb9.mono HB8.out.size))
      have HW9 := Lib.hid (HW8.out.mono hb9)
      clear hb9 HB8 HW8
      rcases hcase with ⟨hff, _⟩ | ⟨_, ta, tc, xa3, xc3, rfl, _, _⟩
      · rw [HF.out] at hff; cases hff
      generalize Bc.bst ts tx.length 3 = bp at *
      have hbz := below_alloc w9 (.cells #[.int .i64 (bp.1 : Nat), .slice ta ts.length tc, .slice xa3 tx.length xc3] 36)
      have HBc := Lib.hid (HB9.out.trans (hbz.mono HB9.out.size))
      have HWc := Lib.hid (HW9.out.mono hbz)
      clear hbz HB9 HW9
      go_wp2_with fail
      revert HBc HWc
      generalize (w9.alloc (.cells #[.int .i64 (bp.1 : Nat), .slice ta ts.length tc, .slice xa3 tx.length xc3] 36)) = wc
      intro HBc HWc
      have HWc : Hid (Wr wc.drew w5.heap.size w5.heap.size false (.slice none 0 0) []) := Lib.hid (HWc.out.mono (Below.refl _ wc).drew)
      refine wp_region_noPanic ?_
      refine region_RH (fun w' => Below w5.heap.size w5 w') (by kernel_rfl) ?_
      refine RH_take (i := 0) (v := ?_) rfl (by kernel_rfl) (by kernel_rfl) (by kernel_rfl) (fun _ _ _ h => h) HBc.out.drew (by rfl) ?_ ?_
      rotate_left
      · (intro w' hw'; obtain ⟨j3, q0, q1, q2⟩ := HC.out w' hw'; first | (go_simp; done) | (go_simp; with_reducible rfl))
      try simp only [List.getElem_toArray, List.getElem_cons_zero, List.getElem_cons_succ, Act.put, List.setIfInBounds_toArray, List.set_cons_zero, List.set_cons_succ]
      refine RH_take (i := 1) (v := ?_) rfl (by kernel_rfl) (by kernel_rfl) (by kernel_rfl) (fun _ _ _ h => h) HBc.out.drew (by rfl) ?_ ?_
      rotate_left
      · (intro w' hw'; obtain ⟨j3, q0, q1, q2⟩ := HC.out w' hw'; first | (go_simp; done) | (go_simp; with_reducible rfl))
      try simp only [List.getElem_toArray, List.getElem_cons_zero, List.getElem_cons_succ, Act.put, List.setIfInBounds_toArray, List.set_cons_zero, List.set_cons_succ]
      refine RH_take (i := 2) (v := ?_) rfl (by kernel_rfl) (by kernel_rfl) (by kernel_rfl) (fun _ _ _ h => h) HBc.out.drew (by rfl) ?_ ?_
      rotate_left
      · (intro w' hw'; obtain ⟨j3, q0, q1, q2⟩ := HC.out w' hw'; first | (go_simp; done) | (go_simp; with_reducible rfl))
      try simp only [List.getElem_toArray, List.getElem_cons_zero, List.getElem_cons_succ, Act.put, List.setIfInBounds_toArray, List.set_cons_zero, List.set_cons_succ]
      refine RH_step (i := 3) (by kernel_rfl) rfl (fun K hK => ?_)
      go_simp
      go_at_call 10
      refine (Bc.write_nil _ n b ts.length bcap ts xa tx.length xc tx last (HD.out _ HBc.out.drew).2.2.1 (HD.out _ HBc.out.drew).2.2.2 (by omega)).mono ?_
      rintro e wa ⟨rfl, hba⟩
      have HBa := Lib.hid (HBc.out.drew.trans (hba.mono HBc.out.drew.size))
      have HWa := Lib.hid (HWc.out.mono hba)
      clear hba
      go_simp
      refine hK.out _ _ HBa.out ?_
      clear hK K
      try simp only [List.getElem_toArray, List.getElem_cons_zero, List.getElem_cons_succ, Act.put, List.setIfInBounds_toArray, List.set_cons_zero, List.set_cons_succ]
      refine RH_step (i := 4) (by kernel_rfl) rfl (fun K hK => ?_)
      go_simp
      go_at_call 21
      refine (is_yes 6 rfl _).mono ?_
      rintro e w' ⟨rfl, rfl⟩
      go_simp
      refine hK.out _ _ HBa.out ?_
      clear hK K
      try simp only [List.getElem_toArray, List.getElem_cons_zero, List.getElem_cons_succ, Act.put, List.setIfInBounds_toArray, List.set_cons_zero, List.set_cons_succ]
      refine RH_take (i := 5) (v := ?_) rfl (by kernel_rfl) (by kernel_rfl) (by kernel_rfl) (fun _ _ _ h => h) HBa.out (by rfl) ?_ ?_
      rotate_left
      · (intro w' hw'; obtain ⟨j3, q0, q1, q2⟩ := HC.out w' hw'; first | (go_simp; done) | (go_simp; with_reducible rfl))
      try simp only [List.getElem_toArray, List.getElem_cons_zero, List.getElem_cons_succ, Act.put, List.setIfInBounds_toArray, List.set_cons_zero, List.set_cons_succ]
      refine RH_take (i := 6) (v := ?_) rfl (by kernel_rfl) (by kernel_rfl) (by kernel_rfl) (fun _ _ _ h => h) HBa.out (by rfl) ?_ ?_
      rotate_left
      · (intro w' hw'; obtain ⟨j3, q0, q1, q2⟩ := HC.out w' hw'; first | (go_simp; done) | (go_simp; with_reducible rfl))
      try simp only [List.getElem_toArray, List.getElem_cons_zero, List.getElem_cons_succ, Act.put, List.setIfInBounds_toArray, List.set_cons_zero, List.set_cons_succ]
      refine RH_take (i := 8) (v := ?_) rfl (by kernel_rfl) (by kernel_rfl) (by kernel_rfl) (fun _ _ _ h => h) HBa.out (by rfl) ?_ ?_
      rotate_left
      · (intro w' hw'; obtain ⟨j3, q0, q1, q2⟩ := HC.out w' hw'; first | (go_simp; done) | (go_simp; with_reducible rfl))
      try simp only [List.getElem_toArray, List.getElem_cons_zero, List.getElem_cons_succ, Act.put, List.setIfInBounds_toArray, List.set_cons_zero, List.set_cons_succ]
      refine RH_take (i := 9) (v := ?_) rfl (by kernel_rfl) (by kernel_rfl) (by kernel_rfl) (fun _ _ _ h => h) HBa.out (by rfl) ?_ ?_
      rotate_left
      · (intro w' hw'; obtain ⟨j3, q0, q1, q2⟩ := HC.out w' hw'; first | (go_simp; done) | (go_simp; with_reducible rfl))
      try simp only [List.getElem_toArray, List.getElem_cons_zero, List.getElem_cons_succ, Act.put, List.setIfInBounds_toArray, List.set_cons_zero, List.set_cons_succ]
      refine RH_take (i := 10) (v := ?_) rfl (by kernel_rfl) (by kernel_rfl) (by kernel_rfl) (fun _ _ _ h => h) HBa.out (by rfl) ?_ ?_
      rotate_left
      · (intro w' hw'; obtain ⟨j3, q0, q1, q2⟩ := HC.out w' hw'; first | (go_simp; done) | (go_simp; with_reducible rfl))
      try simp only [List.getElem_toArray, List.getElem_cons_zero, List.getElem_cons_succ, Act.put, List.setIfInBounds_toArray, List.set_cons_zero, List.set_cons_succ]
      refine RH_step (i := 7) (by kernel_rfl) rfl (fun K hK => ?_)
      go_simp
      go_at_call 9
      refine (newWriter_any true w5.heap.size _ HBa.out.size).mono ?_
      rintro e wb ⟨rfl, hwr, hbb⟩
      have HBb := Lib.hid (HBa.out.trans (hbb.mono HBa.out.size))
      have HWb := Lib.hid (HWa.out.mono hbb)
      have HHb := Lib.hid hwr
      clear hbb hwr
      go_simp
      refine hK.out _ _ HBb.out ?_
      clear hK K
      try simp only [List.getElem_toArray, List.getElem_cons_zero, List.getElem_cons_succ, Act.put, List.setIfInBounds_toArray, List.set_cons_zero, List.set_cons_succ]
      refine RH_step (i := 11) (by kernel_rfl) rfl (fun K hK => ?_)
      go_simp
      go_at_call 10
      refine (Bc.write_high _ w5.heap.size _ _ _ n b ts.length bcap ts xa tx.length xc tx last HHb.out (HD.out _ HBb.out).2.2.1 (HD.out _ HBb.out).2.2.2 (by omega)).mono ?_
      rintro e wd ⟨rfl, hbd⟩
      have HBd := Lib.hid (HBb.out.trans (hbd.mono HBb.out.size))
      have HWd := Lib.hid (HWb.out.mono hbd)
      clear hbd HHb
      go_simp
      refine hK.out _ _ HBd.out ?_
      clear hK K
      try simp only [List.getElem_toArray, List.getElem_cons_zero, List.getElem_cons_succ, Act.put, List.setIfInBounds_toArray, List.set_cons_zero, List.set_cons_succ]
      refine RH_step (i := 12) (by kernel_rfl) rfl (fun K hK => ?_)
      go_simp
      go_at_call 21
      refine (is_yes 6 rfl _).mono ?_
      rintro e w' ⟨rfl, rfl⟩
      go_simp
      refine hK.out _ _ HBd.out ?_
      clear hK K
      try simp only [List.getElem_toArray, List.getElem_cons_zero, List.getElem_cons_succ, Act.put, List.setIfInBounds_toArray, List.set_cons_zero, List.set_cons_succ]
      refine RH_take (i := 13) (v := ?_) rfl (by kernel_rfl) (by kernel_rfl) (by kernel_rfl) (fun _ _ _ h => h) HBd.out (by rfl) ?_ ?_
      rotate_left
      · (intro w' hw'; obtain ⟨j3, q0, q1, q2⟩ := HC.out w' hw'; first | (go_simp; done) | (go_simp; with_reducible rfl))
      try simp only [List.getElem_toArray, List.getElem_cons_zero, List.getElem_cons_succ, Act.put, List.setIfInBounds_toArray, List.set_cons_zero, List.set_cons_succ]
      refine RH_take (i := 14) (v := ?_) rfl (by kernel_rfl) (by kernel_rfl) (by kernel_rfl) (fun _ _ _ h => h) HBd.out (by rfl) ?_ ?_
      rotate_left
      · (intro w' hw'; obtain ⟨j3, q0, q1, q2⟩ := HC.out w' hw'; first | (go_simp; done) | (go_simp; with_reducible rfl))
      try simp only [List.getElem_toArray, List.getElem_cons_zero, List.getElem_cons_succ, Act.put, List.setIfInBounds_toArray, List.set_cons_zero, List.set_cons_succ]
      refine wpAnyH_done (by kernel_rfl) ?_ _
      refine NoPanic.normal ?_
      clear HWc HBc HBa HWa HBb HWb c1
      go_wp2_with fail
      refine (is_yes 6 rfl _).mono ?_
      rintro e w' ⟨rfl, rfl⟩
      go_wp2_with fail
      refine (is_yes 6 rfl _).mono ?_
      rintro e w' ⟨rfl, rfl⟩
      go_wp2_with fail
      refine (len_any _ _ _ _ _ _ HWd.out).mono ?_
      rintro e w' ⟨rfl, rfl⟩
      go_wp2_with fail
      go_ret
      exact ⟨rfl, HFIN.out _ HBd.out⟩
    · have d5 : decide (0 ≤ n) = false := by simpa using hneg
      clear hneg h0 h1 h2
      have HBI := Lib.hid (Bc.bits_call n b ts.length bcap ts xa tx.length xc tx w6 (HD.out _ HB6.out).2.2.1 (HD.out _ HB6.out).2.2.2 (by omega) (HOO.out _ HB6.out).1 (HOO.out _ HB6.out).2)
      unfold Bc.sizeOk at HBI
      rw [HV.out, if_neg (by exact Bool.false_ne_true)] at HBI
      obtain ⟨c3, q0, q1, q2⟩ := HC.out w6 HB6.out
      go_wp2_with fail
      refine HBI.out.mono ?_
      rintro e w7 ⟨rfl, hb7⟩
      have HB7 := Lib.hid (HB6.out.trans (hb7.mono HB6.out.size))
      have HW7 := Lib.hid (HW6.out.mono hb7)
      clear hb7 HBI c3 q0 q1 q2 HB6 HW6
      obtain ⟨c3, q0, q1, q2⟩ := HC.out w7 HB7.out
      go_wp2_with fail
      refine (Bc.write_inv _ w7 n b ts.length bcap ts xa tx.length xc tx last (HD.out _ HB7.out).2.2.1 (HD.out _ HB7.out).2.2.2 (by omega) HV.out).mono ?_
      rintro e w8 ⟨rfl, hb8⟩
      have HB8 := Lib.hid (HB7.out.trans (hb8.mono HB7.out.size))
      have HW8 := Lib.hid (HW7.out.mono hb8)
      clear hb8 c3 q0 q1 q2 HB7 HW7
      have c1 := (HC1.out w8 HB8.out)
      go_wp2_with fail
      refine (Bc.best_call b ts.length bcap ts xa tx.length xc tx w8 (HD.out _ HB8.out).2.2.1 (HD.out _ HB8.out).2.2.2 (by omega) (by omega) (HOO.out _ HB8.out).1 (HOO.out _ HB8.out).2).mono ?_
      rintro e w9 ⟨hb9, hcase⟩
      have HB9 := Lib.hid (HB8.out.trans (hb9.mono HB8.out.size))
      have HW9 := Lib.hid (HW8.out.mono hb9)
      clear hb9 HB8 HW8
      rcases hcase with ⟨hff, _⟩ | ⟨_, ta, tc, xa3, xc3, rfl, _, _⟩
      · rw [HF.out] at hff; cases hff
      generalize Bc.bst ts tx.length 3 = bp at *
      have hbz := below_alloc w9 (.cells #[.int .i64 (bp.1 : Nat), .slice ta ts.length tc, .slice xa3 tx.length xc3] 36)
      have HBc := Lib.hid (HB9.out.trans (hbz.mono HB9.out.size))
      have HWc := Lib.hid (HW9.out.mono hbz)
      clear hbz HB9 HW9
      go_wp2_with fail
      revert HBc HWc
      generalize (w9.alloc (.cells #[.int .i64 (bp.1 : Nat), .slice ta ts.length tc, .slice xa3 tx.length xc3] 36)) = wc
      intro HBc HWc
      have HWc : Hid (Wr wc.drew w5.heap.size w5.heap.size false (.slice none 0 0) []) := Lib.hid (HWc.out.mono (Below.refl _ wc).drew)
      refine wp_region_noPanic ?_
      refine region_RH (fun w' => Below w5.heap.size w5 w') (by kernel_rfl) ?_
      refine RH_take (i := 0) (v := ?_) rfl (by kernel_rfl) (by kernel_rfl) (by kernel_rfl) (fun _ _ _ h => h) HBc.out.drew (by rfl) ?_ ?_
      rotate_left
      · (intro w' hw'; obtain ⟨j3, q0, q1, q2⟩ := HC.out w' hw'; first | (go_simp; done) | (go_simp; with_reducible rfl))
      try simp only [List.getElem_toArray, List.getElem_cons_zero, List.getElem_cons_succ, Act.put, List.setIfInBounds_toArray, List.set_cons_zero, List.set_cons_succ]
      refine RH_take (i := 1) (v := ?_) rfl (by kernel_rfl) (by kernel_rfl) (by kernel_rfl) (fun _ _ _ h => h) HBc.out.drew (by rfl) ?_ ?_
      rotate_left
      · (intro w' hw'; obtain ⟨j3, q0, q1, q2⟩ := HC.out w' hw'; first | (go_simp; done) | (go_simp; with_reducible rfl))
      try simp only [List.getElem_toArray, List.getElem_cons_zero, List.getElem_cons_succ, Act.put, List.setIfInBounds_toArray, List.set_cons_zero, List.set_cons_succ]
      refine RH_take (i := 2) (v := ?_) rfl (by kernel_rfl) (by kernel_rfl) (by kernel_rfl) (fun _ _ _ h => h) HBc.out.drew (by rfl) ?_ ?_
      rotate_left
      · (intro w' hw'; obtain ⟨j3, q0, q1, q2⟩ := HC.out w' hw'; first | (go_simp; done) | (go_simp; with_reducible rfl))
      try simp only [List.getElem_toArray, List.getElem_cons_zero, List.getElem_cons_succ, Act.put, List.setIfInBounds_toArray, List.set_cons_zero, List.set_cons_succ]
      refine RH_step (i := 3) (by kernel_rfl) rfl (fun K hK => ?_)
      go_simp
      go_at_call 10
      refine (Bc.write_nil _ n b ts.length bcap ts xa tx.length xc tx last (HD.out _ HBc.out.drew).2.2.1 (HD.out _ HBc.out.drew).2.2.2 (by omega)).mono ?_
      rintro e wa ⟨rfl, hba⟩
      have HBa := Lib.hid (HBc.out.drew.trans (hba.mono HBc.out.drew.size))
      have HWa := Lib.hid (HWc.out.mono hba)
      clear hba
      go_simp
      refine hK.out _ _ HBa.out ?_
      clear hK K
      try simp only [List.getElem_toArray, List.getElem_cons_zero, List.getElem_cons_succ, Act.put, List.setIfInBounds_toArray, List.set_cons_zero, List.set_cons_succ]
      refine RH_step (i := 4) (by kernel_rfl) rfl (fun K hK => ?_)
      go_simp
      go_at_call 21
      refine (is_yes 6 rfl _).mono ?_
      rintro e w' ⟨rfl, rfl⟩
      go_simp
      refine hK.out _ _ HBa.out ?_
      clear hK K
      try simp only [List.getElem_toArray, List.getElem_cons_zero, List.getElem_cons_succ, Act.put, List.setIfInBounds_toArray, List.set_cons_zero, List.set_cons_succ]
      refine RH_take (i := 5) (v := ?_) rfl (by kernel_rfl) (by kernel_rfl) (by kernel_rfl) (fun _ _ _ h => h) HBa.out (by rfl) ?_ ?_
      rotate_left
      · (intro w' hw'; obtain ⟨j3, q0, q1, q2⟩ := HC.out w' hw'; first | (go_simp; done) | (go_simp; with_reducible rfl))
      try simp only [List.getElem_toArray, List.getElem_cons_zero, List.getElem_cons_succ, Act.put, List.setIfInBounds_toArray, List.set_cons_zero, List.set_cons_succ]
      refine RH_take (i := 6) (v := ?_) rfl (by kernel_rfl) (by kernel_rfl) (by kernel_rfl) (fun _ _ _ h => h) HBa.out (by rfl) ?_ ?_
      rotate_left
      · (intro w' hw'; obtain ⟨j3, q0, q1, q2⟩ := HC.out w' hw'; first | (go_simp; done) | (go_simp; with_reducible rfl))
      try simp only [List.getElem_toArray, List.getElem_cons_zero, List.getElem_cons_succ, Act.put, List.setIfInBounds_toArray, List.set_cons_zero, List.set_cons_succ]
      refine RH_take (i := 8) (v := ?_) rfl (by kernel_rfl) (by kernel_rfl) (by kernel_rfl) (fun _ _ _ h => h) HBa.out (by rfl) ?_ ?_
      rotate_left
      · (intro w' hw'; obtain ⟨j3, q0, q1, q2⟩ := HC.out w' hw'; first | (go_simp; done) | (go_simp; with_reducible rfl))
      try simp only [List.getElem_toArray, List.getElem_cons_zero, List.getElem_cons_succ, Act.put, List.setIfInBounds_toArray, List.set_cons_zero, List.set_cons_succ]
      refine RH_take (i := 9) (v := ?_) rfl (by kernel_rfl) (by kernel_rfl) (by kernel_rfl) (fun _ _ _ h => h) HBa.out (by rfl) ?_ ?_
      rotate_left
      · (intro w' hw'; obtain ⟨j3, q0, q1, q2⟩ := HC.out w' hw'; first | (go_simp; done) | (go_simp; with_reducible rfl))
      try simp only [List.getElem_toArray, List.getElem_cons_zero, List.getElem_cons_succ, Act.put, List.setIfInBounds_toArray, List.set_cons_zero, List.set_cons_succ]
      refine RH_take (i := 10) (v := ?_) rfl (by kernel_rfl) (by kernel_rfl) (by kernel_rfl) (fun _ _ _ h => h) HBa.out (by rfl) ?_ ?_
      rotate_left
      · (intro w' hw'; obtain ⟨j3, q0, q1, q2⟩ := HC.out w' hw'; first | (go_simp; done) | (go_simp; with_reducible rfl))
      try simp only [List.getElem_toArray, List.getElem_cons_zero, List.getElem_cons_succ, Act.put, List.setIfInBounds_toArray, List.set_cons_zero, List.set_cons_succ]
      refine RH_step (i := 7) (by kernel_rfl) rfl (fun K hK => ?_)
      go_simp
      go_at_call 9
      refine (newWriter_any true w5.heap.size _ HBa.out.size).mono ?_
      rintro e wb ⟨rfl, hwr, hbb⟩
      have HBb := Lib.hid (HBa.out.trans (hbb.mono HBa.out.size))
      have HWb := Lib.hid (HWa.out.mono hbb)
      have HHb := Lib.hid hwr
      clear hbb hwr
      go_simp
      refine hK.out _ _ HBb.out ?_
      clear hK K
      try simp only [List.getElem_toArray, List.getElem_cons_zero, List.getElem_cons_succ, Act.put, List.setIfInBounds_toArray, List.set_cons_zero, List.set_cons_succ]
      refine RH_step (i := 11) (by kernel_rfl) rfl (fun K hK => ?_)
      go_simp
      go_at_call 10
      refine (Bc.write_high _ w5.heap.size _ _ _ n b ts.length bcap ts xa tx.length xc tx last HHb.out (HD.out _ HBb.out).2.2.1 (HD.out _ HBb.out).2.2.2 (by omega)).mono ?_
      rintro e wd ⟨rfl, hbd⟩
      have HBd := Lib.hid (HBb.out.trans (hbd.mono HBb.out.size))
      have HWd := Lib.hid (HWb.out.mono hbd)
      clear hbd HHb
      go_simp
      refine hK.out _ _ HBd.out ?_
      clear hK K
      try simp only [List.getElem_toArray, List.getElem_cons_zero, List.getElem_cons_succ, Act.put, List.setIfInBounds_toArray, List.set_cons_zero, List.set_cons_succ]
      refine RH_step (i := 12) (by kernel_rfl) rfl (fun K hK => ?_)
      go_simp
      go_at_call 21
      refine (is_yes 6 rfl _).mono ?_
      rintro e w' ⟨rfl, rfl⟩
      go_simp
      refine hK.out _ _ HBd.out ?_
      clear hK K
      try simp only [List.getElem_toArray, List.getElem_cons_zero, List.getElem_cons_succ, Act.put, List.setIfInBounds_toArray, List.set_cons_zero, List.set_cons_succ]
      refine RH_take (i := 13) (v := ?_) rfl (by kernel_rfl) (by kernel_rfl) (by kernel_rfl) (fun _ _ _ h => h) HBd.out (by rfl) ?_ ?_
      rotate_left
      · (intro w' hw'; obtain ⟨j3, q0, q1, q2⟩ := HC.out w' hw'; first | (go_simp; done) | (go_simp; with_reducible rfl))
      try simp only [List.getElem_toArray, List.getElem_cons_zero, List.getElem_cons_succ, Act.put, List.setIfInBounds_toArray, List.set_cons_zero, List.set_cons_succ]
      refine RH_take (i := 14) (v := ?_) rfl (by kernel_rfl) (by kernel_rfl) (by kernel_rfl) (fun _ _ _ h => h) HBd.out (by rfl) ?_ ?_
      rotate_left
      · (intro w' hw'; obtain ⟨j3, q0, q1, q2⟩ := HC.out w' hw'; first | (go_simp; done) | (go_simp; with_reducible rfl))
      try simp only [List.getElem_toArray, List.getElem_cons_zero, List.getElem_cons_succ, Act.put, List.setIfInBounds_toArray, List.set_cons_zero, List.set_cons_succ]
      refine wpAnyH_done (by kernel_rfl) ?_ _
      refine NoPanic.normal ?_
      clear HWc HBc HBa HWa HBb HWb c1
      go_wp2_with fail
      refine (is_yes 6 rfl _).mono ?_
      rintro e w' ⟨rfl, rfl⟩
      go_wp2_with fail
      refine (is_yes 6 rfl _).mono ?_
      rintro e w' ⟨rfl, rfl⟩
      go_wp2_with fail
      refine (len_any _ _ _ _ _ _ HWd.out).mono ?_
      rintro e w' ⟨rfl, rfl⟩
      go_wp2_with fail
      go_ret
      exact ⟨rfl, HFIN.out _ HBd.out⟩
set_option maxRecDepth 100000 in
theorem lifted (os : Os) (started : os.Started) (H : Type) (enc : TypeId × Value → H) :
    ReturnsInHanded {} Tryz.checked os 4 .any (fun w args => (Rows.blockFormsSpec.pre enc Tryz.prog Tryz.f4 Rows.blockFormsRow.domain false w args ∧ laidMetH Tryz.prog [("burnish/block.ownOrder", Rows.laid_burnish_block_ownOrder)] w) ∧ sizedMet enc Tryz.prog Tryz.f4 (OpenSpec.ofChange Rows.blockFormsSpec) false w args)
      (Rows.blockFormsSpec.post enc Tryz.prog Tryz.f4 false true false false) := by
  refine returnsInHanded_of_change_and (C := Tryz.checked) (X := fun w _ => laidMetH Tryz.prog [("burnish/block.ownOrder", Rows.laid_burnish_block_ownOrder)] w) (fun _ _ _ hh h => h.of_heap hh) own started (by kernel_rfl) Tryz.func4
    (ChangeSpec.witness_shaped (enc := enc) (C := Tryz.checked) (os := os) (X := fun w _ => laidMetH Tryz.prog [("burnish/block.ownOrder", Rows.laid_burnish_block_ownOrder)] w) false (World.laidAll Tryz.prog os [("burnish/block.ownOrder", Rows.laid_burnish_block_ownOrder)]) #[.agg #[.slice none 0 0, .slice none 0 0, .int .i64 0, .bool false], .slice none 0 0] 8 (World.laidAll_os _ _ _)
      (World.shaped_of_ZipB (by kernel_rfl) (by kernel_rfl)) (by kernel_rfl) (by kernel_rfl) (by kernel_rfl)
      (by rw [MakeChecks.laidMetH_plain _ _ _ (by kernel_rfl)]; exact laidMet_laidAll _ (by kernel_rfl) (by kernel_rfl))) ?_
  intro W base args ds gs before hval0 hW _ hsz0 hL _
  have hval : ∀ (j : Nat) t v, Tryz.f4.params[j]? = some t → args[j]? = some v → Value.okWide Tryz.prog W .any base t v := hval0
  have hsz : (DataW.weightsEach Tryz.prog (Tryz.f4.params.toList ++ Rows.blockFormsSpec.plain.varTypes Tryz.prog) (ds ++ gs)).all (· ≤ reachBytes) = true := hsz0
  have hW' := hW
  obtain ⟨p, q, hA0, hV, rfl, hfz, hnd⟩ := hW
  have hA : DataW.TrodAll enc Tryz.prog W 0 (fun _ => true) true Tryz.f4.params.toList args.toList ds p := hA0
  rw [Tryz.params4] at hA hval hsz
  obtain ⟨v0, vs0, d0, ds0, p0, q0, hargs, rfl, rfl, h0, r0⟩ := trodAll_cons hA
  obtain ⟨v1, vs1, d1, ds1, p1, q1, rfl, rfl, rfl, h1, r1⟩ := trodAll_cons r0
  obtain ⟨rfl, rfl, rfl⟩ := trodAll_nil r1
  obtain rfl : args = #[v0, v1] := by cases args; simp_all
  obtain ⟨rfl, rfl⟩ := trodVars_none hV
  clear hsz0
  have k0 := h0
  have lt0 : ∀ x ∈ p0, x.block < W.heap.size := by obtain ⟨m, hm⟩ := k0; exact DataW.trod_lt m _ _ _ hm
  obtain ⟨a0, len0, cap0, l0, b0, blen0, bcap0, m0, n0, g0, rfl, w0, c0, x0, y0, z0⟩ := open_case Tryz.underlying25 (by kernel_rfl) Tryz.underlying22 Tryz.underlying5 (by kernel_rfl) (by kernel_rfl) Tryz.underlying23 Tryz.underlying59 Tryz.underlying3 Tryz.underlying3 (by kernel_rfl) (by kernel_rfl) rfl rfl (by kernel_rfl) (by kernel_rfl) Tryz.underlying3 Tryz.underlying4 (by kernel_rfl) (by kernel_rfl) (by kernel_rfl) (by kernel_rfl) rfl rfl rfl rfl (hval 0 25 v0 rfl rfl) h0 hsz 0 rfl rfl
  obtain ⟨a1, len1, cap1, rfl⟩ := okWide_slice Tryz.underlying22 (hval 1 22 v1 rfl rfl)
  have k1 := h1
  have lt1 : ∀ x ∈ p1, x.block < W.heap.size := by obtain ⟨m, hm⟩ := k1; exact DataW.trod_lt m _ _ _ hm
  obtain ⟨l1, w1, c1⟩ := open_bs Tryz.underlying22 Tryz.underlying5 (by kernel_rfl) (by kernel_rfl) h1 hsz 1 rfl rfl
  clear hA0 hval0 hsz
  refine (walk a0 len0 cap0 l0 b0 blen0 bcap0 m0 n0 g0 a1 len1 cap1 l1 W w0 c0 x0 y0 z0 w1 c1 hL).mono fun e W' ⟨he, bel⟩ => ?_
  subst he
  exact ⟨_, rfl, _, _, _, [], _, [], hW', trodAll_mk1 (shut_bool Tryz.underlying4 _), (trodAll_cons_mk (Below.trod laidOut (by kernel_rfl) (of_decide_eq_true (by kernel_rfl)) k0 bel lt0) (trodAll_cons_mk (Below.trod laidOut (by kernel_rfl) (of_decide_eq_true (by kernel_rfl)) k1 bel lt1) trodAll_mk0)), rfl, bel.frame _, fun h => by cases h⟩

theorem proved : Rows.BlockFormsSaid :=
  OpenClaim.holds_of_wide 4 Tryz.f4 rfl rfl rfl rfl rfl rfl rfl ⟨rfl, rfl, rfl, rfl, rfl⟩ rfl rfl rfl rfl rfl (by kernel_rfl) Tryz.func4 (by kernel_rfl)
    (of_decide_eq_true (by kernel_rfl)) (by unfold Func.isWrapper; first | (rw [if_pos (by decide +kernel)]; kernel_rfl) | (rw [if_neg (by decide +kernel)]; exact ⟨rfl, rfl⟩))
    (fun os started H enc _ => lifted os started H enc)
theorem card : Rows.BlockFormsCardSaid :=
  Claim7.holds_tied_plain_at .later [] [.data] true (true, "65bad6b21cccdc52d41acf115da777dcdd277440d6b12d91fd4e78b772aaaea0") true proved (fun _ h => by cases h) (by kernel_rfl) (fun _ h => by cases h) blockForms_row_tie rfl ⟨rfl, rfl⟩ (by kernel_rfl) rfl
    (fun f fn hf hfn => by
      obtain rfl : f = 4 := Option.some.inj ((show Tryz.prog.funcNamed "burnish/burnishlaw10.BlockForms" = some 4 by kernel_rfl).symm.trans hf) |>.symm
      obtain rfl : fn = Tryz.f4 := (Option.some.inj (Tryz.func4.symm.trans hfn)).symm
      exact ⟨by kernel_rfl, fun j t ht => by
        rw [Tryz.params4] at ht
        have hm : t ∈ [25, 22] := by simpa using Array.mem_of_getElem? ht
        have hall : ([25, 22].all fun u => !Tryz.prog.wantsStandIn u) = true := by kernel_rfl
        exact (show Tryz.prog.wantsStandIn t = false by simpa using List.all_eq_true.1 hall t hm)⟩)
    (by kernel_rfl)
#print axioms proved
#print axioms card
end Go.Proofs.YtpoilaappcjbeaaGreatDoor.BlockForms
