/- For every text ahead and all tokens that come to a text behind it (at most 1000 bytes ahead and 300 tokens: of others nothing is asked) the best block is of these tokens and of this text, its bits are no more than those of any kind, and of equal kinds it is the least one. block.ownOrder holds what the program's own text lays (the tied card). -/
import Derived.Test.YtpoilaappcjbeaaGreatDoorCards
import Derived.Test.YtpoilaappcjbeaaGreatDoorTie
import Derived.ProofKit
import Derived.Handy
import Derived.Lay
import Derived.SevenTiedAt
import Derived.Test.YtpoilaappcjbeaaGreatDoorRows
import Derived.Test.YtpoilaappcjbeaaGreatDoorZ7
import Derived.Test.YtpoilaappcjbeaaGreatDoorZ8
import Derived.Test.YtpoilaappcjbeaaGreatDoorZ11
import Derived.Test.YtpoilaappcjbeaaGreatDoorZ23
import Derived.Test.YtpoilaappcjbeaaGreatDoorZ40
import Derived.Test.YtpoilaappcjbeaaGreatDoorZ44
import Derived.Test.YtpoilaappcjbeaaGreatDoorZ50
import Derived.Test.YtpoilaappcjbeaaGreatDoorZ54
namespace Go.Proofs.YtpoilaappcjbeaaGreatDoor.BlockBest
open Go.ChangeShapes Go.WideShapes Go.ChangeAt Go.RowKit
open Go.ChangeMaps (open_string shut_string)
set_option linter.unusedVariables false
theorem own : ownKnob Tryz.prog.godebug = none := by kernel_rfl
theorem laidOut : laidOutB Tryz.prog = true := by kernel_rfl
theorem box4 {W : World} {g : Nat} {x0 x1 x2 x3 : Value} {t : TypeId} (h : W.heap[g]? = some (.cells #[x0, x1, x2, x3] t (0, 0))) : W.cell? ⟨g, 0, none⟩ = some x0 ∧ W.cell? ⟨g, 1, none⟩ = some x1 ∧ W.cell? ⟨g, 2, none⟩ = some x2 ∧ W.cell? ⟨g, 3, none⟩ = some x3 := by
  refine ⟨?_, ?_, ?_, ?_⟩
  all_goals rw [cell_of_row _ _ _ _ _ (0, 0) h]; rfl
theorem box3 {W : World} {g : Nat} {x0 x1 x2 : Value} {t : TypeId} (h : W.heap[g]? = some (.cells #[x0, x1, x2] t (0, 0))) : W.cell? ⟨g, 0, none⟩ = some x0 ∧ W.cell? ⟨g, 1, none⟩ = some x1 ∧ W.cell? ⟨g, 2, none⟩ = some x2 := by
  refine ⟨?_, ?_, ?_⟩
  all_goals rw [cell_of_row _ _ _ _ _ (0, 0) h]; rfl
theorem row_below {W W' : World} {g : Nat} {o : Obj} (h : W.heap[g]? = some o) (hb : Below W.heap.size W W') : W'.heap[g]? = some o := (hb.block g (Array.getElem?_eq_some_iff.1 h).1).trans h
theorem size_of {kind : Nat} {ts : List Tok} {tx : List UInt8} (hk : kind < 3) (hf : Bc.fit tx ts 0 = true) (hm : tx.length ≤ 65535) : Bc.sizeOk (kind : Nat) ts tx = .tuple #[.int .i64 (Bc.szB kind ts tx.length), .nilIface] := by
  unfold Bc.sizeOk
  have hv : Bc.vB (kind : Nat) ts tx = true := by
    unfold Bc.vB
    rw [hf, Bool.and_true]
    have : kind = 0 ∨ kind = 1 ∨ kind = 2 := by omega
    rcases this with rfl | rfl | rfl
    · simp [hm]
    · simp
    · simp
  rw [if_pos hv]
  simp
set_option maxRecDepth 100000 in
set_option maxHeartbeats 4000000 in
theorem walk (a : Option Addr) (len cap : Nat) (l : List UInt8) (b : Option Addr) (blen bcap : Nat) (ts : List Tok) (n : Int) (last : Bool) (w : World) (h : Bs w a len cap l) (hr : cap ≤ 140737488351232) (h2 : Ts2 w b blen bcap ts) (hr2 : bcap * 16 ≤ 140737488351232) (hn : (Lit.int .i64 n).wf = true) (hL : laidMetH Tryz.prog [("burnish/block.ownOrder", Rows.laid_burnish_block_ownOrder)] w) :
    Calls Tryz.prog 5 #[.agg #[.slice a len cap, .slice b blen bcap, .int .i64 n, .bool last]] w fun e w' => e = .returned (.bool true) ∧ Below w.heap.size w w' := by
  obtain ⟨hoo, hz⟩ := oo_of_laid hL
  clear hL hn
  have hl1 := h.hlen
  have hl2 := h2.hlen
  subst hl1 hl2
  have hle2 := h2.hle
  have HOO : Hid (∀ W, Below w.heap.size w W → Bc.Oo W ∧ 0 < W.heap.size) := Lib.hid (fun W hb => ⟨hoo.mono hz hb, Nat.lt_of_lt_of_le hz hb.size⟩)
  have H := Lib.hid (fun W (hb : Below w.heap.size w W) => h.mono hb)
  have H2 := Lib.hid (fun W (hb : Below w.heap.size w W) => h2.mono hb)
  have HR := Lib.hid (heap_alloc_last w (.cells #[.slice a l.length cap, .slice b ts.length bcap, .int .i64 n, .bool last] 25))
  have HA := Lib.hid (below_alloc w (.cells #[.slice a l.length cap, .slice b ts.length bcap, .int .i64 n, .bool last] 25))
  clear hoo hz h h2
  go_enter Tryz.func5, Tryz.ntmps5
  go_wp2_with fail
  refine (alive10_any _ (HOO.out _ HA.out).1 (HOO.out _ HA.out).2).mono ?_
  rintro e w1 ⟨rfl, hb1⟩
  have HR1 := Lib.hid (row_below HR.out hb1)
  have HB1 := Lib.hid (below_then HA.out hb1)
  clear hb1 HR HA
  obtain ⟨c0, c1, c2, c3⟩ := box4 HR1.out
  go_wp2_with fail
  refine (Bc.text_any a cap l b bcap ts n last w1 (H.out _ HB1.out) (H2.out _ HB1.out)).mono ?_
  rintro e w2 ⟨hb2, hcase⟩
  have HR2 := Lib.hid (row_below HR1.out hb2)
  have HB2 := Lib.hid (below_then HB1.out hb2)
  clear hb2 HR1 HB1 c0 c1 c2 c3
  rcases hcase with rfl | ⟨all, xa, xc, hl, ht, hup, hla, rfl, hbs⟩
  · go_wp2
    go_ret
    exact ⟨rfl, HB2.out⟩
  obtain ⟨hfit, h20, _⟩ := Bc.exp_fit 20000 l all ts hup (by omega)
  clear hup
  have htl : (all.drop l.length).length = all.length - l.length := List.length_drop
  generalize all.drop l.length = tx at *
  obtain ⟨m, hm⟩ : ∃ m, all.length - l.length = m := ⟨_, rfl⟩
  rw [hm] at hbs htl ⊢
  have hm2 : m ≤ 20000 := by omega
  clear hm hla h20
  subst htl
  have HSZ := Lib.hid (fun (k : Nat) (hk : k < 3) => size_of (kind := k) hk hfit (by omega))
  have hmin := Bc.bst_min ts tx.length (by omega) (by omega) 3 (by omega)
  have HBS := Lib.hid (fun W (hb : Below w2.heap.size w2 W) => hbs.mono hb)
  have hbest := Bc.best_call b ts.length bcap ts xa tx.length xc tx w2 (H2.out _ HB2.out) hbs (by omega) (by omega) (HOO.out _ HB2.out).1 (HOO.out _ HB2.out).2
  unfold Bc.BestPost at hbest
  generalize Bc.bst ts tx.length 3 = bp at *
  obtain ⟨kb, zb⟩ := bp
  simp only at hmin hbest
  obtain ⟨hz1, hk3, hmin⟩ := hmin
  have HBE := Lib.hid hbest
  have HMIN := Lib.hid hmin
  have HFT := Lib.hid hfit
  have HZ1 := Lib.hid hz1
  have hxc := hbs.hle
  clear hbest hmin hfit hz1 hbs
  obtain ⟨c0, c1, c2, c3⟩ := box4 HR2.out
  go_wp2_with fail
  refine HBE.out.mono ?_
  rintro e w3 ⟨hb3, hcase⟩
  rcases hcase with ⟨hff, _⟩ | ⟨_, ta, tc, xa3, xc3, rfl, hts3, hbs3⟩
  · rw [HFT.out] at hff; cases hff
  have hbx := below_alloc w3 (.cells #[.int .i64 (kb : Nat), .slice ta ts.length tc, .slice xa3 tx.length xc3] 36)
  have HR4 := Lib.hid (row_below (row_below HR2.out hb3) hbx)
  have HQ4 := Lib.hid (heap_alloc_last w3 (.cells #[.int .i64 (kb : Nat), .slice ta ts.length tc, .slice xa3 tx.length xc3] 36))
  have HB4 := Lib.hid (below_then (below_then HB2.out hb3) hbx)
  have HS4 := Lib.hid (fun W (hb : Below (w3.alloc (.cells #[.int .i64 (kb : Nat), .slice ta ts.length tc, .slice xa3 tx.length xc3] 36)).heap.size (w3.alloc (.cells #[.int .i64 (kb : Nat), .slice ta ts.length tc, .slice xa3 tx.length xc3] 36)) W) => And.intro ((hts3.mono hbx).mono hb) (And.intro ((hbs3.mono hbx).mono hb) (HBS.out _ (below_then (below_then hb3 hbx) hb))))
  have HTK := Lib.hid (tokens_any ta b ts.length tc bcap ts (w3.alloc (.cells #[.int .i64 (kb : Nat), .slice ta ts.length tc, .slice xa3 tx.length xc3] 36)) (hts3.mono hbx) (H2.out _ HB4.out) (by omega))
  clear hb3 hbx hts3 hbs3 c0 c1 c2 c3 HR2 HB2 HBE HBS
  revert HR4 HQ4 HB4 HS4 HTK
  generalize hw4 : (w3.alloc (.cells #[.int .i64 (kb : Nat), .slice ta ts.length tc, .slice xa3 tx.length xc3] 36)) = w4
  intro HR4 HQ4 HB4 HS4 HTK
  obtain ⟨c0, c1, c2, c3⟩ := box4 HR4.out
  obtain ⟨q0, q1, q2⟩ := box3 HQ4.out
  go_wp2_with fail
  refine HTK.out.mono ?_
  rintro e w' ⟨rfl, dn, rfl⟩
  have hbd := drewN_is w4 dn
  have HR5 := Lib.hid (row_below HR4.out hbd)
  have HQ5 := Lib.hid (row_below HQ4.out hbd)
  have HB5 := Lib.hid (below_then HB4.out hbd)
  have HS5 := Lib.hid (fun W (hb : Below (w4.drewN dn).heap.size (w4.drewN dn) W) => HS4.out W (below_then hbd hb))
  clear hbd c0 c1 c2 c3 q0 q1 q2 HR4 HQ4 HB4 HS4 HTK hw4
  revert HR5 HQ5 HB5 HS5
  generalize w4.drewN dn = w5
  intro HR5 HQ5 HB5 HS5
  obtain ⟨c0, c1, c2, c3⟩ := box4 HR5.out
  obtain ⟨q0, q1, q2⟩ := box3 HQ5.out
  have hee : (tx == tx) = true := beq_self_eq_true _
  have HSM := Lib.hid (same_any xa3 xa tx.length xc3 tx.length xc tx tx w5 (HS5.out _ (Below.refl _ _)).2.1 (HS5.out _ (Below.refl _ _)).2.2)
  rw [hee] at HSM
  clear hee
  go_wp2_with fail
  refine HSM.out.mono ?_
  rintro e w' ⟨rfl, rfl⟩
  have HBT := Lib.hid (Bc.bits_call (kb : Nat) ta ts.length tc ts xa3 tx.length xc3 tx w5 (HS5.out _ (Below.refl _ _)).1 (HS5.out _ (Below.refl _ _)).2.1 (by omega) (HOO.out _ HB5.out).1 (HOO.out _ HB5.out).2)
  rw [HSZ.out kb hk3] at HBT
  clear HSM
  go_wp2_with fail
  refine HBT.out.mono ?_
  rintro e w6 ⟨rfl, hb6⟩
  have HR6 := Lib.hid (row_below HR5.out hb6)
  have HQ6 := Lib.hid (row_below HQ5.out hb6)
  have HB6 := Lib.hid (below_then HB5.out hb6)
  have HS6 := Lib.hid (fun W (hb : Below w6.heap.size w6 W) => (HS5.out W (below_then hb6 hb)).2.2)
  clear hb6 c0 c1 c2 c3 q0 q1 q2 HR5 HQ5 HB5 HS5 HBT
  rw [← HZ1.out]
  go_wp2
  go_loopw [8, 9, 10, 51] (fun _ _ _ i wr => ∃ k : Nat, k ≤ 3 ∧ i = .int .i64 (k : Nat) ∧ Hid (Below w6.heap.size w6 wr)) (fun _ _ _ i _ => 3 - (intOf i).toNat)
  case atStart => exact ⟨0, by omega, rfl, Lib.hid (Below.refl _ _)⟩
  case round =>
    obtain ⟨k, hk, rfl, HBR⟩ := hrel
    by_cases hlt : k < 3
    · obtain ⟨c0, c1, c2, c3⟩ := box4 (row_below HR6.out HBR.out)
      have HB7 := Lib.hid (below_then HB6.out HBR.out)
      have HBT := Lib.hid (Bc.bits_call (k : Nat) b ts.length bcap ts xa tx.length xc tx wr (H2.out _ HB7.out) (HS6.out _ HBR.out) (by omega) (HOO.out _ HB7.out).1 (HOO.out _ HB7.out).2)
      rw [HSZ.out k hlt] at HBT
      obtain ⟨hge, heq⟩ := HMIN.out k hlt
      generalize Bc.szB k ts tx.length = s at *
      have d1 : decide (s < zb) = false := by simp; omega
      clear HB7
      by_cases he : s = zb
      · have d2 : (s == zb) = true := by simpa using he
        have d3 : decide (k < kb) = false := decide_eq_false (by have := heq he; omega)
        clear hge heq he
        go_wp2_with fail
        refine HBT.out.mono ?_
        rintro e w7 ⟨rfl, hb7⟩
        have HB7 := Lib.hid (HBR.out.trans (hb7.mono HBR.out.size))
        obtain ⟨q0, q1, q2⟩ := box3 (row_below (row_below HQ6.out HBR.out) hb7)
        clear hb7 HBT c0 c1 c2 c3
        go_wp2
        go_roundw
        case rel => exact ⟨k + 1, by omega, by go_num, HB7⟩
        case measure => simp [intOf]; omega
      · have d2 : (s == zb) = false := by simpa using he
        clear hge heq he
        go_wp2_with fail
        refine HBT.out.mono ?_
        rintro e w7 ⟨rfl, hb7⟩
        have HB7 := Lib.hid (HBR.out.trans (hb7.mono HBR.out.size))
        clear hb7 HBT c0 c1 c2 c3
        go_wp2
        go_roundw
        case rel => exact ⟨k + 1, by omega, by go_num, HB7⟩
        case measure => simp [intOf]; omega
    · obtain rfl : k = 3 := by omega
      go_wp2
      go_ret
      exact ⟨rfl, HB6.out.trans (HBR.out.mono HB6.out.size)⟩
set_option maxRecDepth 100000 in
theorem lifted (os : Os) (started : os.Started) (H : Type) (enc : TypeId × Value → H) :
    ReturnsInHanded {} Tryz.checked os 5 .any (fun w args => (Rows.blockBestSpec.pre enc Tryz.prog Tryz.f5 Rows.blockBestRow.domain false w args ∧ laidMetH Tryz.prog [("burnish/block.ownOrder", Rows.laid_burnish_block_ownOrder)] w) ∧ sizedMet enc Tryz.prog Tryz.f5 (OpenSpec.ofChange Rows.blockBestSpec) false w args)
      (Rows.blockBestSpec.post enc Tryz.prog Tryz.f5 false true false false) := by
  refine returnsInHanded_of_change_and (C := Tryz.checked) (X := fun w _ => laidMetH Tryz.prog [("burnish/block.ownOrder", Rows.laid_burnish_block_ownOrder)] w) (fun _ _ _ hh h => h.of_heap hh) own started (by kernel_rfl) Tryz.func5
    (ChangeSpec.witness_shaped (enc := enc) (C := Tryz.checked) (os := os) (X := fun w _ => laidMetH Tryz.prog [("burnish/block.ownOrder", Rows.laid_burnish_block_ownOrder)] w) false (World.laidAll Tryz.prog os [("burnish/block.ownOrder", Rows.laid_burnish_block_ownOrder)]) #[.agg #[.slice none 0 0, .slice none 0 0, .int .i64 0, .bool false]] 8 (World.laidAll_os _ _ _)
      (World.shaped_of_ZipB (by kernel_rfl) (by kernel_rfl)) (by kernel_rfl) (by kernel_rfl) (by kernel_rfl)
      (by rw [MakeChecks.laidMetH_plain _ _ _ (by kernel_rfl)]; exact laidMet_laidAll _ (by kernel_rfl) (by kernel_rfl))) ?_
  intro W base args ds gs before hval0 hW _ hsz0 hL _
  have hval : ∀ (j : Nat) t v, Tryz.f5.params[j]? = some t → args[j]? = some v → Value.okWide Tryz.prog W .any base t v := hval0
  have hsz : (DataW.weightsEach Tryz.prog (Tryz.f5.params.toList ++ Rows.blockBestSpec.plain.varTypes Tryz.prog) (ds ++ gs)).all (· ≤ reachBytes) = true := hsz0
  have hW' := hW
  obtain ⟨p, q, hA0, hV, rfl, hfz, hnd⟩ := hW
  have hA : DataW.TrodAll enc Tryz.prog W 0 (fun _ => true) true Tryz.f5.params.toList args.toList ds p := hA0
  rw [Tryz.params5] at hA hval hsz
  obtain ⟨v0, vs0, d0, ds0, p0, q0, hargs, rfl, rfl, h0, r0⟩ := trodAll_cons hA
  obtain ⟨rfl, rfl, rfl⟩ := trodAll_nil r0
  obtain rfl : args = #[v0] := by cases args; simp_all
  obtain ⟨rfl, rfl⟩ := trodVars_none hV
  clear hsz0
  have k0 := h0
  have lt0 : ∀ x ∈ p0, x.block < W.heap.size := by obtain ⟨m, hm⟩ := k0; exact DataW.trod_lt m _ _ _ hm
  obtain ⟨a0, len0, cap0, l0, b0, blen0, bcap0, m0, n0, g0, rfl, w0, c0, x0, y0, z0⟩ := open_case Tryz.underlying25 (by kernel_rfl) Tryz.underlying22 Tryz.underlying5 (by kernel_rfl) (by kernel_rfl) Tryz.underlying23 Tryz.underlying59 Tryz.underlying3 Tryz.underlying3 (by kernel_rfl) (by kernel_rfl) rfl rfl (by kernel_rfl) (by kernel_rfl) Tryz.underlying3 Tryz.underlying4 (by kernel_rfl) (by kernel_rfl) (by kernel_rfl) (by kernel_rfl) rfl rfl rfl rfl (hval 0 25 v0 rfl rfl) h0 hsz 0 rfl rfl
  clear hA0 hval0 hsz
  refine (walk a0 len0 cap0 l0 b0 blen0 bcap0 m0 n0 g0 W w0 c0 x0 y0 z0 hL).mono fun e W' ⟨he, bel⟩ => ?_
  subst he
  exact ⟨_, rfl, _, _, _, [], _, [], hW', trodAll_mk1 (shut_bool Tryz.underlying4 _), (trodAll_cons_mk (Below.trod laidOut (by kernel_rfl) (of_decide_eq_true (by kernel_rfl)) k0 bel lt0) trodAll_mk0), rfl, bel.frame _, fun h => by cases h⟩

theorem proved : Rows.BlockBestSaid :=
  OpenClaim.holds_of_wide 5 Tryz.f5 rfl rfl rfl rfl rfl rfl rfl ⟨rfl, rfl, rfl, rfl, rfl⟩ rfl rfl rfl rfl rfl (by kernel_rfl) Tryz.func5 (by kernel_rfl)
    (of_decide_eq_true (by kernel_rfl)) (by unfold Func.isWrapper; first | (rw [if_pos (by decide +kernel)]; kernel_rfl) | (rw [if_neg (by decide +kernel)]; exact ⟨rfl, rfl⟩))
    (fun os started H enc _ => lifted os started H enc)
theorem card : Rows.BlockBestCardSaid :=
  Claim7.holds_tied_plain_at .later [] [.data] true (true, "65bad6b21cccdc52d41acf115da777dcdd277440d6b12d91fd4e78b772aaaea0") true proved (fun _ h => by cases h) (by kernel_rfl) (fun _ h => by cases h) blockBest_row_tie rfl ⟨rfl, rfl⟩ (by kernel_rfl) rfl
    (fun f fn hf hfn => by
      obtain rfl : f = 5 := Option.some.inj ((show Tryz.prog.funcNamed "burnish/burnishlaw10.BlockBest" = some 5 by kernel_rfl).symm.trans hf) |>.symm
      obtain rfl : fn = Tryz.f5 := (Option.some.inj (Tryz.func5.symm.trans hfn)).symm
      exact ⟨by kernel_rfl, fun j t ht => by
        rw [Tryz.params5] at ht
        have hm : t ∈ [25] := by simpa using Array.mem_of_getElem? ht
        have hall : ([25].all fun u => !Tryz.prog.wantsStandIn u) = true := by kernel_rfl
        exact (show Tryz.prog.wantsStandIn t = false by simpa using List.all_eq_true.1 hall t hm)⟩)
    (by kernel_rfl)
#print axioms proved
#print axioms card
end Go.Proofs.YtpoilaappcjbeaaGreatDoor.BlockBest
