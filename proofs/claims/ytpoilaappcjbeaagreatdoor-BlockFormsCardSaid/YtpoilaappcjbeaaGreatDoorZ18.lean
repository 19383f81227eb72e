/- merge.least: its contract, for two symbols or more. slices.Repeat of one 1, none or one time: its contract. The document's codes in memory. The document's list of codes: its contract. Two lists of numbers of the call's own, apart. merge.least: its contract. -/
import Derived.Test.YtpoilaappcjbeaaGreatDoorZ17
import Derived.Laws.CopyOwn
import Derived.Deep.LoopGhost
import Derived.Deep.DeepCutAuto
set_option linter.unusedSimpArgs false
set_option linter.unusedVariables false
section
namespace Go.Proofs.YtpoilaappcjbeaaGreatDoor
open Go.RowKit Go.Shelf
open Mg (Itm)
attribute [local go_sem] Oper.semAt_some

set_option maxRecDepth 100000 in
set_option maxHeartbeats 8000000 in
theorem least_two (a : Option Addr) (n cap : Nat) (R : List Int) (L : Nat) (w : World) (h : Is .i64 w a n cap R) (hn : 2 ≤ n) (hn3 : n ≤ 300) (hL : 1 ≤ L) (hL16 : L ≤ 16) (hnL : n ≤ 2 ^ L) (hR : ∀ x ∈ R, 0 ≤ x ∧ x ≤ 1099511627776) :
    Calls Tryz.prog 114 #[.slice a n cap, .int .i64 (L : Nat)] w (LeastPost w R L) := by
  have HL := Lib.hid h.hlen
  have H := Lib.hid h
  have HR := Lib.hid (fun r (hr : r ≤ 16) (x : Int) hx => (show 0 ≤ x ∧ x ≤ 1152921504606846976 from by
    have h1 := Mg.rnd_weight R 1099511627776 (by omega) hR r x hx
    have h2 : (2 : Int) ^ r ≤ 2 ^ 16 := by exact_mod_cast Nat.pow_le_pow_right (by omega) hr
    have h3 := Int.mul_le_mul_of_nonneg_left h2 (show (0 : Int) ≤ 1099511627776 by omega)
    simp only [Int.reducePow] at h3
    omega))
  have HROOM := Lib.hid (Mg.rnd_room R (by rw [HL.out]; omega) L (by omega) (by rw [HL.out]; exact hnL))
  clear h hR hnL
  refine (callsIn_wide (n := 3)).1 ?_
  have hro : (Fence.wide).round = none := rfl
  refine callsIn_of_wp_marks Tryz.func114 rfl trivial ?_ hro
  simp only [Tryz.ntmps114, List.size_toArray, List.length_cons, List.length_nil, Nat.reduceAdd, Nat.reduceSub, Array.replicate_succ, Array.replicate_zero, List.push_toArray, List.append_toArray, List.nil_append, List.cons_append]
  have d2 : decide ((n : Int) < 2) = false := by simp; omega
  gi_wp2_with (gi_at_make; refine wplIn_make_full tyRs rfl _ _ rfl w.heap.size .i64 .i64 _ _ L rfl rfl rfl rfl (by omega) (by omega) (Nat.le_refl _) ?_)
  intro w1 own1 hg1
  have hb1 : Below w.heap.size w w1 := (Below.refl _ _).grown hg1 (Nat.le_refl _) (by simp)
  have HS : Hid (RS w w1 R L w.heap.size (fun _ => .nilIface) 0) := Lib.hid ⟨hb1, by rw [← made_rvs, Nat.mul_one]; exact own1, fun i hi => by omega, fun i hi => by omega⟩
  clear own1 hg1 hb1
  generalize hrb : w.heap.size = rb at HS ⊢
  have HRB := Lib.hid hrb
  clear hrb
  gi_wp2
  gi_loopw [6, 25] (fun lv i wr => ∃ (k : Nat) (vs : Nat → Value), k ≤ L ∧ i = .int .i64 k ∧ (∃ a c, lv = .slice a (Mg.rnd R k).length c ∧ Its wr a (Mg.rnd R k).length c (Mg.rnd R k)) ∧ Hid (RS w wr R L rb vs k)) (fun _ i _ => L - (intOf i).toNat)
  case atStart => exact ⟨0, _, by omega, rfl, ⟨none, 0, rfl, its_nil _⟩, HS⟩
  case round =>
    obtain ⟨k, vs, hk, rfl, ⟨la, lc, rfl, hit⟩, HK⟩ := hrel
    have HIT := Lib.hid hit
    clear hit
    by_cases hlt : k < L
    · have hsz := Mg.rnd_size R k
      rw [HL.out] at hsz
      gi_wp2_with fail
      refine ⟨trivial, (callsIn_wide.2 (next_any a n cap R la _ lc (Mg.rnd R k) wr (H.out.mono HK.out.bel) HIT.out (by omega) (by omega) (HR.out k (by omega)))).mono ?_⟩
      rintro e w3 ⟨v, rfl, own3, hb3⟩
      rw [← Mg.rnd_length R k] at own3
      obtain ⟨va, vc, rfl, _⟩ := own_its own3
      have HP := Lib.hid (HK.out.put hlt hb3 own3)
      have HI3 : Hid (Its (w3.setCell ⟨rb, k, none⟩ (.slice va (Mg.rnd R (k + 1)).length vc)) va (Mg.rnd R (k + 1)).length vc (Mg.rnd R (k + 1))) := Lib.hid (by
        have h1 := HP.out.each k (by omega)
        rw [if_pos rfl] at h1
        obtain ⟨va2, vc2, e, hi⟩ := own_its h1
        simp only [Value.slice.injEq, true_and] at e
        obtain ⟨rfl, rfl⟩ := e
        exact hi)
      obtain ⟨⟨z0, g0⟩, f0⟩ := own_slot (HK.out.mono hb3).rows k hlt
      clear own3 hb3 HIT HK
      gi_wp2
      go_roundw
      case rel => exact ⟨k + 1, _, by omega, by go_num, ⟨va, vc, rfl, HI3.out⟩, HP⟩
      case measure => simp [intOf]; omega
    · obtain rfl : L = k := by omega
      clear HIT HS
      have hw := HK.out.bel.size
      gi_wp2_with (gi_at_make; refine wplIn_make_full tyI rfl _ _ rfl w.heap.size .i64 .i64 _ _ n rfl rfl rfl rfl (by omega) (by omega) hw ?_)
      intro w2 own2 hg2
      have hb2 : Below wr.heap.size wr w2 := (Below.refl _ _).grown hg2 (Nat.le_refl _) (by simp)
      have own3 : w2.ownsRow w.heap.size 3 1 (.slice (some ⟨wr.heap.size, 0, none⟩) n n) n (ivs (Mg.outL R L (2 * R.length - 2) 0 0)) := by
        rw [Mg.outL_start, HL.out]
        have e := made_ints1 n
        rw [Nat.mul_one] at e
        rw [← e]; exact own2
      have HO := Lib.hid own3
      have HK2 := Lib.hid (HK.out.mono hb2)
      have hq : wr.heap.size < w2.heap.size := (own3.lt _ rfl).2
      have hrq : rb < wr.heap.size := (HK.out.rows.lt rb rfl).2
      have HVB := Lib.hid (fun i (hi : i < L) g hg => (show g < wr.heap.size from ((HK.out.each i hi).lt g hg).2))
      have hqw := HK.out.bel.size
      clear own2 own3 hg2 hb2 HK
      generalize wr.heap.size = q at *
      have ew : (2 : Int) * (n : Int) - 2 = ((2 * n - 2 : Nat) : Int) := by omega
      gi_wp2_with fail
      refine ⟨trivial, (Bk.backR_in Fence.wide 2 trivial rfl _ _ _ _ rfl _).mono ?_⟩
      rintro e w' ⟨rfl, rfl⟩
      have hz : ((w2.alloc (.cells #[.slice (some ⟨q, 0, none⟩) n n] 53)).alloc (.cells #[.int .i64 ((2 * n - 2 : Nat) : Int)] 3)).heap.size = w2.heap.size + 2 := by simp
      have h1 : Boxed (((w2.alloc (.cells #[.slice (some ⟨q, 0, none⟩) n n] 53)).alloc (.cells #[.int .i64 ((2 * n - 2 : Nat) : Int)] 3)).alloc (.cells #[.slice (some ⟨rb, 0, none⟩) L L] 179)) w2.heap.size 53 (.slice (some ⟨q, 0, none⟩) n n) :=
        (Boxed.alloc (Boxed.alloc (World.alloc_heap_new w2 _) _) _)
      have h2 : Boxed (((w2.alloc (.cells #[.slice (some ⟨q, 0, none⟩) n n] 53)).alloc (.cells #[.int .i64 ((2 * n - 2 : Nat) : Int)] 3)).alloc (.cells #[.slice (some ⟨rb, 0, none⟩) L L] 179)) (w2.heap.size + 1) 3 (.int .i64 ((2 * n - 2 : Nat) : Int)) :=
        Boxed.alloc (heap_alloc2_new _ _ _) _
      have h3 : Boxed (((w2.alloc (.cells #[.slice (some ⟨q, 0, none⟩) n n] 53)).alloc (.cells #[.int .i64 ((2 * n - 2 : Nat) : Int)] 3)).alloc (.cells #[.slice (some ⟨rb, 0, none⟩) L L] 179)) (w2.heap.size + 2) 179 (.slice (some ⟨rb, 0, none⟩) L L) := by
        rw [← hz]; exact World.alloc_heap_new _ _
      have hb5 : Below w2.heap.size w2 (((w2.alloc (.cells #[.slice (some ⟨q, 0, none⟩) n n] 53)).alloc (.cells #[.int .i64 ((2 * n - 2 : Nat) : Int)] 3)).alloc (.cells #[.slice (some ⟨rb, 0, none⟩) L L] 179)) :=
        (below_alloc2 w2 _ _).alloc (by simp; omega) _
      rw [hz]
      have hz5 : (((w2.alloc (.cells #[.slice (some ⟨q, 0, none⟩) n n] 53)).alloc (.cells #[.int .i64 ((2 * n - 2 : Nat) : Int)] 3)).alloc (.cells #[.slice (some ⟨rb, 0, none⟩) L L] 179)).heap.size = w2.heap.size + 3 := by simp
      revert h1 h2 h3 hb5 hz5
      generalize World.alloc _ _ = W5
      intro h1 h2 h3 hb5 hz5
      clear hz
      gi_wp2
      have hU : ∀ k, k < q → ¬ (k = q ∨ k = w2.heap.size + 1) := fun k hk h => by omega
      have hit := Bk.backR_iter Fence.wide 2 trivial rfl (by omega) (w2.heap.size + 2) (some ⟨rb, 0, none⟩) L L (fun k => k = q ∨ k = w2.heap.size + 1) vs 179 (by omega) W5 (fun h => by omega) h3
        (own_src (own_below HK2.out.rows hb5) vs (fun i hi => by rw [rvs_get _ _ _ _ hi, if_pos hi]) _ (hU rb hrq))
      have hbw : Below w.heap.size w W5 := below_then HK2.out.bel hb5
      have HLS : Hid (LS w W5 W5 n q w2.heap.size (w2.heap.size + 1) (2 * n - 2) (Mg.outL R L (2 * n - 2) 0 0)) := Lib.hid ⟨by rw [HL.out] at HO; exact own_below HO.out hb5, hbw, h1, h2, Bk.Kc.refl _ _, Nat.le_refl _⟩
      have HV5 := Lib.hid (fun i (hi : i < L) => own_below (HK2.out.each i hi) hb5)
      have hw5 := hbw.size
      have hroom : 2 * n - 2 ≤ (Mg.rnd R L).length := by rw [← HL.out]; exact HROOM.out
      have HTK := Lib.hid (fun m hm => Mg.tk_le R L (2 * n - 2) hroom m hm)
      have HEND : Hid (Mg.outL R L (2 * n - 2) L 0 = Mg.lens R L) := Lib.hid (by rw [← HL.out]; exact Mg.outL_end R L (by rw [HL.out]; exact hn))
      clear h1 h2 h3 hb5 hbw HK2 HO hU ew hroom HROOM
      generalize w2.heap.size = qb at *
      apply range_iterN (F := Fence.wide) (n := 3) (P := Tryz.prog) (gf := 129) (lb := #[.pointer (some ⟨qb + 2, 0, none⟩)]) (encs := fun x : Nat => #[.int .i64 (x : Nat), vs x]) (hseq := hit)
        (I := fun pre W => pre = Bk.down L pre.length ∧ LS w W5 W n q qb (qb + 1) (Mg.tk R L (2 * n - 2) pre.length) (Mg.outL R L (2 * n - 2) pre.length 0)) (Ix := fun _ _ _ => False)
      case has =>
        intro k x A K hK
        gi_wp2
        exact hK
      case hro => exact hro
      case h1 => omega
      case hg => rfl
      case hF => trivial
      case eg => exact enters_of Tryz.func129 (by kernel_rfl) rfl
      case hKt => exact fun h1 h2 => h1.trans h2
      case hKb => exact fun W l o o' hl hc => Bk.Kc.put W l o o' hl hc
      case hps => exact fun _ => rfl
      case hI =>
        rintro s A C row ⟨h1, h2⟩ hg hr
        exact ⟨h1, h2.abide hw5 hg hr⟩
      case hX => exact fun c s A C row hs _ _ => hs
      case h0 => exact ⟨rfl, HLS.out⟩
      case hout =>
        rintro c pre A _ h _
        exact h.elim
      case hend =>
        rintro xs A hS ⟨_, h2⟩ hK
        subst hS
        rw [Bk.down_length] at h2
        rw [HEND.out] at h2
        have hbx := h2.bx.cell
        have HP : Hid (LeastPost w R L (.returned (.slice (some ⟨q, 0, none⟩) n n)) (A.putObj W5.heap.size (.deferred none))) := Lib.hid (by
          have c := Bk.Kc.put (U := fun _ => False) A W5.heap.size _ (.deferred none) hK rfl
          refine ⟨_, rfl, ?_, h2.bel.grown (grownBy_putObj' A W5.heap.size (.deferred none)) h2.bel.size (fun r e => by cases e; exact hw5)⟩
          rw [HL.out]
          exact Bk.own_kc h2.own c (fun _ _ h => h))
        clear h2 hit
        gi_wp2
        refine ⟨by simp, .inl ⟨_, _, rfl, run_takeDeferred hK, ?_⟩⟩
        exact ⟨_, results_tmp rfl _ _ _, by exact HP.out⟩
      case hbo =>
        rintro k pre x A ⟨h1, h2⟩ ⟨n1, _, n2⟩
        have hx : x < L := by omega
        have hlen : L - pre.length = x + 1 := by omega
        have hA := Mg.rnd_length R x
        rw [HL.out] at hA
        have hsz := Mg.rnd_size R (x + 1)
        rw [HL.out] at hsz
        obtain ⟨g, vc, hv, hgq⟩ : ∃ g vc, vs x = .slice (some ⟨g, 0, none⟩) (Mg.rnd R (x + 1)).length vc ∧ g < q := by
          rcases own_nil_or (HV5.out x hx) with ⟨_, h⟩ | ⟨g, vc, hv, _⟩
          · omega
          · exact ⟨g, vc, hv, HVB.out x hx g (by rw [hv]; rfl)⟩
        have hvc : (Mg.rnd R (x + 1)).length ≤ vc := by
          have h := HV5.out x hx
          rw [hv] at h
          rcases own_nil_or h with ⟨h, _⟩ | ⟨_, _, h, hle, _⟩
          · simp at h
          · simp only [Value.slice.injEq] at h; omega
        have HITS : Hid (∀ W, Bk.Kc (fun k => k = q ∨ k = qb + 1) W5 W → Its W (some ⟨g, 0, none⟩) (Mg.rnd R (x + 1)).length vc (Mg.rnd R (x + 1))) := Lib.hid (fun W c => by
          have h := Bk.own_kc (HV5.out x hx) c (fun j hj hu => by
            have h1 := HVB.out x hx j hj
            rcases hu with hu | hu <;> omega)
          rw [hv] at h
          obtain ⟨a2, c2, e, hi⟩ := own_its h
          simp only [Value.slice.injEq, true_and] at e
          obtain ⟨rfl, rfl⟩ := e
          exact hi)
        have ht := HTK.out pre.length (by omega)
        rw [hlen] at ht
        have HCUT : Hid (Mg.syN (Mg.rnd R (x + 1)) (Mg.tk R L (2 * n - 2) pre.length) = Mg.cut R L (2 * n - 2) pre.length) := Lib.hid (by unfold Mg.cut; rw [hlen])
        have HTK1 : Hid (Mg.tk R L (2 * n - 2) (pre.length + 1) = 2 * (Mg.tk R L (2 * n - 2) pre.length - Mg.cut R L (2 * n - 2) pre.length)) := Lib.hid rfl
        have HNX : Hid (pre ++ [x] = Bk.down L (pre ++ [x]).length ∧ (pre ++ [x]).length = pre.length + 1) := Lib.hid ⟨by
          rw [List.length_append, List.length_singleton, Bk.down_succ, ← h1]
          congr 2; omega, by simp⟩
        have HSY := Lib.hid (fun j (hj : j ≤ (Mg.rnd R (x + 1)).length) => Mg.rnd_syms R (x + 1) j hj)
        rw [hv]
        have HL2 := Lib.hid h2
        have hm16 : pre.length ≤ 16 := by omega
        clear h1 h2 n1 n2 hlen hv hit HLS HEND HTK
        generalize pre.length = m at *
        generalize hAX : Mg.rnd R (x + 1) = AX at *
        generalize Mg.tk R L (2 * n - 2) m = t at *
        have hb0 := HL2.out.tk.cell
        gi_wp2
        clear hb0
        gi_loopw [12, 51] (fun s i wr => ∃ j : Nat, j ≤ t ∧ i = .int .i64 j ∧ s = .int .i64 (Mg.syN AX j : Nat) ∧ Hid (LS w W5 wr n q qb (qb + 1) t (Mg.outL R L (2 * n - 2) m (Mg.syN AX j)) ∧ KeepsFrom W5.heap.size A wr ∧ Bk.Kc (fun k => k = q ∨ k = qb + 1) A wr)) (fun _ i _ => t - (intOf i).toNat)
        case atStart => exact ⟨0, by omega, rfl, by rw [Mg.syN_zero]; rfl, Lib.hid ⟨by rw [Mg.syN_zero]; exact HL2.out, kf_refl _ _, Bk.Kc.refl _ _⟩⟩
        case round =>
          obtain ⟨j, hj, rfl, rfl, HJ⟩ := hrel
          have hsj := HSY.out j (by omega)
          rw [HL.out] at hsj
          by_cases hlt : j < t
          · have hjA : j < AX.length := by omega
            obtain ⟨b2, o2, hbe, _, c1, c2⟩ := (HITS.out wr HJ.out.1.kc).at' j hjA
            simp only [Option.some.injEq, Addr.mk.injEq, and_true] at hbe
            obtain ⟨rfl, rfl⟩ := hbe
            rw [Nat.zero_add] at c1 c2
            have HS1 := Mg.syN_succ AX j hjA
            have hs1 := HSY.out (j + 1) hjA
            rw [HL.out] at hs1
            obtain ⟨iw, ib, hI⟩ : ∃ iw ib, AX.getD j (0, false) = (iw, ib) := ⟨_, _, rfl⟩
            rw [hI] at c1 c2 HS1
            dsimp only at c1 c2 HS1
            have HJA := Lib.hid (And.intro (HJ.out.1.alloc (.cells #[.int .i64 iw, .bool ib] 186)) (And.intro (kf_alloc HJ.out.2.1 (.cells #[.int .i64 iw, .bool ib] 186)) (HJ.out.2.2.trans (Bk.Kc.alloc _ wr (.cells #[.int .i64 iw, .bool ib] 186)))))
            have hnew := World.alloc_heap_new wr (.cells #[.int .i64 iw, .bool ib] 186)
            cases ib with
            | false =>
              have HS2 := Lib.hid (show Mg.syN AX (j + 1) = Mg.syN AX j from by rw [HS1]; simp)
              clear HS1 hs1 hI HJ
              gi_wp2
              go_roundw
              case rel => exact ⟨j + 1, by omega, by go_num, by rw [HS2.out], Lib.hid (by rw [HS2.out]; exact HJA.out)⟩
              case measure => simp [intOf]; omega
            | true =>
              have HS2 := Lib.hid (show Mg.syN AX (j + 1) = Mg.syN AX j + 1 from by rw [HS1]; simp)
              rw [HS2.out] at hs1
              have hbx := HJA.out.1.bx.cell
              obtain ⟨_, f0⟩ := own_slot HJA.out.1.own (Mg.syN AX j) (by omega)
              have g0 := HJA.out.1.own.cellAt (Mg.syN AX j) (by omega)
              rw [ivs_get _ _ (by rw [Mg.outL_length, HL.out]; omega), Mg.outL_get _ _ _ _ _ _ (by rw [HL.out]; omega), if_neg (by omega), Nat.add_zero] at g0
              have HST := Mg.outL_set R L (2 * n - 2) m (Mg.syN AX j) (by rw [HL.out]; omega)
              have htm := Mg.tim_le R L (2 * n - 2) m (Mg.syN AX j)
              have HJ2 : Hid (LS w W5 ((wr.alloc (.cells #[.int .i64 iw, .bool true] 186)).setCell ⟨q, Mg.syN AX j, none⟩ (.int .i64 (((Mg.tim R L (2 * n - 2) m (Mg.syN AX j) : Nat) : Int) + 1))) n q qb (qb + 1) t (Mg.outL R L (2 * n - 2) m (Mg.syN AX (j + 1))) ∧
                  KeepsFrom W5.heap.size A ((wr.alloc (.cells #[.int .i64 iw, .bool true] 186)).setCell ⟨q, Mg.syN AX j, none⟩ (.int .i64 (((Mg.tim R L (2 * n - 2) m (Mg.syN AX j) : Nat) : Int) + 1))) ∧
                  Bk.Kc (fun k => k = q ∨ k = qb + 1) A ((wr.alloc (.cells #[.int .i64 iw, .bool true] 186)).setCell ⟨q, Mg.syN AX j, none⟩ (.int .i64 (((Mg.tim R L (2 * n - 2) m (Mg.syN AX j) : Nat) : Int) + 1)))) :=
                Lib.hid ⟨by rw [HS2.out, ← HST]; exact HJA.out.1.set (by omega) (by omega) _ _, kf_set HJA.out.2.1 _ _, HJA.out.2.2.trans (Bk.Kc.set (U := fun k => k = q ∨ k = qb + 1) _ ⟨q, _, none⟩ (.inl rfl) _)⟩
              clear HS1 hI HJ HST HJA
              generalize Mg.tim R L (2 * n - 2) m (Mg.syN AX j) = tm at *
              gi_wp2
              go_roundw
              case rel => exact ⟨j + 1, by omega, by go_num, int_eq (by rw [HS2.out]; omega), HJ2⟩
              case measure => simp [intOf]; omega
          · obtain rfl : t = j := by omega
            have hbt := HJ.out.1.tk.cell
            have fbt := HJ.out.1.tk.frozen
            have hst := Mg.syN_le AX t
            have HN : Hid (Mg.tk R L (2 * n - 2) (m + 1) = 2 * (t - Mg.syN AX t)) := Lib.hid (by rw [HTK1.out, HCUT.out])
            have HE : Hid (LS w W5 (wr.setCell ⟨qb + 1, 0, none⟩ (.int .i64 ((2 * (t - Mg.syN AX t) : Nat) : Int))) n q qb (qb + 1) (Mg.tk R L (2 * n - 2) (m + 1)) (Mg.outL R L (2 * n - 2) (m + 1) 0) ∧
                KeepsFrom W5.heap.size A (wr.setCell ⟨qb + 1, 0, none⟩ (.int .i64 ((2 * (t - Mg.syN AX t) : Nat) : Int))) ∧ Bk.Kc (fun k => k = q ∨ k = qb + 1) A (wr.setCell ⟨qb + 1, 0, none⟩ (.int .i64 ((2 * (t - Mg.syN AX t) : Nat) : Int)))) :=
              Lib.hid ⟨by rw [HN.out, ← Mg.outL_next, ← HCUT.out]; exact HJ.out.1.take (by omega) (by omega) (by omega) _, kf_set HJ.out.2.1 _ _, HJ.out.2.2.trans (Bk.Kc.set (U := fun k => k = q ∨ k = qb + 1) _ ⟨qb + 1, 0, none⟩ (.inr rfl) _)⟩
            have e2 : (2 : Int) * ((t : Int) - (Mg.syN AX t : Int)) = ((2 * (t - Mg.syN AX t) : Nat) : Int) := by omega
            clear HJ HN
            generalize Mg.syN AX t = sy at *
            gi_wp2
            rw [show (2 : Int) * ((t - sy : Nat) : Int) = ((2 * (t - sy) : Nat) : Int) by omega]
            refine ⟨HE.out.2.1, HE.out.2.2, HNX.out.1, ?_⟩
            rw [HNX.out.2]
            exact HE.out.1
end Go.Proofs.YtpoilaappcjbeaaGreatDoor
end

section
namespace Go.Proofs.YtpoilaappcjbeaaGreatDoor
open Go.RowKit

theorem mul64_any (c : Int) (hc : c = 0 ∨ c = 1) (w : World) : Calls Tryz.prog 111 #[.int .u64 1, .int .u64 c] w fun e w' => e = .returned (.tuple #[.int .u64 0, .int .u64 c]) ∧ w = w' := by
  have h64 : ∀ (c : Int) (w : World), (c = 0 ∨ c = 1) → Calls Tryz.prog 118 #[.int .u64 1, .int .u64 c] w fun e w' => e = .returned (.tuple #[.int .u64 0, .int .u64 c]) ∧ w = w' := by
    intro c w hc
    rcases hc with rfl | rfl
    · go_enter Tryz.func118, Tryz.ntmps118
      go_wp2
      go_ret2
      exact ⟨rfl, rfl⟩
    · go_enter Tryz.func118, Tryz.ntmps118
      go_wp2
      go_ret2
      exact ⟨rfl, rfl⟩
  go_enter Tryz.func111, Tryz.ntmps111
  go_wp2_with fail
  refine (h64 c _ hc).mono ?_
  rintro e w' ⟨rfl, rfl⟩
  go_wp2
  go_ret2
  exact ⟨rfl, rfl⟩
def RepPost (w : World) (n : Nat) (e : Ending) (w' : World) : Prop := ∃ v, e = .returned v ∧ w'.ownsRow w.heap.size 3 1 v n (ivs (List.replicate n 1)) ∧ Below w.heap.size w w'
set_option maxHeartbeats 1000000 in
theorem repeat0_any (g : Nat) (w : World) (h : w.cell? ⟨g, 0, none⟩ = some (.int .i64 1)) : Calls Tryz.prog 96 #[.slice (some ⟨g, 0, none⟩) 1 1, .int .i64 0] w (RepPost w 0) := by
  go_enter Tryz.func96, Tryz.ntmps96
  go_wp2_with fail
  refine (mul64_any 0 (.inl rfl) w).mono ?_
  rintro e w' ⟨rfl, rfl⟩
  go_wp2_with (at_make; refine wpl_make_full tyI rfl _ _ rfl w.heap.size .i64 .i64 _ _ 0 rfl rfl rfl rfl (by omega) (by omega) (Nat.le_refl _) ?_)
  intro w1 own1 hg1
  have hb1 : Below w.heap.size w w1 := (Below.refl _ _).grown hg1 (Nat.le_refl _) (by simp)
  have hO := Lib.hid (And.intro own1 hb1)
  clear own1 hg1 hb1
  go_wp2_with (with_reducible refine wpList_copy_nothing rfl _ _ _ _ rfl 3 Tryz.underlying53 (by kernel_rfl) _ _ _ _ _ _ rfl rfl rfl ?_)
  go_wp2
  go_loop [8] (fun i => i = .int .i64 0) (fun _ => 0)
  case atStart => rfl
  case round =>
    obtain rfl := hrel
    go_wp2
    go_ret
    exact ⟨_, rfl, by have := hO.out.1; simpa [madeCells, ivs] using this, hO.out.2⟩
set_option maxHeartbeats 1000000 in
set_option maxRecDepth 100000 in
theorem repeat1_any (g : Nat) (w : World) (h : w.cell? ⟨g, 0, none⟩ = some (.int .i64 1)) (hgl : g < w.heap.size) : Calls Tryz.prog 96 #[.slice (some ⟨g, 0, none⟩) 1 1, .int .i64 1] w (RepPost w 1) := by
  go_enter Tryz.func96, Tryz.ntmps96
  go_wp2_with fail
  refine (mul64_any 1 (.inr rfl) w).mono ?_
  rintro e w' ⟨rfl, rfl⟩
  go_wp2_with (at_make; refine wpl_make_full tyI rfl _ _ rfl w.heap.size .i64 .i64 _ _ 1 rfl rfl rfl rfl (by omega) (by omega) (Nat.le_refl _) ?_)
  intro w1 own1 hg1
  have hb1 : Below w.heap.size w w1 := (Below.refl _ _).grown hg1 (Nat.le_refl _) (by simp)
  obtain ⟨cur, hcz, hrow⟩ : ∃ cur : List Value, cur.length = 1 ∧ w1.heap[w.heap.size]? = some (.cells cur.toArray 3 (0, 0)) := by
    rcases own1.2 with ⟨h1, _⟩ | ⟨g2, cap2, cur, h1, _, hg, _, _, hsz, _⟩
    · simp at h1
    · simp only [Value.slice.injEq, Option.some.injEq, Addr.mk.injEq, and_true, true_and] at h1
      obtain ⟨rfl, rfl⟩ := h1
      exact ⟨cur.toList, by simpa using hsz, by simpa using hg⟩
  have hc : w1.cell? ⟨g, 0, none⟩ = some (.int .i64 1) := (hb1.cell (p := ⟨g, 0, none⟩) hgl).trans h
  have hO := Lib.hid (And.intro hrow (And.intro hb1 hcz))
  have hC := Lib.hid hc
  clear own1 hg1 hb1 hrow hcz hc h
  obtain ⟨w2, hrun, HR⟩ : ∃ w2, (Builtin.copy_ #[53, 53] 3 #[.slice (some ⟨w.heap.size, 0, none⟩) 1 1, .slice (some ⟨g, 0, none⟩) 1 1]).run Tryz.prog w1 = .ok (.int .i64 1) w2 ∧ Hid (w2.heap[w.heap.size]? = some (.cells #[.int .i64 1] 3 (0, 0)) ∧ Below w.heap.size w w2) := by
    have e : (cur.toArray.toList.take 0 ++ [Value.int .i64 1] ++ cur.toArray.toList.drop (0 + [Value.int .i64 1].length)).toArray = #[.int .i64 1] := by
      match cur, hO.out.2.2 with
      | [x], _ => rfl
    have h1 := run_copy_row (P := Tryz.prog) w1 53 53 3 3 w.heap.size 0 1 1 ⟨g, 0, none⟩ 1 1 cur.toArray 3 [.int .i64 1] Tryz.underlying53 (by kernel_rfl) hO.out.1 rfl (fun j v hj => by
      match j, hj with
      | 0, hj => cases hj; exact hC.out) (by simp [hO.out.2.2]) (by intro v hv; simp at hv; subst hv; rfl)
    rw [e] at h1
    exact ⟨_, h1, Lib.hid ⟨setRow_heap _ _ _ _ _ _ hO.out.1, below_setRow (B := w.heap.size) (w0 := w) (g := w.heap.size) hO.out.2.1 (Nat.le_refl _) _⟩⟩
  go_wp2
  go_loop [8] (fun i => i = .int .i64 1) (fun _ => 0)
  case atStart => rfl
  case round =>
    obtain rfl := hrel
    go_wp2
    go_ret
    refine ⟨_, rfl, ⟨by simp [ivs], .inr ⟨w.heap.size, 1, _, rfl, Nat.le_refl _, HR.out.1, by omega, by unfold maxLen; omega, ?_, ?_⟩⟩, HR.out.2⟩
    · rfl
    · rfl
end Go.Proofs.YtpoilaappcjbeaaGreatDoor
end

section
namespace Go.Proofs.YtpoilaappcjbeaaGreatDoor
open Go.RowKit

/-- A symbol and where its bits lie. -/
structure Cd where
  s : Int
  a : Option Addr
  len : Nat
  cap : Nat
  b : List Bool
instance : Inhabited Cd := ⟨⟨0, none, 0, 0, []⟩⟩
def cth (cs : List Cd) (i : Nat) : Cd := cs.getD i default
def cvs (cs : List Cd) : List Value := cs.flatMap fun c => [.int .i64 c.s, .slice c.a c.len c.cap]
theorem cvs_length (cs : List Cd) : (cvs cs).length = cs.length * 2 := by
  induction cs with
  | nil => rfl
  | cons c cs ih => simp only [cvs, List.flatMap_cons, List.length_append, List.length_cons, List.length_nil] at *; omega
theorem cvs_append (cs ds : List Cd) : cvs (cs ++ ds) = cvs cs ++ cvs ds := by simp [cvs]
theorem cvs_get (cs : List Cd) : ∀ i, i < cs.length → (cvs cs)[i * 2]? = some (.int .i64 (cth cs i).s) ∧ (cvs cs)[i * 2 + 1]? = some (.slice (cth cs i).a (cth cs i).len (cth cs i).cap) := by
  induction cs with
  | nil => intro i hi; simp at hi
  | cons c cs ih =>
    intro i hi
    have e : cvs (c :: cs) = .int .i64 c.s :: .slice c.a c.len c.cap :: cvs cs := rfl
    rw [e]
    cases i with
    | zero => exact ⟨rfl, rfl⟩
    | succ i =>
      have := ih i (by simp at hi; omega)
      have e3 : (i + 1) * 2 = i * 2 + 2 := by omega
      rw [e3]
      exact this
theorem cth_left (cs ds : List Cd) (i : Nat) (h : i < cs.length) : cth (cs ++ ds) i = cth cs i := by simp only [cth, List.getD]; rw [List.getElem?_append_left h]
theorem cth_last (cs : List Cd) (c : Cd) : cth (cs ++ [c]) cs.length = c := by simp [cth, List.getD]
/-- A slice of codes of the call's own. -/
structure Cds (w : World) (B : Nat) (v : Value) (n : Nat) (cs : List Cd) : Prop where
  hn : cs.length = n
  own : w.ownsRow B 157 2 v n (cvs cs)
  each : ∀ i, i < n → Is .i64 w (cth cs i).a (cth cs i).len (cth cs i).cap (bi (cth cs i).b)
  blk : ∀ i, i < n → ∀ ad, (cth cs i).a = some ad → ad.block < w.heap.size ∧ v.ownBlock ≠ some ad.block
  lo : ∀ i, i < n → ∀ ad, (cth cs i).a = some ad → B ≤ ad.block
theorem tyC : RowTy Tryz.prog 112 157 (.agg #[.int .i64 0, .slice none 0 0]) 2 32 := ⟨Tryz.underlying112, by kernel_rfl, rfl, by omega⟩
theorem src_code (w : World) (s : Int) (a : Option Addr) (len cap : Nat) : SrcRow (w.alloc (.cells #[.int .i64 s, .slice a len cap] 157)) (some ⟨w.heap.size, 0, none⟩) 1 1 (cvs [⟨s, a, len, cap, []⟩]) 2 :=
  src_new w #[.int .i64 s, .slice a len cap] 157 1 1 2 rfl (by intro u hu; simp at hu; rcases hu with rfl | rfl <;> rfl)
theorem Cds.kept {w w' : World} {T : Nat → Prop} {B : Nat} {v : Value} {n : Nat} {cs : List Cd} (h : Cds w B v n cs) (c : Ch w w' T) (h1 : ∀ k, v.ownBlock = some k → ¬ T k) (h2 : ∀ i, i < n → ∀ ad, (cth cs i).a = some ad → ¬ T ad.block) : Cds w' B v n cs :=
  ⟨h.hn, c.own h.own h1, fun i hi => (h.each i hi).kept c (h2 i hi), fun i hi ad e => ⟨Nat.lt_of_lt_of_le (h.blk i hi ad e).1 c.size, (h.blk i hi ad e).2⟩, h.lo⟩
theorem Cds.mono {w w' : World} {B : Nat} {v : Value} {n : Nat} {cs : List Cd} (h : Cds w B v n cs) (hb : Below w.heap.size w w') : Cds w' B v n cs :=
  h.kept (Ch.of_below (T := fun _ => False) hb) (fun _ _ h => h) (fun _ _ _ _ h => h)
theorem Cds.push {w w' : World} {B : Nat} {v v' : Value} {n : Nat} {cs : List Cd} (h : Cds w B v n cs) (c : Cd) (hi : Is .i64 w c.a c.len c.cap (bi c.b)) (hb : ∀ ad, c.a = some ad → ad.block < w.heap.size ∧ v.ownBlock ≠ some ad.block) (hlo : ∀ ad, c.a = some ad → B ≤ ad.block)
    (o : w'.ownsRow B 157 2 v' (n + 1) (cvs cs ++ cvs [c])) (ch : Ch w w' (fun k => v.ownBlock = some k)) (f : ∀ k, v'.ownBlock = some k → v.ownBlock = some k ∨ w.heap.size ≤ k) : Cds w' B v' (n + 1) (cs ++ [c]) := by
  have hcn := h.hn
  have far : ∀ ad : Addr, ad.block < w.heap.size ∧ v.ownBlock ≠ some ad.block → v'.ownBlock ≠ some ad.block := fun ad h e => (f _ e).elim h.2 (fun h' => by omega)
  refine ⟨by simp [hcn], by rw [cvs_append]; exact o, fun i hi' => ?_, fun i hi' ad e => ?_, fun i hi' ad e => ?_⟩
  · by_cases hin : i < n
    · rw [cth_left _ _ _ (by omega)]; exact (h.each i hin).kept ch (fun ad e => (h.blk i hin ad e).2)
    · obtain rfl : i = cs.length := by omega
      rw [cth_last]; exact hi.kept ch (fun ad e => (hb ad e).2)
  · by_cases hin : i < n
    · rw [cth_left _ _ _ (by omega)] at e
      exact ⟨Nat.lt_of_lt_of_le (h.blk i hin ad e).1 ch.size, far ad (h.blk i hin ad e)⟩
    · obtain rfl : i = cs.length := by omega
      rw [cth_last] at e
      exact ⟨Nat.lt_of_lt_of_le (hb ad e).1 ch.size, far ad (hb ad e)⟩
  · by_cases hin : i < n
    · rw [cth_left _ _ _ (by omega)] at e; exact h.lo i hin ad e
    · obtain rfl : i = cs.length := by omega
      rw [cth_last] at e; exact hlo ad e
theorem Cds.cells {w : World} {B : Nat} {v : Value} {n : Nat} {cs : List Cd} (h : Cds w B v n cs) : ∃ a cap, v = .slice a n cap ∧ ∀ i, i < n → ∃ g, a = some ⟨g, 0, none⟩ ∧ w.cell? ⟨g, i * 2, none⟩ = some (.int .i64 (cth cs i).s) ∧ w.cell? ⟨g, i * 2 + 1, none⟩ = some (.slice (cth cs i).a (cth cs i).len (cth cs i).cap) := by
  rcases own_nil_or h.own with ⟨rfl, rfl⟩ | ⟨g, cap, rfl, _⟩
  · exact ⟨none, 0, rfl, fun i hi => absurd hi (by omega)⟩
  · refine ⟨_, cap, rfl, fun i hi => ⟨g, rfl, ?_⟩⟩
    obtain ⟨t0, t1⟩ := cvs_get cs i (by rw [h.hn]; exact hi)
    rw [h.own.cellAt (i * 2) (by omega), h.own.cellAt (i * 2 + 1) (by omega)]
    exact ⟨t0, t1⟩
theorem Cds.nil (w : World) (B : Nat) : Cds w B (.slice none 0 0) 0 [] := ⟨rfl, World.ownsRow_nil _ _ _ _, fun i hi => absurd hi (by omega), fun i hi => absurd hi (by omega), fun i hi => absurd hi (by omega)⟩
end Go.Proofs.YtpoilaappcjbeaaGreatDoor
end

section
namespace Go.Proofs.YtpoilaappcjbeaaGreatDoor
open Go.RowKit

def ListPost (w : World) (n : Nat) (ss zs : List Int) (e : Ending) (w' : World) : Prop :=
  ∃ v cs, e = .returned v ∧ Cds w' w.heap.size v n cs ∧ cs.map Cd.s = ss ∧ cs.map Cd.b = Cn.codes zs ∧ Below w.heap.size w w'
/-- A slice of the call's own, where it lies. -/
theorem own_at {w : World} {base : Nat} {v : Value} {n : Nat} {l : List Int} (h : w.ownsRow base 3 1 v n (ivs l)) (hw : Wf l) :
    ∃ a cap, v = .slice a n cap ∧ Is .i64 w a n cap l ∧ ∀ ad, a = some ad → base ≤ ad.block ∧ ad.block < w.heap.size := by
  obtain ⟨a, cap, rfl, hi⟩ := own_is h hw
  exact ⟨a, cap, rfl, hi, fun ad e => h.lt ad.block (by rw [e]; rfl)⟩
theorem cell_at {k : IntKind} {w : World} {b off len cap : Nat} {l : List Int} (h : Is k w (some ⟨b, off, none⟩) len cap l) (i : Nat) (hi : i < len) : w.cell? ⟨b, off + i, none⟩ = some (.int k (l.getD i 0)) := by
  obtain ⟨b', off', e, _, hc⟩ := h.at' i hi
  simp only [Option.some.injEq, Addr.mk.injEq, and_true] at e
  obtain ⟨rfl, rfl⟩ := e
  exact hc
set_option maxHeartbeats 4000000 in
set_option maxRecDepth 100000 in
theorem list_any (a : Option Addr) (n cap : Nat) (ss : List Int) (a2 : Option Addr) (cap2 : Nat) (zs : List Int) (w : World) (h : Is .i64 w a n cap ss) (h2 : Is .i64 w a2 n cap2 zs) (hn : n ≤ 10000000) (hz : ∀ x ∈ zs, 0 ≤ x ∧ x ≤ 16) :
    Calls Tryz.prog 92 #[.slice a n cap, .slice a2 n cap2] w (ListPost w n ss zs) := by
  have HL := Lib.hid h.hlen
  have HL2 := Lib.hid h2.hlen
  have H := Lib.hid h
  have H2 := Lib.hid h2
  have HZ := Lib.hid hz
  clear h h2 hz
  go_enter Tryz.func92, Tryz.ntmps92
  go_wp2
  go_loopg [5, 6] n (fun gk v i wr => ∃ (k : Nat) (cs : List Cd), k ≤ n ∧ gk = n - k ∧ i = .int .i64 k ∧ Below w.heap.size w wr ∧ Hid (Cds wr w.heap.size v k cs ∧ cs.map Cd.s = ss.take k ∧ cs.map Cd.b = Cn.codes (zs.take k)))
  case atStart => exact ⟨0, [], by omega, by omega, rfl, Below.refl _ _, Lib.hid ⟨Cds.nil _ _, by simp, by simp [Cn.codes]⟩⟩
  case round =>
    obtain ⟨k, cs, hk, rfl, rfl, hb, HC⟩ := hrel
    have hzw := hb.size
    by_cases hlt : k < n
    · obtain ⟨b1, off1, rfl, _, c1⟩ := (H.out.mono hb).at' k hlt
      have hkl : k < ss.length := by rw [HL.out]; exact hlt
      have hkz : k < zs.length := by rw [HL2.out]; exact hlt
      have T1 := Lib.hid (ints_snoc ss k hkl)
      have T2 := Lib.hid (Cn.codes_take zs k hkz)
      have hzk := HZ.out (zs.getD k 0) (by simp [List.getD, List.getElem?_eq_getElem hkz])
      have hfl := Cn.from_len (zs.take k) (fun x hx => (HZ.out x (List.mem_of_mem_take hx)).2)
      clear hkl hkz
      obtain ⟨zn, hzn⟩ := Int.eq_ofNat_of_zero_le hzk.1
      obtain ⟨b0, hb0⟩ : ∃ b0, Cn.from' (Cn.codes (zs.take k)) = b0 := ⟨_, rfl⟩
      have HB0 := Lib.hid hb0
      have HZN := Lib.hid hzn
      have hz16 : zn ≤ 16 := by omega
      rw [hb0] at hfl
      clear hzk hzn hb0
      obtain ⟨va, vc, rfl, hcl⟩ := HC.out.1.cells
      have HCL := Lib.hid hcl
      clear hcl
      rename World => wo
      go_upto_if 15 with (fail)
      go_cut [7] (fun s7 wx => ∃ bv, s7 = bv ∧ Below wo.heap.size wo wx ∧ Hid (wx.ownsRow wo.heap.size 3 1 bv b0.length (ivs (bi b0))))
      case first =>
        cases k with
        | zero =>
          have hbn : b0 = [] := by rw [← HB0.out]; rfl
          subst hbn
          go_wp2_with fail
          go_meet
          exact ⟨_, rfl, Below.refl _ _, Lib.hid (World.ownsRow_nil _ _ _ _)⟩
        | succ m =>
          obtain ⟨gg, rfl, _, hc2⟩ := HCL.out m (by omega)
          have hes := HC.out.1.each m (by omega)
          have hcl : (Cn.codes (zs.take (m + 1))).length = m + 1 := by rw [Cn.codes_length, List.length_take, HL2.out]; omega
          have hbm : (cth cs m).b = (Cn.codes (zs.take (m + 1))).getD m [] := by
            rw [← HC.out.2.2]
            have hcn := HC.out.1.hn
            simp [cth, List.getD, List.getElem?_eq_getElem (show m < cs.length by omega)]
          have hb0' : b0 = Cn.plus (cth cs m).b := by rw [← HB0.out, hbm, Cn.from_succ _ m hcl]
          have HB0' := Lib.hid hb0'
          have hlenb : (cth cs m).len = (cth cs m).b.length := by have := hes.hlen; rw [bi_length] at this; exact this.symm
          have hb16 : (cth cs m).len ≤ 16 := by rw [hlenb, ← Cn.plus_length, ← hb0']; exact hfl
          have HES := Lib.hid hes
          clear hes hcl hbm hb0' hlenb
          generalize hcm : cth cs m = c at *
          obtain ⟨c_s, c_a, c_len, c_cap, c_b⟩ := c
          have HCM := Lib.hid hcm
          clear hcm
          dsimp only at hc2 hb16
          go_wp2_with fail
          refine (plus_any _ _ _ c_b _ HES.out (by omega)).mono ?_
          rintro e w2 ⟨bv, rfl, own2, hb2⟩
          have e0 : c_b.length = b0.length := by rw [HB0'.out, Cn.plus_length]
          rw [e0, ← HB0'.out] at own2
          have H3 := Lib.hid own2
          clear own2 e0
          go_wp2_with fail
          go_meet
          exact ⟨bv, rfl, hb2, H3⟩
      case rest =>
        obtain ⟨bv, rfl, hb2, HV⟩ := hcut
        clear c1 HCL
        go_wp2
        go_loopg [7] (zn - b0.length) (fun gk s7 wx => ∃ (j : Nat) (bv : Value), j ≤ zn - b0.length ∧ gk = zn - b0.length - j ∧ s7 = bv ∧ Below wo.heap.size wo wx ∧ Hid (wx.ownsRow wo.heap.size 3 1 bv (b0 ++ List.replicate j false).length (ivs (bi (b0 ++ List.replicate j false)))))
        case atStart => exact ⟨0, _, by omega, by omega, rfl, hb2, by simpa using HV⟩
        case round =>
          obtain ⟨j, bv, hj, rfl, rfl, hb3, HJ⟩ := hrel
          obtain ⟨ba, bc, rfl, hbi, hbk⟩ := own_at HJ.out (bi_wf _)
          obtain ⟨u, hu⟩ : ∃ u, (b0 ++ List.replicate j false).length = u := ⟨_, rfl⟩
          have hu2 : u = b0.length + j := by rw [← hu]; simp
          rw [hu] at HJ hbi ⊢
          obtain ⟨b2, off2, rfl, _, c2⟩ := (H2.out.mono (below_then hb hb3)).at' k hlt
          rw [HZN.out] at c2
          have hzr := hb3.size
          have HU2 := Lib.hid hu2
          by_cases hjm : j < zn - b0.length
          · have dlt : decide (u < zn) = true := by simp; omega
            have hub : u ≤ 16 := by omega
            have H3 := Lib.hid (HJ.out.alloc (.cells #[Value.int .i64 0] 3))
            have hsrc : SrcRow (wr.alloc (.cells #[Value.int .i64 0] 3)) (some ⟨wr.heap.size, 0, none⟩) 1 1 (ivs (bi [false])) 1 := src_int wr 0
            have hbb : wo.heap.size ≤ (wr.alloc (.cells #[Value.int .i64 0] 3)).heap.size := by simp; omega
            have ej : (b0 ++ List.replicate j false) ++ [false] = b0 ++ List.replicate (j + 1) false := by rw [List.append_assoc, List.replicate_succ']
            have HEJ := Lib.hid ej
            have huj : u + 1 = (b0 ++ List.replicate (j + 1) false).length := by rw [← ej, List.length_append, hu]; rfl
            have HUJ := Lib.hid huj
            clear hu hu2 hbi hbk ej huj HJ
            go_wp2_with (at_builtin; refine wpl_append tyI rfl _ _ rfl H3.out hsrc rfl rfl (by omega) (by omega) hbb ?_)
            intro v4 w4 own4 hg4 _
            have hb4 : Below wo.heap.size wo w4 := (hb3.alloc hzr _).grown hg4 hbb (fun k hk => (H3.out.lt k hk).1)
            rw [← ivs_append, ← bi_append, HEJ.out, HUJ.out] at own4
            have H4 := Lib.hid own4
            clear own4 hg4 hsrc H3
            go_wp2
            go_roundg (zn - b0.length - (j + 1))
            case measure => omega
            case rel => exact ⟨j + 1, v4, by omega, rfl, rfl, hb4, H4⟩
          · obtain rfl : j = zn - b0.length := by omega
            have dlt : decide (u < zn) = false := by simp; omega
            have hub : u ≤ 32 := by omega
            have hn1 : b0 ++ List.replicate (zn - b0.length) false = Cn.nxt (Cn.codes (zs.take k)) (zs.getD k 0) := by
              rw [Cn.nxt_eq, HB0.out, HZN.out]; rfl
            have HN1 := Lib.hid hn1
            have c1 := cell_at (H.out.mono (below_then hb hb3)) k hlt
            have HCx := Lib.hid (HC.out.1.mono hb3)
            have hno : ∀ ad, ba = some ad → ad.block < wr.heap.size ∧ (Value.slice va k vc).ownBlock ≠ some ad.block := fun ad e =>
              ⟨(hbk ad e).2, fun he => by have h1 := (HC.out.1.own.lt _ he).2; have h2 := (hbk ad e).1; omega⟩
            have HBI := Lib.hid (And.intro hbi hno)
            have HLO : Hid (∀ ad, ba = some ad → w.heap.size ≤ ad.block) := Lib.hid (fun ad e => by have := (hbk ad e).1; have := hb.size; omega)
            clear hu hu2 hbi hbk hn1 hno HJ
            generalize ss.getD k 0 = sk at *
            have HCa := Lib.hid (HCx.out.mono (below_alloc wr (.cells #[.int .i64 sk, .slice ba u bc] 157)))
            have hoa := Lib.hid HCa.out.own
            have hsrc := src_code wr sk ba u bc
            have hbb : w.heap.size ≤ (wr.alloc (.cells #[.int .i64 sk, .slice ba u bc] 157)).heap.size := by simp; omega
            go_wp2_with (at_builtin; refine wpl_append3 tyC rfl _ _ rfl hoa.out hsrc rfl rfl (by omega) (by omega) hbb ?_)
            intro v5 w5 own5 c5 f5
            have HP := Lib.hid (HCa.out.push (Cd.mk sk ba u bc (b0 ++ List.replicate (zn - b0.length) false)) (HBI.out.1.mono (below_alloc wr _)) (fun ad e => ⟨by have := (HBI.out.2 ad e).1; simp; omega, (HBI.out.2 ad e).2⟩) HLO.out own5 c5 (by simpa using f5))
            have hb5 : Below w.heap.size w w5 := ((below_then hb hb3).alloc (by omega) _).trans (c5.below hbb (fun k hk => (hoa.out.lt k hk).1))
            have HR : Hid (Cds w5 w.heap.size v5 (k + 1) (cs ++ [Cd.mk sk ba u bc (b0 ++ List.replicate (zn - b0.length) false)]) ∧ (cs ++ [Cd.mk sk ba u bc (b0 ++ List.replicate (zn - b0.length) false)]).map Cd.s = ss.take (k + 1) ∧ (cs ++ [Cd.mk sk ba u bc (b0 ++ List.replicate (zn - b0.length) false)]).map Cd.b = Cn.codes (zs.take (k + 1))) := Lib.hid
              ⟨HP.out, by rw [List.map_append, HC.out.2.1, T1.out]; rfl, by rw [List.map_append, HC.out.2.2, T2.out, HN1.out]; rfl⟩
            clear own5 c5 f5 hsrc hoa HCa HP HBI HCx
            go_wp2
            go_roundg (n - (k + 1))
            case measure => omega
            case rel => exact ⟨k + 1, _, by omega, rfl, by go_num, hb5, HR⟩
    · obtain rfl : n = k := by omega
      have e1 : ss.take n = ss := List.take_of_length_le (by rw [HL.out]; exact Nat.le_refl _)
      have e2 : zs.take n = zs := List.take_of_length_le (by rw [HL2.out]; exact Nat.le_refl _)
      rw [e1, e2] at HC
      obtain ⟨va, vc, rfl, _⟩ := HC.out.1.cells
      clear e1 e2
      go_wp2
      go_ret
      exact ⟨_, cs, rfl, HC.out.1, HC.out.2.1, HC.out.2.2, hb⟩
end Go.Proofs.YtpoilaappcjbeaaGreatDoor
end

section
namespace Go.Proofs.YtpoilaappcjbeaaGreatDoor
open Go.RowKit

/-- Two lists of numbers of the call's own, apart. -/
structure P2 (w wx : World) (va vb : Value) (la lb : List Int) : Prop where
  bel : Below w.heap.size w wx
  oa : wx.ownsRow w.heap.size 3 1 va la.length (ivs la)
  ob : wx.ownsRow w.heap.size 3 1 vb lb.length (ivs lb)
  dj : ∀ k, va.ownBlock = some k → vb.ownBlock ≠ some k
theorem P2.mono {w wx wy : World} {va vb : Value} {la lb : List Int} (h : P2 w wx va vb la lb) (hb : Below wx.heap.size wx wy) : P2 w wy va vb la lb :=
  ⟨h.bel.trans (hb.mono h.bel.size), own_below h.oa hb, own_below h.ob hb, h.dj⟩
theorem P2.stepA {w wx wy : World} {va vb va' : Value} {la lb la' : List Int} (h : P2 w wx va vb la lb) (o : wy.ownsRow w.heap.size 3 1 va' la'.length (ivs la')) (c : Ch wx wy (fun k => va.ownBlock = some k)) (f : ∀ k, va'.ownBlock = some k → va.ownBlock = some k ∨ wx.heap.size ≤ k) : P2 w wy va' vb la' lb :=
  ⟨h.bel.trans (c.below h.bel.size (fun k hk => (h.oa.lt k hk).1)), o, c.own h.ob (fun k hk e => h.dj k e hk), fun k hk e => (f k hk).elim (fun e2 => h.dj k e2 e) (fun e2 => by have := (h.ob.lt k e).2; omega)⟩
theorem P2.stepB {w wx wy : World} {va vb vb' : Value} {la lb lb' : List Int} (h : P2 w wx va vb la lb) (o : wy.ownsRow w.heap.size 3 1 vb' lb'.length (ivs lb')) (c : Ch wx wy (fun k => vb.ownBlock = some k)) (f : ∀ k, vb'.ownBlock = some k → vb.ownBlock = some k ∨ wx.heap.size ≤ k) : P2 w wy va vb' la lb' :=
  ⟨h.bel.trans (c.below h.bel.size (fun k hk => (h.ob.lt k hk).1)), c.own h.oa (fun k hk e => h.dj k hk e), o, fun k hk e => (f k e).elim (h.dj k hk) (fun e2 => by have := (h.oa.lt k hk).2; omega)⟩
theorem wf_small {l : List Int} (h : ∀ x ∈ l, 0 ≤ x ∧ x ≤ 1000000000) : Wf l := fun n hn => by
  have := h n hn
  simp only [Lit.wf, IntKind.min, IntKind.max, IntKind.signed, IntKind.bits, Bool.and_eq_true, decide_eq_true_eq, if_true]
  simp; omega
theorem Cds.base {w : World} {B B' : Nat} {v : Value} {n : Nat} {cs : List Cd} (h : Cds w B v n cs) (hB : B' ≤ B) : Cds w B' v n cs :=
  ⟨h.hn, own_base h.own (fun k hk => Nat.le_trans hB (h.own.lt k hk).1), h.each, h.blk, fun i hi ad e => Nat.le_trans hB (h.lo i hi ad e)⟩
end Go.Proofs.YtpoilaappcjbeaaGreatDoor
end

section
namespace Go.Proofs.YtpoilaappcjbeaaGreatDoor
open Go.RowKit

set_option maxRecDepth 100000 in
set_option maxHeartbeats 4000000 in
theorem least_any (a : Option Addr) (n cap : Nat) (R : List Int) (L : Nat) (w : World) (h : Is .i64 w a n cap R) (hn3 : n ≤ 300) (hL : 1 ≤ L) (hL16 : L ≤ 16) (hnL : n ≤ 2 ^ L) (hR : ∀ x ∈ R, 0 ≤ x ∧ x ≤ 1099511627776) :
    Calls Tryz.prog 114 #[.slice a n cap, .int .i64 (L : Nat)] w (LeastPost w R L) := by
  by_cases hn : 2 ≤ n
  · exact least_two a n cap R L w h hn hn3 hL hL16 hnL hR
  · have HLN : Hid (Mg.lens R L = List.replicate n 1 ∧ R.length = n) := Lib.hid (by
      unfold Mg.lens; rw [h.hlen, if_pos (by omega)]; exact ⟨rfl, rfl⟩)
    have d2 : decide ((n : Int) < 2) = true := by simp; omega
    have hcell : (w.alloc (.cells #[Value.int .i64 1] 3)).cell? ⟨w.heap.size, 0, none⟩ = some (.int .i64 1) := by rw [World.cell?_alloc_at _ _ _ _ rfl]; rfl
    have hz : w.heap.size < (w.alloc (.cells #[Value.int .i64 1] 3)).heap.size := by simp
    have hb : Below w.heap.size w (w.alloc (.cells #[Value.int .i64 1] 3)) := below_alloc w _
    have H := Lib.hid (And.intro hcell (And.intro hz hb))
    have HR : Hid (∀ m, (m = 0 ∨ m = 1) → Calls Tryz.prog 96 #[.slice (some ⟨w.heap.size, 0, none⟩) 1 1, .int .i64 (m : Nat)] (w.alloc (.cells #[Value.int .i64 1] 3)) (RepPost (w.alloc (.cells #[Value.int .i64 1] 3)) m)) := Lib.hid (fun m hm => by
      rcases hm with rfl | rfl
      · exact repeat0_any _ _ hcell
      · exact repeat1_any _ _ hcell hz)
    clear hcell hz hb h
    go_enter Tryz.func114, Tryz.ntmps114
    go_wp2_with fail
    refine (HR.out n (by omega)).mono ?_
    rintro e w2 ⟨v, rfl, own2, hb2⟩
    have HO : Hid (w2.ownsRow w.heap.size 3 1 v R.length (ivs (Mg.lens R L)) ∧ Below w.heap.size w w2) := Lib.hid ⟨by
      rw [HLN.out.1, HLN.out.2]; exact own_base own2 (fun g hg => by have := (own2.lt g hg).1; have := H.out.2.1; omega), below_then H.out.2.2 hb2⟩
    clear own2 hb2
    go_wp2
    go_ret
    exact ⟨_, rfl, HO.out.1, HO.out.2⟩
end Go.Proofs.YtpoilaappcjbeaaGreatDoor
end
