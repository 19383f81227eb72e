/- For all chunks Write answers the bytes that the document does, or ErrForm where they aren't in form, and leaves the chunks and their data as they were. Of chunks that come to more than 10000 bytes nothing is asked. No conditions. -/
import Derived.Test.YtaedajedjbgnbaaRows
import Derived.Test.YtaedajedjbgnbaaOpen
import Derived.Test.YtaedajedjbgnbaaCkSame
import Derived.Test.YtaedajedjbgnbaaCkCopies
import Derived.Test.YtaedajedjbgnbaaNumSame
import Derived.Test.YtaedajedjbgnbaaNumIs
import Derived.Test.YtaedajedjbgnbaaOpenCk
import Derived.Test.YtaedajedjbgnbaaDrewN
namespace Go.Proofs.Ytaedajedjbgnbaa.ChunkWrites
open Go.ChangeShapes Go.WideShapes Go.ChangeAt Go.RowKit
open Go.ChangeMaps (open_string shut_string)
set_option linter.unusedVariables false
theorem own : ownKnob Try.prog.godebug = none := by kernel_rfl
theorem laidOut : laidOutB Try.prog = true := by kernel_rfl
set_option maxRecDepth 100000 in
set_option maxHeartbeats 4000000 in
theorem walk (a : Option Addr) (len cap : Nat) (l : List Ckm) (w : World) (h : Cs w a len cap l) (hr : cap * 40 ≤ 140737488351232) (hd : ∀ c ∈ l, c.n.length ≤ 140737488351232 ∧ c.s.cap ≤ 140737488351232) :
    Calls Try.prog 4 #[.slice a len cap] w fun e w' => e = .returned (.bool true) ∧ Below w.heap.size w w' := by
  have hle := h.hle
  have HL := Lib.hid h.hlen
  have H := Lib.hid h
  have HDL : Hid (∀ c ∈ l, c.n.length ≤ 140737488351232 ∧ c.s.len ≤ 140737488351232) := Lib.hid (fun c hc => ⟨(hd c hc).1, by have h1 := (hd c hc).2; have h2 := (h.data hc).hle; omega⟩)
  clear h hd
  go_enter Try.func4, Try.ntmps4
  go_wp2_with fail
  refine (alive12_any w).mono ?_
  rintro e w1 ⟨rfl, hb1⟩
  have HB1 := Lib.hid hb1
  clear hb1
  go_wp2_with fail
  refine (large_any a len cap l w1 (H.out.mono HB1.out) (by omega) HDL.out).mono ?_
  rintro e w2 ⟨rfl, hb2⟩
  have HB2 := Lib.hid (below_then HB1.out hb2)
  clear hb2 HB1
  by_cases hbig : 10000 < Ck.lg (cps l)
  · rw [show decide (10000 < Ck.lg (cps l)) = true by simpa using hbig]
    clear hbig
    go_wp2
    go_ret
    exact ⟨rfl, HB2.out⟩
  rw [show decide (10000 < Ck.lg (cps l)) = false by simpa using hbig]
  have hlg : Ck.lg (cps l) ≤ 10000 := by omega
  have HLG := Lib.hid hlg
  clear hbig hlg
  have hsz2 := HB2.out.size
  have HO3 : Hid (Cpl (w2.alloc (.cells #[] 39)) w.heap.size (.slice (some ⟨w2.heap.size, 0, none⟩) 0 0) l 0 []) := Lib.hid ⟨rfl, World.ownsRow_made w2 #[] 0 hsz2 (by unfold maxLen; omega) rfl, fun i hi => absurd hi (by omega)⟩
  have HB3 := Lib.hid (HB2.out.alloc hsz2 (.cells #[] 39))
  go_wp2
  revert HO3 HB3
  generalize (w2.alloc (.cells #[] 39)) = w3
  generalize (some (⟨w2.heap.size, 0, none⟩ : Addr)) = a3
  intro HO3 HB3
  go_loopw [3, 17] (fun v i wr => ∃ (k : Nat) (ms : List Ckm), k ≤ len ∧ i = .int .i64 k ∧ Hid (Cpl wr w.heap.size v l k ms) ∧ Hid (Below w.heap.size w wr)) (fun _ i _ => len - (intOf i).toNat)
  case atStart => exact ⟨0, [], by omega, rfl, HO3, HB3⟩
  case round =>
    obtain ⟨k, ms, hk, rfl, HC, HB⟩ := hrel
    by_cases hlt : k < len
    · have hkl : k < l.length := by rw [HL.out]; exact hlt
      obtain ⟨b, off, rfl, hb, c0, c1, hs⟩ := (H.out.mono HB.out).at' k hlt
      have hs0 := H.out.data (nck_mem l k hkl)
      have hkc : k < (cps l).length := by rw [cps_length]; exact hkl
      have hdl := Ck.data_le (cps l) k hkc
      have hsl := Ck.size_le_lg (cps l)
      have hlg := HLG.out
      rw [cps_nth l k hkl] at hdl
      have hcc : (nck l k).c = ((nck l k).n, (nck l k).s.l) := rfl
      rw [hcc] at hdl
      simp only at hdl
      have hbx := below_alloc wr (.cells #[.string (str (nck l k).n), (nck l k).s.val] 39)
      have hq := heap_alloc_last wr (.cells #[.string (str (nck l k).n), (nck l k).s.val] 39)
      have hll : (nck l k).s.l.length = (nck l k).s.len := hs.hlen
      have HCB := Lib.hid (HC.out.below hbx)
      have HSB := Lib.hid (Bs.mono hs hbx)
      have HBB := Lib.hid (HB.out.trans (hbx.mono HB.out.size))
      have hln : (nck l k).s.len ≤ 1048576 := by omega
      have HPU := Lib.hid (fun (w5 w9 : World) (v' : Value) (g : Nat) (h1 : Cpl w5 w.heap.size u3 l k ms) => h1.push (g := g) (w' := w9) (v' := v') hln hll)
      obtain ⟨c, hc⟩ : ∃ c, nck l k = c := ⟨_, rfl⟩
      rw [hc] at c0 c1 hq HCB HSB HBB HPU hln hll
      clear hc hcc hs0 hs hdl hsl hlg hkc hb hbx
      obtain ⟨nm, sa, sn, sc, sd⟩ := c
      unfold Sl.val at c1 hq HCB HSB HBB
      simp only at c0 c1 hq HCB HSB HBB HPU hln hll
      have hlt4 := (Array.getElem?_eq_some_iff.1 hq).1
      go_wp2_with fail
      obtain ⟨w4, hw4⟩ : ∃ w4, (wr.alloc (.cells #[.string (str nm), .slice sa sn sc] 39)) = w4 := ⟨_, rfl⟩
      rw [hw4] at hq HCB HSB HBB hlt4 ⊢
      clear hw4
      have x0 : w4.cell? ⟨wr.heap.size, 0, none⟩ = some (.string (str nm)) := (cell_of_row _ _ 0 _ _ (0, 0) hq).trans rfl
      have x1 : w4.cell? ⟨wr.heap.size, 1, none⟩ = some (.slice sa sn sc) := (cell_of_row _ _ 1 _ _ (0, 0) hq).trans rfl
      have HSD : Hid (Bs w4.drew sa sn sc sd) := Lib.hid (HSB.out.mono ((Below.refl _ w4).drew))
      clear hq
      have HU3 : Hid (∀ g, u3.ownBlock = some g → g < wr.heap.size) := Lib.hid (fun g hg => (HC.out.own.lt g hg).2)
      go_region_held3 (fun w' => w'.cell? ⟨wr.heap.size, 0, none⟩ = some (.string (str nm)) ∧ w'.cell? ⟨wr.heap.size, 1, none⟩ = some (.slice sa sn sc)) (first | (with_reducible exact ⟨x0, x1⟩) | (with_reducible exact ⟨y0, y1⟩) | (with_reducible exact ⟨z0, z1⟩) | go_keep)
        (first
          | (go_at_call 11; (with_reducible refine (copy_any _ _ _ _ _ HSD.out (by omega)).mono ?_); rintro e w5 ⟨g5, rfl, own5, hb5⟩; have hb5 : Below w4.heap.size w4 w5 := ((Below.refl _ w4).drew).trans hb5; have y0 := (hb5.cell (p := ⟨wr.heap.size, 0, none⟩) hlt4).trans x0; have y1 := (hb5.cell (p := ⟨wr.heap.size, 1, none⟩) hlt4).trans x1; have HCB5 := Lib.hid (HCB.out.below hb5); have HBB5 := Lib.hid (below_then HBB.out hb5); have hg5 := (own5.lt g5 rfl); have HO5 := Lib.hid own5; have hlt5 := Nat.lt_of_lt_of_le hlt4 hb5.size; have hlt6 : wr.heap.size < (w5.alloc (.cells #[.string (str nm), .slice (some ⟨g5, 0, none⟩) sn (sn + 2)] 39)).heap.size := by simp; omega
             have HSR := Lib.hid (src_ck w5 ⟨nm, ⟨some ⟨g5, 0, none⟩, sn, sn + 2, sd⟩⟩ 39); have hb6 := below_alloc w5 (.cells #[.string (str nm), .slice (some ⟨g5, 0, none⟩) sn (sn + 2)] 39); have HCB6 := Lib.hid (HCB5.out.below hb6); have HBB6 := Lib.hid (below_then HBB5.out hb6); have HO6 := Lib.hid (own_base (base' := w.heap.size) (own_below own5 hb6) (fun g hg => by have h1 := (own5.lt g hg).1; have h2 := HBB.out.size; have h3 : w4.drew.heap.size = w4.heap.size := rfl; omega)); have hb6s : w.heap.size ≤ (w5.alloc (.cells #[.string (str nm), .slice (some ⟨g5, 0, none⟩) sn (sn + 2)] 39)).heap.size := HBB6.out.size; have HY := Lib.hid (And.intro ((hb6.cell (p := ⟨wr.heap.size, 0, none⟩) hlt5).trans y0) ((hb6.cell (p := ⟨wr.heap.size, 1, none⟩) hlt5).trans y1)); have HG5 : Hid (u3.ownBlock ≠ some g5) := Lib.hid (fun e => by have h1 := HU3.out g5 e; have h2 := (own5.lt g5 rfl).1; have h3 : w4.drew.heap.size = w4.heap.size := rfl; omega); unfold Sl.val at HSR; simp only at HSR; clear own5 hb5 hb6)
          | (refine step_app3 tyK rfl _ _ rfl HCB6.out.own HSR.out rfl rfl (by omega) (by omega) hb6s ?_; intro v9 w9 own9 ch9 bk9; have z0 := (World.cell?_of_block (a := ⟨wr.heap.size, 0, none⟩) (ch9.block wr.heap.size hlt6 (fun e => Nat.lt_irrefl _ (HU3.out _ e)))).trans HY.out.1; have z1 := (World.cell?_of_block (a := ⟨wr.heap.size, 1, none⟩) (ch9.block wr.heap.size hlt6 (fun e => Nat.lt_irrefl _ (HU3.out _ e)))).trans HY.out.2; have HC9 := Lib.hid (HPU.out _ w9 v9 g5 HCB6.out HO6.out HG5.out own9 ch9 bk9); have HB9 := Lib.hid (HBB6.out.trans (ch9.below hb6s (fun k hk => (HCB6.out.own.lt k hk).1))); clear own9 ch9 bk9)
          | fail)
      clear HCB HCB5 HCB6 HBB HBB5 HBB6 HSB HSD HSR HO5 HO6 HY HPU x0 x1 y0 y1 z0 z1 HG5 HU3 hb6s
      go_wp2
      go_roundw
      case rel => exact ⟨k + 1, _, by omega, by go_num, HC9, HB9⟩
      case measure => simp [intOf]; omega
    · obtain rfl : len = k := by omega
      have hcps : cps ms = cps l := by have := HC.out; rw [← HL.out] at this; exact this.cps
      obtain ⟨av, cv, rfl, hcs⟩ := HC.out.cs
      have hnm : ∀ c ∈ ms, c.n.length ≤ 140737488351232 ∧ c.s.len ≤ 140737488351232 := fun c hm => by
        obtain ⟨i, hi, rfl⟩ := List.getElem_of_mem hm
        have hil : i < len := by rw [← HC.out.len]; exact hi
        obtain ⟨q1, q2, q3, q4, q5, q6, _⟩ := HC.out.data i hil
        rw [nck_get ms i hi] at q1 q3
        have hlm := HDL.out _ (nck_mem l i (by rw [HL.out]; exact hil))
        rw [q1, q3]
        omega
      have hw5 := write_any av len cv ms wr hcs (by omega) hnm
      rw [hcps] at hw5
      have hfit : 8 + Ck.size (cps l) ≤ 1048576 := by have := Ck.size_le_lg (cps l); have := HLG.out; omega
      have HF := Lib.hid hfit
      have hw6 : Calls Try.prog 19 #[.slice av len cv] wr (fun e w5 => ∃ vb ve, e = .returned (.tuple #[vb, ve]) ∧ Below wr.heap.size wr w5 ∧ ((Ck.good (cps l) = true ∧ ve = .nilIface ∧ w5.ownsRow wr.heap.size 5 1 vb (8 + Ck.size (cps l)) (bvs (Ck.wr (cps l)))) ∨ (Ck.good (cps l) = false ∧ vb = .slice none 0 0 ∧ ve = .iface 43 (.int .i64 6)))) := by
        refine hw5.mono ?_
        intro e w5 hp
        unfold WrPost at hp
        by_cases hg : Ck.good (cps l) = true
        · rw [if_pos hg, if_pos hfit] at hp
          obtain ⟨v, rfl, ho, hb⟩ := hp
          exact ⟨_, _, rfl, hb, .inl ⟨hg, rfl, ho⟩⟩
        · rw [if_neg hg] at hp
          obtain ⟨rfl, hb⟩ := hp
          exact ⟨_, _, rfl, hb, .inr ⟨by simpa using hg, rfl, rfl⟩⟩
      have HW6 := Lib.hid hw6
      have HCS := Lib.hid hcs
      clear hw5 hw6 hcs hnm hcps hfit
      go_wp2_with fail
      refine HW6.out.mono ?_
      rintro e w5 ⟨vb, ve, rfl, hb5, hcase⟩
      have HB5 := Lib.hid (HB.out.trans (hb5.mono HB.out.size))
      have HC5 := Lib.hid (HC.out.below hb5)
      have HCS5 := Lib.hid (HCS.out.mono hb5)
      have HCA := Lib.hid hcase
      have hz5 := hb5.size
      have hmx := HCS5.out.hle
      clear hcase hb5 HC HCS HB HW6
      go_wp2
      go_loopw [8, 38] (fun _ i wq => ∃ k : Nat, k ≤ len ∧ i = .int .i64 k ∧ Hid (Below w5.heap.size w5 wq)) (fun _ i _ => len - (intOf i).toNat)
      case atStart => exact ⟨0, by omega, rfl, Lib.hid (Below.refl _ _)⟩
      case round =>
        obtain ⟨k, hk, rfl, HBQ⟩ := hrel
        by_cases hlt : k < len
        · have hkl : k < l.length := by rw [HL.out]; exact hlt
          obtain ⟨b2, off2, rfl, hb2, c2, e2, _⟩ := (HCS5.out.mono HBQ.out).at' k hlt
          obtain ⟨b1, off1, rfl, hb1, c1, e1, s1⟩ := ((H.out.mono HB5.out).mono HBQ.out).at' k hlt
          obtain ⟨q1, q2, q3, q4, q5, q6, g, q7, _, q9⟩ := (HC5.out.below HBQ.out).data k hlt
          unfold Sl.val at e1 e2
          rw [q7, q3, q4] at e2
          rw [q1] at c2
          have s1 : Bs wr (nck l k).s.a (nck l k).s.len (nck l k).s.cap (nck l k).s.l := s1
          clear q1 q2 q3 q4 q6 q7
          generalize nck l k = c at *
          obtain ⟨nm, sa, sn, sc, sd⟩ := c
          simp only at *
          have hbx := below_alloc wr (.cells #[.string (str nm), .slice (some ⟨g, 0, none⟩) sn (sn + 2)] 39)
          have hq := heap_alloc_last wr (.cells #[.string (str nm), .slice (some ⟨g, 0, none⟩) sn (sn + 2)] 39)
          have HBX := Lib.hid (HBQ.out.trans (hbx.mono HBQ.out.size))
          have o9 := own_below q9 hbx
          have s9 := s1.mono hbx
          have y0 := (hbx.cell (p := ⟨b1, off1 + k * 2, none⟩) hb1).trans c1
          have y1 := (hbx.cell (p := ⟨b1, off1 + k * 2 + 1, none⟩) hb1).trans e1
          clear hbx q9 s1 c1 e1
          go_wp2_with fail
          obtain ⟨w6, hw6⟩ : ∃ w6, (wr.alloc (.cells #[.string (str nm), .slice (some ⟨g, 0, none⟩) sn (sn + 2)] 39)) = w6 := ⟨_, rfl⟩
          rw [hw6] at hq HBX o9 s9 y0 y1 ⊢
          have x0 : w6.cell? ⟨wr.heap.size, 0, none⟩ = some (.string (str nm)) := (cell_of_row _ _ 0 _ _ (0, 0) hq).trans rfl
          have x1 : w6.cell? ⟨wr.heap.size, 1, none⟩ = some (.slice (some ⟨g, 0, none⟩) sn (sn + 2)) := (cell_of_row _ _ 1 _ _ (0, 0) hq).trans rfl
          have HK := Lib.hid (fun n => (kept_any g sn sa sc sd (w6.drewN n) w.heap.size (by omega) (own_below o9 (drewN_is w6 n)) (s9.mono (drewN_is w6 n))).mono (R' := fun e w' => e = .returned (.bool true) ∧ w' = w6.drewN n) (fun e w' h => ⟨h.1, h.2.symm⟩))
          have hnn : ((str nm).toList == (str nm).toList) = true := beq_self_eq_true _
          have HBN := Lib.hid (fun n => HBX.out.trans ((drewN_is w6 n).mono HBX.out.size))
          clear hw6 hq o9 s9 c2 e2
          go_quiet (first | (go_at_call 16; exact Calls.quiet_of_same (HK.out _)))
          go_wp2
          go_roundw
          case rel => exact ⟨k + 1, by omega, by go_num, Lib.hid (HBN.out _)⟩
          case measure => simp [intOf]; omega
        · obtain rfl : len = k := by omega
          have HBF := Lib.hid (HB5.out.trans (HBQ.out.mono HB5.out.size))
          have HRG := Lib.hid (refGood_any a len cap l wr (H.out.mono HBF.out) (by omega) HDL.out)
          rcases HCA.out with ⟨hg, hve, ho⟩ | ⟨hg, hvb, hve⟩
          · subst hve
            rw [hg] at HRG
            have HV := Lib.hid (own_below ho HBQ.out)
            have HRW := Lib.hid (refWrite_any a len cap l wr (H.out.mono HBF.out) hg HF.out (by omega))
            obtain ⟨av2, cv2, rfl, hsv⟩ := own_bs HV.out (by have := HF.out; omega)
            have HSV := Lib.hid hsv
            clear hg ho hsv HCA HV HC5 HCS5 HBQ
            go_wp2_with fail
            refine HRG.out.mono ?_
            rintro e w' ⟨rfl, rfl⟩
            go_wp2_with fail
            refine HRW.out.mono ?_
            rintro e w7 ⟨v7, rfl, ho7, hb7⟩
            obtain ⟨a7, c7, rfl, hs7⟩ := own_bs ho7 (by have := HF.out; omega)
            have HB7 := Lib.hid (HBF.out.trans (hb7.mono HBF.out.size))
            have HSA := Lib.hid (same_any _ _ _ _ _ _ _ _ w7 (HSV.out.mono hb7) hs7)
            rw [show (Ck.wr (cps l) == Ck.wr (cps l)) = true from beq_self_eq_true _] at HSA
            clear ho7 hb7 hs7 HRG HRW
            go_wp2_with fail
            refine HSA.out.mono ?_
            rintro e w' ⟨rfl, rfl⟩
            go_wp2
            go_ret
            exact ⟨rfl, HB7.out⟩
          · subst hvb hve
            rw [hg] at HRG
            clear hg HCA HC5 HCS5 HBQ
            go_wp2_with fail
            refine HRG.out.mono ?_
            rintro e w' ⟨rfl, rfl⟩
            go_wp2_with fail
            refine (is_yes 6 rfl _).mono ?_
            rintro e w' ⟨rfl, rfl⟩
            go_wp2
            go_ret
            exact ⟨rfl, HBF.out⟩
set_option maxRecDepth 100000 in
theorem lifted (os : Os) (started : os.Started) (H : Type) (enc : TypeId × Value → H) :
    ReturnsInHanded {} Try.checked os 4 .any (Rows.chunkWritesSpec.pre6 enc Try.prog Try.f4 Rows.chunkWritesRow.domain false) (Rows.chunkWritesSpec.post enc Try.prog Try.f4 false true false false) := by
  refine returnsInHanded_of_change_sized (C := Try.checked) own started (by kernel_rfl) Try.func4
    (ChangeSpec.witness6 (enc := enc) (C := Try.checked) false ⟨#[], #[.slice none 0 0], []⟩ 8 (by kernel_rfl) (by kernel_rfl) (by kernel_rfl) (by kernel_rfl)) ?_
  intro W base args ds gs before hval0 hW _ hsz0 _
  have hval : ∀ (j : Nat) t v, Try.f4.params[j]? = some t → args[j]? = some v → Value.okWide Try.prog W .any base t v := hval0
  have hsz : (DataW.weightsEach Try.prog (Try.f4.params.toList ++ Rows.chunkWritesSpec.plain.varTypes Try.prog) (ds ++ gs)).all (· ≤ reachBytes) = true := hsz0
  have hW' := hW
  obtain ⟨p, q, hA0, hV, rfl, hfz, hnd⟩ := hW
  have hA : DataW.TrodAll enc Try.prog W 0 (fun _ => true) true Try.f4.params.toList args.toList ds p := hA0
  rw [Try.params4] at hA hval hsz
  obtain ⟨v0, vs0, d0, ds0, p0, q0, hargs, rfl, rfl, h0, r0⟩ := trodAll_cons hA
  obtain ⟨rfl, rfl, rfl⟩ := trodAll_nil r0
  obtain rfl : args = #[v0] := by cases args; simp_all
  obtain ⟨rfl, rfl⟩ := trodVars_none hV
  clear hsz0
  obtain ⟨a0, len0, cap0, rfl⟩ := okWide_slice Try.underlying25 (hval 0 25 v0 rfl rfl)
  have k0 := h0
  have lt0 : ∀ x ∈ p0, x.block < W.heap.size := by obtain ⟨m, hm⟩ := k0; exact DataW.trod_lt m _ _ _ hm
  obtain ⟨l0, w0, c0, x0⟩ := open_cks Try.underlying25 Try.underlying39 Try.underlying9 Try.underlying22 Try.underlying5 (by kernel_rfl) (by kernel_rfl) (by kernel_rfl) (by kernel_rfl) rfl rfl (by kernel_rfl) (by kernel_rfl) h0 hsz 0 rfl rfl
  clear hA0 hval0 hsz
  refine (walk a0 len0 cap0 l0 W w0 c0 x0).mono fun e W' ⟨he, bel⟩ => ?_
  subst he
  exact ⟨_, rfl, _, _, _, [], _, [], hW', trodAll_mk1 (shut_bool Try.underlying4 _), (trodAll_cons_mk (Below.trod laidOut (by kernel_rfl) (of_decide_eq_true (by kernel_rfl)) k0 bel lt0) trodAll_mk0), rfl, bel.frame _, fun h => by cases h⟩

theorem proved : Rows.ChunkWritesSaid :=
  OpenClaim.holds_of_wide 4 Try.f4 rfl rfl rfl rfl rfl rfl rfl ⟨rfl, rfl, rfl, rfl, rfl⟩ rfl rfl rfl rfl rfl (by kernel_rfl) Try.func4 (by kernel_rfl)
    (of_decide_eq_true (by kernel_rfl)) (by unfold Func.isWrapper; first | (rw [if_pos (by decide +kernel)]; kernel_rfl) | (rw [if_neg (by decide +kernel)]; exact ⟨rfl, rfl⟩))
    (fun os started H enc _ => lifted os started H enc)
#print axioms proved
end Go.Proofs.Ytaedajedjbgnbaa.ChunkWrites
