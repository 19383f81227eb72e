/- sums.Adler: its contract. -/
import Derived.Test.YtbohhdakbgnaeaaChunkIt
import Derived.Test.YtbohhdakbgnaeaaAdlerMath
import Derived.Test.YtbohhdakbgnaeaaMarks
namespace Go.Proofs.Ytbohhdakbgnaeaa
open Go.RowKit Go.Shelf
attribute [local go_sem] Oper.semAt_some

/-- Both sums of a text, in their two boxes at S. -/
structure AdI (S : Nat) (w : World) (T : List UInt8) (W : World) : Prop where
  ca : W.cell? ⟨S, 0, none⟩ = some (.int .i64 ((1 + Ad.s T) % 65521 : Nat))
  fa : W.frozen? ⟨S, 0, none⟩ = false
  cb : W.cell? ⟨S + 1, 0, none⟩ = some (.int .i64 ((T.length + Ad.t T) % 65521 : Nat))
  fb : W.frozen? ⟨S + 1, 0, none⟩ = false
  bel : Below S w W

/-- Two stores side by side. -/
theorem two_set (W : World) (S B : Nat) (v1 v2 u1 u2 : Value) (h1 : W.cell? ⟨S, 0, none⟩ = some u1) (h2 : W.cell? ⟨S + 1, 0, none⟩ = some u2) (hB : B ≤ S) :
    ((W.setCell ⟨S, 0, none⟩ v1).setCell ⟨S + 1, 0, none⟩ v2).cell? ⟨S, 0, none⟩ = some v1 ∧ ((W.setCell ⟨S, 0, none⟩ v1).setCell ⟨S + 1, 0, none⟩ v2).cell? ⟨S + 1, 0, none⟩ = some v2 ∧
    (∀ a, ((W.setCell ⟨S, 0, none⟩ v1).setCell ⟨S + 1, 0, none⟩ v2).frozen? a = W.frozen? a) ∧ KeepsOthers W ((W.setCell ⟨S, 0, none⟩ v1).setCell ⟨S + 1, 0, none⟩ v2) ∧
    Below B W ((W.setCell ⟨S, 0, none⟩ v1).setCell ⟨S + 1, 0, none⟩ v2) ∧ ((W.setCell ⟨S, 0, none⟩ v1).setCell ⟨S + 1, 0, none⟩ v2).heap.size = W.heap.size ∧
    (∀ r, r ≠ S → r ≠ S + 1 → ((W.setCell ⟨S, 0, none⟩ v1).setCell ⟨S + 1, 0, none⟩ v2).heap[r]? = W.heap[r]?) := by
  refine ⟨?_, ?_, fun a => by rw [World.frozen?_setCell, World.frozen?_setCell], (KeepsOthers.setCell _ _ _).trans (KeepsOthers.setCell _ _ _), ((Below.refl _ _).setCell hB _).setCell (by show B ≤ S + 1; omega) _, by simp, fun r e1 e2 => ?_⟩
  · rw [World.cell?_of_block (w := W.setCell ⟨S, 0, none⟩ v1) (heap_setCell_other _ ⟨S + 1, 0, none⟩ S v2 (by show S ≠ S + 1; omega))]
    exact World.cell?_setCell_same' _ _ _ (by rw [h1]; rfl)
  · refine World.cell?_setCell_same' _ _ _ ?_
    rw [World.cell?_of_block (w := W) (heap_setCell_other _ ⟨S, 0, none⟩ (S + 1) v1 (by show S + 1 ≠ S; omega)), h2]
    rfl
  · rw [heap_setCell_other _ ⟨S + 1, 0, none⟩ r v2 e2, heap_setCell_other _ ⟨S, 0, none⟩ r v1 e1]
theorem or16' {a b : Nat} (h1 : a < 65521) (h3 : b < 65521) : bits .or .i64 ((a : Int) * 65536) (b : Int) = (a : Int) * 65536 + (b : Int) :=
  bits_join .i64 62 (by decide) (fun n h0 h1 => IntWalk.i64_in _ ⟨by omega, by omega⟩) 16 ((a : Int) * 65536) (b : Int) (by omega) (by omega) (by omega) (by omega) (by omega) (by omega)

set_option maxRecDepth 100000 in
set_option maxHeartbeats 4000000 in
theorem adler_any (a : Option Addr) (len cap : Nat) (ps : List Sl) (w : World) (h : Parts w a len cap ps) :
    Calls Try.prog 15 #[.slice a len cap] w fun e w' => e = .returned (.int .i64 (Ad.adler (flat ps))) ∧ Below w.heap.size w w' := by
  have hle := h.hle
  have hcp := h.hcap
  have HL := Lib.hid h.hlen
  have H := Lib.hid h
  clear h
  refine (callsIn_wide (n := 3)).1 ?_
  have hro : (Fence.wide).round = none := rfl
  refine callsIn_of_wp_marks Try.func15 rfl trivial ?_ hro
  simp only [Try.ntmps15, List.size_toArray, List.length_cons, List.length_nil, Nat.reduceAdd, Nat.reduceSub, Array.replicate_succ, Array.replicate_zero, List.push_toArray, List.append_toArray, List.nil_append, List.cons_append]
  gi_wp2
  refine wpIn_loop (fun a' w' => ∃ (k : Nat) (Ds : List Nat) (u6 u13 u14 u15 u16 u17 u37 : Value), k ≤ len ∧ AdI w.heap.size w (flat (ps.take k)) w' ∧ Marks (w.heap.size + 2) Ds w' ∧ w.heap.size + 2 ≤ w'.heap.size ∧
      a' = { tmps := #[.slice a len cap, undef, .int .i64 0, .pointer (some ⟨w.heap.size, 0, none⟩), .pointer (some ⟨w.heap.size + 1, 0, none⟩), undef, u6, undef, undef, undef, .slice a len cap, .int .i64 len, .int .i64 k, u13, u14, u15, u16, u17,
        undef, undef, undef, undef, undef, undef, undef, undef, undef, undef, undef, undef, undef, undef, undef, undef, undef, undef, undef, u37, undef, undef, undef, undef], defers := Ds.map mkD })
    (fun a' _ => len - (intOf (a'.tmps.getD 12 undef)).toNat) ?_ ?_
  · refine ⟨0, [], undef, undef, undef, undef, undef, undef, undef, by omega, ?_, ⟨List.nodup_nil, fun D hD => by simp at hD⟩, by simp, rfl⟩
    refine ⟨?_, ?_, ?_, ?_, below_alloc2 _ _ _⟩
    · rw [cell_of_row _ _ _ _ _ (0, 0) (heap_alloc2_old _ _ _)]; rfl
    · exact frozen_of_row _ _ _ _ _ (heap_alloc2_old _ _ _)
    · rw [cell_of_row _ _ _ _ _ (0, 0) (heap_alloc2_new _ _ _)]; rfl
    · exact frozen_of_row _ _ _ _ _ (heap_alloc2_new _ _ _)
  · rintro a' wo ⟨k, Ds, u6, u13, u14, u15, u16, u17, u37, hk, hI, hM, hz, rfl⟩
    have HI := Lib.hid hI
    have HM := Lib.hid hM
    clear hI hM
    by_cases hlt : k < len
    · obtain ⟨b, off, rfl, hb, hcell0, hs⟩ := H.out.at' k hlt
      have hcell : wo.cell? ⟨b, off + k, none⟩ = _ := (HI.out.bel.cell (p := ⟨b, off + k, none⟩) hb).trans hcell0
      clear hcell0
      have HP : Hid (nth ps k = nth ps k) := Lib.hid rfl
      have HS : Hid (Bs w (nth ps k).a (nth ps k).len (nth ps k).cap (nth ps k).l) := Lib.hid hs
      have HF : Hid (flat (ps.take (k + 1)) = flat (ps.take k) ++ (nth ps k).l) := Lib.hid (flat_snoc ps k (by rw [HL.out]; exact hlt))
      clear hs
      generalize nth ps k = p at *
      obtain ⟨pa, plen, pcap, pl⟩ := p
      simp only at hcell
      have hzw := wo.heap.size
      gi_wp2_with fail
      refine ⟨trivial, (chunk_in Fence.wide 2 trivial rfl pa plen pcap 65536 (by omega) wo).mono ?_⟩
      rintro e w' ⟨rfl, rfl⟩
      gi_wp2
      have hW2 : Below wo.heap.size wo ((wo.alloc (.cells #[.slice pa plen pcap] 22)).alloc (.cells #[.int .i64 ((65536 : Nat) : Int)] 3)) := below_alloc2 _ _ _
      have hs2 : ((wo.alloc (.cells #[.slice pa plen pcap] 22)).alloc (.cells #[.int .i64 ((65536 : Nat) : Int)] 3)).heap.size = wo.heap.size + 2 := by simp
      have hx1 : ((wo.alloc (.cells #[.slice pa plen pcap] 22)).alloc (.cells #[.int .i64 ((65536 : Nat) : Int)] 3)).cell? ⟨wo.heap.size, 0, none⟩ = some (.slice pa plen pcap) := by
        rw [cell_of_row _ _ _ _ _ (0, 0) (heap_alloc2_old _ _ _)]; rfl
      have hx2 : ((wo.alloc (.cells #[.slice pa plen pcap] 22)).alloc (.cells #[.int .i64 ((65536 : Nat) : Int)] 3)).cell? ⟨wo.heap.size + 1, 0, none⟩ = some (.int .i64 ((65536 : Nat) : Int)) := by
        rw [cell_of_row _ _ _ _ _ (0, 0) (heap_alloc2_new _ _ _)]; rfl
      have hI2 : AdI w.heap.size w (flat (ps.take k)) ((wo.alloc (.cells #[.slice pa plen pcap] 22)).alloc (.cells #[.int .i64 ((65536 : Nat) : Int)] 3)) :=
        ⟨(hW2.cell (p := ⟨w.heap.size, 0, none⟩) (by show w.heap.size < _; omega)).trans HI.out.ca, (hW2.frozen (p := ⟨w.heap.size, 0, none⟩) (by show w.heap.size < _; omega)).trans HI.out.fa,
          (hW2.cell (p := ⟨w.heap.size + 1, 0, none⟩) (by show w.heap.size + 1 < _; omega)).trans HI.out.cb, (hW2.frozen (p := ⟨w.heap.size + 1, 0, none⟩) (by show w.heap.size + 1 < _; omega)).trans HI.out.fb,
          HI.out.bel.trans (hW2.mono (by omega))⟩
      have hM2 : Marks (w.heap.size + 2) Ds ((wo.alloc (.cells #[.slice pa plen pcap] 22)).alloc (.cells #[.int .i64 ((65536 : Nat) : Int)] 3)) :=
        ⟨HM.out.1, fun D hD => ⟨(HM.out.2 D hD).1, (hW2.block D (HM.out.lt D hD)).trans (HM.out.2 D hD).2⟩⟩
      revert hW2 hs2 hx1 hx2 hI2 hM2
      generalize (wo.alloc (.cells #[.slice pa plen pcap] 22)).alloc (.cells #[.int .i64 ((65536 : Nat) : Int)] 3) = W2
      intro hW2 hs2 hx1 hx2 hI2 hM2
      have hstp := chunk_stops Fence.wide 2 65536 (by omega) (by omega) trivial rfl (by omega) wo.heap.size (wo.heap.size + 1) w pa plen pcap pl HS.out W2 (by omega) (by omega) hx1 hx2
      refine wpIn_rangeFunc_ownF rfl (by omega) (gf := 26) (lb := #[.pointer (some ⟨wo.heap.size, 0, none⟩), .pointer (some ⟨wo.heap.size + 1, 0, none⟩)]) rfl trivial (enters_of Try.func26 (by kernel_rfl) rfl)
        hstp ?hKt ?hKb (Below.refl _ _) (fun _ => rfl)
        (fun pre W => AdI w.heap.size w (flat (ps.take k) ++ ckText pre) W ∧ Marks (w.heap.size + 2) Ds W ∧ W2.heap.size ≤ W.heap.size)
        (fun _ _ _ => False) ?hI (fun _ _ _ _ _ hs _ _ => hs) ?h0
        (fun x => { tmps := #[.slice (some ⟨b, off, none⟩) len cap, undef, .int .i64 0, .pointer (some ⟨w.heap.size, 0, none⟩), .pointer (some ⟨w.heap.size + 1, 0, none⟩), undef, .slice pa plen pcap, .slice x.s.a x.s.len x.s.cap, undef, undef,
          .slice (some ⟨b, off, none⟩) len cap, .int .i64 len, .int .i64 k, .bool true, .pointer (some ⟨b, off + k, none⟩), .slice pa plen pcap, .slice pa plen pcap,
          .func (.func 26) #[] #[.pointer (some ⟨wo.heap.size, 0, none⟩), .pointer (some ⟨wo.heap.size + 1, 0, none⟩)], .slice x.s.a x.s.len x.s.cap,
          undef, undef, undef, undef, undef, undef, undef, undef, undef, undef, undef, undef, undef, undef, undef, undef, undef, undef, u37, undef, undef, undef, undef], defers := [] }) ?assign ?body ?done ?stop
      case hKt => exact fun h1 h2 => ⟨h2.1.trans h1.1, h2.2.trans h1.2⟩
      case hKb =>
        intro W l o o' hl _ _ _
        exact ⟨World.cell?_of_block (World.putObj_heap_other (by show wo.heap.size ≠ l; omega)), World.cell?_of_block (World.putObj_heap_other (by show wo.heap.size + 1 ≠ l; omega))⟩
      case hI =>
        intro s A B row ⟨hs, hm, hz0⟩ hg hr
        refine ⟨⟨cell_kept hs.ca hg (fun r e => (hr r e).2), (frozen_kept hs.ca hg (fun r e => (hr r e).2)).trans hs.fa, cell_kept hs.cb hg (fun r e => (hr r e).2), (frozen_kept hs.cb hg (fun r e => (hr r e).2)).trans hs.fb,
          hs.bel.grown hg hs.bel.size (fun r e => by have := (hr r e).1; omega)⟩, ⟨hm.1, fun D hD => ⟨(hm.2 D hD).1, ?_⟩⟩, Nat.le_trans hz0 hg.size⟩
        rw [hg.block D (hm.lt D hD) (fun e => by have := (hr D e.symm).1; have := HM.out.lt D hD; omega)]
        exact (hm.2 D hD).2
      case h0 => exact ⟨by simpa [ckText] using hI2, hM2, Nat.le_refl _⟩
      case assign =>
        intro l x W K hK
        gi_wp2
        exact hK
      case body =>
        rintro l pre x W ⟨hs, hm, hz0⟩ _
        have hxb := x.at'
        have hxle := x.le
        have hxn := hxb.hlen
        have HXN := Lib.hid hxn
        have HXL := Lib.hid hxle
        clear hxn hxle hI2 hM2 hx1 hx2 hstp hcell
        have HX := Lib.hid hxb
        have hxc := hxb.hcap
        clear hxb
        have HTX : Hid (flat (ps.take k) ++ ckText (pre ++ [x]) = (flat (ps.take k) ++ ckText pre) ++ x.s.l) := Lib.hid (by rw [ckText_append, List.append_assoc]; simp [ckText])
        generalize x.s.a = xa at *
        generalize x.s.len = xn at *
        generalize x.s.cap = xc at *
        generalize x.s.l = xl at *
        generalize flat (ps.take k) ++ ckText pre = T at *
        have hca := hs.ca
        have hcb := hs.cb
        have hfa := hs.fa
        have hfb := hs.fb
        have HB := Lib.hid hs.bel
        have HMK := Lib.hid hm
        clear hs hm
        have HSN := Lib.hid (Ad.s_next T xl)
        have HTN := Lib.hid (Ad.t_next T xl)
        have ha := Nat.mod_lt (1 + Ad.s T) (show 65521 > 0 by omega)
        have hbb := Nat.mod_lt (T.length + Ad.t T) (show 65521 > 0 by omega)
        generalize (1 + Ad.s T) % 65521 = A at *
        generalize (T.length + Ad.t T) % 65521 = B at *
        have HA := Lib.hid ha
        have HBB := Lib.hid hbb
        clear ha hbb
        gi_wp2
        gi_loopw [21] (fun i wr => ∃ j : Nat, j ≤ xn ∧ i = .int .i64 j ∧ Hid (wr.cell? ⟨w.heap.size, 0, none⟩ = some (.int .i64 (A + Ad.s (xl.take j) : Nat))) ∧ Hid (wr.frozen? ⟨w.heap.size, 0, none⟩ = false) ∧
          Hid (wr.cell? ⟨w.heap.size + 1, 0, none⟩ = some (.int .i64 (B + j * A + Ad.t (xl.take j) : Nat))) ∧ Hid (wr.frozen? ⟨w.heap.size + 1, 0, none⟩ = false) ∧ Hid (KeepsOthers W wr ∧ Below w.heap.size W wr ∧ wr.heap.size = W.heap.size ∧ (∀ r, r ≠ w.heap.size → r ≠ w.heap.size + 1 → wr.heap[r]? = W.heap[r]?)))
          (fun i _ => xn - (intOf i).toNat)
        case atStart => exact ⟨0, by omega, rfl, by simpa [Ad.s] using Lib.hid hca, hfa, by simpa [Ad.t] using Lib.hid hcb, hfb, KeepsOthers.refl _, Below.refl _ _, rfl, fun _ _ _ => rfl⟩
        case round =>
          obtain ⟨j, hj, rfl, h1, h2, h3, h4, h5⟩ := hrel
          have hc1 := h1.out
          have hc2 := h3.out
          have hf1 := h2.out
          have hf2 := h4.out
          have hsb := Ad.s_le (xl.take j)
          have htb := Ad.t_le (xl.take j) 65536 (by rw [List.length_take]; have := HXL.out; have := HXN.out; omega)
          have hlt' : (xl.take j).length ≤ 65536 := by rw [List.length_take]; have := HXL.out; have := HXN.out; omega
          have hja : j * A ≤ 65536 * 65521 := Nat.mul_le_mul (by have := HXL.out; omega) (by have := HA.out; omega)
          have hSA : A + Ad.s (xl.take j) ≤ 20000000 := by have := HA.out; omega
          have hSB : B + j * A + Ad.t (xl.take j) ≤ 2000000000000 := by have := HBB.out; omega
          clear hsb htb hlt' hja
          by_cases hlj : j < xn
          · obtain ⟨xb, xoff, rfl, hxbl, hxcell⟩ := HX.out.at' j hlj
            have hxc1 : wr.cell? ⟨xb, xoff + j, none⟩ = some (.int .u8 (gb xl j)) := (h5.out.2.1.cell (p := ⟨xb, xoff + j, none⟩) hxbl).trans ((HB.out.cell (p := ⟨xb, xoff + j, none⟩) hxbl).trans hxcell)
            have hg := gb_lt xl j
            have HNA : Hid (A + Ad.s (xl.take (j + 1)) = A + Ad.s (xl.take j) + gb xl j) := Lib.hid (by rw [Ad.s_snoc _ _ (by rw [HXN.out]; exact hlj)]; omega)
            have HNB : Hid (B + (j + 1) * A + Ad.t (xl.take (j + 1)) = B + j * A + Ad.t (xl.take j) + (A + Ad.s (xl.take j) + gb xl j)) := Lib.hid (by
              rw [Ad.t_snoc _ _ (by rw [HXN.out]; exact hlj), Nat.add_mul, Nat.one_mul]; omega)
            clear hxcell
            generalize A + Ad.s (xl.take j) = SA at *
            generalize B + j * A + Ad.t (xl.take j) = SB at *
            have TS := Lib.hid (two_set wr w.heap.size w.heap.size (.int .i64 ((SA : Int) + (gb xl j : Int))) (.int .i64 ((SB : Int) + ((SA : Int) + (gb xl j : Int)))) _ _ hc1 hc2 (Nat.le_refl _))
            gi_wp2
            obtain ⟨t1, t2, t3, t4, t5, t6, t7⟩ := TS.out
            go_roundw
            case rel =>
              refine ⟨j + 1, by omega, by go_num, Lib.hid ?_, Lib.hid ?_, Lib.hid ?_, Lib.hid ?_, Lib.hid ⟨h5.out.1.trans t4, h5.out.2.1.trans t5, t6.trans h5.out.2.2.1, fun r e1 e2 => (t7 r e1 e2).trans (h5.out.2.2.2 r e1 e2)⟩⟩
              · rw [t1, HNA.out]; congr 2
              · rw [t3]; exact hf1
              · rw [t2, HNB.out]; congr 2
              · rw [t3]; exact hf2
            case measure => simp [intOf]; omega
          · obtain rfl : xn = j := by omega
            have hfull : xl.take xn = xl := List.take_of_length_le (by rw [HXN.out]; exact Nat.le_refl _)
            rw [hfull] at hc1 hc2 hSA hSB h1 h3
            clear hfull
            have HSN' : Hid ((A + Ad.s xl) % 65521 = (1 + Ad.s (T ++ xl)) % 65521) := HSN
            have HTN' : Hid ((B + xn * A + Ad.t xl) % 65521 = ((T ++ xl).length + Ad.t (T ++ xl)) % 65521) := Lib.hid (by have := HTN.out; rwa [HXN.out] at this)
            clear HSN HTN
            generalize A + Ad.s xl = SA at *
            generalize B + xn * A + Ad.t xl = SB at *
            have TS := Lib.hid (two_set wr w.heap.size w.heap.size (.int .i64 ((SA : Int) % 65521)) (.int .i64 ((SB : Int) % 65521)) _ _ hc1 hc2 (Nat.le_refl _))
            gi_wp2
            obtain ⟨t1, t2, t3, t4, t5, t6, t7⟩ := TS.out
            have hsame : ∀ r, r ≠ w.heap.size → r ≠ w.heap.size + 1 → ((wr.setCell ⟨w.heap.size, 0, none⟩ (.int .i64 ((SA : Int) % 65521))).setCell ⟨w.heap.size + 1, 0, none⟩ (.int .i64 ((SB : Int) % 65521))).heap[r]? = W.heap[r]? :=
              fun r e1 e2 => (t7 r e1 e2).trans (h5.out.2.2.2 r e1 e2)
            refine ⟨h5.out.1.trans t4, ⟨World.cell?_of_block (hsame _ (by show wo.heap.size ≠ _; omega) (by show wo.heap.size ≠ _; omega)), World.cell?_of_block (hsame _ (by show wo.heap.size + 1 ≠ _; omega) (by show wo.heap.size + 1 ≠ _; omega))⟩, ?_, ?_, by rw [t6, h5.out.2.2.1]; exact hz0⟩
            · rw [HTX.out]
              exact ⟨by rw [t1, ← HSN'.out]; congr 2, by rw [t3]; exact hf1, by rw [t2, ← HTN'.out]; congr 2, by rw [t3]; exact hf2, (HB.out.trans h5.out.2.1).trans t5⟩
            · exact ⟨HMK.out.1, fun D hD => ⟨(HMK.out.2 D hD).1, by have := (HMK.out.2 D hD).1; rw [hsame D (by omega) (by omega)]; exact (HMK.out.2 D hD).2⟩⟩
      case done =>
        rintro D ys W hD hS ⟨hs, hm, hz0⟩ hK
        rw [hS, ← HF.out] at hs
        have HS2 := Lib.hid hs
        have HM2 : Hid (Marks (w.heap.size + 2) (D :: Ds) W) := Lib.hid ⟨List.nodup_cons.2 ⟨fun h => by have := HM.out.lt D h; omega, hm.1⟩, fun k hk => by
          rcases List.mem_cons.1 hk with rfl | hk
          · exact ⟨by omega, hK⟩
          · exact hm.2 k hk⟩
        clear hs hm hK hI2 hM2 hx1 hx2 hstp
        gi_wp2
        exact ⟨⟨k + 1, D :: Ds, _, _, _, _, _, _, _, by omega, HS2.out, HM2.out, by omega, rfl⟩, by simp [intOf]; omega⟩
      case stop =>
        rintro D c pre W _ _ h _
        exact h.elim
    · have hfull : ps.take k = ps := List.take_of_length_le (by rw [HL.out]; omega)
      rw [hfull] at HI
      have hca := HI.out.ca
      have hcb := HI.out.cb
      clear hfull
      have ha := Nat.mod_lt (1 + Ad.s (flat ps)) (show 65521 > 0 by omega)
      have hbb := Nat.mod_lt ((flat ps).length + Ad.t (flat ps)) (show 65521 > 0 by omega)
      have HA : Hid (65536 * (((flat ps).length + Ad.t (flat ps)) % 65521) + (1 + Ad.s (flat ps)) % 65521 = Ad.adler (flat ps)) := Lib.hid rfl
      generalize (1 + Ad.s (flat ps)) % 65521 = A at *
      generalize ((flat ps).length + Ad.t (flat ps)) % 65521 = B at *
      have HV : Hid (bits .or .i64 ((B : Int) * 65536) (A : Int) = (65536 * B + A : Nat)) := Lib.hid (by rw [or16' hbb ha]; omega)
      gi_wp2
      refine leaves_marks (fun W => Below w.heap.size w W) ?_ ?_ Ds wo HM.out HI.out.bel
      · intro W D hq hD hd
        exact hq.grown (grownBy_putObj' W D (.deferred none)) hq.size (fun k e => by cases e; omega)
      · intro W hq
        exact ⟨_, results_tmp rfl _ _ _, by show Ending.returned (.int .i64 (bits .or .i64 ((B : Int) * 65536) (A : Int))) = _; rw [HV.out, HA.out], hq⟩
theorem adler_of (v : Int) (a : Option Addr) (len cap : Nat) (ps : List Sl) (w : World) (h : Parts w a len cap ps) (hv : (Ad.adler (flat ps) : Int) = v) :
    Calls Try.prog 15 #[.slice a len cap] w fun e w' => e = .returned (.int .i64 v) ∧ Below w.heap.size w w' := by
  subst hv
  exact adler_any a len cap ps w h
end Go.Proofs.Ytbohhdakbgnaeaa
