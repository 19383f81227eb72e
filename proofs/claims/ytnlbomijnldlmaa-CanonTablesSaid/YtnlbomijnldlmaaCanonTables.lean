/- For all tables of codes (of at most 600 symbols, and 200 bytes, as the law itself asks): a table is taken or refused as the document says, its memory is not kept nor changed, and its book reads the document's codes. No conditions. -/
import Derived.Test.YtnlbomijnldlmaaRows
import Derived.Test.YtnlbomijnldlmaaOpen
import Derived.Test.YtnlbomijnldlmaaLawCanon
import Derived.Test.YtnlbomijnldlmaaTabNew
import Derived.Test.YtnlbomijnldlmaaBookReads
import Derived.Test.YtnlbomijnldlmaaOver
import Derived.Test.YtnlbomijnldlmaaNumIs
import Derived.Test.YtnlbomijnldlmaaRegionJ
namespace Go.Proofs.Ytnlbomijnldlmaa.CanonTables
open Go.ChangeShapes Go.WideShapes Go.ChangeAt Go.RowKit
open Go.ChangeMaps (open_string shut_string)
set_option linter.unusedVariables false
theorem own : ownKnob Try.prog.godebug = none := by kernel_rfl
theorem laidOut : laidOutB Try.prog = true := by kernel_rfl
open Bk
def cEx : Nat → Int := fun n => if n = 1 then 1 else 0
theorem cEx_tab : Cn.tabB cEx [7] = true := by decide +kernel
theorem ps_ex (ps : List (Nat × Int)) (h : TabOk cEx [7] ps) : ps = [(7, 2)] := by
  have h1 := h.p1
  have h2 : ps.map (·.2) = [2] := h.p2.trans (by decide +kernel)
  have h3 : Cn.syB [7] = [7] := rfl
  rw [h3] at h1
  match ps, h1, h2 with
  | [], h1, _ => simp at h1
  | [(a, b)], h1, h2 =>
    simp at h1 h2
    have : a = 7 := by omega
    rw [this, h2]
  | a :: b :: t, h1, _ => simp at h1
theorem ex_word7 : wAt (wsOf (seq (rowsOf (tl [(7, 2)]) [7]) 17) 256) 7 = (0, 2) := by
  have e : (wsOf (seq (rowsOf (tl [(7, 2)]) [7]) 17) 256).getD 7 (0, 0) = Bk.look (seq (rowsOf (tl [(7, 2)]) [7]) 17) 7 := by simp [wsOf, List.getD, List.getElem?_range]
  unfold wAt
  rw [if_pos (by decide)]
  show (wsOf (seq (rowsOf (tl [(7, 2)]) [7]) 17) 256).getD 7 (0, 0) = (0, 2)
  rw [e]
  decide +kernel
theorem load_codesB (wr : World) (g : Nat) (c : Nat → Int) (v : Value) (t : TypeId) (fr : Nat × Nat) (hg : wr.heap[g]? = some (.cells #[.int .i64 (c 0), .int .i64 (c 1), .int .i64 (c 2), .int .i64 (c 3), .int .i64 (c 4), .int .i64 (c 5), .int .i64 (c 6), .int .i64 (c 7), .int .i64 (c 8), .int .i64 (c 9), .int .i64 (c 10), .int .i64 (c 11), .int .i64 (c 12), .int .i64 (c 13), .int .i64 (c 14), .int .i64 (c 15), v] t fr)) : (loadVar 49 ⟨g, 0, none⟩).run Try.prog wr = .ok (codesV c v) wr :=
  run_load_front wr g _ 49 _ _ [.int .i64 (c 0), .int .i64 (c 1), .int .i64 (c 2), .int .i64 (c 3), .int .i64 (c 4), .int .i64 (c 5), .int .i64 (c 6), .int .i64 (c 7), .int .i64 (c 8), .int .i64 (c 9), .int .i64 (c 10), .int .i64 (c 11), .int .i64 (c 12), .int .i64 (c 13), .int .i64 (c 14), .int .i64 (c 15), v] _ hg (fun j u h => by rw [← List.getElem?_toArray] at h; exact h) Try.underlying49 rfl (by kernel_rfl)
set_option maxRecDepth 100000 in
set_option maxHeartbeats 4000000 in
theorem walk (c : Nat → Int) (a : Option Addr) (len cap : Nat) (l : List UInt8) (b : Option Addr) (blen bcap : Nat) (m : List UInt8) (t : Int) (w : World) (hwc : ∀ i, i < 16 → (Lit.int .i64 (c i)).wf = true) (h : Bs w a len cap l) (hr : cap ≤ 140737488351232) (hb : Bs w b blen bcap m) (hbr : bcap ≤ 140737488351232) (hw : (Lit.int .i64 t).wf = true) :
    Calls Try.prog 5 #[codesV c (.slice a len cap), .slice b blen bcap, .int .i64 t] w fun e w' => e = .returned (.bool true) ∧ Below w.heap.size w w' := by
  have hle := h.hle
  have HL := Lib.hid h.hlen
  have HBL := Lib.hid hb.hlen
  have H := Lib.hid h
  have HB := Lib.hid hb
  clear h hb hwc hw
  have HB0 := Lib.hid (show Below w.heap.size w (boxW w c (.slice a len cap)) from below_alloc _ _)
  have HBX := Lib.hid (fun wr hb => (box_cell w wr c (.slice a len cap) hb 0 (by omega)).2)
  have HLD := Lib.hid (fun wr hb => load_codes w wr c (.slice a len cap) hb)
  have hz0 := boxW_size w c (.slice a len cap)
  have HZ0 := Lib.hid hz0
  clear hz0
  have c16 := HBX.out _ (Below.refl _ _)
  by_cases hbig : 600 < len
  · have d1 : decide ((600 : Int) < ↑len) = true := by simp; omega
    unfold codesV
    go_enter Try.func5, Try.ntmps5
    go_wp2
    go_ret
    exact ⟨rfl, HB0.out⟩
  have d1 : decide ((600 : Int) < ↑len) = false := by simp; omega
  by_cases hbig2 : 200 < blen
  · have d2 : decide ((200 : Int) < ↑blen) = true := by simp; omega
    unfold codesV
    go_enter Try.func5, Try.ntmps5
    go_wp2
    go_ret
    exact ⟨rfl, HB0.out⟩
  have d2 : decide ((200 : Int) < ↑blen) = false := by simp; omega
  unfold codesV
  go_enter Try.func5, Try.ntmps5
  go_wp2_with fail
  have hl7 : Bs ((boxW w c (.slice a len cap)).alloc (.cells #[Value.int .u8 7] 5)) (some ⟨w.heap.size + 1, 0, none⟩) 1 1 [7] := bs_new (boxW w c (.slice a len cap)) (w.heap.size + 1) HZ0.out.symm [7] 5 (0, 0) 1 rfl (by omega) #[Value.int .u8 7] rfl
  refine (table_any cEx (some ⟨w.heap.size + 1, 0, none⟩) 1 1 [7] _ hl7 (by omega) (fun ad e => by cases e; exact ⟨_, _, rfl⟩)).mono ?_
  rintro e w1 (⟨_, g1, ps1, fs1, vs1, wv1, rfl, hok1, _, hfs1, hnb1, hb1⟩ | ⟨hf, _⟩)
  rotate_left
  · rw [cEx_tab] at hf; cases hf
  obtain rfl := ps_ex ps1 hok1
  have hwl := length_any w1 w1.heap.size g1 _ _ (Book.of hnb1 hfs1) (by rw [wsOf_length]; decide) 7
  simp only [List.map_cons, List.map_nil] at hwl
  rw [ex_word7] at hwl
  have HWL := Lib.hid hwl
  have HB1 := Lib.hid ((below_alloc (boxW w c (.slice a len cap)) (.cells #[Value.int .u8 7] 5)).trans (hb1.mono (below_alloc (boxW w c (.slice a len cap)) (.cells #[Value.int .u8 7] 5)).size))
  clear hl7 hok1 hfs1 hnb1 hb1 hwl
  go_wp2_with fail
  refine HWL.out.mono ?_
  rintro e w2 ⟨rfl, hb2⟩
  have HB2 := Lib.hid (below_then HB1.out hb2)
  have HBW := Lib.hid (HB0.out.trans (HB2.out.mono HB0.out.size))
  have hld := HLD.out w2 HB2.out
  unfold codesV at hld
  have hb3 : Below w2.heap.size w2 (boxW w2 c (.slice a len cap)) := below_alloc _ _
  have c16c := HBX.out (boxW w2 c (.slice a len cap)) (below_then HB2.out hb3)
  unfold boxW at c16c
  have HB3 := Lib.hid hb3
  clear hb3
  have c16b := HBX.out w2 HB2.out
  clear hb2 HB1 HWL c16
  go_wp2_with (refine wpl_load rfl 49 _ rfl ⟨w.heap.size, 0, none⟩ rfl _ hld ?_)
  go_wp2_with fail
  clear c16c hld
  refine (copy_any a len cap l (boxW w2 c (.slice a len cap)) (H.out.mono (below_then HBW.out HB3.out)) (by omega)).mono ?_
  rintro e w4 ⟨gc, rfl, own4, hb4⟩
  have hgc := own4.lt gc rfl
  have O4 := Lib.hid own4
  have HB4 := Lib.hid (HB3.out.trans (hb4.mono HB3.out.size))
  have hz4 : w2.heap.size < (boxW w2 c (.slice a len cap)).heap.size := by rw [boxW_size]; omega
  have hg9 : w4.heap[w2.heap.size]? = some (.cells #[.int .i64 (c 0), .int .i64 (c 1), .int .i64 (c 2), .int .i64 (c 3), .int .i64 (c 4), .int .i64 (c 5), .int .i64 (c 6), .int .i64 (c 7), .int .i64 (c 8), .int .i64 (c 9), .int .i64 (c 10), .int .i64 (c 11), .int .i64 (c 12), .int .i64 (c 13), .int .i64 (c 14), .int .i64 (c 15), .slice a len cap] 49 (0, 0)) := (hb4.block _ hz4).trans (heap_alloc_last w2 _)
  have c9 : w4.cell? ⟨w2.heap.size, 16, none⟩ = some (.slice a len cap) := by rw [cell_of_row _ _ _ _ _ _ hg9]; rfl
  have f9 : w4.frozen? ⟨w2.heap.size, 16, none⟩ = false := frozen_of_row _ _ _ _ _ hg9
  have hld2 : (loadVar 49 ⟨w2.heap.size, 0, none⟩).run Try.prog (w4.setCell ⟨w2.heap.size, 16, none⟩ (.slice (some ⟨gc, 0, none⟩) len (len + 2))) = .ok (codesV c (.slice (some ⟨gc, 0, none⟩) len (len + 2))) (w4.setCell ⟨w2.heap.size, 16, none⟩ (.slice (some ⟨gc, 0, none⟩) len (len + 2))) := by
    refine load_codesB _ _ c _ 49 (0, 0) ?_
    rw [heap_setCell_same w4 w2.heap.size 16 _ _ _ hg9]; rfl
  unfold codesV at hld2
  clear hb4 own4
  have hb5 : Below w2.heap.size w2 (w4.setCell ⟨w2.heap.size, 16, none⟩ (.slice (some ⟨gc, 0, none⟩) len (len + 2))) := HB4.out.setCell (p := ⟨w2.heap.size, 16, none⟩) (Nat.le_refl _) _
  have own5 := (ch_set w4 w2.heap.size 16 (.slice (some ⟨gc, 0, none⟩) len (len + 2))).own O4.out (fun k hk e => by have := (O4.out.lt k hk).1; omega)
  have c9b : (w4.setCell ⟨w2.heap.size, 16, none⟩ (.slice (some ⟨gc, 0, none⟩) len (len + 2))).cell? ⟨w2.heap.size, 16, none⟩ = some (.slice (some ⟨gc, 0, none⟩) len (len + 2)) := by
    rw [cell_of_row _ _ _ _ 49 (0, 0) (heap_setCell_same w4 w2.heap.size 16 _ _ _ hg9)]; rfl
  have hz5 : w2.heap.size < (w4.setCell ⟨w2.heap.size, 16, none⟩ (.slice (some ⟨gc, 0, none⟩) len (len + 2))).heap.size ∧ gc < (w4.setCell ⟨w2.heap.size, 16, none⟩ (.slice (some ⟨gc, 0, none⟩) len (len + 2))).heap.size := by
    have : (w4.setCell ⟨w2.heap.size, 16, none⟩ (.slice (some ⟨gc, 0, none⟩) len (len + 2))).heap.size = w4.heap.size := by simp
    rw [this]; exact ⟨by omega, hgc.2⟩
  go_wp2_with (refine wpl_load rfl 49 _ rfl ⟨w2.heap.size, 0, none⟩ rfl _ hld2 ?_)
  clear hld2 c9 f9 hg9 HB4 O4
  revert hb5 own5 c9b hz5
  go_wp2_with fail
  generalize w4.setCell ⟨w2.heap.size, 16, none⟩ (.slice (some ⟨gc, 0, none⟩) len (len + 2)) = w5
  intro hb5 own5 c9b hz5
  have hm := bs_of_own own5 (by omega) len (by omega)
  rw [List.take_append_of_le_length (by rw [HL.out]; exact Nat.le_refl _), List.take_of_length_le (by rw [HL.out]; exact Nat.le_refl _)] at hm
  have hgw : w.heap.size ≤ gc := by have := hgc.1; have := HBW.out.size; omega
  have hg5 := hz5.2
  have HC : Hid (∀ wr, Below w5.heap.size w5 wr → wr.cell? ⟨w.heap.size, 16, none⟩ = some (.slice a len cap) ∧ wr.cell? ⟨w2.heap.size, 16, none⟩ = some (.slice (some ⟨gc, 0, none⟩) len (len + 2)) ∧ (loadVar 49 ⟨w.heap.size, 0, none⟩).run Try.prog wr = .ok (codesV c (.slice a len cap)) wr) := Lib.hid (fun wr hb => by
    have h1 := below_then HB2.out (hb5.trans (hb.mono hb5.size))
    refine ⟨HBX.out wr h1, ?_, HLD.out wr h1⟩
    rw [hb.cell (p := ⟨w2.heap.size, 16, none⟩) hz5.1]; exact c9b)
  have O5 := Lib.hid own5
  have HM := Lib.hid hm
  have HBW5 := Lib.hid (below_then HBW.out hb5)
  have HGW := Lib.hid hgw
  have HG5 := Lib.hid hg5
  clear hb5 own5 c9b hz5 hm hgw hg5 hgc hz4 c16b HB2 HB3 HBW HBX HLD
  refine (table_any c (some ⟨gc, 0, none⟩) len (len + 2) l w5 HM.out (by omega) (fun ad e => by cases e; exact ⟨_, _, rfl⟩)).mono ?_
  rintro e w6 (⟨htab, g6, ps, fs, vs, wv, rfl, hok, hG, hfs, hnb, hb6⟩ | ⟨htab, rfl, hb6⟩)
  · obtain ⟨k1, k2, k3⟩ := HC.out w6 hb6
    unfold codesV at k3
    have HB6 := Lib.hid hb6
    have HT := Lib.hid htab
    have HOK := Lib.hid hok
    have HG := Lib.hid hG
    have HFS := Lib.hid hfs
    have HNB := Lib.hid hnb
    clear hb6 htab hok hG hfs hnb
    go_wp2_with (refine wpl_load rfl 49 _ rfl ⟨w.heap.size, 0, none⟩ rfl _ k3 ?_)
    clear k1 k2 k3
    go_wp2_with fail
    refine (refTable_any c a len cap l w6 (H.out.mono (below_then HBW5.out HB6.out)) (by omega)).mono ?_
    rintro e w7 ⟨v7, n7, cs, rfl, hcd, hb7, hno, hyes⟩
    rw [HT.out] at hyes ⊢
    obtain ⟨hs1, hs2⟩ := hyes rfl
    have hks := ks_of cs (rowsOf (tl ps) (ps.map (·.1))) (hs1.trans (syms_tab c l ps HOK.out).symm) (hs2.trans (by rw [← sizR_tab c l ps HOK.out]; exact codes_seq _ HG.out))
    have hn7 : n7 ≤ 1000000 := by
      have h1 := congrArg List.length hs1
      rw [List.length_map, hcd.hn, Cn.syB_length, HL.out] at h1
      omega
    obtain ⟨va7, vc7, rfl, _⟩ := hcd.cells
    obtain ⟨q1, q2, _⟩ := HC.out w7 (below_then HB6.out hb7)
    have O7 := Lib.hid (own_below O5.out (below_then HB6.out hb7))
    have HBW7 := Lib.hid (below_then HBW5.out (below_then HB6.out hb7))
    have HB7 := Lib.hid hb7
    have HCD := Lib.hid hcd
    have HKS := Lib.hid hks
    have HN7 := Lib.hid hn7
    clear hb7 hcd hno hyes hs1 hs2 hks hn7 HC O5
    go_wp2_with fail
    refine (kept_any gc len a cap l w7 _ (by omega) O7.out (H.out.mono HBW7.out)).mono ?_
    rintro e w' ⟨rfl, rfl⟩
    go_wp2_with fail
    have ep : (bvs (l ++ [165, 90])).take len = bvs l := by
      rw [bvs_append, List.take_append_of_le_length (by rw [bvs_length, HL.out]; exact Nat.le_refl _), List.take_of_length_le (by rw [bvs_length, HL.out]; exact Nat.le_refl _)]
    have C7 := own_prefix O7.out len (by omega)
    rw [ep] at C7
    refine (over_any _ _ _ l _ C7).mono ?_
    rintro e w8 ⟨rfl, hc8⟩
    have hc8' : Ch w7 w8 (fun k => k = gc) := hc8.wide (fun k hk => .inl (by simpa [Value.ownBlock] using hk.symm))
    have hg6 : gc < w6.heap.size := Nat.lt_of_lt_of_le HG5.out HB6.out.size
    have HBW8 := Lib.hid (HBW7.out.trans (hc8'.below HBW7.out.size (fun k hk => by subst hk; exact HGW.out)))
    have hcd8 := HCD.out.kept hc8' (fun j hj e => by have := (HCD.out.own.lt j hj).1; omega) (fun i hi ad e e2 => by have := HCD.out.lo i hi ad e; omega)
    have HRD := Lib.hid (reads_any w8 _ g6 _ _ (Book.of (HNB.out.over HB7.out hc8' HG5.out) HFS.out) HG.out w6.heap.size _ n7 cs hcd8 HN7.out HKS.out b blen bcap m (HB.out.mono HBW8.out) (by omega) true t)
    clear hcd8 hc8' hc8 C7 ep hg6 q1 q2
    go_wp2_with fail
    refine HRD.out.mono ?_
    rintro e w9 ⟨rfl, hb9⟩
    have HB9 := Lib.hid (below_then HBW8.out hb9)
    clear hb9
    go_wp2
    go_ret
    exact ⟨rfl, HB9.out⟩
  · obtain ⟨k1, k2, k3⟩ := HC.out w6 hb6
    unfold codesV at k3
    have HB6 := Lib.hid hb6
    have HT := Lib.hid htab
    clear hb6 htab
    go_wp2_with (refine wpl_load rfl 49 _ rfl ⟨w.heap.size, 0, none⟩ rfl _ k3 ?_)
    clear k1 k2 k3
    go_wp2_with fail
    refine (refTable_any c a len cap l w6 (H.out.mono (below_then HBW5.out HB6.out)) (by omega)).mono ?_
    rintro e w7 ⟨v7, n7, cs, rfl, hcd, hb7, hno, hyes⟩
    rw [HT.out] at hno ⊢
    obtain rfl := hno rfl
    obtain ⟨q1, q2, _⟩ := HC.out w7 (below_then HB6.out hb7)
    have O7 := Lib.hid (own_below O5.out (below_then HB6.out hb7))
    have HBW7 := Lib.hid (below_then HBW5.out (below_then HB6.out hb7))
    clear hb7 hcd hno hyes HC O5
    go_wp2_with fail
    refine (kept_any gc len a cap l w7 _ (by omega) O7.out (H.out.mono HBW7.out)).mono ?_
    rintro e w' ⟨rfl, rfl⟩
    go_wp2_with fail
    refine (is_yes 6 rfl _).mono ?_
    rintro e w8 ⟨rfl, rfl⟩
    go_wp2
    go_ret
    exact ⟨rfl, HBW7.out⟩
set_option maxRecDepth 100000 in
theorem lifted (os : Os) (started : os.Started) (H : Type) (enc : TypeId × Value → H) :
    ReturnsInHanded {} Try.checked os 5 .any (Rows.canonTablesSpec.pre6 enc Try.prog Try.f5 Rows.canonTablesRow.domain false) (Rows.canonTablesSpec.post enc Try.prog Try.f5 false true false false) := by
  refine returnsInHanded_of_change_sized (C := Try.checked) own started (by kernel_rfl) Try.func5
    (ChangeSpec.witness6 (enc := enc) (C := Try.checked) false ⟨#[], #[.agg #[.int .i64 0, .int .i64 0, .int .i64 0, .int .i64 0, .int .i64 0, .int .i64 0, .int .i64 0, .int .i64 0, .int .i64 0, .int .i64 0, .int .i64 0, .int .i64 0, .int .i64 0, .int .i64 0, .int .i64 0, .int .i64 0, .slice none 0 0], .slice none 0 0, .int .i64 0], []⟩ 8 (by kernel_rfl) (by kernel_rfl) (by kernel_rfl) (by kernel_rfl)) ?_
  intro W base args ds gs before hval0 hW _ hsz0 _
  have hval : ∀ (j : Nat) t v, Try.f5.params[j]? = some t → args[j]? = some v → Value.okWide Try.prog W .any base t v := hval0
  have hsz : (DataW.weightsEach Try.prog (Try.f5.params.toList ++ Rows.canonTablesSpec.plain.varTypes Try.prog) (ds ++ gs)).all (· ≤ reachBytes) = true := hsz0
  have hW' := hW
  obtain ⟨p, q, hA0, hV, rfl, hfz, hnd⟩ := hW
  have hA : DataW.TrodAll enc Try.prog W 0 (fun _ => true) true Try.f5.params.toList args.toList ds p := hA0
  rw [Try.params5] at hA hval hsz
  obtain ⟨v0, vs0, d0, ds0, p0, q0, hargs, rfl, rfl, h0, r0⟩ := trodAll_cons hA
  obtain ⟨v1, vs1, d1, ds1, p1, q1, rfl, rfl, rfl, h1, r1⟩ := trodAll_cons r0
  obtain ⟨v2, vs2, d2, ds2, p2, q2, rfl, rfl, rfl, h2, r2⟩ := trodAll_cons r1
  obtain ⟨rfl, rfl, rfl⟩ := trodAll_nil r2
  obtain rfl : args = #[v0, v1, v2] := by cases args; simp_all
  obtain ⟨rfl, rfl⟩ := trodVars_none hV
  clear hsz0
  have k0 := h0
  have lt0 : ∀ x ∈ p0, x.block < W.heap.size := by obtain ⟨m, hm⟩ := k0; exact DataW.trod_lt m _ _ _ hm
  obtain ⟨c0, a0, len0, cap0, l0, rfl, w0, x0, y0⟩ := open_codes Try.underlying49 (by kernel_rfl) Try.underlying47 Try.underlying3 (by kernel_rfl) Try.underlying42 Try.underlying5 (by kernel_rfl) (by kernel_rfl) (by kernel_rfl) (by kernel_rfl) rfl rfl (hval 0 49 v0 rfl rfl) h0 hsz 0 rfl rfl
  obtain ⟨a1, len1, cap1, rfl⟩ := okWide_slice Try.underlying42 (hval 1 42 v1 rfl rfl)
  have k1 := h1
  have lt1 : ∀ x ∈ p1, x.block < W.heap.size := by obtain ⟨m, hm⟩ := k1; exact DataW.trod_lt m _ _ _ hm
  obtain ⟨l1, w1, c1⟩ := open_bs Try.underlying42 Try.underlying5 (by kernel_rfl) (by kernel_rfl) h1 hsz 1 rfl rfl
  obtain ⟨a2, rfl, rfl, rfl, w2⟩ := open_int Try.underlying3 (hval 2 3 v2 rfl rfl) h2
  clear hA0 hval0 hsz
  refine (walk c0 a0 len0 cap0 l0 a1 len1 cap1 l1 a2 W w0 x0 y0 w1 c1 w2).mono fun e W' ⟨he, bel⟩ => ?_
  subst he
  exact ⟨_, rfl, _, _, _, [], _, [], hW', trodAll_mk1 (shut_bool Try.underlying4 _), (trodAll_cons_mk (Below.trod laidOut (by kernel_rfl) (of_decide_eq_true (by kernel_rfl)) k0 bel lt0) (trodAll_cons_mk (Below.trod laidOut (by kernel_rfl) (of_decide_eq_true (by kernel_rfl)) k1 bel lt1) (trodAll_cons_mk (shut_int Try.underlying3 w2) trodAll_mk0))), rfl, bel.frame _, fun h => by cases h⟩

theorem proved : Rows.CanonTablesSaid :=
  OpenClaim.holds_of_wide 5 Try.f5 rfl rfl rfl rfl rfl rfl rfl ⟨rfl, rfl, rfl, rfl, rfl⟩ rfl rfl rfl rfl rfl (by kernel_rfl) Try.func5 (by kernel_rfl)
    (of_decide_eq_true (by kernel_rfl)) (by unfold Func.isWrapper; first | (rw [if_pos (by decide +kernel)]; kernel_rfl) | (rw [if_neg (by decide +kernel)]; exact ⟨rfl, rfl⟩))
    (fun os started H enc _ => lifted os started H enc)
#print axioms proved
end Go.Proofs.Ytnlbomijnldlmaa.CanonTables
