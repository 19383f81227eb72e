/- For all lengths (of at most 5000, as the law itself asks): which codes they have, and what is free of them, is as the document says, in new memory, and the lengths are left as they were. No conditions. -/
import Derived.Test.YtnlbomijnldlmaaRows
import Derived.Test.YtnlbomijnldlmaaOpen
import Derived.Test.YtnlbomijnldlmaaLawCanon
import Derived.Test.YtnlbomijnldlmaaNumInts
import Derived.Test.YtnlbomijnldlmaaNumIs
import Derived.Test.YtnlbomijnldlmaaRegionJ
namespace Go.Proofs.Ytnlbomijnldlmaa.CanonCodes
open Go.ChangeShapes Go.WideShapes Go.ChangeAt Go.RowKit
open Go.ChangeMaps (open_string shut_string)
set_option linter.unusedVariables false
theorem own : ownKnob Try.prog.godebug = none := by kernel_rfl
theorem laidOut : laidOutB Try.prog = true := by kernel_rfl
open Bk
/-- The prefix of the codes that have been written. -/
def csT (l : List Int) (k : Nat) : List Int := csOf ((seq (rowsL l) 17).take k) l.length
theorem csT_succ (l : List Int) (k : Nat) (hk : k < (seq (rowsL l) 17).length) : (csT l k).set ((seq (rowsL l) 17).getD k default).s (((seq (rowsL l) 17).getD k default).c : Int) = csT l (k + 1) := by
  unfold csT
  rw [csOf_set, List.take_succ_eq_append_getElem hk]
  simp [List.getD, List.getElem?_eq_getElem hk]
theorem csT_full (l : List Int) : csT l (seq (rowsL l) 17).length = csOf (seq (rowsL l) 17) l.length := by unfold csT; rw [List.take_length]
theorem map_cth {β : Type} (cs : List Cd) (f : Cd → β) (g : It → β) (xs : List It) (h : cs.map f = xs.map g) (i : Nat) (hi : i < cs.length) : i < xs.length ∧ f (cth cs i) = g (xs.getD i default) := by
  have hl : cs.length = xs.length := by have := congrArg List.length h; simpa using this
  have e : (cs.map f)[i]'(by simpa using hi) = (xs.map g)[i]'(by simp; omega) := by simp only [h]
  rw [List.getElem_map, List.getElem_map] at e
  exact ⟨by omega, by simpa [cth, List.getD, List.getElem?_eq_getElem hi, List.getElem?_eq_getElem (show i < xs.length by omega)] using e⟩
/-- What lies in memory while the wanted codes are written. -/
structure SC (w wx : World) (b8 q b5 len : Nat) (l : List Int) (vc vd : Value) (n : Nat) (cs : List Cd) (k : Nat) : Prop where
  bel : Below w.heap.size w wx
  ow : wx.ownsRow q 3 1 (.slice (some ⟨q, 0, none⟩) len len) len (ivs (csT l k))
  oc : wx.ownsRow b5 3 1 vc len (ivs (csOf (seq (rowsL l) 17) len))
  cd : Cds wx b8 vd n cs
theorem SC.mono {w wx wy : World} {b8 q b5 len : Nat} {l : List Int} {vc vd : Value} {n : Nat} {cs : List Cd} {k : Nat} (h : SC w wx b8 q b5 len l vc vd n cs k) (hb : Below wx.heap.size wx wy) : SC w wy b8 q b5 len l vc vd n cs k :=
  ⟨h.bel.trans (hb.mono h.bel.size), own_below h.ow hb, own_below h.oc hb, h.cd.mono hb⟩
theorem SC.set {w wx : World} {b8 q b5 len : Nat} {l : List Int} {vc vd : Value} {n : Nat} {cs : List Cd} {k : Nat} (h : SC w wx b8 q b5 len l vc vd n cs k) (hqc : ∀ j, vc.ownBlock = some j → j ≠ q) (hq : q < b8) (hw : w.heap.size ≤ q) (xs xc : Nat) (hs : (csT l k).set xs (xc : Int) = csT l (k + 1)) :
    SC w (wx.setCell ⟨q, xs, none⟩ (.int .i64 (xc : Nat))) b8 q b5 len l vc vd n cs (k + 1) := by
  have c : Ch wx (wx.setCell ⟨q, xs, none⟩ (.int .i64 (xc : Nat))) (fun k => k = q) := (Ch.refl wx (fun k => k = q)).set (.inl rfl) _
  refine ⟨h.bel.setCell (p := ⟨q, xs, none⟩) hw _, by rw [← hs]; exact own_set h.ow xs _, c.own h.oc hqc, h.cd.kept c (fun j hj e => by have := (h.cd.own.lt j hj).1; omega) (fun i hi ad e e2 => by have := h.cd.lo i hi ad e; omega)⟩
theorem pairs_len (l : List Int) (h : l.length ≤ 512) : (Cn.syms l).length ≤ 100000 := by
  unfold Cn.syms
  have : ∀ m, (Cn.symN l m).length ≤ 512 * m := by
    intro m
    induction m with
    | zero => simp [Cn.symN]
    | succ m ih =>
      rw [Cn.symN_succ, List.length_append, List.length_map]
      have := Cn.row_le l m l.length
      omega
  have := this 16
  omega
set_option maxRecDepth 100000 in
set_option maxHeartbeats 4000000 in
theorem walk (a : Option Addr) (len cap : Nat) (l : List Int) (w : World) (h : Is .i64 w a len cap l) (hr : cap * 8 ≤ 140737488351232) :
    Calls Try.prog 3 #[.slice a len cap] w fun e w' => e = .returned (.bool true) ∧ Below w.heap.size w w' := by
  have hle := h.hle
  have HL := Lib.hid h.hlen
  have H := Lib.hid h
  clear h
  go_enter Try.func3, Try.ntmps3
  go_wp2_with fail
  refine (example_any _).mono ?_
  rintro e w1 ⟨ea, ec, rfl, hex, hb1, _⟩
  go_wp2_with fail
  refine (codes_any ea 8 ec Cn.ex _ hex (by omega)).mono ?_
  rintro e w2 (⟨_, v2, rfl, own2, hb2⟩ | ⟨hf, _⟩)
  rotate_left
  · rw [ex_free] at hf; cases hf
  have HB2 := Lib.hid (below_then hb1 hb2)
  have e8 : csOf (seq (rowsL Cn.ex) 17) Cn.ex.length = [2, 3, 4, 5, 6, 0, 14, 15] := ex_codes
  rw [e8] at own2
  obtain ⟨va, vc, rfl, his⟩ := own_is own2 (wf_small (by decide))
  have HIS := Lib.hid (his.mono (below_alloc w2 (.cells #[Value.int .i64 2, .int .i64 3, .int .i64 4, .int .i64 5, .int .i64 6, .int .i64 0, .int .i64 14, .int .i64 15] 3)))
  have HLT := Lib.hid (is_lit w2 [2, 3, 4, 5, 6, 0, 14, 15] 8 3 #[Value.int .i64 2, .int .i64 3, .int .i64 4, .int .i64 5, .int .i64 6, .int .i64 0, .int .i64 14, .int .i64 15] rfl rfl (wf_small (by decide)))
  have HB3 := Lib.hid (HB2.out.alloc HB2.out.size (.cells #[Value.int .i64 2, .int .i64 3, .int .i64 4, .int .i64 5, .int .i64 6, .int .i64 0, .int .i64 14, .int .i64 15] 3))
  clear own2 his hex hb1 hb2 e8
  have h8 : Cn.ex.length = 8 := rfl
  rw [h8] at HIS
  clear h8
  go_wp2_with fail
  refine (ints_any _ _ _ _ _ _ _ _ _ HIS.out HLT.out (by omega) (by omega)).mono ?_
  rintro e w3 ⟨rfl, dn, rfl⟩
  rw [show decide (([2, 3, 4, 5, 6, 0, 14, 15] : List Int) = [2, 3, 4, 5, 6, 0, 14, 15]) = true from decide_eq_true rfl]
  have HB4 := Lib.hid (HB3.out.trans ((drewN_is _ dn).mono HB3.out.size))
  clear HIS HLT HB2 HB3
  revert HB4
  generalize World.drewN _ _ = w4
  intro HB4
  by_cases hbig : 5000 < len
  · have d1 : decide ((5000 : Int) < ↑len) = true := by simp; omega
    go_wp2
    go_ret
    exact ⟨rfl, HB4.out⟩
  have d1 : decide ((5000 : Int) < ↑len) = false := by simp; omega
  go_wp2_with fail
  refine (copyI_any a len cap l _ (H.out.mono HB4.out) (by omega)).mono ?_
  rintro e w5 ⟨g5, rfl, own5, hb5⟩
  have O5 := Lib.hid own5
  have HB5 := Lib.hid (below_then HB4.out hb5)
  have hwl : Wf l := H.out.wf
  have hi5 := is_of_own own5 (wf_mark hwl) 0 len (len + 1) (by omega) (by omega)
  rw [List.drop_zero, List.take_append_of_le_length (by rw [HL.out]; exact Nat.le_refl _), List.take_of_length_le (by rw [HL.out]; exact Nat.le_refl _)] at hi5
  have HI5 := Lib.hid hi5
  have HWL := Lib.hid hwl
  clear own5 hb5 hi5 hwl HB4
  go_wp2_with fail
  refine (codes_any _ len (len + 1) l _ HI5.out (by omega)).mono ?_
  rintro e w6 hpost
  have hb6 : Below w5.heap.size w5 w6 := by rcases hpost with ⟨_, _, _, _, hb⟩ | ⟨_, _, hb⟩ <;> exact hb
  have O6 := Lib.hid (own_below O5.out hb6)
  have HI6 := Lib.hid (HI5.out.mono hb6)
  have HB6 := Lib.hid (below_then HB5.out hb6)
  have H6 := Lib.hid (H.out.mono HB6.out)
  have HZ5 := Lib.hid HB5.out.size
  clear O5 HI5 hb6 HB5
  cases hf : Cn.freeB l
  · rcases hpost with ⟨h, _⟩ | ⟨_, rfl, _⟩
    · rw [hf] at h; cases h
    have HF := Lib.hid hf
    clear hf
    go_wp2_with fail
    refine (free_any _ len (len + 1) l _ HI6.out (by omega)).mono ?_
    rintro e w' ⟨rfl, rfl⟩
    rw [HF.out]
    simp only [Bool.false_eq_true, if_false]
    go_wp2_with fail
    refine (refFree_any a len cap l _ H6.out (by omega)).mono ?_
    rintro e w' ⟨rfl, rfl⟩
    rw [HF.out]
    go_wp2_with fail
    refine (keptI_any g5 len a cap l _ _ (by omega) HWL.out O6.out H6.out).mono ?_
    rintro e w7 ⟨rfl, dn7, rfl⟩
    go_wp2_with fail
    refine (is_yes 6 rfl _).mono ?_
    rintro e w8 ⟨rfl, rfl⟩
    go_wp2_with fail
    refine (is_yes 6 rfl _).mono ?_
    rintro e w9 ⟨rfl, rfl⟩
    go_wp2
    go_ret
    exact ⟨rfl, HB6.out.trans ((drewN_is _ dn7).mono HB6.out.size)⟩
  · rcases hpost with ⟨_, v6, rfl, own6, _⟩ | ⟨h, _⟩
    rotate_left
    · rw [hf] at h; cases h
    have HF := Lib.hid hf
    have hG := good_of l hf
    have hl5 : len ≤ 512 := by
      have h1 := hf
      simp only [Cn.freeB, Cn.formB, Bool.and_eq_true, decide_eq_true_eq] at h1
      have := h1.1.1; rw [HL.out] at this; exact this
    have hfn : Cn.freeN l = 65536 - (Cn.sum l : Int) := by
      have h1 := hf
      simp only [Cn.freeB, Bool.and_eq_true] at h1
      unfold Cn.freeN; rw [if_pos h1.1]
    have HFN := Lib.hid hfn
    clear hf hfn
    rw [HL.out] at own6
    obtain ⟨va6, vc6, rfl, his6⟩ := own_is own6 (csOf_wf _ _ (fun s => (look_small _ hG s).1))
    have OC6 := Lib.hid own6
    clear own6 his6
    go_wp2_with fail
    refine (free_any _ len (len + 1) l _ HI6.out (by omega)).mono ?_
    rintro e w' ⟨rfl, rfl⟩
    rw [HF.out]
    simp only [if_true]
    go_wp2_with fail
    refine (refFree_any a len cap l _ H6.out (by omega)).mono ?_
    rintro e w' ⟨rfl, rfl⟩
    rw [HF.out, HFN.out]
    go_wp2_with fail
    refine (keptI_any g5 len a cap l _ _ (by omega) HWL.out O6.out H6.out).mono ?_
    rintro e w7 ⟨rfl, dn7, rfl⟩
    have HB7 := Lib.hid (HB6.out.trans ((drewN_is w6 dn7).mono HB6.out.size))
    have OC7 := Lib.hid (own_below OC6.out (drewN_is w6 dn7))
    clear HB6 OC6 O6 HI6 H6
    revert HB7 OC7
    generalize World.drewN _ _ = w7
    intro HB7 OC7
    have hsum : Cn.sum l ≤ 65536 := by
      have h1 := HF.out
      simp only [Cn.freeB, Bool.and_eq_true, decide_eq_true_eq] at h1
      exact h1.2
    generalize Cn.sum l = sm at *
    go_wp2_with (at_make; refine wpl_make_full tyI rfl _ _ rfl w7.heap.size .i64 .i64 _ _ len rfl rfl rfl rfl (by omega) (by omega) (Nat.le_refl _) ?_)
    intro w8 own8 hg8
    have hb8 : Below w7.heap.size w7 w8 := (Below.refl _ _).grown hg8 (Nat.le_refl _) (by simp)
    have own9 : w8.ownsRow w7.heap.size 3 1 (.slice (some ⟨w7.heap.size, 0, none⟩) len len) len (ivs (csT l 0)) := by
      have e : csT l 0 = List.replicate len 0 := by unfold csT; rw [List.take_zero, csOf_nil, HL.out]
      have e2 := made_ints1 len
      rw [Nat.mul_one] at e2
      rw [e, ← e2]; exact own8
    have OW := Lib.hid own9
    have OC8 := Lib.hid (own_below OC7.out hb8)
    have HB8 := Lib.hid (below_then HB7.out hb8)
    have HQC : Hid (∀ k, (Value.slice va6 len vc6).ownBlock = some k → k ≠ w7.heap.size) := Lib.hid (fun k hk e => by have := (OC7.out.lt k hk).2; omega)
    have HZ7 := Lib.hid HB7.out.size
    clear own8 own9 hg8 hb8 HB7 OC7
    generalize w7.heap.size = q at *
    go_wp2_with fail
    refine (refCodes_any a len cap l _ (H.out.mono HB8.out) hl5).mono ?_
    rintro e w9 ⟨v9, n9, cs, rfl, hcd, hs1, hs2, hb9⟩
    rw [syms_of] at hs1
    rw [codes_of l HF.out] at hs2
    obtain ⟨va9, vc9, rfl, _⟩ := hcd.cells
    have hn9 : n9 = (seq (rowsL l) 17).length := by have := congrArg List.length hs1; rw [List.length_map, List.length_map, hcd.hn] at this; exact this
    have hsl : (seq (rowsL l) 17).length ≤ 100000 := by
      rw [← List.length_map (fun x : It => (x.s : Int)), ← syms_of]
      have := pairs_len l (by rw [HL.out]; exact hl5)
      exact this
    have hq8 : q < w8.heap.size := (OW.out.lt q rfl).2
    have ST := Lib.hid (show SC w w9 w8.heap.size q w5.heap.size len l (.slice va6 len vc6) (.slice va9 n9 vc9) n9 cs 0 from ⟨below_then HB8.out hb9, own_below OW.out hb9, own_below OC8.out hb9, hcd⟩)
    have HN9 := Lib.hid hn9
    have HS1 := Lib.hid (fun i hi => map_cth cs Cd.s (fun x => (x.s : Int)) (seq (rowsL l) 17) hs1 i hi)
    have HS2 := Lib.hid (fun i hi => map_cth cs Cd.b It.bits (seq (rowsL l) 17) hs2 i hi)
    have HCN := Lib.hid hcd.hn
    clear hcd hs1 hs2 hb9 OW OC8 HB8
    rw [← hn9] at hsl
    clear hn9
    generalize w8.heap.size = b8 at *
    go_wp2
    go_loopw [93] (fun i wr => ∃ k : Nat, k ≤ n9 ∧ i = .int .i64 k ∧ Hid (SC w wr b8 q w5.heap.size len l (.slice va6 len vc6) (.slice va9 n9 vc9) n9 cs k)) (fun i _ => n9 - (intOf i).toNat)
    case atStart => exact ⟨0, by omega, rfl, ST⟩
    case round =>
      obtain ⟨k, hk, rfl, HK⟩ := hrel
      by_cases hlt : k < n9
      · obtain ⟨_, _, hcv, hcells⟩ := HK.out.cd.cells
        simp only [Value.slice.injEq, true_and] at hcv
        obtain ⟨rfl, rfl⟩ := hcv
        obtain ⟨gc, rfl, c0, c1⟩ := hcells k hlt
        have hks : k < (seq (rowsL l) 17).length := by rw [← HN9.out]; exact hlt
        have hmem : (seq (rowsL l) 17).getD k default ∈ seq (rowsL l) 17 := by simp [List.getD, List.getElem?_eq_getElem hks]
        obtain ⟨m, i, hm, hi, hit⟩ := (mem_seq _ _ _).1 hmem
        have hxs := (seq_len l _ hmem).1
        rw [HL.out] at hxs
        have e1 := (HS1.out k (by rw [HCN.out]; exact hlt)).2
        have e2 := (HS2.out k (by rw [HCN.out]; exact hlt)).2
        have hclt : ((seq (rowsL l) 17).getD k default).c < 2 ^ ((seq (rowsL l) 17).getD k default).n := by rw [hit]; exact it_lt _ hG m i (by omega) hi
        have hnum : Bt.numH (cth cs k).b = ((seq (rowsL l) 17).getD k default).c := by rw [e2]; exact numH_dg _ _ hclt
        have hbl : (cth cs k).b.length ≤ 16 := by rw [e2, It.bits, Bt.dg_length, hit]; show m ≤ 16; omega
        have hset := csT_succ l k hks
        have hea := HK.out.cd.each k hlt
        have hlen16 : (cth cs k).len ≤ 32 := by have := hea.hlen; rw [bi_length] at this; omega
        rw [e1] at c0
        have HNUM := Lib.hid hnum
        have HSET := Lib.hid hset
        have HEA := Lib.hid hea
        have HAL := Lib.hid (fun ad e => (HK.out.cd.blk k hlt ad e).1)
        clear hmem hit e1 e2 hclt hbl hset hnum hea hks hi hcells
        generalize ((seq (rowsL l) 17).getD k default).s = xs at *
        generalize ((seq (rowsL l) 17).getD k default).c = xc at *
        go_upto_region 20 with (fail)
        have hSa := HK.out.mono (below_alloc wr (.cells #[.int .i64 (xs : Nat), .slice (cth cs k).a (cth cs k).len (cth cs k).cap] 39))
        have hd := drew_is (wr.alloc (.cells #[.int .i64 (xs : Nat), .slice (cth cs k).a (cth cs k).len (cth cs k).cap] 39))
        have HS3 := Lib.hid (hSa.mono hd)
        have hpb : (wr.alloc (.cells #[.int .i64 (xs : Nat), .slice (cth cs k).a (cth cs k).len (cth cs k).cap] 39)).drew.heap[wr.heap.size]? = some (.cells #[.int .i64 (xs : Nat), .slice (cth cs k).a (cth cs k).len (cth cs k).cap] 39) := heap_alloc_last wr _
        have i0 : (wr.alloc (.cells #[.int .i64 (xs : Nat), .slice (cth cs k).a (cth cs k).len (cth cs k).cap] 39)).drew.cell? ⟨wr.heap.size, 0, none⟩ = some (.int .i64 (xs : Nat)) := by rw [cell_of_row _ _ _ _ _ (0, 0) hpb]; rfl
        have i1 : (wr.alloc (.cells #[.int .i64 (xs : Nat), .slice (cth cs k).a (cth cs k).len (cth cs k).cap] 39)).drew.cell? ⟨wr.heap.size, 1, none⟩ = some (.slice (cth cs k).a (cth cs k).len (cth cs k).cap) := by rw [cell_of_row _ _ _ _ _ (0, 0) hpb]; rfl
        have HNM := Lib.hid (lawNumber_any (cth cs k).a (cth cs k).len (cth cs k).cap (cth cs k).b (wr.alloc (.cells #[.int .i64 (xs : Nat), .slice (cth cs k).a (cth cs k).len (cth cs k).cap] 39)).drew ((HEA.out.mono (below_alloc wr _)).mono hd) hlen16)
        rw [HNUM.out] at HNM
        obtain ⟨z0, g0⟩ : ∃ z, (wr.alloc (.cells #[.int .i64 (xs : Nat), .slice (cth cs k).a (cth cs k).len (cth cs k).cap] 39)).drew.cell? ⟨q, xs, none⟩ = some z := ⟨_, by rw [HS3.out.ow.cellAt xs (by omega), ivs_get _ _ (by unfold csT; rw [csOf_length, HL.out]; exact hxs)]⟩
        have f0 : (wr.alloc (.cells #[.int .i64 (xs : Nat), .slice (cth cs k).a (cth cs k).len (cth cs k).cap] 39)).drew.frozen? ⟨q, xs, none⟩ = false := by
          rcases HS3.out.ow.2 with ⟨h1, _⟩ | ⟨g2, cap2, cur, h1, _, hg, _⟩
          · simp at h1
          · simp only [Value.slice.injEq, Option.some.injEq, Addr.mk.injEq, and_true, true_and] at h1
            obtain ⟨rfl, rfl⟩ := h1
            exact frozen_of_row _ _ _ _ _ hg
        have HZB : Hid (b8 ≤ wr.heap.size) := Lib.hid (by
          have := (HK.out.cd.own.lt gc rfl)
          omega)
        refine wp_region_noPanic ?_
        refine region_J 7 (fun w' => w'.cell? ⟨wr.heap.size, 0, none⟩ = some (.int .i64 (xs : Nat)) ∧ w'.cell? ⟨wr.heap.size, 1, none⟩ = some (.slice (cth cs k).a (cth cs k).len (cth cs k).cap)) (by kernel_rfl) ?_
        clear hSa hd hpb HEA c0 c1
        revert HS3 i0 i1 HNM g0 f0
        generalize (wr.alloc (.cells #[.int .i64 (xs : Nat), .slice (cth cs k).a (cth cs k).len (cth cs k).cap] 39)).drew = w3
        intro HS3 i0 i1 HNM g0 f0
        generalize wr.heap.size = p at *
        refine J_take (i := 0) (v := ?_) rfl (by kernel_rfl) (by kernel_rfl) (by kernel_rfl) (by kernel_rfl) (fun _ _ _ h => h) ⟨i0, i1⟩ (by rfl) ?_ ?_
        rotate_left
        · (intro w' hw'; obtain ⟨j0, j1⟩ := hw'; first | (go_simp; done) | (go_simp; with_reducible rfl))
        try simp only [Act.put, List.setIfInBounds_toArray, List.set_cons_zero, List.set_cons_succ]
        refine J_take (i := 1) (v := ?_) rfl (by kernel_rfl) (by kernel_rfl) (by kernel_rfl) (by kernel_rfl) (fun _ _ _ h => h) ⟨i0, i1⟩ (by rfl) ?_ ?_
        rotate_left
        · (intro w' hw'; obtain ⟨j0, j1⟩ := hw'; first | (go_simp; done) | (go_simp; with_reducible rfl))
        try simp only [Act.put, List.setIfInBounds_toArray, List.set_cons_zero, List.set_cons_succ]
        refine J_take (i := 2) (v := ?_) rfl (by kernel_rfl) (by kernel_rfl) (by kernel_rfl) (by kernel_rfl) (fun _ _ _ h => h) ⟨i0, i1⟩ (by rfl) ?_ ?_
        rotate_left
        · (intro w' hw'; obtain ⟨j0, j1⟩ := hw'; first | (go_simp; done) | (go_simp; with_reducible rfl))
        try simp only [Act.put, List.setIfInBounds_toArray, List.set_cons_zero, List.set_cons_succ]
        refine J_take (i := 3) (v := ?_) rfl (by kernel_rfl) (by kernel_rfl) (by kernel_rfl) (by kernel_rfl) (fun _ _ _ h => h) ⟨i0, i1⟩ (by rfl) ?_ ?_
        rotate_left
        · (intro w' hw'; obtain ⟨j0, j1⟩ := hw'; first | (go_simp; done) | (go_simp; with_reducible rfl))
        try simp only [Act.put, List.setIfInBounds_toArray, List.set_cons_zero, List.set_cons_succ]
        refine J_take (i := 4) (v := ?_) rfl (by kernel_rfl) (by kernel_rfl) (by kernel_rfl) (by kernel_rfl) (fun _ _ _ h => h) ⟨i0, i1⟩ (by rfl) ?_ ?_
        rotate_left
        · (intro w' hw'; obtain ⟨j0, j1⟩ := hw'; first | (go_simp; done) | (go_simp; with_reducible rfl))
        try simp only [Act.put, List.setIfInBounds_toArray, List.set_cons_zero, List.set_cons_succ]
        refine J_step (i := 5) (by kernel_rfl) rfl (fun K hK => ?_)
        go_simp
        go_at_call 19
        refine HNM.out.mono ?_
        rintro e w' ⟨rfl, rfl⟩
        go_simp
        refine hK.out _ _ (fun _ => ⟨i0, i1⟩) (fun _ => ?_)
        clear hK K
        try simp only [Act.put, List.setIfInBounds_toArray, List.set_cons_zero, List.set_cons_succ]
        refine J_take (i := 6) (v := ?_) rfl (by kernel_rfl) (by kernel_rfl) (by kernel_rfl) (by kernel_rfl) (fun _ _ _ h => h) ⟨i0, i1⟩ (by rfl) ?_ ?_
        rotate_left
        · (intro w' hw'; obtain ⟨j0, j1⟩ := hw'; first | (go_simp; done) | (go_simp; with_reducible rfl))
        try simp only [Act.put, List.setIfInBounds_toArray, List.set_cons_zero, List.set_cons_succ]
        refine J_step (i := 7) (by kernel_rfl) rfl (fun K hK => ?_)
        go_simp
        refine hK.out _ _ (fun h => absurd rfl h) (fun _ => ?_)
        clear hK K
        try simp only [Act.put, List.setIfInBounds_toArray, List.set_cons_zero, List.set_cons_succ]
        have HS4 := Lib.hid (HS3.out.set HQC.out hq8 HZ7.out xs xc HSET.out)
        refine J_done (by kernel_rfl) ?_ _
        refine NoPanic.normal ?_
        clear HS3 i0 i1 g0 f0 HNM
        go_wp2
        go_roundw
        case rel => exact ⟨k + 1, by omega, by go_num, HS4⟩
        case measure => simp [intOf]; omega
      · obtain rfl : n9 = k := by omega
        have how := HK.out.ow
        have e1 : csT l n9 = csOf (seq (rowsL l) 17) len := by rw [HN9.out, csT_full, HL.out]
        rw [e1] at how
        have hwf : Wf (csOf (seq (rowsL l) 17) len) := csOf_wf _ _ (fun s => (look_small _ hG s).1)
        have hiw := is_of_own how hwf 0 len len (by omega) (Nat.le_refl _)
        rw [List.drop_zero, List.take_of_length_le (by rw [csOf_length]; exact Nat.le_refl _)] at hiw
        obtain ⟨va', vc', hv', hic⟩ := own_is HK.out.oc hwf
        simp only [Value.slice.injEq, true_and] at hv'
        obtain ⟨rfl, rfl⟩ := hv'
        have HIW := Lib.hid hiw
        have HIC := Lib.hid hic
        clear how hwf hiw hic e1
        go_wp2_with fail
        refine (ints_any _ _ _ _ _ _ _ _ _ HIC.out HIW.out (by omega) (by omega)).mono ?_
        rintro e w10 ⟨rfl, dn, rfl⟩
        rw [decide_eq_true rfl]
        go_wp2
        go_ret
        exact ⟨rfl, HK.out.bel.trans ((drewN_is _ dn).mono HK.out.bel.size)⟩
set_option maxRecDepth 100000 in
theorem lifted (os : Os) (started : os.Started) (H : Type) (enc : TypeId × Value → H) :
    ReturnsInHanded {} Try.checked os 3 .any (Rows.canonCodesSpec.pre6 enc Try.prog Try.f3 Rows.canonCodesRow.domain false) (Rows.canonCodesSpec.post enc Try.prog Try.f3 false true false false) := by
  refine returnsInHanded_of_change_sized (C := Try.checked) own started (by kernel_rfl) Try.func3
    (ChangeSpec.witness6 (enc := enc) (C := Try.checked) false ⟨#[], #[.slice none 0 0], []⟩ 8 (by kernel_rfl) (by kernel_rfl) (by kernel_rfl) (by kernel_rfl)) ?_
  intro W base args ds gs before hval0 hW _ hsz0 _
  have hval : ∀ (j : Nat) t v, Try.f3.params[j]? = some t → args[j]? = some v → Value.okWide Try.prog W .any base t v := hval0
  have hsz : (DataW.weightsEach Try.prog (Try.f3.params.toList ++ Rows.canonCodesSpec.plain.varTypes Try.prog) (ds ++ gs)).all (· ≤ reachBytes) = true := hsz0
  have hW' := hW
  obtain ⟨p, q, hA0, hV, rfl, hfz, hnd⟩ := hW
  have hA : DataW.TrodAll enc Try.prog W 0 (fun _ => true) true Try.f3.params.toList args.toList ds p := hA0
  rw [Try.params3] at hA hval hsz
  obtain ⟨v0, vs0, d0, ds0, p0, q0, hargs, rfl, rfl, h0, r0⟩ := trodAll_cons hA
  obtain ⟨rfl, rfl, rfl⟩ := trodAll_nil r0
  obtain rfl : args = #[v0] := by cases args; simp_all
  obtain ⟨rfl, rfl⟩ := trodVars_none hV
  clear hsz0
  obtain ⟨a0, len0, cap0, rfl⟩ := okWide_slice Try.underlying22 (hval 0 22 v0 rfl rfl)
  have k0 := h0
  have lt0 : ∀ x ∈ p0, x.block < W.heap.size := by obtain ⟨m, hm⟩ := k0; exact DataW.trod_lt m _ _ _ hm
  obtain ⟨l0, w0, c0⟩ := open_is (by' := 8) Try.underlying22 Try.underlying3 (by kernel_rfl) (by kernel_rfl) h0 hsz 0 rfl rfl
  clear hA0 hval0 hsz
  refine (walk a0 len0 cap0 l0 W w0 c0).mono fun e W' ⟨he, bel⟩ => ?_
  subst he
  exact ⟨_, rfl, _, _, _, [], _, [], hW', trodAll_mk1 (shut_bool Try.underlying4 _), (trodAll_cons_mk (Below.trod laidOut (by kernel_rfl) (of_decide_eq_true (by kernel_rfl)) k0 bel lt0) trodAll_mk0), rfl, bel.frame _, fun h => by cases h⟩

theorem proved : Rows.CanonCodesSaid :=
  OpenClaim.holds_of_wide 3 Try.f3 rfl rfl rfl rfl rfl rfl rfl ⟨rfl, rfl, rfl, rfl, rfl⟩ rfl rfl rfl rfl rfl (by kernel_rfl) Try.func3 (by kernel_rfl)
    (of_decide_eq_true (by kernel_rfl)) (by unfold Func.isWrapper; first | (rw [if_pos (by decide +kernel)]; kernel_rfl) | (rw [if_neg (by decide +kernel)]; exact ⟨rfl, rfl⟩))
    (fun os started H enc _ => lifted os started H enc)
#print axioms proved
end Go.Proofs.Ytnlbomijnldlmaa.CanonCodes
