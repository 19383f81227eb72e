/- For all counts (of at most 40 that stand, or more than 256 in all, as the law itself asks): the best JPEG's codes are in form, there is one for each symbol that stands, and no codes up to 16 bits with one more that costs nothing cost less; what can't be is refused, and the counts are left as they were. No conditions. -/
import Derived.Test.YtcagdnajapcmkaaRows
import Derived.Test.YtcagdnajapcmkaaOpen
import Derived.Test.YtcagdnajapcmkaaTblTable
import Derived.Test.YtcagdnajapcmkaaMergeLaw
import Derived.Test.YtcagdnajapcmkaaNumIs
import Derived.Test.YtcagdnajapcmkaaIsLit
import Derived.Test.YtcagdnajapcmkaaBest05
import Derived.Test.YtcagdnajapcmkaaUsed05
namespace Go.Proofs.Ytcagdnajapcmkaa.MergeTables
open Go.ChangeShapes Go.WideShapes Go.ChangeAt Go.RowKit
open Go.ChangeMaps (open_string shut_string)
set_option linter.unusedVariables false
theorem own : ownKnob Try.prog.godebug = none := by kernel_rfl
theorem laidOut : laidOutB Try.prog = true := by kernel_rfl
open Bk
theorem cd_at {β : Type} (cs : List Cd) (f : Cd → β) (xs : List β) (d : β) (h : cs.map f = xs) (i : Nat) (hi : i < cs.length) : f (cth cs i) = xs.getD i d := by
  subst h
  simp [cth, List.getD, List.getElem?_eq_getElem hi]
theorem map_getD (ys : List Nat) (k : Nat) : (ys.map fun i => ((i : Nat) : Int)).getD k 0 = ((ys.getD k 0 : Nat) : Int) := by
  simp only [List.getD, List.getElem?_map]
  cases ys[k]? <;> rfl
/-- What the loop over the codes holds. -/
structure LT (w wr : World) (B : Nat) (v : Value) (n : Nat) (cs : List Cd) : Prop where
  bel : Below w.heap.size w wr
  cd : Cds wr B v n cs
theorem LT.mono {w wx wy : World} {B n : Nat} {v : Value} {cs : List Cd} (h : LT w wx B v n cs) (hb : Below wx.heap.size wx wy) : LT w wy B v n cs :=
  ⟨h.bel.trans (hb.mono h.bel.size), h.cd.mono hb⟩
set_option maxRecDepth 100000 in
set_option maxHeartbeats 8000000 in
theorem walk (a : Option Addr) (len cap : Nat) (l : List Int) (w : World) (h : Is .i64 w a len cap l) (hr : cap * 8 ≤ 140737488351232) :
    Calls Try.prog 3 #[.slice a len cap] w fun e w' => e = .returned (.bool true) ∧ Below w.heap.size w w' := by
  have hle := h.hle
  have HL := Lib.hid h.hlen
  have H := Lib.hid h
  clear h
  go_enter Try.func3, Try.ntmps3
  go_wp2_with fail
  refine (alive_any w).mono ?_
  rintro e w1 ⟨rfl, hb1⟩
  have HB1 := Lib.hid hb1
  clear hb1
  go_wp2_with fail
  refine (used_any a len cap l w1 (H.out.mono HB1.out) (by omega)).mono ?_
  rintro e w' ⟨rfl, rfl⟩
  by_cases hbig : 40 < Mg.used l
  · have d0 : decide ((40 : Int) < ((Mg.used l : Nat) : Int)) = true := by simp; omega
    by_cases hlen : len ≤ 256
    · have d1 : decide ((len : Int) ≤ 256) = true := by simp; omega
      go_wp2
      go_ret
      exact ⟨rfl, HB1.out⟩
    have d1 : decide ((len : Int) ≤ 256) = false := by simp; omega
    have HOK : Hid (Mg.within l 256 1099511627776 = false) := Lib.hid (by
      cases hok : Mg.within l 256 1099511627776
      · rfl
      · have := Mg.within_len hok; rw [HL.out] at this; omega)
    go_wp2_with fail
    refine (copyI_any a len cap l _ (H.out.mono HB1.out) (by omega)).mono ?_
    rintro e w5 ⟨g5, rfl, own5, hb5⟩
    have O5 := Lib.hid own5
    have HB5 := Lib.hid (below_then HB1.out hb5)
    have hwl : Wf l := H.out.wf
    have hi5 := is_of_own own5 (wf_mark hwl) 0 len (len + 1) (by omega) (by omega)
    rw [List.drop_zero, List.take_append_of_le_length (by rw [HL.out]; exact Nat.le_refl _), List.take_of_length_le (by rw [HL.out]; exact Nat.le_refl _)] at hi5
    have HI5 := Lib.hid hi5
    have HWL := Lib.hid hwl
    clear own5 hb5 hi5 hwl HB1
    go_wp2_with fail
    refine (tblTable_any _ len (len + 1) l w5 HI5.out (by omega)).mono ?_
    rintro e w6 ⟨hb6, hpost⟩
    have O6 := Lib.hid (own_below O5.out hb6)
    have HB6 := Lib.hid (below_then HB5.out hb6)
    have H6 := Lib.hid (H.out.mono HB6.out)
    clear O5 HI5 HB5 hb6
    rcases hpost with ⟨_, rfl⟩ | ⟨hno, _⟩
    rotate_left
    · exact absurd (HOK.out.symm.trans hno) (by simp)
    have hbb := below_alloc w6 (.cells #[.int .i64 0, .int .i64 0, .int .i64 0, .int .i64 0, .int .i64 0, .int .i64 0, .int .i64 0, .int .i64 0, .int .i64 0, .int .i64 0, .int .i64 0, .int .i64 0, .int .i64 0, .int .i64 0, .int .i64 0, .int .i64 0, .slice none 0 0] 29)
    have O7 := Lib.hid (own_below O6.out hbb)
    have HB7 := Lib.hid (below_then HB6.out hbb)
    have H7 := Lib.hid (H6.out.mono hbb)
    clear hbb O6 H6 HB6
    unfold codesV
    go_wp2_with fail
    refine (keptI_any g5 len a cap l _ _ (by omega) HWL.out O7.out H7.out).mono ?_
    rintro e w8 ⟨rfl, dn8, rfl⟩
    have H8 := Lib.hid (H7.out.mono (drewN_is _ dn8))
    have HB8 := Lib.hid (HB7.out.trans ((drewN_is _ dn8).mono HB7.out.size))
    go_wp2_with fail
    refine (good_any a len cap l 256 _ H8.out (by omega) (by omega)).mono ?_
    rintro e w' ⟨rfl, rfl⟩
    rw [HOK.out]
    go_wp2_with fail
    refine (is_yes 6 rfl _).mono ?_
    rintro e w' ⟨rfl, rfl⟩
    go_wp2
    go_ret
    exact ⟨rfl, HB8.out⟩
  have d0 : decide ((40 : Int) < ((Mg.used l : Nat) : Int)) = false := by simp; omega
  cases hok : Mg.within l 256 1099511627776
  · have HOK := Lib.hid hok
    clear hok
    go_wp2_with fail
    refine (copyI_any a len cap l _ (H.out.mono HB1.out) (by omega)).mono ?_
    rintro e w5 ⟨g5, rfl, own5, hb5⟩
    have O5 := Lib.hid own5
    have HB5 := Lib.hid (below_then HB1.out hb5)
    have hwl : Wf l := H.out.wf
    have hi5 := is_of_own own5 (wf_mark hwl) 0 len (len + 1) (by omega) (by omega)
    rw [List.drop_zero, List.take_append_of_le_length (by rw [HL.out]; exact Nat.le_refl _), List.take_of_length_le (by rw [HL.out]; exact Nat.le_refl _)] at hi5
    have HI5 := Lib.hid hi5
    have HWL := Lib.hid hwl
    clear own5 hb5 hi5 hwl HB1
    go_wp2_with fail
    refine (tblTable_any _ len (len + 1) l w5 HI5.out (by omega)).mono ?_
    rintro e w6 ⟨hb6, hpost⟩
    have O6 := Lib.hid (own_below O5.out hb6)
    have HB6 := Lib.hid (below_then HB5.out hb6)
    have H6 := Lib.hid (H.out.mono HB6.out)
    clear O5 HI5 HB5 hb6
    rcases hpost with ⟨_, rfl⟩ | ⟨hno, _⟩
    rotate_left
    · exact absurd (HOK.out.symm.trans hno) (by simp)
    have hbb := below_alloc w6 (.cells #[.int .i64 0, .int .i64 0, .int .i64 0, .int .i64 0, .int .i64 0, .int .i64 0, .int .i64 0, .int .i64 0, .int .i64 0, .int .i64 0, .int .i64 0, .int .i64 0, .int .i64 0, .int .i64 0, .int .i64 0, .int .i64 0, .slice none 0 0] 29)
    have O7 := Lib.hid (own_below O6.out hbb)
    have HB7 := Lib.hid (below_then HB6.out hbb)
    have H7 := Lib.hid (H6.out.mono hbb)
    clear hbb O6 H6 HB6
    unfold codesV
    go_wp2_with fail
    refine (keptI_any g5 len a cap l _ _ (by omega) HWL.out O7.out H7.out).mono ?_
    rintro e w8 ⟨rfl, dn8, rfl⟩
    have H8 := Lib.hid (H7.out.mono (drewN_is _ dn8))
    have HB8 := Lib.hid (HB7.out.trans ((drewN_is _ dn8).mono HB7.out.size))
    go_wp2_with fail
    refine (good_any a len cap l 256 _ H8.out (by omega) (by omega)).mono ?_
    rintro e w' ⟨rfl, rfl⟩
    rw [HOK.out]
    go_wp2_with fail
    refine (is_yes 6 rfl _).mono ?_
    rintro e w' ⟨rfl, rfl⟩
    go_wp2
    go_ret
    exact ⟨rfl, HB8.out⟩
  have hlen := Mg.within_len hok
  rw [HL.out] at hlen
  have HOK := Lib.hid hok
  have HAT := Lib.hid (fun k (hk : k < len) => Mg.within_at hok k (by rw [HL.out]; exact hk))
  clear hok
  go_wp2_with fail
  refine (copyI_any a len cap l _ (H.out.mono HB1.out) (by omega)).mono ?_
  rintro e w5 ⟨g5, rfl, own5, hb5⟩
  have O5 := Lib.hid own5
  have HB5 := Lib.hid (below_then HB1.out hb5)
  have hwl : Wf l := H.out.wf
  have hi5 := is_of_own own5 (wf_mark hwl) 0 len (len + 1) (by omega) (by omega)
  rw [List.drop_zero, List.take_append_of_le_length (by rw [HL.out]; exact Nat.le_refl _), List.take_of_length_le (by rw [HL.out]; exact Nat.le_refl _)] at hi5
  have HI5 := Lib.hid hi5
  have HWL := Lib.hid hwl
  clear own5 hb5 hi5 hwl HB1
  go_wp2_with fail
  refine (tblTable_any _ len (len + 1) l w5 HI5.out (by omega)).mono ?_
  rintro e w6 ⟨hb6, hpost⟩
  have O6 := Lib.hid (own_below O5.out hb6)
  have HB6 := Lib.hid (below_then HB5.out hb6)
  have H6 := Lib.hid (H.out.mono HB6.out)
  clear O5 HI5 HB5 hb6
  rcases hpost with ⟨hno, _⟩ | ⟨_, v, rfl, own6⟩
  · exact absurd (HOK.out.symm.trans hno) (by simp)
  rw [Mg.ts_length] at own6
  have hu40 : Mg.used l ≤ 40 := by omega
  obtain ⟨a8, k8, rfl, hbs⟩ := own_bs own6 (by omega)
  have hbx : (boxW w6 (Cn.occ (Mg.tl l)) (.slice a8 (Mg.used l) k8)).heap[w6.heap.size]? = some (.cells (jcv (Cn.occ (Mg.tl l)) (.slice a8 (Mg.used l) k8)).toArray 29 (0, 0)) := heap_alloc_last w6 _
  have hbb : Below w6.heap.size w6 (boxW w6 (Cn.occ (Mg.tl l)) (.slice a8 (Mg.used l) k8)) := below_alloc w6 _
  have HBS := Lib.hid (hbs.mono hbb)
  have O7 := Lib.hid (own_below O6.out hbb)
  have HB7 := Lib.hid (below_then HB6.out hbb)
  have H7 := Lib.hid (H6.out.mono hbb)
  have HBX := Lib.hid hbx
  have HTB := Lib.hid (Mg.tab_true l (by rw [HL.out]; exact hlen))
  have HCN := Lib.hid (Mg.tl_cnt l (by omega))
  have HSY := Lib.hid (Mg.ts_syB l (by rw [HL.out]; exact hlen))
  have hz6 : (boxW w6 (Cn.occ (Mg.tl l)) (.slice a8 (Mg.used l) k8)).heap.size = w6.heap.size + 1 := boxW_size _ _ _
  clear own6 hbs hbx hbb O6 H6 HB6
  generalize Cn.occ (Mg.tl l) = c at *
  unfold codesV
  unfold boxW at HBS O7 HB7 H7 HBX hz6
  go_wp2_with fail
  revert HBS O7 HB7 H7 HBX hz6
  generalize World.alloc _ _ = w7
  intro HBS O7 HB7 H7 HBX hz6
  refine (keptI_any g5 len a cap l _ _ (by omega) HWL.out O7.out H7.out).mono ?_
  rintro e w8 ⟨rfl, dn8, rfl⟩
  have H8 := Lib.hid (H7.out.mono (drewN_is w7 dn8))
  have HBS8 := Lib.hid (HBS.out.mono (drewN_is w7 dn8))
  have HB8 := Lib.hid (HB7.out.trans ((drewN_is w7 dn8).mono HB7.out.size))
  have hld := load_jcv c (.slice a8 (Mg.used l) k8) (w7.drewN dn8) w6.heap.size (((drewN_is w7 dn8).block _ (by omega)).trans HBX.out)
  clear HBS O7 HB7 H7 HBX hz6
  revert H8 HBS8 HB8 hld
  generalize World.drewN _ _ = w8
  intro H8 HBS8 HB8 hld
  have HLD := Lib.hid hld
  clear hld
  go_wp2_with fail
  refine (good_any a len cap l 256 w8 H8.out (by omega) (by omega)).mono ?_
  rintro e w' ⟨rfl, rfl⟩
  rw [HOK.out]
  go_wp2_with (refine wpl_load rfl 29 _ rfl ⟨w6.heap.size, 0, none⟩ rfl _ HLD.out ?_)
  go_wp2_with fail
  refine (refTable_any c a8 (Mg.used l) k8 (Mg.ts l) w8 HBS8.out (by omega)).mono ?_
  rintro e w9 ⟨v9, n9, cs, rfl, hcd, hb9, _, hyes⟩
  obtain ⟨hs1, hs2⟩ := hyes HTB.out
  rw [HTB.out]
  rw [HCN.out] at hs2
  rw [HSY.out] at hs1
  obtain ⟨va9, vc9, rfl, _⟩ := hcd.cells
  have hn9 : n9 = Mg.used l := by have := congrArg List.length hs1; rw [List.length_map, List.length_map, List.length_reverse, Mg.order_used, hcd.hn] at this; exact this
  subst hn9
  have HS1 : Hid (∀ k, k < Mg.used l → (cth cs k).s = ((Mg.sy l k : Nat) : Int)) := Lib.hid (fun k hk => by
    rw [cd_at cs Cd.s _ 0 hs1 k (by rw [hcd.hn]; exact hk)]
    exact map_getD _ _)
  have HS2 : Hid (∀ k, k < Mg.used l → (cth cs k).len = Mg.ln l k) := Lib.hid (fun k hk => by
    have e1 := cd_at cs Cd.b _ [] hs2 k (by rw [hcd.hn]; exact hk)
    have e2 := Mg.tbl_codes l (by rw [HL.out]; exact hlen) k hk
    have e3 := (hcd.each k hk).hlen
    rw [bi_length, e1, e2] at e3
    exact e3.symm)
  have HLT := Lib.hid (show LT w w9 w8.heap.size (.slice va9 (Mg.used l) vc9) (Mg.used l) cs from ⟨below_then HB8.out hb9, hcd⟩)
  have HCL := Lib.hid (Mg.ct_le l hu40 (fun k hk => (HAT.out k (by rw [HL.out] at hk; exact hk)).2))
  have HSL := Lib.hid (fun k (hk : k < Mg.used l) => Mg.sy_lt l k hk)
  have HLR := Lib.hid (fun k (hk : k < Mg.used l) => Mg.ln_range l (by omega) k hk)
  have HALL := Lib.hid (fun C hC b hb => Mg.ct_all l hu40 C hC b hb)
  have HMO := Lib.hid (Mg.rise_le l 1099511627776 (fun k hk => (HAT.out k (by rw [HL.out] at hk; exact hk)).2))
  have HMP := Lib.hid (Mg.rise_Pos l)
  clear hcd hb9 hyes hs1 hs2 HTB HCN HSY HLD HBS8 HB8
  generalize w8.heap.size = b8 at *
  go_wp2_with fail
  refine (used_any a len cap l w9 (H.out.mono HLT.out.bel) (by omega)).mono ?_
  rintro e w' ⟨rfl, rfl⟩
  go_wp2
  go_loopw [8, 63] (fun s i wr => ∃ k : Nat, k ≤ Mg.used l ∧ i = .int .i64 k ∧ s = .int .i64 (Mg.SI (Mg.ct l) k) ∧ Hid (LT w wr b8 (.slice va9 (Mg.used l) vc9) (Mg.used l) cs)) (fun _ i _ => Mg.used l - (intOf i).toNat)
  case atStart => exact ⟨0, by omega, rfl, rfl, HLT⟩
  case round =>
    obtain ⟨k, hk, rfl, rfl, HK⟩ := hrel
    have hcl := HCL.out k hk
    by_cases hlt : k < Mg.used l
    · obtain ⟨_, _, hcv, hcells⟩ := HK.out.cd.cells
      simp only [Value.slice.injEq, true_and] at hcv
      obtain ⟨rfl, rfl⟩ := hcv
      obtain ⟨gc, rfl, c0, c1⟩ := hcells k hlt
      rw [HS1.out k hlt] at c0
      rw [HS2.out k hlt] at c1
      obtain ⟨s1, s2⟩ := HSL.out k hlt
      rw [HL.out] at s1
      have s3 := (HAT.out _ s1).2
      obtain ⟨l1, l2, _⟩ := HLR.out k hlt
      obtain ⟨b1, off1, ea, _, c2⟩ := (H.out.mono HK.out.bel).at' (Mg.sy l k) s1
      have hE : Hid (Mg.SI (Mg.ct l) (k + 1) = Mg.SI (Mg.ct l) k + l.getD (Mg.sy l k) 0 * (Mg.ln l k : Int)) := Lib.hid rfl
      have c2' : wr.cell? ⟨b1, off1 + Mg.sy l k, none⟩ = some (.int .i64 (l.getD (Mg.sy l k) 0)) := c2
      clear c2 hcells HALL
      subst ea
      have hp0 : 0 ≤ l.getD (Mg.sy l k) 0 * (Mg.ln l k : Int) := Int.mul_nonneg (by omega) (by omega)
      have hp1 : l.getD (Mg.sy l k) 0 * (Mg.ln l k : Int) ≤ 1099511627776 * 16 := Int.mul_le_mul s3 (by omega) (by omega) (by omega)
      have HK1 := Lib.hid (HK.out.mono (below_alloc wr (.cells #[.int .i64 (Mg.sy l k : Nat), .slice (cth cs k).a (Mg.ln l k) (cth cs k).cap] 42)))
      clear HK
      generalize l.getD (Mg.sy l k) 0 = x at *
      generalize Mg.sy l k = s at *
      generalize Mg.ln l k = y at *
      generalize Mg.SI (Mg.ct l) k = q at *
      generalize hxy : x * (y : Int) = p at *
      have HXY := Lib.hid hxy
      have dx : (x == 0) = false := by simp; omega
      clear hxy
      go_wp2_with fail
      go_quiet (fail)
      go_wp2
      go_roundw
      case rel => exact ⟨k + 1, by omega, by go_num, int_eq (by rw [hE.out, HXY.out, IntWalk.wrap64_in p ⟨by omega, by omega⟩, IntWalk.wrap64_in _ ⟨by omega, by omega⟩]), Lib.hid (HK1.out.mono (by first | exact drewN_is _ _ | exact drew_is _))⟩
      case measure => simp [intOf]; omega
    · obtain rfl : Mg.used l = k := by omega
      go_wp2_with fail
      refine (used05_any a len cap l wr (H.out.mono HK.out.bel) (by omega)).mono ?_
      rintro e w10 ⟨v10, C, rfl, own10, hb10, hrev, hlC⟩
      rw [hlC] at own10
      have SRC := Lib.hid (is_lit w10 [0] 1 3 #[Value.int .i64 0] rfl rfl (wf_small (by decide))).src
      have OWN := Lib.hid (own_below own10 (below_alloc w10 (.cells #[.int .i64 0] 3)))
      have HREV := Lib.hid hrev
      have HLC := Lib.hid hlC
      have hz10 := hb10.size
      have HB10 := Lib.hid (below_then HK.out.bel hb10)
      have hbase : wr.heap.size ≤ (w10.alloc (.cells #[.int .i64 0] 3)).heap.size := by simp; omega
      have HLO := Lib.hid HK.out.bel.size
      clear own10 hrev hlC hb10 hcl
      go_wp2_with (at_builtin; refine wpl_append tyI rfl _ _ rfl OWN.out SRC.out rfl rfl (by omega) (by omega) hbase ?_)
      intro v11 w11 own11 hg11 _
      rw [← ivs_append] at own11
      have HB11 : Hid (Below w.heap.size w w11) := Lib.hid ((HB10.out.trans ((below_alloc w10 (.cells #[.int .i64 0] 3)).mono HB10.out.size)).grown hg11 (by have := HLO.out; omega) (fun q hq => by have := (OWN.out.lt q hq).1; have := HLO.out; omega))
      have HC : Hid (∀ x ∈ C ++ [0], 0 ≤ x ∧ x ≤ 1099511627776) := Lib.hid (fun x hx => by
        rcases List.mem_append.1 hx with hx | hx
        · have hx2 : x ∈ Mg.rise l := by rw [← HREV.out]; exact List.mem_reverse.2 hx
          exact ⟨HMP.out x hx2, HMO.out x hx2⟩
        · have : x = 0 := by simpa using hx
          omega)
      obtain ⟨a11, c11, rfl, hi11⟩ := own_is own11 (fun x hx => by
        have := HC.out x hx
        simp only [Lit.wf, IntKind.min, IntKind.max, IntKind.signed, IntKind.bits, Bool.and_eq_true, decide_eq_true_eq, if_true]
        simp; omega)
      have HI11 := Lib.hid hi11
      clear own11 hg11 hi11 OWN SRC HB10
      go_wp2_with fail
      refine (best_any a11 (Mg.used l + 1) c11 (C ++ [0]) 16 w11 HI11.out (by omega) (by omega) HC.out).mono ?_
      rintro e w12 ⟨b, rfl, hb12, hz, hbst⟩
      have he := HALL.out C HREV.out b hbst
      rw [he]
      have dbb : (b == b) = true := by simp
      have HBX := Lib.hid (below_then HB11.out hb12)
      clear hz hbst he hb12
      go_wp2
      go_ret
      exact ⟨rfl, HBX.out⟩
set_option maxRecDepth 100000 in
theorem lifted (os : Os) (started : os.Started) (H : Type) (enc : TypeId × Value → H) :
    ReturnsInHanded {} Try.checked os 3 .any (Rows.mergeTablesSpec.pre6 enc Try.prog Try.f3 Rows.mergeTablesRow.domain false) (Rows.mergeTablesSpec.post enc Try.prog Try.f3 false true false false) := by
  refine returnsInHanded_of_change_sized (C := Try.checked) own started (by kernel_rfl) Try.func3
    (ChangeSpec.witness6 (enc := enc) (C := Try.checked) false ⟨#[], #[.slice none 0 0], []⟩ 8 (by kernel_rfl) (by kernel_rfl) (by kernel_rfl) (by kernel_rfl)) ?_
  intro W base args ds gs before hval0 hW _ hsz0 _
  have hval : ∀ (j : Nat) t v, Try.f3.params[j]? = some t → args[j]? = some v → Value.okWide Try.prog W .any base t v := hval0
  have hsz : (DataW.weightsEach Try.prog (Try.f3.params.toList ++ Rows.mergeTablesSpec.plain.varTypes Try.prog) (ds ++ gs)).all (· ≤ reachBytes) = true := hsz0
  have hW' := hW
  obtain ⟨p, q, hA0, hV, rfl, hfz, hnd⟩ := hW
  have hA : DataW.TrodAll enc Try.prog W 0 (fun _ => true) true Try.f3.params.toList args.toList ds p := hA0
  rw [Try.params3] at hA hval hsz
  obtain ⟨v0, vs0, d0, ds0, p0, q0, hargs, rfl, rfl, h0, r0⟩ := trodAll_cons hA
  obtain ⟨rfl, rfl, rfl⟩ := trodAll_nil r0
  obtain rfl : args = #[v0] := by cases args; simp_all
  obtain ⟨rfl, rfl⟩ := trodVars_none hV
  clear hsz0
  obtain ⟨a0, len0, cap0, rfl⟩ := okWide_slice Try.underlying22 (hval 0 22 v0 rfl rfl)
  have k0 := h0
  have lt0 : ∀ x ∈ p0, x.block < W.heap.size := by obtain ⟨m, hm⟩ := k0; exact DataW.trod_lt m _ _ _ hm
  obtain ⟨l0, w0, c0⟩ := open_is (by' := 8) Try.underlying22 Try.underlying3 (by kernel_rfl) (by kernel_rfl) h0 hsz 0 rfl rfl
  clear hA0 hval0 hsz
  refine (walk a0 len0 cap0 l0 W w0 c0).mono fun e W' ⟨he, bel⟩ => ?_
  subst he
  exact ⟨_, rfl, _, _, _, [], _, [], hW', trodAll_mk1 (shut_bool Try.underlying4 _), (trodAll_cons_mk (Below.trod laidOut (by kernel_rfl) (of_decide_eq_true (by kernel_rfl)) k0 bel lt0) trodAll_mk0), rfl, bel.frame _, fun h => by cases h⟩

theorem proved : Rows.MergeTablesSaid :=
  OpenClaim.holds_of_wide 3 Try.f3 rfl rfl rfl rfl rfl rfl rfl ⟨rfl, rfl, rfl, rfl, rfl⟩ rfl rfl rfl rfl rfl (by kernel_rfl) Try.func3 (by kernel_rfl)
    (of_decide_eq_true (by kernel_rfl)) (by unfold Func.isWrapper; first | (rw [if_pos (by decide +kernel)]; kernel_rfl) | (rw [if_neg (by decide +kernel)]; exact ⟨rfl, rfl⟩))
    (fun os started H enc _ => lifted os started H enc)
#print axioms proved
end Go.Proofs.Ytcagdnajapcmkaa.MergeTables
