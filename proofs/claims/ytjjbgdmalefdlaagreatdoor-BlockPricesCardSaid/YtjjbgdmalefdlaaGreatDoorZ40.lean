/- The document's list of codes: its contract. Two lists of numbers of the call's own, apart. -/
import Derived.Test.YtjjbgdmalefdlaaGreatDoorZ28
import Derived.Deep.LoopGhost
import Derived.Deep.DeepCutAuto
set_option linter.unusedSimpArgs false
set_option linter.unusedVariables false
section
namespace Go.Proofs.YtjjbgdmalefdlaaGreatDoor
open Go.RowKit

def ListPost (w : World) (n : Nat) (ss zs : List Int) (e : Ending) (w' : World) : Prop :=
  ∃ v cs, e = .returned v ∧ Cds w' w.heap.size v n cs ∧ cs.map Cd.s = ss ∧ cs.map Cd.b = Cn.codes zs ∧ Below w.heap.size w w'
/-- A slice of the call's own, where it lies. -/
theorem own_at {w : World} {base : Nat} {v : Value} {n : Nat} {l : List Int} (h : w.ownsRow base 3 1 v n (ivs l)) (hw : Wf l) :
    ∃ a cap, v = .slice a n cap ∧ Is .i64 w a n cap l ∧ ∀ ad, a = some ad → base ≤ ad.block ∧ ad.block < w.heap.size := by
  obtain ⟨a, cap, rfl, hi⟩ := own_is h hw
  exact ⟨a, cap, rfl, hi, fun ad e => h.lt ad.block (by rw [e]; rfl)⟩
theorem cell_at {k : IntKind} {w : World} {b off len cap : Nat} {l : List Int} (h : Is k w (some ⟨b, off, none⟩) len cap l) (i : Nat) (hi : i < len) : w.cell? ⟨b, off + i, none⟩ = some (.int k (l.getD i 0)) := by
  obtain ⟨b', off', e, _, hc⟩ := h.at' i hi
  simp only [Option.some.injEq, Addr.mk.injEq, and_true] at e
  obtain ⟨rfl, rfl⟩ := e
  exact hc
set_option maxHeartbeats 4000000 in
set_option maxRecDepth 100000 in
theorem list_any (a : Option Addr) (n cap : Nat) (ss : List Int) (a2 : Option Addr) (cap2 : Nat) (zs : List Int) (w : World) (h : Is .i64 w a n cap ss) (h2 : Is .i64 w a2 n cap2 zs) (hn : n ≤ 10000000) (hz : ∀ x ∈ zs, 0 ≤ x ∧ x ≤ 16) :
    Calls Tryz.prog 92 #[.slice a n cap, .slice a2 n cap2] w (ListPost w n ss zs) := by
  have HL := Lib.hid h.hlen
  have HL2 := Lib.hid h2.hlen
  have H := Lib.hid h
  have H2 := Lib.hid h2
  have HZ := Lib.hid hz
  clear h h2 hz
  go_enter Tryz.func92, Tryz.ntmps92
  go_wp2
  go_loopg [5, 6] n (fun gk v i wr => ∃ (k : Nat) (cs : List Cd), k ≤ n ∧ gk = n - k ∧ i = .int .i64 k ∧ Below w.heap.size w wr ∧ Hid (Cds wr w.heap.size v k cs ∧ cs.map Cd.s = ss.take k ∧ cs.map Cd.b = Cn.codes (zs.take k)))
  case atStart => exact ⟨0, [], by omega, by omega, rfl, Below.refl _ _, Lib.hid ⟨Cds.nil _ _, by simp, by simp [Cn.codes]⟩⟩
  case round =>
    obtain ⟨k, cs, hk, rfl, rfl, hb, HC⟩ := hrel
    have hzw := hb.size
    by_cases hlt : k < n
    · obtain ⟨b1, off1, rfl, _, c1⟩ := (H.out.mono hb).at' k hlt
      have hkl : k < ss.length := by rw [HL.out]; exact hlt
      have hkz : k < zs.length := by rw [HL2.out]; exact hlt
      have T1 := Lib.hid (ints_snoc ss k hkl)
      have T2 := Lib.hid (Cn.codes_take zs k hkz)
      have hzk := HZ.out (zs.getD k 0) (by simp [List.getD, List.getElem?_eq_getElem hkz])
      have hfl := Cn.from_len (zs.take k) (fun x hx => (HZ.out x (List.mem_of_mem_take hx)).2)
      clear hkl hkz
      obtain ⟨zn, hzn⟩ := Int.eq_ofNat_of_zero_le hzk.1
      obtain ⟨b0, hb0⟩ : ∃ b0, Cn.from' (Cn.codes (zs.take k)) = b0 := ⟨_, rfl⟩
      have HB0 := Lib.hid hb0
      have HZN := Lib.hid hzn
      have hz16 : zn ≤ 16 := by omega
      rw [hb0] at hfl
      clear hzk hzn hb0
      obtain ⟨va, vc, rfl, hcl⟩ := HC.out.1.cells
      have HCL := Lib.hid hcl
      clear hcl
      rename World => wo
      go_upto_if 15 with (fail)
      go_cut [7] (fun s7 wx => ∃ bv, s7 = bv ∧ Below wo.heap.size wo wx ∧ Hid (wx.ownsRow wo.heap.size 3 1 bv b0.length (ivs (bi b0))))
      case first =>
        cases k with
        | zero =>
          have hbn : b0 = [] := by rw [← HB0.out]; rfl
          subst hbn
          go_wp2_with fail
          go_meet
          exact ⟨_, rfl, Below.refl _ _, Lib.hid (World.ownsRow_nil _ _ _ _)⟩
        | succ m =>
          obtain ⟨gg, rfl, _, hc2⟩ := HCL.out m (by omega)
          have hes := HC.out.1.each m (by omega)
          have hcl : (Cn.codes (zs.take (m + 1))).length = m + 1 := by rw [Cn.codes_length, List.length_take, HL2.out]; omega
          have hbm : (cth cs m).b = (Cn.codes (zs.take (m + 1))).getD m [] := by
            rw [← HC.out.2.2]
            have hcn := HC.out.1.hn
            simp [cth, List.getD, List.getElem?_eq_getElem (show m < cs.length by omega)]
          have hb0' : b0 = Cn.plus (cth cs m).b := by rw [← HB0.out, hbm, Cn.from_succ _ m hcl]
          have HB0' := Lib.hid hb0'
          have hlenb : (cth cs m).len = (cth cs m).b.length := by have := hes.hlen; rw [bi_length] at this; exact this.symm
          have hb16 : (cth cs m).len ≤ 16 := by rw [hlenb, ← Cn.plus_length, ← hb0']; exact hfl
          have HES := Lib.hid hes
          clear hes hcl hbm hb0' hlenb
          generalize hcm : cth cs m = c at *
          obtain ⟨c_s, c_a, c_len, c_cap, c_b⟩ := c
          have HCM := Lib.hid hcm
          clear hcm
          dsimp only at hc2 hb16
          go_wp2_with fail
          refine (plus_any _ _ _ c_b _ HES.out (by omega)).mono ?_
          rintro e w2 ⟨bv, rfl, own2, hb2⟩
          have e0 : c_b.length = b0.length := by rw [HB0'.out, Cn.plus_length]
          rw [e0, ← HB0'.out] at own2
          have H3 := Lib.hid own2
          clear own2 e0
          go_wp2_with fail
          go_meet
          exact ⟨bv, rfl, hb2, H3⟩
      case rest =>
        obtain ⟨bv, rfl, hb2, HV⟩ := hcut
        clear c1 HCL
        go_wp2
        go_loopg [7] (zn - b0.length) (fun gk s7 wx => ∃ (j : Nat) (bv : Value), j ≤ zn - b0.length ∧ gk = zn - b0.length - j ∧ s7 = bv ∧ Below wo.heap.size wo wx ∧ Hid (wx.ownsRow wo.heap.size 3 1 bv (b0 ++ List.replicate j false).length (ivs (bi (b0 ++ List.replicate j false)))))
        case atStart => exact ⟨0, _, by omega, by omega, rfl, hb2, by simpa using HV⟩
        case round =>
          obtain ⟨j, bv, hj, rfl, rfl, hb3, HJ⟩ := hrel
          obtain ⟨ba, bc, rfl, hbi, hbk⟩ := own_at HJ.out (bi_wf _)
          obtain ⟨u, hu⟩ : ∃ u, (b0 ++ List.replicate j false).length = u := ⟨_, rfl⟩
          have hu2 : u = b0.length + j := by rw [← hu]; simp
          rw [hu] at HJ hbi ⊢
          obtain ⟨b2, off2, rfl, _, c2⟩ := (H2.out.mono (below_then hb hb3)).at' k hlt
          rw [HZN.out] at c2
          have hzr := hb3.size
          have HU2 := Lib.hid hu2
          by_cases hjm : j < zn - b0.length
          · have dlt : decide (u < zn) = true := by simp; omega
            have hub : u ≤ 16 := by omega
            have H3 := Lib.hid (HJ.out.alloc (.cells #[Value.int .i64 0] 3))
            have hsrc : SrcRow (wr.alloc (.cells #[Value.int .i64 0] 3)) (some ⟨wr.heap.size, 0, none⟩) 1 1 (ivs (bi [false])) 1 := src_int wr 0
            have hbb : wo.heap.size ≤ (wr.alloc (.cells #[Value.int .i64 0] 3)).heap.size := by simp; omega
            have ej : (b0 ++ List.replicate j false) ++ [false] = b0 ++ List.replicate (j + 1) false := by rw [List.append_assoc, List.replicate_succ']
            have HEJ := Lib.hid ej
            have huj : u + 1 = (b0 ++ List.replicate (j + 1) false).length := by rw [← ej, List.length_append, hu]; rfl
            have HUJ := Lib.hid huj
            clear hu hu2 hbi hbk ej huj HJ
            go_wp2_with (at_builtin; refine wpl_append tyI rfl _ _ rfl H3.out hsrc rfl rfl (by omega) (by omega) hbb ?_)
            intro v4 w4 own4 hg4 _
            have hb4 : Below wo.heap.size wo w4 := (hb3.alloc hzr _).grown hg4 hbb (fun k hk => (H3.out.lt k hk).1)
            rw [← ivs_append, ← bi_append, HEJ.out, HUJ.out] at own4
            have H4 := Lib.hid own4
            clear own4 hg4 hsrc H3
            go_wp2
            go_roundg (zn - b0.length - (j + 1))
            case measure => omega
            case rel => exact ⟨j + 1, v4, by omega, rfl, rfl, hb4, H4⟩
          · obtain rfl : j = zn - b0.length := by omega
            have dlt : decide (u < zn) = false := by simp; omega
            have hub : u ≤ 32 := by omega
            have hn1 : b0 ++ List.replicate (zn - b0.length) false = Cn.nxt (Cn.codes (zs.take k)) (zs.getD k 0) := by
              rw [Cn.nxt_eq, HB0.out, HZN.out]; rfl
            have HN1 := Lib.hid hn1
            have c1 := cell_at (H.out.mono (below_then hb hb3)) k hlt
            have HCx := Lib.hid (HC.out.1.mono hb3)
            have hno : ∀ ad, ba = some ad → ad.block < wr.heap.size ∧ (Value.slice va k vc).ownBlock ≠ some ad.block := fun ad e =>
              ⟨(hbk ad e).2, fun he => by have h1 := (HC.out.1.own.lt _ he).2; have h2 := (hbk ad e).1; omega⟩
            have HBI := Lib.hid (And.intro hbi hno)
            have HLO : Hid (∀ ad, ba = some ad → w.heap.size ≤ ad.block) := Lib.hid (fun ad e => by have := (hbk ad e).1; have := hb.size; omega)
            clear hu hu2 hbi hbk hn1 hno HJ
            generalize ss.getD k 0 = sk at *
            have HCa := Lib.hid (HCx.out.mono (below_alloc wr (.cells #[.int .i64 sk, .slice ba u bc] 157)))
            have hoa := Lib.hid HCa.out.own
            have hsrc := src_code wr sk ba u bc
            have hbb : w.heap.size ≤ (wr.alloc (.cells #[.int .i64 sk, .slice ba u bc] 157)).heap.size := by simp; omega
            go_wp2_with (at_builtin; refine wpl_append3 tyC rfl _ _ rfl hoa.out hsrc rfl rfl (by omega) (by omega) hbb ?_)
            intro v5 w5 own5 c5 f5
            have HP := Lib.hid (HCa.out.push (Cd.mk sk ba u bc (b0 ++ List.replicate (zn - b0.length) false)) (HBI.out.1.mono (below_alloc wr _)) (fun ad e => ⟨by have := (HBI.out.2 ad e).1; simp; omega, (HBI.out.2 ad e).2⟩) HLO.out own5 c5 (by simpa using f5))
            have hb5 : Below w.heap.size w w5 := ((below_then hb hb3).alloc (by omega) _).trans (c5.below hbb (fun k hk => (hoa.out.lt k hk).1))
            have HR : Hid (Cds w5 w.heap.size v5 (k + 1) (cs ++ [Cd.mk sk ba u bc (b0 ++ List.replicate (zn - b0.length) false)]) ∧ (cs ++ [Cd.mk sk ba u bc (b0 ++ List.replicate (zn - b0.length) false)]).map Cd.s = ss.take (k + 1) ∧ (cs ++ [Cd.mk sk ba u bc (b0 ++ List.replicate (zn - b0.length) false)]).map Cd.b = Cn.codes (zs.take (k + 1))) := Lib.hid
              ⟨HP.out, by rw [List.map_append, HC.out.2.1, T1.out]; rfl, by rw [List.map_append, HC.out.2.2, T2.out, HN1.out]; rfl⟩
            clear own5 c5 f5 hsrc hoa HCa HP HBI HCx
            go_wp2
            go_roundg (n - (k + 1))
            case measure => omega
            case rel => exact ⟨k + 1, _, by omega, rfl, by go_num, hb5, HR⟩
    · obtain rfl : n = k := by omega
      have e1 : ss.take n = ss := List.take_of_length_le (by rw [HL.out]; exact Nat.le_refl _)
      have e2 : zs.take n = zs := List.take_of_length_le (by rw [HL2.out]; exact Nat.le_refl _)
      rw [e1, e2] at HC
      obtain ⟨va, vc, rfl, _⟩ := HC.out.1.cells
      clear e1 e2
      go_wp2
      go_ret
      exact ⟨_, cs, rfl, HC.out.1, HC.out.2.1, HC.out.2.2, hb⟩
end Go.Proofs.YtjjbgdmalefdlaaGreatDoor
end

section
namespace Go.Proofs.YtjjbgdmalefdlaaGreatDoor
open Go.RowKit

/-- Two lists of numbers of the call's own, apart. -/
structure P2 (w wx : World) (va vb : Value) (la lb : List Int) : Prop where
  bel : Below w.heap.size w wx
  oa : wx.ownsRow w.heap.size 3 1 va la.length (ivs la)
  ob : wx.ownsRow w.heap.size 3 1 vb lb.length (ivs lb)
  dj : ∀ k, va.ownBlock = some k → vb.ownBlock ≠ some k
theorem P2.mono {w wx wy : World} {va vb : Value} {la lb : List Int} (h : P2 w wx va vb la lb) (hb : Below wx.heap.size wx wy) : P2 w wy va vb la lb :=
  ⟨h.bel.trans (hb.mono h.bel.size), own_below h.oa hb, own_below h.ob hb, h.dj⟩
theorem P2.stepA {w wx wy : World} {va vb va' : Value} {la lb la' : List Int} (h : P2 w wx va vb la lb) (o : wy.ownsRow w.heap.size 3 1 va' la'.length (ivs la')) (c : Ch wx wy (fun k => va.ownBlock = some k)) (f : ∀ k, va'.ownBlock = some k → va.ownBlock = some k ∨ wx.heap.size ≤ k) : P2 w wy va' vb la' lb :=
  ⟨h.bel.trans (c.below h.bel.size (fun k hk => (h.oa.lt k hk).1)), o, c.own h.ob (fun k hk e => h.dj k e hk), fun k hk e => (f k hk).elim (fun e2 => h.dj k e2 e) (fun e2 => by have := (h.ob.lt k e).2; omega)⟩
theorem P2.stepB {w wx wy : World} {va vb vb' : Value} {la lb lb' : List Int} (h : P2 w wx va vb la lb) (o : wy.ownsRow w.heap.size 3 1 vb' lb'.length (ivs lb')) (c : Ch wx wy (fun k => vb.ownBlock = some k)) (f : ∀ k, vb'.ownBlock = some k → vb.ownBlock = some k ∨ wx.heap.size ≤ k) : P2 w wy va vb' la lb' :=
  ⟨h.bel.trans (c.below h.bel.size (fun k hk => (h.ob.lt k hk).1)), c.own h.oa (fun k hk e => h.dj k hk e), o, fun k hk e => (f k e).elim (h.dj k hk) (fun e2 => by have := (h.oa.lt k hk).2; omega)⟩
theorem wf_small {l : List Int} (h : ∀ x ∈ l, 0 ≤ x ∧ x ≤ 1000000000) : Wf l := fun n hn => by
  have := h n hn
  simp only [Lit.wf, IntKind.min, IntKind.max, IntKind.signed, IntKind.bits, Bool.and_eq_true, decide_eq_true_eq, if_true]
  simp; omega
theorem Cds.base {w : World} {B B' : Nat} {v : Value} {n : Nat} {cs : List Cd} (h : Cds w B v n cs) (hB : B' ≤ B) : Cds w B' v n cs :=
  ⟨h.hn, own_base h.own (fun k hk => Nat.le_trans hB (h.own.lt k hk).1), h.each, h.blk, fun i hi ad e => Nat.le_trans hB (h.lo i hi ad e)⟩
end Go.Proofs.YtjjbgdmalefdlaaGreatDoor
end
