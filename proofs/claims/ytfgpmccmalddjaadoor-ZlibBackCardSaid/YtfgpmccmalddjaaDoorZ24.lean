/- The document's list of codes: its contract. Two lists of numbers of the call's own, apart. The document's codes of lengths: their contract. Drawn worlds. The document's reading of a code: its contract. The document's reader: a symbol. -/
import Derived.Test.YtfgpmccmalddjaaDoorZ23
import Derived.Deep.LoopGhost
import Derived.Deep.DeepCutAuto
import Derived.Deep.QuietTactic
import Derived.BigQuiet
set_option linter.unusedSimpArgs false
set_option linter.unusedVariables false
section
namespace Go.Proofs.YtfgpmccmalddjaaDoor
open Go.RowKit

def ListPost (w : World) (n : Nat) (ss zs : List Int) (e : Ending) (w' : World) : Prop :=
  ∃ v cs, e = .returned v ∧ Cds w' w.heap.size v n cs ∧ cs.map Cd.s = ss ∧ cs.map Cd.b = Cn.codes zs ∧ Below w.heap.size w w'
/-- A slice of the call's own, where it lies. -/
theorem own_at {w : World} {base : Nat} {v : Value} {n : Nat} {l : List Int} (h : w.ownsRow base 3 1 v n (ivs l)) (hw : Wf l) :
    ∃ a cap, v = .slice a n cap ∧ Is .i64 w a n cap l ∧ ∀ ad, a = some ad → base ≤ ad.block ∧ ad.block < w.heap.size := by
  obtain ⟨a, cap, rfl, hi⟩ := own_is h hw
  exact ⟨a, cap, rfl, hi, fun ad e => h.lt ad.block (by rw [e]; rfl)⟩
theorem cell_at {k : IntKind} {w : World} {b off len cap : Nat} {l : List Int} (h : Is k w (some ⟨b, off, none⟩) len cap l) (i : Nat) (hi : i < len) : w.cell? ⟨b, off + i, none⟩ = some (.int k (l.getD i 0)) := by
  obtain ⟨b', off', e, _, hc⟩ := h.at' i hi
  simp only [Option.some.injEq, Addr.mk.injEq, and_true] at e
  obtain ⟨rfl, rfl⟩ := e
  exact hc
set_option maxHeartbeats 4000000 in
set_option maxRecDepth 100000 in
theorem list_any (a : Option Addr) (n cap : Nat) (ss : List Int) (a2 : Option Addr) (cap2 : Nat) (zs : List Int) (w : World) (h : Is .i64 w a n cap ss) (h2 : Is .i64 w a2 n cap2 zs) (hn : n ≤ 10000000) (hz : ∀ x ∈ zs, 0 ≤ x ∧ x ≤ 16) :
    Calls Tryd.prog 70 #[.slice a n cap, .slice a2 n cap2] w (ListPost w n ss zs) := by
  have HL := Lib.hid h.hlen
  have HL2 := Lib.hid h2.hlen
  have H := Lib.hid h
  have H2 := Lib.hid h2
  have HZ := Lib.hid hz
  clear h h2 hz
  go_enter Tryd.func70, Tryd.ntmps70
  go_wp2
  go_loopg [5, 6] n (fun gk v i wr => ∃ (k : Nat) (cs : List Cd), k ≤ n ∧ gk = n - k ∧ i = .int .i64 k ∧ Below w.heap.size w wr ∧ Hid (Cds wr w.heap.size v k cs ∧ cs.map Cd.s = ss.take k ∧ cs.map Cd.b = Cn.codes (zs.take k)))
  case atStart => exact ⟨0, [], by omega, by omega, rfl, Below.refl _ _, Lib.hid ⟨Cds.nil _ _, by simp, by simp [Cn.codes]⟩⟩
  case round =>
    obtain ⟨k, cs, hk, rfl, rfl, hb, HC⟩ := hrel
    have hzw := hb.size
    by_cases hlt : k < n
    · obtain ⟨b1, off1, rfl, _, c1⟩ := (H.out.mono hb).at' k hlt
      have hkl : k < ss.length := by rw [HL.out]; exact hlt
      have hkz : k < zs.length := by rw [HL2.out]; exact hlt
      have T1 := Lib.hid (ints_snoc ss k hkl)
      have T2 := Lib.hid (Cn.codes_take zs k hkz)
      have hzk := HZ.out (zs.getD k 0) (by simp [List.getD, List.getElem?_eq_getElem hkz])
      have hfl := Cn.from_len (zs.take k) (fun x hx => (HZ.out x (List.mem_of_mem_take hx)).2)
      clear hkl hkz
      obtain ⟨zn, hzn⟩ := Int.eq_ofNat_of_zero_le hzk.1
      obtain ⟨b0, hb0⟩ : ∃ b0, Cn.from' (Cn.codes (zs.take k)) = b0 := ⟨_, rfl⟩
      have HB0 := Lib.hid hb0
      have HZN := Lib.hid hzn
      have hz16 : zn ≤ 16 := by omega
      rw [hb0] at hfl
      clear hzk hzn hb0
      obtain ⟨va, vc, rfl, hcl⟩ := HC.out.1.cells
      have HCL := Lib.hid hcl
      clear hcl
      rename World => wo
      go_upto_if 15 with (fail)
      go_cut [7] (fun s7 wx => ∃ bv, s7 = bv ∧ Below wo.heap.size wo wx ∧ Hid (wx.ownsRow wo.heap.size 3 1 bv b0.length (ivs (bi b0))))
      case first =>
        cases k with
        | zero =>
          have hbn : b0 = [] := by rw [← HB0.out]; rfl
          subst hbn
          go_wp2_with fail
          go_meet
          exact ⟨_, rfl, Below.refl _ _, Lib.hid (World.ownsRow_nil _ _ _ _)⟩
        | succ m =>
          obtain ⟨gg, rfl, _, hc2⟩ := HCL.out m (by omega)
          have hes := HC.out.1.each m (by omega)
          have hcl : (Cn.codes (zs.take (m + 1))).length = m + 1 := by rw [Cn.codes_length, List.length_take, HL2.out]; omega
          have hbm : (cth cs m).b = (Cn.codes (zs.take (m + 1))).getD m [] := by
            rw [← HC.out.2.2]
            have hcn := HC.out.1.hn
            simp [cth, List.getD, List.getElem?_eq_getElem (show m < cs.length by omega)]
          have hb0' : b0 = Cn.plus (cth cs m).b := by rw [← HB0.out, hbm, Cn.from_succ _ m hcl]
          have HB0' := Lib.hid hb0'
          have hlenb : (cth cs m).len = (cth cs m).b.length := by have := hes.hlen; rw [bi_length] at this; exact this.symm
          have hb16 : (cth cs m).len ≤ 16 := by rw [hlenb, ← Cn.plus_length, ← hb0']; exact hfl
          have HES := Lib.hid hes
          clear hes hcl hbm hb0' hlenb
          generalize hcm : cth cs m = c at *
          obtain ⟨c_s, c_a, c_len, c_cap, c_b⟩ := c
          have HCM := Lib.hid hcm
          clear hcm
          dsimp only at hc2 hb16
          go_wp2_with fail
          refine (plus_any _ _ _ c_b _ HES.out (by omega)).mono ?_
          rintro e w2 ⟨bv, rfl, own2, hb2⟩
          have e0 : c_b.length = b0.length := by rw [HB0'.out, Cn.plus_length]
          rw [e0, ← HB0'.out] at own2
          have H3 := Lib.hid own2
          clear own2 e0
          go_wp2_with fail
          go_meet
          exact ⟨bv, rfl, hb2, H3⟩
      case rest =>
        obtain ⟨bv, rfl, hb2, HV⟩ := hcut
        clear c1 HCL
        go_wp2
        go_loopg [7] (zn - b0.length) (fun gk s7 wx => ∃ (j : Nat) (bv : Value), j ≤ zn - b0.length ∧ gk = zn - b0.length - j ∧ s7 = bv ∧ Below wo.heap.size wo wx ∧ Hid (wx.ownsRow wo.heap.size 3 1 bv (b0 ++ List.replicate j false).length (ivs (bi (b0 ++ List.replicate j false)))))
        case atStart => exact ⟨0, _, by omega, by omega, rfl, hb2, by simpa using HV⟩
        case round =>
          obtain ⟨j, bv, hj, rfl, rfl, hb3, HJ⟩ := hrel
          obtain ⟨ba, bc, rfl, hbi, hbk⟩ := own_at HJ.out (bi_wf _)
          obtain ⟨u, hu⟩ : ∃ u, (b0 ++ List.replicate j false).length = u := ⟨_, rfl⟩
          have hu2 : u = b0.length + j := by rw [← hu]; simp
          rw [hu] at HJ hbi ⊢
          obtain ⟨b2, off2, rfl, _, c2⟩ := (H2.out.mono (below_then hb hb3)).at' k hlt
          rw [HZN.out] at c2
          have hzr := hb3.size
          have HU2 := Lib.hid hu2
          by_cases hjm : j < zn - b0.length
          · have dlt : decide (u < zn) = true := by simp; omega
            have hub : u ≤ 16 := by omega
            have H3 := Lib.hid (HJ.out.alloc (.cells #[Value.int .i64 0] 3))
            have hsrc : SrcRow (wr.alloc (.cells #[Value.int .i64 0] 3)) (some ⟨wr.heap.size, 0, none⟩) 1 1 (ivs (bi [false])) 1 := src_int wr 0
            have hbb : wo.heap.size ≤ (wr.alloc (.cells #[Value.int .i64 0] 3)).heap.size := by simp; omega
            have ej : (b0 ++ List.replicate j false) ++ [false] = b0 ++ List.replicate (j + 1) false := by rw [List.append_assoc, List.replicate_succ']
            have HEJ := Lib.hid ej
            have huj : u + 1 = (b0 ++ List.replicate (j + 1) false).length := by rw [← ej, List.length_append, hu]; rfl
            have HUJ := Lib.hid huj
            clear hu hu2 hbi hbk ej huj HJ
            go_wp2_with (at_builtin; refine wpl_append tyI rfl _ _ rfl H3.out hsrc rfl rfl (by omega) (by omega) hbb ?_)
            intro v4 w4 own4 hg4 _
            have hb4 : Below wo.heap.size wo w4 := (hb3.alloc hzr _).grown hg4 hbb (fun k hk => (H3.out.lt k hk).1)
            rw [← ivs_append, ← bi_append, HEJ.out, HUJ.out] at own4
            have H4 := Lib.hid own4
            clear own4 hg4 hsrc H3
            go_wp2
            go_roundg (zn - b0.length - (j + 1))
            case measure => omega
            case rel => exact ⟨j + 1, v4, by omega, rfl, rfl, hb4, H4⟩
          · obtain rfl : j = zn - b0.length := by omega
            have dlt : decide (u < zn) = false := by simp; omega
            have hub : u ≤ 32 := by omega
            have hn1 : b0 ++ List.replicate (zn - b0.length) false = Cn.nxt (Cn.codes (zs.take k)) (zs.getD k 0) := by
              rw [Cn.nxt_eq, HB0.out, HZN.out]; rfl
            have HN1 := Lib.hid hn1
            have c1 := cell_at (H.out.mono (below_then hb hb3)) k hlt
            have HCx := Lib.hid (HC.out.1.mono hb3)
            have hno : ∀ ad, ba = some ad → ad.block < wr.heap.size ∧ (Value.slice va k vc).ownBlock ≠ some ad.block := fun ad e =>
              ⟨(hbk ad e).2, fun he => by have h1 := (HC.out.1.own.lt _ he).2; have h2 := (hbk ad e).1; omega⟩
            have HBI := Lib.hid (And.intro hbi hno)
            have HLO : Hid (∀ ad, ba = some ad → w.heap.size ≤ ad.block) := Lib.hid (fun ad e => by have := (hbk ad e).1; have := hb.size; omega)
            clear hu hu2 hbi hbk hn1 hno HJ
            generalize ss.getD k 0 = sk at *
            have HCa := Lib.hid (HCx.out.mono (below_alloc wr (.cells #[.int .i64 sk, .slice ba u bc] 154)))
            have hoa := Lib.hid HCa.out.own
            have hsrc := src_code wr sk ba u bc
            have hbb : w.heap.size ≤ (wr.alloc (.cells #[.int .i64 sk, .slice ba u bc] 154)).heap.size := by simp; omega
            go_wp2_with (at_builtin; refine wpl_append3 tyC rfl _ _ rfl hoa.out hsrc rfl rfl (by omega) (by omega) hbb ?_)
            intro v5 w5 own5 c5 f5
            have HP := Lib.hid (HCa.out.push (Cd.mk sk ba u bc (b0 ++ List.replicate (zn - b0.length) false)) (HBI.out.1.mono (below_alloc wr _)) (fun ad e => ⟨by have := (HBI.out.2 ad e).1; simp; omega, (HBI.out.2 ad e).2⟩) HLO.out own5 c5 (by simpa using f5))
            have hb5 : Below w.heap.size w w5 := ((below_then hb hb3).alloc (by omega) _).trans (c5.below hbb (fun k hk => (hoa.out.lt k hk).1))
            have HR : Hid (Cds w5 w.heap.size v5 (k + 1) (cs ++ [Cd.mk sk ba u bc (b0 ++ List.replicate (zn - b0.length) false)]) ∧ (cs ++ [Cd.mk sk ba u bc (b0 ++ List.replicate (zn - b0.length) false)]).map Cd.s = ss.take (k + 1) ∧ (cs ++ [Cd.mk sk ba u bc (b0 ++ List.replicate (zn - b0.length) false)]).map Cd.b = Cn.codes (zs.take (k + 1))) := Lib.hid
              ⟨HP.out, by rw [List.map_append, HC.out.2.1, T1.out]; rfl, by rw [List.map_append, HC.out.2.2, T2.out, HN1.out]; rfl⟩
            clear own5 c5 f5 hsrc hoa HCa HP HBI HCx
            go_wp2
            go_roundg (n - (k + 1))
            case measure => omega
            case rel => exact ⟨k + 1, _, by omega, rfl, by go_num, hb5, HR⟩
    · obtain rfl : n = k := by omega
      have e1 : ss.take n = ss := List.take_of_length_le (by rw [HL.out]; exact Nat.le_refl _)
      have e2 : zs.take n = zs := List.take_of_length_le (by rw [HL2.out]; exact Nat.le_refl _)
      rw [e1, e2] at HC
      obtain ⟨va, vc, rfl, _⟩ := HC.out.1.cells
      clear e1 e2
      go_wp2
      go_ret
      exact ⟨_, cs, rfl, HC.out.1, HC.out.2.1, HC.out.2.2, hb⟩
end Go.Proofs.YtfgpmccmalddjaaDoor
end

section
namespace Go.Proofs.YtfgpmccmalddjaaDoor
open Go.RowKit

/-- Two lists of numbers of the call's own, apart. -/
structure P2 (w wx : World) (va vb : Value) (la lb : List Int) : Prop where
  bel : Below w.heap.size w wx
  oa : wx.ownsRow w.heap.size 3 1 va la.length (ivs la)
  ob : wx.ownsRow w.heap.size 3 1 vb lb.length (ivs lb)
  dj : ∀ k, va.ownBlock = some k → vb.ownBlock ≠ some k
theorem P2.mono {w wx wy : World} {va vb : Value} {la lb : List Int} (h : P2 w wx va vb la lb) (hb : Below wx.heap.size wx wy) : P2 w wy va vb la lb :=
  ⟨h.bel.trans (hb.mono h.bel.size), own_below h.oa hb, own_below h.ob hb, h.dj⟩
theorem P2.stepA {w wx wy : World} {va vb va' : Value} {la lb la' : List Int} (h : P2 w wx va vb la lb) (o : wy.ownsRow w.heap.size 3 1 va' la'.length (ivs la')) (c : Ch wx wy (fun k => va.ownBlock = some k)) (f : ∀ k, va'.ownBlock = some k → va.ownBlock = some k ∨ wx.heap.size ≤ k) : P2 w wy va' vb la' lb :=
  ⟨h.bel.trans (c.below h.bel.size (fun k hk => (h.oa.lt k hk).1)), o, c.own h.ob (fun k hk e => h.dj k e hk), fun k hk e => (f k hk).elim (fun e2 => h.dj k e2 e) (fun e2 => by have := (h.ob.lt k e).2; omega)⟩
theorem P2.stepB {w wx wy : World} {va vb vb' : Value} {la lb lb' : List Int} (h : P2 w wx va vb la lb) (o : wy.ownsRow w.heap.size 3 1 vb' lb'.length (ivs lb')) (c : Ch wx wy (fun k => vb.ownBlock = some k)) (f : ∀ k, vb'.ownBlock = some k → vb.ownBlock = some k ∨ wx.heap.size ≤ k) : P2 w wy va vb' la lb' :=
  ⟨h.bel.trans (c.below h.bel.size (fun k hk => (h.ob.lt k hk).1)), c.own h.oa (fun k hk e => h.dj k hk e), o, fun k hk e => (f k e).elim (h.dj k hk) (fun e2 => by have := (h.oa.lt k hk).2; omega)⟩
theorem wf_small {l : List Int} (h : ∀ x ∈ l, 0 ≤ x ∧ x ≤ 1000000000) : Wf l := fun n hn => by
  have := h n hn
  simp only [Lit.wf, IntKind.min, IntKind.max, IntKind.signed, IntKind.bits, Bool.and_eq_true, decide_eq_true_eq, if_true]
  simp; omega
theorem Cds.base {w : World} {B B' : Nat} {v : Value} {n : Nat} {cs : List Cd} (h : Cds w B v n cs) (hB : B' ≤ B) : Cds w B' v n cs :=
  ⟨h.hn, own_base h.own (fun k hk => Nat.le_trans hB (h.own.lt k hk).1), h.each, h.blk, fun i hi ad e => Nat.le_trans hB (h.lo i hi ad e)⟩
end Go.Proofs.YtfgpmccmalddjaaDoor
end

section
namespace Go.Proofs.YtfgpmccmalddjaaDoor
open Go.RowKit

theorem sym_small (l : List Int) (m : Nat) (hl : l.length ≤ 1000) : ∀ x ∈ Cn.symN l m, 0 ≤ x ∧ x ≤ 1000000000 := by
  intro x hx
  simp only [Cn.symN, List.mem_flatMap, List.mem_map, Cn.row, List.mem_filter, List.mem_range] at hx
  obtain ⟨n, _, s, ⟨hs, _⟩, rfl⟩ := hx
  omega
def CodesPost (w : World) (l : List Int) (e : Ending) (w' : World) : Prop :=
  ∃ v n cs, e = .returned v ∧ Cds w' w.heap.size v n cs ∧ cs.map Cd.s = Cn.syms l ∧ cs.map Cd.b = Cn.codes (Cn.sizes l) ∧ Below w.heap.size w w'
set_option maxHeartbeats 4000000 in
set_option maxRecDepth 100000 in
theorem refCodes_any (a : Option Addr) (len cap : Nat) (l : List Int) (w : World) (h : Is .i64 w a len cap l) (hl : len ≤ 512) :
    Calls Tryd.prog 53 #[.slice a len cap] w (CodesPost w l) := by
  have HL := Lib.hid h.hlen
  have H := Lib.hid h
  clear h
  go_enter Tryd.func53, Tryd.ntmps53
  go_wp2
  go_loopg [3, 4, 5] 16 (fun gk va vb n wr => ∃ m : Nat, m ≤ 16 ∧ gk = 16 - m ∧ n = .int .i64 ((m + 1 : Nat) : Int) ∧ (Cn.symN l m).length ≤ 512 * m ∧ Hid (P2 w wr va vb (Cn.symN l m) (Cn.sizN l m)))
  case atStart => exact ⟨0, by omega, by omega, rfl, by simp [Cn.symN], Lib.hid ⟨Below.refl _ _, World.ownsRow_nil _ _ _ _, World.ownsRow_nil _ _ _ _, fun k hk => by simp [Value.ownBlock] at hk⟩⟩
  case round =>
    obtain ⟨m, hm, rfl, rfl, hc, HP⟩ := hrel
    by_cases hlt : m < 16
    · have d16 : decide (((m + 1 : Nat) : Int) ≤ 16) = true := by simp; omega
      go_wp2
      generalize Value.bool (decide ((m : Int) + 1 ≤ 16)) = tb
      go_loopg [3, 4, 6] len (fun gk va vb s wr => ∃ i : Nat, i ≤ len ∧ gk = len - i ∧ s = .int .i64 i ∧ Hid (P2 w wr va vb (Cn.symN l m ++ (Cn.row l m i).map fun (s : Nat) => (s : Int)) (Cn.sizN l m ++ (Cn.row l m i).map fun _ => ((m + 1 : Nat) : Int))))
      case atStart => exact ⟨0, by omega, by omega, rfl, by simpa [Cn.row] using HP⟩
      case round =>
        obtain ⟨i, hi, rfl, rfl, HQ⟩ := hrel
        by_cases hil : i < len
        · obtain ⟨b, off, rfl, _, c1⟩ := (H.out.mono HQ.out.bel).at' i hil
          have HR := Lib.hid (Cn.row_succ l m i)
          have hrl := Cn.row_le l m i
          have hla : (Cn.symN l m ++ (Cn.row l m i).map fun (s : Nat) => (s : Int)).length ≤ 9000 := by rw [List.length_append, List.length_map]; omega
          have hlb : (Cn.sizN l m ++ (Cn.row l m i).map fun _ => ((m + 1 : Nat) : Int)).length ≤ 9000 := by rw [List.length_append, List.length_map, Cn.sizN_length]; omega
          by_cases he : l.getD i 0 = ((m + 1 : Nat) : Int)
          · have hr1 : Cn.row l m (i + 1) = Cn.row l m i ++ [i] := by rw [HR.out, if_pos (by rw [he]; exact beq_self_eq_true _)]
            rw [he] at c1
            have ea : (Cn.symN l m ++ (Cn.row l m (i + 1)).map fun (s : Nat) => (s : Int)) = (Cn.symN l m ++ (Cn.row l m i).map fun (s : Nat) => (s : Int)) ++ [(i : Int)] := by rw [hr1, List.map_append, ← List.append_assoc]; rfl
            have eb : (Cn.sizN l m ++ (Cn.row l m (i + 1)).map fun _ => ((m + 1 : Nat) : Int)) = (Cn.sizN l m ++ (Cn.row l m i).map fun _ => ((m + 1 : Nat) : Int)) ++ [((m + 1 : Nat) : Int)] := by rw [hr1, List.map_append, ← List.append_assoc]; rfl
            have EA := Lib.hid ea
            have EB := Lib.hid eb
            clear ea eb hr1 HR he hrl hc
            generalize (Cn.symN l m ++ (Cn.row l m i).map fun (s : Nat) => (s : Int)) = A at *
            generalize (Cn.sizN l m ++ (Cn.row l m i).map fun _ => ((m + 1 : Nat) : Int)) = B at *
            have HQ1 := Lib.hid (HQ.out.mono (below_alloc wr (.cells #[Value.int .i64 (i : Nat)] 3)))
            have oa := Lib.hid HQ1.out.oa
            have hsrc := src_int wr (i : Nat)
            have hbb : w.heap.size ≤ (wr.alloc (.cells #[Value.int .i64 (i : Nat)] 3)).heap.size := HQ1.out.bel.size
            go_wp2_with (at_builtin; refine wpl_append3 tyI rfl _ _ rfl oa.out hsrc rfl rfl (by omega) (by omega) hbb ?_)
            intro v4 w4 own4 c4 f4
            rw [← ivs_append] at own4
            have HQ2 := Lib.hid (HQ1.out.stepA (la' := A ++ [(i : Int)]) (by rw [List.length_append]; exact own4) c4 (by simpa using f4))
            clear own4 c4 f4 hsrc hbb oa HQ1
            have HQ3 := Lib.hid (HQ2.out.mono (below_alloc w4 (.cells #[Value.int .i64 ((m + 1 : Nat) : Int)] 3)))
            have ob := Lib.hid HQ3.out.ob
            have hsrc := src_int w4 ((m + 1 : Nat) : Int)
            have hbb : w.heap.size ≤ (w4.alloc (.cells #[Value.int .i64 ((m + 1 : Nat) : Int)] 3)).heap.size := HQ3.out.bel.size
            go_wp2_with (at_builtin; refine wpl_append3 tyI rfl _ _ rfl ob.out hsrc rfl rfl (by omega) (by omega) hbb ?_)
            intro v5 w5 own5 c5 f5
            rw [← ivs_append] at own5
            have HQ4 := Lib.hid (HQ3.out.stepB (lb' := B ++ [((m + 1 : Nat) : Int)]) (by rw [List.length_append]; exact own5) c5 (by simpa using f5))
            clear own5 c5 f5 hsrc hbb ob HQ3 HQ2
            rw [← EA.out, ← EB.out] at HQ4
            go_wp2
            go_roundg (len - (i + 1))
            case measure => omega
            case rel => exact ⟨i + 1, by omega, rfl, by go_num, HQ4⟩
          · have hr1 : Cn.row l m (i + 1) = Cn.row l m i := by rw [HR.out, if_neg (by intro hh; exact he (eq_of_beq hh)), List.append_nil]
            have he2 : decide (l.getD i 0 = ((m + 1 : Nat) : Int)) = false := by simpa using he
            rw [← hr1] at HQ
            clear hr1 HR hrl hc hla hlb
            generalize l.getD i 0 = x at *
            go_wp2
            go_roundg (len - (i + 1))
            case measure => omega
            case rel => exact ⟨i + 1, by omega, rfl, by go_num, HQ⟩
        · obtain rfl : len = i := by omega
          have e1 := Cn.symN_succ l m
          have e2 := Cn.sizN_succ l m
          rw [HL.out] at e1 e2
          rw [← e1, ← e2] at HQ
          have hrl := Cn.row_le l m len
          have hc2 : (Cn.symN l (m + 1)).length ≤ 512 * (m + 1) := by rw [e1, List.length_append, List.length_map]; omega
          clear e1 e2
          go_wp2
          go_roundg (16 - (m + 1))
          case measure => omega
          case rel => exact ⟨m + 1, by omega, rfl, by go_num, hc2, HQ⟩
    · obtain rfl : m = 16 := by omega
      have d16 : decide (((16 + 1 : Nat) : Int) ≤ 16) = false := by simp
      obtain ⟨sa, sc, rfl, hsi⟩ := own_is HP.out.oa (wf_small (sym_small l 16 (by rw [HL.out]; omega)))
      obtain ⟨za, zc, rfl, hzi⟩ := own_is HP.out.ob (wf_small (fun x hx => by have := Cn.sizN_bound l 16 (by omega) x hx; omega))
      rw [Cn.sizN_length] at hzi ⊢
      have HSI := Lib.hid hsi
      have HZI := Lib.hid hzi
      have hbel := HP.out.bel
      have hsn : (Cn.symN l 16).length ≤ 10000000 := by omega
      clear hsi hzi HP hc
      go_wp2_with fail
      refine (list_any sa _ sc (Cn.symN l 16) za zc (Cn.sizN l 16) _ HSI.out HZI.out hsn (Cn.sizN_bound l 16 (by omega))).mono ?_
      rintro e w2 ⟨v, cs, rfl, hcs, e1, e2, hb2⟩
      have hcs2 := hcs.base hbel.size
      have hb3 := below_then hbel hb2
      obtain ⟨va, vc, rfl, _⟩ := hcs2.cells
      go_wp2
      go_ret
      exact ⟨_, _, cs, rfl, hcs2, e1, e2, hb3⟩
end Go.Proofs.YtfgpmccmalddjaaDoor
end

section
namespace Go.Proofs.YtfgpmccmalddjaaDoor
open Go.RowKit

theorem drewN_is (w : World) (n : Nat) : Below w.heap.size w (w.drewN n) := ⟨rfl, rfl, rfl, Nat.le_refl _, fun _ _ => rfl⟩
theorem drewN_two (w : World) (a b : Nat) : (w.drewN a).drewN b = w.drewN (a + b) := by simp [World.drewN, Nat.add_assoc]
end Go.Proofs.YtfgpmccmalddjaaDoor
end

section
namespace Go.Proofs.YtfgpmccmalddjaaDoor
open Go.RowKit

def Cd.k (c : Cd) : Int × List Bool := (c.s, c.b)
theorem cth_get (cs : List Cd) (i : Nat) (h : i < cs.length) : (cs.map Cd.k)[i]? = some (cth cs i).k := by simp [cth, List.getD, List.getElem?_eq_getElem h]
theorem hit_at (cs : List Cd) (u : List Bool) (m i : Nat) (h : i < cs.length) (hno : ∀ j, j < i → Cn.hit u m (cth cs j).k = false) (hy : Cn.hit u m (cth cs i).k = true) : (cs.map Cd.k).find? (Cn.hit u m) = some (cth cs i).k := by
  rw [List.find?_eq_some_iff_getElem]
  refine ⟨hy, i, by simpa using h, by have := cth_get cs i h; rw [List.getElem?_eq_getElem (by simpa using h)] at this; exact Option.some.inj this, fun j hj => ?_⟩
  have e := cth_get cs j (by omega)
  rw [List.getElem?_eq_getElem (by simp; omega)] at e
  rw [Option.some.inj e, hno j hj]; rfl
theorem hit_none (cs : List Cd) (u : List Bool) (m : Nat) (hno : ∀ j, j < cs.length → Cn.hit u m (cth cs j).k = false) : (cs.map Cd.k).find? (Cn.hit u m) = none := by
  rw [List.find?_eq_none]
  intro x hx
  obtain ⟨j, hj, rfl⟩ := List.getElem_of_mem hx
  have hj' : j < cs.length := by simpa using hj
  have e := cth_get cs j hj'
  rw [List.getElem?_eq_getElem hj] at e
  rw [Option.some.inj e, hno j hj']; simp
def anyK (cs : List Cd) (u : List Bool) (m i : Nat) : Bool := ((cs.take i).map Cd.k).any (Cn.more u m)
theorem anyK_succ (cs : List Cd) (u : List Bool) (m i : Nat) (h : i < cs.length) : anyK cs u m (i + 1) = (anyK cs u m i || Cn.more u m (cth cs i).k) := by
  unfold anyK
  rw [List.take_succ_eq_append_getElem h, List.map_append, List.any_append]
  simp [cth, List.getD, List.getElem?_eq_getElem h]
theorem anyK_all (cs : List Cd) (u : List Bool) (m : Nat) : anyK cs u m cs.length = (cs.map Cd.k).any (Cn.more u m) := by unfold anyK; rw [List.take_length]
set_option maxHeartbeats 4000000 in
set_option maxRecDepth 100000 in
theorem refRead_any (B : Nat) (v : Value) (n : Nat) (cs : List Cd) (a : Option Addr) (len cap : Nat) (u : List Bool) (w : World) (hc : Cds w B v n cs) (h : Is .i64 w a len cap (bi u)) (hlen : len ≤ 1000000) (hn : n ≤ 1000000) (h16 : ∀ i, i < n → (cth cs i).b.length ≤ 16) :
    Calls Tryd.prog 71 #[v, .slice a len cap] w fun e w' =>
      e = .returned (.tuple #[.int .i64 (Cn.rd (cs.map Cd.k) u).1, .int .i64 (Cn.rd (cs.map Cd.k) u).2.1, .int .i64 (Cn.rd (cs.map Cd.k) u).2.2]) ∧ ∃ n, w' = w.drewN n := by
  obtain ⟨va, vc, rfl, hcells0⟩ := hc.cells
  have HL := Lib.hid h.hlen
  have HC := Lib.hid hc
  have HX0 := Lib.hid hcells0
  have H := Lib.hid h
  have H16 := Lib.hid h16
  have HN := Lib.hid hc.hn
  have hul : u.length = len := by rw [← HL.out, bi_length]
  have HUL := Lib.hid hul
  clear h hc hcells0 h16 hul
  by_cases hn0 : n = 0
  · have hnil : cs = [] := List.eq_nil_of_length_eq_zero (by rw [HN.out]; exact hn0)
    subst hnil
    subst hn0
    go_enter Tryd.func71, Tryd.ntmps71
    go_wp2
    go_ret3
    exact ⟨rfl, 0, rfl⟩
  obtain ⟨g, rfl, _, _⟩ := HX0.out 0 (by omega)
  have HX := Lib.hid (show ∀ i, i < n → w.cell? ⟨g, i * 2, none⟩ = some (.int .i64 (cth cs i).s) ∧ w.cell? ⟨g, i * 2 + 1, none⟩ = some (.slice (cth cs i).a (cth cs i).len (cth cs i).cap) from fun i hi => by
    obtain ⟨g', e, h1, h2⟩ := HX0.out i hi
    simp only [Option.some.injEq, Addr.mk.injEq, and_true] at e
    subst e
    exact ⟨h1, h2⟩)
  clear HX0
  have hne : cs.map Cd.k ≠ [] := by
    intro e
    have := HN.out
    rw [List.map_eq_nil_iff.1 e] at this
    exact hn0 this.symm
  have hrd0 : Cn.rd (cs.map Cd.k) u = Cn.rdAt (cs.map Cd.k) u (17 - 1) 1 := by unfold Cn.rd; rw [if_neg hne]
  have HR0 := Lib.hid hrd0
  clear hne hrd0
  have dn0 : ((n : Int) == 0) = false := by simp; omega
  generalize Cn.rd (cs.map Cd.k) u = R at *
  go_enter Tryd.func71, Tryd.ntmps71
  go_wp2
  go_loopg [7] 16 (fun gk s7 wr => ∃ m : Nat, 1 ≤ m ∧ m ≤ 17 ∧ gk = 17 - m ∧ s7 = .int .i64 m ∧ (∃ d, wr = w.drewN d) ∧ Hid (R = Cn.rdAt (cs.map Cd.k) u (17 - m) m))
  case atStart => exact ⟨1, by omega, by omega, by omega, rfl, ⟨0, rfl⟩, HR0⟩
  case round =>
    obtain ⟨m, hm1, hm, rfl, rfl, ⟨d0, rfl⟩, HR⟩ := hrel
    by_cases hm16 : m ≤ 16
    · by_cases hend : len < m
      · have hr : R = (0, len, 8) := by rw [HR.out, Cn.rdAt_step _ _ _ hm16, if_pos (by rw [HUL.out]; exact hend), HUL.out]
        clear HR HR0
        subst hr
        go_wp2
        go_ret3
        exact ⟨rfl, _, rfl⟩
      · have hr : R = match (cs.map Cd.k).find? (Cn.hit u m) with
            | some c => (c.1, m, 0)
            | none => if (cs.map Cd.k).any (Cn.more u m) then Cn.rdAt (cs.map Cd.k) u (17 - (m + 1)) (m + 1) else (0, m, 2) := by
          rw [HR.out, Cn.rdAt_step _ _ _ hm16, if_neg (by rw [HUL.out]; exact hend)]; rfl
        have HR1 := Lib.hid hr
        clear hr HR HR0
        go_wp2
        generalize Value.bool (decide ((m : Int) ≤ 16)) = tb
        go_loopg [8, 9] n (fun gk s8 s9 wr => ∃ i : Nat, i ≤ n ∧ gk = n - i ∧ s8 = .bool (anyK cs u m i) ∧ s9 = .int .i64 i ∧ (∃ d, wr = w.drewN d) ∧ Hid (∀ j, j < i → Cn.hit u m (cth cs j).k = false))
        case atStart => exact ⟨0, by omega, by omega, rfl, rfl, ⟨_, rfl⟩, Lib.hid (fun j hj => absurd hj (by omega))⟩
        case round =>
          obtain ⟨i, hi, rfl, rfl, rfl, ⟨d1, rfl⟩, HNO⟩ := hrel
          by_cases hin : i < n
          · obtain ⟨c0, c1⟩ := HX.out i hin
            have HE := Lib.hid (HC.out.each i hin)
            have HA := Lib.hid (anyK_succ cs u m i (by rw [HN.out]; exact hin))
            have HH := Lib.hid (hit_at cs u m i (by rw [HN.out]; exact hin) HNO.out)
            have hb16 := H16.out i hin
            have HKS := Lib.hid (show ∀ j, j < i + 1 → ¬ j < i → j = i from fun j h1 h2 => by omega)
            have hlenb : (cth cs i).len = (cth cs i).b.length := by have := HE.out.hlen; rw [bi_length] at this; exact this.symm
            have HLB := Lib.hid hlenb
            rw [← hlenb] at hb16
            have hkk : (cth cs i).k = ((cth cs i).s, (cth cs i).b) := rfl
            rw [hkk] at HA HH
            have HKK := Lib.hid hkk
            clear hlenb hkk
            generalize (cth cs i).s = cS at *
            generalize (cth cs i).a = cA at *
            generalize (cth cs i).len = cL at *
            generalize (cth cs i).cap = cC at *
            generalize (cth cs i).b = cB at *
            go_wp2
            go_loopg [11, 12] (min m cL) (fun gk s11 s12 wr => ∃ k : Nat, k ≤ m ∧ k ≤ cL ∧ gk = min m cL - k ∧ s12 = .int .i64 k ∧ s11 = .bool (decide (cB.take k = u.take k)) ∧ ∃ d, wr = w.drewN d)
            case atStart => exact ⟨0, by omega, by omega, by omega, rfl, by simp, ⟨_, rfl⟩⟩
            case round =>
              obtain ⟨k, hkm, hkl, rfl, rfl, rfl, ⟨d2, rfl⟩⟩ := hrel
              by_cases hkm2 : k < m
              · by_cases hkl2 : k < cL
                · obtain ⟨b1, off1, rfl, _, x1⟩ := HE.out.at' k hkl2
                  obtain ⟨b2, off2, rfl, _, x2⟩ := H.out.at' k (by omega)
                  rw [bi_getD] at x1 x2
                  have HS := Lib.hid (Cn.same_step u cB k (by rw [← HLB.out]; exact hkl2) (by rw [HUL.out]; omega))
                  have hxy : (((cB.getD k false).toNat : Int) == ((u.getD k false).toNat : Int)) = (cB.getD k false == u.getD k false) := by cases cB.getD k false <;> cases u.getD k false <;> rfl
                  rw [← hxy] at HS
                  clear hxy
                  generalize ((cB.getD k false).toNat : Int) = X at *
                  generalize ((u.getD k false).toNat : Int) = Y at *
                  generalize decide (cB.take k = u.take k) = sb at *
                  cases sb
                  · go_wp2
                    go_quiet (fail)
                    go_wp2
                    go_roundg (min m cL - (k + 1))
                    case measure => omega
                    case rel => exact ⟨k + 1, by omega, by omega, rfl, by go_num, by rw [HS.out]; rfl, ⟨_, rfl⟩⟩
                  · go_wp2
                    go_quiet (fail)
                    go_wp2
                    go_roundg (min m cL - (k + 1))
                    case measure => omega
                    case rel => exact ⟨k + 1, by omega, by omega, rfl, by go_num, by rw [HS.out]; rfl, ⟨_, rfl⟩⟩
                · have hke : k = cL := by omega
                  have hmin : min m cL = k := by omega
                  have hS : Cn.same u m cB = decide (cB.take k = u.take k) := by unfold Cn.same; rw [← HLB.out, hmin]
                  have hH : Cn.hit u m (cS, cB) = (decide (cB.take k = u.take k) && decide (cL = m)) := by simp only [Cn.hit]; rw [hS, HLB.out]
                  have hM : Cn.more u m (cS, cB) = (decide (cB.take k = u.take k) && decide (m < cL)) := by simp only [Cn.more]; rw [hS, HLB.out]
                  rw [hM] at HA
                  rw [hH] at HH
                  have HNO2 : Hid ((decide (cB.take k = u.take k) && decide (cL = m)) = false → ∀ j, j < i + 1 → Cn.hit u m (cth cs j).k = false) := Lib.hid (fun hf j hj => by
                    by_cases hji : j < i
                    · exact HNO.out j hji
                    · rw [HKS.out j hj hji, HKK.out, hH, hf])
                  clear hS hH hM hmin HNO HKS
                  generalize decide (cB.take k = u.take k) = sb at *
                  by_cases hit : sb = true ∧ cL = m
                  · obtain ⟨hsb, hcm⟩ := hit
                    subst hsb
                    exfalso; omega
                  · have hno2 := HNO2.out (by
                      cases sb
                      · rfl
                      · rw [Bool.true_and]; exact decide_eq_false (fun e => hit ⟨rfl, e⟩))
                    have HNO3 := Lib.hid hno2
                    have hac := HA.out
                    clear HNO2 HH hno2 HA
                    generalize anyK cs u m i = ab at *
                    cases sb
                    · rw [Bool.false_and, Bool.or_false] at hac
                      have HAC := Lib.hid hac
                      clear hac hit
                      cases ab
                      all_goals
                        go_wp2
                        go_roundg (n - (i + 1))
                        case measure => omega
                        case rel => exact ⟨i + 1, by omega, rfl, congrArg Value.bool HAC.out.symm, by go_num, ⟨_, rfl⟩, HNO3⟩
                    · have hcm : cL ≠ m := fun e => hit ⟨rfl, e⟩
                      have dne : ((cL : Int) == (m : Int)) = false := by simp; omega
                      clear hit
                      cases ab
                      · have hml : ¬ m < cL := by omega
                        have HAC := Lib.hid (show anyK cs u m (i + 1) = false by rw [hac, decide_eq_false hml]; rfl)
                        clear hac
                        go_wp2
                        go_roundg (n - (i + 1))
                        case measure => omega
                        case rel => exact ⟨i + 1, by omega, rfl, congrArg Value.bool HAC.out.symm, by go_num, ⟨_, rfl⟩, HNO3⟩
                      · have HAC := Lib.hid (show anyK cs u m (i + 1) = true by rw [hac]; rfl)
                        clear hac
                        go_wp2
                        go_roundg (n - (i + 1))
                        case measure => omega
                        case rel => exact ⟨i + 1, by omega, rfl, congrArg Value.bool HAC.out.symm, by go_num, ⟨_, rfl⟩, HNO3⟩
              · have hke : k = m := by omega
                have hmin : min m cL = k := by omega
                have hS : Cn.same u m cB = decide (cB.take k = u.take k) := by unfold Cn.same; rw [← HLB.out, hmin]
                have hH : Cn.hit u m (cS, cB) = (decide (cB.take k = u.take k) && decide (cL = m)) := by simp only [Cn.hit]; rw [hS, HLB.out]
                have hM : Cn.more u m (cS, cB) = (decide (cB.take k = u.take k) && decide (m < cL)) := by simp only [Cn.more]; rw [hS, HLB.out]
                rw [hM] at HA
                rw [hH] at HH
                have HNO2 : Hid ((decide (cB.take k = u.take k) && decide (cL = m)) = false → ∀ j, j < i + 1 → Cn.hit u m (cth cs j).k = false) := Lib.hid (fun hf j hj => by
                  by_cases hji : j < i
                  · exact HNO.out j hji
                  · rw [HKS.out j hj hji, HKK.out, hH, hf])
                clear hS hH hM hmin HNO HKS
                generalize decide (cB.take k = u.take k) = sb at *
                by_cases hit : sb = true ∧ cL = m
                · obtain ⟨hsb, hcm⟩ := hit
                  subst hsb
                  have hr : R = (cS, m, 0) := by rw [HR1.out, HH.out (by simp [hcm])]
                  have dcm : ((cL : Int) == (m : Int)) = true := by simp [hcm]
                  clear HR1 HH HA HNO2
                  subst hr
                  go_wp2
                  go_ret3
                  exact ⟨rfl, _, rfl⟩
                · have hno2 := HNO2.out (by
                    cases sb
                    · rfl
                    · rw [Bool.true_and]; exact decide_eq_false (fun e => hit ⟨rfl, e⟩))
                  have HNO3 := Lib.hid hno2
                  have hac := HA.out
                  clear HNO2 HH hno2 HA
                  generalize anyK cs u m i = ab at *
                  cases sb
                  · rw [Bool.false_and, Bool.or_false] at hac
                    have HAC := Lib.hid hac
                    clear hac hit
                    cases ab
                    all_goals
                      go_wp2
                      go_roundg (n - (i + 1))
                      case measure => omega
                      case rel => exact ⟨i + 1, by omega, rfl, congrArg Value.bool HAC.out.symm, by go_num, ⟨_, rfl⟩, HNO3⟩
                  · have hcm : cL ≠ m := fun e => hit ⟨rfl, e⟩
                    have dne : ((cL : Int) == (m : Int)) = false := by simp; omega
                    clear hit
                    cases ab
                    · have hml : m < cL := by omega
                      have HAC := Lib.hid (show anyK cs u m (i + 1) = true by rw [hac, decide_eq_true hml]; rfl)
                      clear hac
                      go_wp2
                      go_roundg (n - (i + 1))
                      case measure => omega
                      case rel => exact ⟨i + 1, by omega, rfl, congrArg Value.bool HAC.out.symm, by go_num, ⟨_, rfl⟩, HNO3⟩
                    · have HAC := Lib.hid (show anyK cs u m (i + 1) = true by rw [hac]; rfl)
                      clear hac
                      go_wp2
                      go_roundg (n - (i + 1))
                      case measure => omega
                      case rel => exact ⟨i + 1, by omega, rfl, congrArg Value.bool HAC.out.symm, by go_num, ⟨_, rfl⟩, HNO3⟩
          · have hie : i = n := by omega
            have hf := hit_none cs u m (by rw [HN.out, ← hie]; exact HNO.out)
            have hr := HR1.out
            rw [hf] at hr
            have ha := anyK_all cs u m
            rw [HN.out, ← hie] at ha
            dsimp only at hr
            rw [← ha] at hr
            clear HR1 HNO ha hf
            generalize anyK cs u m i = ab at *
            cases ab
            · have hr2 : R = (0, m, 2) := by rw [hr]; rfl
              clear hr
              subst hr2
              go_wp2
              go_ret3
              exact ⟨rfl, _, rfl⟩
            · have hr2 := Lib.hid (show R = Cn.rdAt (cs.map Cd.k) u (17 - (m + 1)) (m + 1) by rw [hr]; rfl)
              clear hr
              go_wp2
              go_roundg (17 - (m + 1))
              case measure => omega
              case rel => exact ⟨m + 1, by omega, by omega, rfl, by go_num, ⟨_, rfl⟩, hr2⟩
    · obtain rfl : m = 17 := by omega
      have hr : R = (0, 16, 2) := HR.out
      clear HR HR0
      subst hr
      go_wp2
      go_ret3
      exact ⟨rfl, _, rfl⟩
end Go.Proofs.YtfgpmccmalddjaaDoor
end

section
namespace Go.Proofs.YtfgpmccmalddjaaDoor
open Go.RowKit
attribute [local go_sem] Oper.semAt_some

theorem rdAt_len (ks : List (Int × List Bool)) (u : List Bool) : ∀ f n, n + f = 17 → n ≤ u.length + 1 → (Cn.rdAt ks u f n).2.1 ≤ u.length ∧ ((Cn.rdAt ks u f n).2.2 ≠ 0 → (Cn.rdAt ks u f n).1 = 0)
  | 0, n, h1, h2 => ⟨by show 16 ≤ u.length; omega, fun _ => rfl⟩
  | f + 1, n, h1, h2 => by
    unfold Cn.rdAt
    by_cases hl : u.length < n
    · rw [if_pos hl]; exact ⟨Nat.le_refl _, fun _ => rfl⟩
    · rw [if_neg hl]
      cases hf : ks.find? (Cn.hit u n) with
      | some c => exact ⟨by show n ≤ u.length; omega, fun h => absurd rfl h⟩
      | none =>
        dsimp only
        split
        · exact rdAt_len ks u f (n + 1) (by omega) (by omega)
        · exact ⟨by show n ≤ u.length; omega, fun _ => rfl⟩
theorem rd_len (ks : List (Int × List Bool)) (u : List Bool) : (Cn.rd ks u).2.1 ≤ u.length ∧ ((Cn.rd ks u).2.2 ≠ 0 → (Cn.rd ks u).1 = 0) := by
  unfold Cn.rd
  split
  · exact ⟨Nat.zero_le _, fun _ => rfl⟩
  · exact rdAt_len ks u 16 1 rfl (by omega)
section
variable {w : World} {D : Nat → Prop} {B gr : Nat} {a : Option Addr} {cap : Nat} {u : List Bool} {p : Nat} {most : Nat} {v : Value} {s : Unp}
set_option maxHeartbeats 1000000 in
theorem rsym_ok (h : Rn w D B gr a cap u p 0 most s.1.length s.2 v) (hz : 0 < u.length) {Bc n : Nat} {vc : Value} {cs : List Cd} {R : Nat → List Nat} (hc : Cds w Bc vc n cs) (hn : n ≤ 1000000) (h16 : ∀ i, i < n → (cth cs i).b.length ≤ 16) (hk : cs.map Cd.k = Bk.ks R) :
    Calls Tryd.prog 56 #[.pointer (some ⟨gr, 0, none⟩), vc] w (RtPost w D B gr a cap u most s (fun z : Int => .int .i64 z) (.int .i64 0) (Ip.rdP R u p)) := by
  have hp := h.hp
  have hu := h.hu
  have k0 := h.cells.1
  have k1 := h.cells.2.1
  have k2 := h.cells.2.2.1
  have HR := Lib.hid h
  obtain ⟨va, vcc, rfl, _⟩ := hc.cells
  have hle := h.li.hle
  obtain ⟨b, off, rfl, _, _⟩ := h.li.at' 0 hz
  have HI : Hid (∀ (W : World) (ao : Option Addr) (cap' m : Nat), m = u.length - p → (∃ N, W = w.drewN N) → (p < u.length → ao = some ⟨b, off + p, none⟩ ∧ cap' = cap - p) → (p = u.length → ao = none → cap' = 0) → Is .i64 W ao m cap' (bi (u.drop p))) := Lib.hid (fun W ao cap' m hm hW h1 h2 => by
    obtain ⟨N, rfl⟩ := hW
    subst hm
    by_cases hpp : p < u.length
    · obtain ⟨rfl, rfl⟩ := h1 hpp
      have := (h.li.mono (dn_is w N)).suf p hp
      rw [bi_drop] at this
      simpa using this
    · have e : p = u.length := by omega
      subst e
      simp only [List.drop_length, Nat.sub_self]
      exact Is.none0 _ _ _ (h2 rfl))
  obtain ⟨z, c, bd, hrd⟩ : ∃ z c bd, Cn.rd (cs.map Cd.k) (u.drop p) = (z, c, bd) := ⟨_, _, _, rfl⟩
  have hrl := rd_len (cs.map Cd.k) (u.drop p)
  rw [hrd, List.length_drop] at hrl
  dsimp only at hrl
  have hcl : p + c ≤ u.length := by omega
  have HX : Hid (Ip.rdP R u p = if bd = 0 then .ok z (p + c) else .err bd) := Lib.hid (by unfold Ip.rdP; rw [← hk, hrd])
  have HZ := Lib.hid hrl.2
  have HREAD : Hid (∀ (N : Nat) (ao : Option Addr) (cap' m : Nat), m = u.length - p → (p < u.length → ao = some ⟨b, off + p, none⟩ ∧ cap' = cap - p) → (p = u.length → ao = none → cap' = 0) →
      Calls Tryd.prog 71 #[.slice va n vcc, .slice ao m cap'] (w.drewN N) fun e w' => e = .returned (.tuple #[.int .i64 z, .int .i64 (c : Nat), .int .i64 bd]) ∧ ∃ n, w' = (w.drewN N).drewN n) := Lib.hid (fun N ao cap' m hm h1 h2 => by
    have := refRead_any _ _ _ cs _ _ _ (u.drop p) _ (hc.mono (dn_is w N)) (HI.out _ ao cap' m hm ⟨_, rfl⟩ h1 h2) (by omega) hn h16
    rw [hrd] at this
    exact this)
  have e1 : ((p + c : Nat) : Int) = (p : Int) + (c : Int) := by omega
  have HD : Hid (∀ N, (w.drewN N).cell? ⟨gr, 1, none⟩ = some (.int .i64 (p : Nat)) ∧ (w.drewN N).frozen? ⟨gr, 1, none⟩ = false ∧
      ((w.drewN N).setCell ⟨gr, 1, none⟩ (.int .i64 ((p : Int) + (c : Int)))).cell? ⟨gr, 2, none⟩ = some (.int .i64 0) ∧ ((w.drewN N).setCell ⟨gr, 1, none⟩ (.int .i64 ((p : Int) + (c : Int)))).frozen? ⟨gr, 2, none⟩ = false ∧
      RtPost w D B gr (some ⟨b, off, none⟩) cap u most s (fun z : Int => .int .i64 z) (.int .i64 0) (Ip.rdP R u p) (.returned (.int .i64 z)) (((w.drewN N).setCell ⟨gr, 1, none⟩ (.int .i64 ((p : Int) + (c : Int)))).setCell ⟨gr, 2, none⟩ (.int .i64 bd))) := Lib.hid (fun N => by
    have h1 := h.mono (dn_is w N)
    have hr1 := row_set h1.row 1 (.int .i64 ((p : Int) + (c : Int)))
    have hr2 := row_set hr1 2 (.int .i64 bd)
    have c1 : Ch (w.drewN N) (((w.drewN N).setCell ⟨gr, 1, none⟩ (.int .i64 ((p : Int) + (c : Int)))).setCell ⟨gr, 2, none⟩ (.int .i64 bd)) (fun k => k = gr) := ((Ch.refl (w.drewN N) (fun k => k = gr)).set (p := ⟨gr, 1, none⟩) (.inl rfl) _).set (p := ⟨gr, 2, none⟩) (.inl rfl) _
    have ht := h1.turn (q := p + c) (sz' := s.1.length) (bad' := bd) c1 (by rw [e1]; exact hr2) hcl h1.hs h1.ht
    have hch : Ch w _ (fun k => ¬ D k) := (Ch.of_below (T := fun k => ¬ D k) (dn_is w N)).trans ht.2 (fun n hn => .inl hn)
    refine ⟨h1.cells.2.1, h1.free 1, ?_, frozen_of_row _ _ _ _ _ hr1, ?_⟩
    · rw [cell_of_row _ _ _ _ _ (0, 0) hr1]; rfl
    · rw [HX.out]
      by_cases hb : bd = 0
      · subst hb
        exact ⟨rfl, ⟨v, ht.1⟩, hch⟩
      · rw [if_neg hb]
        exact ⟨by rw [HZ.out hb], ⟨p + c, bd, _, _, v, hb, ht.1⟩, hch⟩)
  have i0 : IntKind.i64.wrap ((p : Int) + (c : Int)) = (p : Int) + (c : Int) := IntWalk.i64_in _ ⟨by omega, by omega⟩
  clear h hc hk h16 hrd hrl HX HZ HI HR hcl e1
  have i1 : (0 : Int) ≤ (p : Int) := by omega
  have i2 : (p : Int) ≤ (u.length : Int) := by omega
  by_cases hck : cap = p
  · subst hck
    go_enter Tryd.func56, Tryd.ntmps56
    go_wp2_with fail
    go_region_held3 (fun w' => w'.cell? ⟨gr, 0, none⟩ = some (.slice (some ⟨b, off, none⟩) u.length cap) ∧ w'.cell? ⟨gr, 1, none⟩ = some (.int .i64 (cap : Nat))) (go_keep)
      (first | (go_at_call 71; refine (HREAD.out _ _ _ _ (by omega) (fun h => by omega) (fun _ h => by cases h)).mono ?_; rintro e w' ⟨rfl, nn, rfl⟩))
    rename_i hd
    obtain ⟨q1, qf, q2, qg, HP⟩ := HD.out (1 + nn)
    have HP := Lib.hid HP
    go_wp2
    go_ret
    exact HP.out
  · go_enter Tryd.func56, Tryd.ntmps56
    go_wp2_with fail
    go_region_held3 (fun w' => w'.cell? ⟨gr, 0, none⟩ = some (.slice (some ⟨b, off, none⟩) u.length cap) ∧ w'.cell? ⟨gr, 1, none⟩ = some (.int .i64 (p : Nat))) (go_keep)
      (first | (go_at_call 71; refine (HREAD.out _ _ _ _ (by omega) (fun _ => ⟨rfl, rfl⟩) (fun _ h => by cases h)).mono ?_; rintro e w' ⟨rfl, nn, rfl⟩))
    rename_i hd
    obtain ⟨q1, qf, q2, qg, HP⟩ := HD.out (1 + nn)
    have HP := Lib.hid HP
    go_wp2
    go_ret
    exact HP.out
theorem rsym_dead {bad : Int} {sz : Nat} {ts : List Tok} (h : Rn w D B gr a cap u p bad most sz ts v) (hb : bad ≠ 0) {vc : Value} :
    Calls Tryd.prog 56 #[.pointer (some ⟨gr, 0, none⟩), vc] w fun e w' => e = .returned (.int .i64 0) ∧ w' = w := by
  have d1 : (bad != 0) = true := by simpa using hb
  have k2 := h.cells.2.2.1
  clear h hb
  go_enter Tryd.func56, Tryd.ntmps56
  go_wp2
  go_ret
  exact ⟨rfl, rfl⟩
end
end Go.Proofs.YtfgpmccmalddjaaDoor
end
