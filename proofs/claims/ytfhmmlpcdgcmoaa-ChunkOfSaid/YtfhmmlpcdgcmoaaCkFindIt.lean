/- chunk.Find's iterator: its contract. -/
import Derived.Test.YtfhmmlpcdgcmoaaCkFind
import Derived.LoopIn
import Derived.LoopNIn
import Derived.RegionIn
import Derived.TacticsInMore
import Derived.Stop.RegionWithIn
import Derived.Sort.QuietIn
namespace Go.Proofs.Ytfhmmlpcdgcmoaa
open Go.RowKit
attribute [local go_sem] Oper.semAt_some

/-- What a place shows. -/
def sh (p : Plm) : Nat × List UInt8 × List UInt8 := (p.1, p.2.n, p.2.s.l)
def plEnc (p : Plm) : Array Value := #[.int .i64 (p.1 : Nat), .agg #[.string (str p.2.n), p.2.s.val]]
/-- What is handed out has data of its own. -/
def AtC (Z : Nat) (p : Plm) (w : World) : Prop := w.ownsRow Z 5 1 p.2.s.val p.2.s.len (bvs p.2.s.l)
theorem cyield_any {m m' l y : Nat} {P : Program} {args : Array Value} {W : World} {Q : Ending → World → Prop} (h : YieldAt Fence.wide m P y args W Q) :
    ∃ fn tmps assign body, (Instr.yield y args).run P W = .ok (.round y fn tmps assign body) W ∧ RoundIn (Fence.wide.inRound l) m' P y fn tmps assign body W Q := by
  obtain ⟨fn, tmps, assign, body, hy, hR⟩ := h
  exact ⟨fn, tmps, assign, body, hy, hR.1, fun c cs _ => hR.2 c cs (room_wide _)⟩
theorem Pls.kc {U : Nat → Prop} {w w' : World} {B : Nat} {v : Value} {ms : List Plm} (h : Pls w B v ms) (hc : Bk.Kc U w w') (hv : ∀ g, v.ownBlock = some g → ¬ U g) (hd : ∀ c ∈ ms, ∀ g, c.2.s.val.ownBlock = some g → ¬ U g) : Pls w' B v ms :=
  ⟨Bk.own_kc h.own hc hv, fun c hm => Bk.own_kc (h.data c hm) hc (hd c hm), h.dj⟩
/-- What a region ends in. -/
def EndsA (R : Act → World → Prop) : Exit → Act → World → Prop
  | .normal, a, w => R a w
  | _, _, _ => False
set_option maxRecDepth 100000 in
set_option maxHeartbeats 4000000 in
theorem find_iter (X B : Nat) (U : Nat → Prop) (v : Value) (ms : List Plm) (w : World) (hX : Boxed w X 86 v) (hP : Pls w B v ms) (hm : ms.length ≤ 140737488355328)
    (hl : ∀ c ∈ ms, c.2.s.len ≤ 140737488355328) (hv : ∀ g, v.ownBlock = some g → ¬ U g) (hd : ∀ c ∈ ms, ∀ g, c.2.s.val.ownBlock = some g → ¬ U g) :
    IterC Fence.wide 3 Try.prog 49 #[.pointer (some ⟨X, 0, none⟩)] plEnc (Bk.Kc U) (fun xs => xs.map sh = ms.map sh) (fun pre => ∃ s, ms.map sh = pre.map sh ++ s) (fun pre x => ∃ s, ms.map sh = pre.map sh ++ sh x :: s) (AtC w.heap.size) w := fun y J Jx V hV hJ hJx h0 hY => by
  have hro : (Fence.wide).round = none := rfl
  have hX' : Boxed V X 86 v := (hV.block X hX.lt).trans hX
  have HP := Lib.hid (hP.below hV)
  have HY := Lib.hid hY
  have HJ := Lib.hid hJ
  have HJX := Lib.hid hJx
  have H0 := Lib.hid h0
  have HLN := Lib.hid hl
  have HV := Lib.hid hv
  have HD := Lib.hid hd
  have hVz := hV.size
  have hsl : ∃ a c, v = .slice a ms.length c := by
    rcases own_nil_or hP.own with ⟨h0, h⟩ | ⟨g, c, rfl, _⟩
    · rw [h]; exact ⟨none, 0, by rw [h0]⟩
    · exact ⟨_, _, rfl⟩
  clear hX hP hY hJ hJx h0 hl hv hd hV
  obtain ⟨a1, c1, rfl⟩ := hsl
  have cX := hX'.cell
  refine callsIn_of_wp Try.func49 rfl trivial ?_ hro
  simp only [Try.ntmps49, List.size_toArray, List.length_cons, List.length_nil, Nat.reduceAdd, Nat.reduceSub, Array.replicate_succ, Array.replicate_zero, List.push_toArray, List.append_toArray, List.nil_append, List.cons_append]
  gi_wp2
  gi_loopw [7] (fun i wr => ∃ (k : Nat) (xs : List Plm), k ≤ ms.length ∧ i = .int .i64 k ∧ Hid (xs.map sh = (ms.take k).map sh) ∧ Hid (J xs wr) ∧ Hid (Pls wr B (.slice a1 ms.length c1) ms) ∧ Hid (V.heap.size ≤ wr.heap.size)) (fun i _ => ms.length - (intOf i).toNat)
  case atStart => exact ⟨0, [], by omega, rfl, Lib.hid (by simp), H0, HP, Lib.hid (Nat.le_refl _)⟩
  case round =>
    clear H0 HP cX hX'
    obtain ⟨k, xs, hk, rfl, HXS, HJW, HPW, HZ⟩ := hrel
    by_cases hlt : k < ms.length
    · obtain ⟨g, rfl⟩ : ∃ g, a1 = some ⟨g, 0, none⟩ := by
        rcases own_nil_or HPW.out.own with ⟨h0, h⟩ | ⟨g, c, h, _⟩
        · omega
        · simp only [Value.slice.injEq] at h; exact ⟨g, h.1⟩
      obtain ⟨t0, t1, t2⟩ := plc_get ms k hlt
      have hgl := (HPW.out.own.lt g rfl).2
      have c0 : wr.cell? ⟨g, k * 3, none⟩ = some (.int .i64 ((npl ms k).1 : Nat)) := by rw [HPW.out.own.cellAt (k * 3) (by omega)]; exact t0
      have c1' : wr.cell? ⟨g, k * 3 + 1, none⟩ = some (.string (str (npl ms k).2.n)) := by rw [HPW.out.own.cellAt (k * 3 + 1) (by omega)]; exact t1
      have c2 : wr.cell? ⟨g, k * 3 + 2, none⟩ = some (npl ms k).2.s.val := by rw [HPW.out.own.cellAt (k * 3 + 2) (by omega)]; exact t2
      have hin : npl ms k ∈ ms := by rw [npl_get ms k hlt]; exact List.getElem_mem hlt
      have HDK := Lib.hid (HPW.out.data _ hin)
      have hlk := HLN.out _ hin
      have HT : Hid ((ms.take (k + 1)).map sh = (ms.take k).map sh ++ [sh (npl ms k)]) := Lib.hid (by rw [List.take_succ_eq_append_getElem hlt, List.map_append, npl_get ms k hlt]; rfl)
      have HTN : Hid (ms.map sh = (ms.take k).map sh ++ sh (npl ms k) :: (ms.drop (k + 1)).map sh) := Lib.hid (by
        conv => lhs; rw [← List.take_append_drop k ms, List.drop_eq_getElem_cons hlt, List.map_append, List.map_cons]
        rw [npl_get ms k hlt])
      clear t0 t1 t2 hin
      generalize npl ms k = p at *
      obtain ⟨pa, pn, qa, ql, qc, qd⟩ := p
      unfold Sl.val at c2
      simp only at c0 c1' c2 HDK hlk
      have hba := below_alloc wr (.cells #[.int .i64 (pa : Nat), .string (str pn), .slice qa ql qc] 90)
      have hrb := heap_alloc_last wr (.cells #[.int .i64 (pa : Nat), .string (str pn), .slice qa ql qc] 90)
      have hzb : (wr.alloc (.cells #[.int .i64 (pa : Nat), .string (str pn), .slice qa ql qc] 90)).heap.size = wr.heap.size + 1 := by simp
      gi_wp2_with fail
      have HPB := Lib.hid (HPW.out.below hba)
      have HDB := Lib.hid (own_below HDK.out hba)
      have HJB := Lib.hid (HJ.out.alloc (.cells #[.int .i64 (pa : Nat), .string (str pn), .slice qa ql qc] 90) HJW.out HZ.out)
      revert hba hrb hzb HPB HDB HJB
      generalize wr.alloc (.cells #[.int .i64 (pa : Nat), .string (str pn), .slice qa ql qc] 90) = wb
      intro hba hrb hzb HPB HDB HJB
      have b0 : wb.cell? ⟨wr.heap.size, 0, none⟩ = some (.int .i64 (pa : Nat)) := by rw [cell_of_row _ _ 0 _ _ (0, 0) hrb]; rfl
      have b1 : wb.cell? ⟨wr.heap.size, 1, none⟩ = some (.string (str pn)) := by rw [cell_of_row _ _ 1 _ _ (0, 0) hrb]; rfl
      have b2 : wb.cell? ⟨wr.heap.size, 2, none⟩ = some (.slice qa ql qc) := by rw [cell_of_row _ _ 2 _ _ (0, 0) hrb]; rfl
      have hzz := HZ.out
      have HRB := Lib.hid hrb
      clear hba hrb HPW HJW HDK c0 c1' c2
      have HBD : Hid (Bs wb.drew qa ql qc qd) := Lib.hid (by
        obtain ⟨a, k, e, hb⟩ := own_bs HDB.out (by omega)
        unfold Sl.val at e
        simp only [Value.slice.injEq, true_and] at e
        obtain ⟨rfl, rfl⟩ := e
        exact hb.mono ((Below.refl _ wb).drew))
      have HNX : Hid (∃ s, ms.map sh = xs.map sh ++ sh (pa, ⟨pn, ⟨qa, ql, qc, qd⟩⟩) :: s) := Lib.hid ⟨_, by rw [HXS.out]; exact HTN.out⟩
      have HTK : Hid ((ms.take (k + 1)).map sh = xs.map sh ++ [sh (pa, ⟨pn, ⟨qa, ql, qc, qd⟩⟩)]) := Lib.hid (by rw [HXS.out]; exact HT.out)
      clear HTN HT HXS
      have HHZ := Lib.hid hzb
      clear hzb
      refine Go.wpIn_mono (Q := EndsA (fun a' w' => ∃ (bb : Bool) (a2 : Option Addr) (c2 : Nat) (z4 z8 z9 z10 z11 z12 z13 z14 z15 z16 z17 z19 : Value),
        a' = { tmps := #[.func (.yield y) #[] #[], .pointer (some ⟨X, 0, none⟩), undef, undef, z4, .slice (some ⟨g, 0, none⟩) ms.length c1, .int .i64 (ms.length : Nat), .int .i64 (k : Nat), z8, z9, z10, z11, z12, z13, z14, z15, z16, z17, .bool (!bb), z19], defers := [] } ∧
        Hid ((bb = true → J (xs ++ [(pa, ⟨pn, ⟨a2, ql, c2, qd⟩⟩)]) w' ∧ Pls w' B (.slice (some ⟨g, 0, none⟩) ms.length c1) ms ∧ V.heap.size ≤ w'.heap.size) ∧ (bb = false → Jx (xs ++ [(pa, ⟨pn, ⟨a2, ql, c2, qd⟩⟩)]) w')))) ?_ ?_
      rotate_left
      · intro e a' w' he
        cases e with
        | normal =>
          obtain ⟨bb, a2, c2, z4, z8, z9, z10, z11, z12, z13, z14, z15, z16, z17, z19, rfl, HE⟩ := he
          have HXN : Hid ((xs ++ [(pa, (⟨pn, ⟨a2, ql, c2, qd⟩⟩ : Ckm))]).map sh = (ms.take (k + 1)).map sh) := Lib.hid (by rw [List.map_append, HTK.out]; rfl)
          have HPX : Hid (∃ s, ms.map sh = (xs ++ [(pa, (⟨pn, ⟨a2, ql, c2, qd⟩⟩ : Ckm))]).map sh ++ s) := Lib.hid ⟨(ms.drop (k + 1)).map sh, by rw [HXN.out, ← List.map_append, List.take_append_drop]⟩
          clear b0 b1 b2 HNX HTK
          cases bb with
          | true =>
            obtain ⟨h1, h2, h3⟩ := HE.out.1 rfl
            have HJ2 := Lib.hid h1
            have HP2 := Lib.hid h2
            have HZ2 := Lib.hid h3
            clear h1 h2 h3
            gi_wp2
            go_roundw
            case rel => exact ⟨k + 1, _, by omega, by go_num, HXN, HJ2, HP2, HZ2⟩
            case measure => simp [intOf]; omega
          | false =>
            have HJ2 := Lib.hid (HE.out.2 rfl)
            gi_wp2
            refine bodyPost_ret (results_none rfl _ _ _) rfl ?_
            exact ⟨⟨_, rfl⟩, .inr ⟨_, HPX.out, HJ2.out⟩⟩
        | _ => exact he.elim
      gi_region_with (first
        | (refine ⟨trivial, (callsIn_wide.2 (clone_any _ pn qa ql qc qd HBD.out hlk)).mono ?_⟩
           rintro e w2 ⟨v2, rfl, ho2, hb2⟩
           have hb2' : Below wb.heap.size wb w2 := ((Below.refl _ wb).drew).trans hb2
           have hlb := HHZ.out
           have HP2 := Lib.hid (HPB.out.below hb2')
           have HVZ : Hid (V.heap.size ≤ w2.heap.size) := Lib.hid (by have := hb2'.size; omega)
           have d0 : w2.cell? ⟨wr.heap.size, 0, none⟩ = some (.int .i64 (pa : Nat)) := (hb2'.cell (p := ⟨wr.heap.size, 0, none⟩) (by show wr.heap.size < wb.heap.size; omega)).trans b0
           obtain ⟨a2, c2, rfl, _⟩ := own_slice ho2
           obtain ⟨fn, tm, asg, bo, hy, hRd⟩ := HY.out xs (pa, ⟨pn, ⟨a2, ql, c2, qd⟩⟩) w2 (HJ.out _ _ _ HJB.out (hb2'.mono (by omega))) HNX.out (own_base ho2 (fun g hg => by have := (ho2.lt g hg).1; have e : wb.drew.heap.size = wb.heap.size := rfl; omega))
           unfold plEnc Sl.val at hy
           simp only at hy
           clear ho2 hb2 hb2' hlb)
        | (refine hRd.mono ?_
           rintro e w3 ⟨hk3, hor⟩
           obtain ⟨bb, rfl, HOR⟩ : ∃ bb, e = .returned (.bool bb) ∧ Hid ((bb = true → J (xs ++ [(pa, ⟨pn, ⟨a2, ql, c2, qd⟩⟩)]) w3 ∧ Pls w3 B (.slice (some ⟨g, 0, none⟩) ms.length c1) ms ∧ V.heap.size ≤ w3.heap.size) ∧ (bb = false → Jx (xs ++ [(pa, ⟨pn, ⟨a2, ql, c2, qd⟩⟩)]) w3)) := by
             rcases hor with ⟨rfl, h1, h2⟩ | ⟨rfl, h1⟩
             · exact ⟨true, rfl, Lib.hid ⟨fun _ => ⟨h1, HP2.out.kc h2 HV.out HD.out, Nat.le_trans HVZ.out hk3.size⟩, fun h => by cases h⟩⟩
             · exact ⟨false, rfl, Lib.hid ⟨fun h => (by cases h), fun _ => h1⟩⟩
           clear hor hRd hy hk3))
      all_goals exact ⟨bb, a2, c2, _, _, _, _, _, _, _, _, _, _, _, _, rfl, HOR⟩
    · obtain rfl : ms.length = k := by omega
      have HE : Hid (xs.map sh = ms.map sh) := Lib.hid (by rw [HXS.out, List.take_length])
      clear HXS hlt
      gi_wp2
      go_end0
      exact ⟨⟨_, rfl⟩, .inl ⟨xs, HE.out, HJW.out⟩⟩
end Go.Proofs.Ytfhmmlpcdgcmoaa
