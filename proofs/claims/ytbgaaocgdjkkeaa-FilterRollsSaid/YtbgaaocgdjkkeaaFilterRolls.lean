/- For all bytes and every size, count and number of a pixel's bytes: Unroll answers the rows that the document does, in new memory, or the error that the document tells, and leaves the bytes as they were; the fixed example holds. Of more than 5000 bytes nothing is asked. No conditions. -/
import Derived.Test.YtbgaaocgdjkkeaaRows
import Derived.Test.YtbgaaocgdjkkeaaOpen
import Derived.Test.YtbgaaocgdjkkeaaFlLaw
import Derived.Test.YtbgaaocgdjkkeaaFlUnroll
import Derived.Test.YtbgaaocgdjkkeaaFlRefUn
import Derived.Test.YtbgaaocgdjkkeaaNumSame
import Derived.Test.YtbgaaocgdjkkeaaOpenFlat
import Derived.Test.YtbgaaocgdjkkeaaCopyOwn
import Derived.Test.YtbgaaocgdjkkeaaApart2
namespace Go.Proofs.Ytbgaaocgdjkkeaa.FilterRolls
open Go.ChangeShapes Go.WideShapes Go.ChangeAt Go.RowKit
open Go.ChangeMaps (open_string shut_string)
set_option linter.unusedVariables false
theorem own : ownKnob Try.prog.godebug = none := by kernel_rfl
theorem laidOut : laidOutB Try.prog = true := by kernel_rfl
structure Cb (w W : World) (len : Nat) (l : List UInt8) (g1 : Nat) : Prop where
  bel : Below w.heap.size w W
  o1 : W.ownsRow w.heap.size 5 1 (.slice (some ⟨g1, 0, none⟩) (len + 2) (len + 2)) (len + 2) (bvs (l ++ [165, 90]))
theorem Cb.mono {w W V : World} {len : Nat} {l : List UInt8} {g1 : Nat} (h : Cb w W len l g1) (hb : Below W.heap.size W V) : Cb w V len l g1 := ⟨below_then h.bel hb, own_below h.o1 hb⟩
set_option maxRecDepth 100000 in
set_option maxHeartbeats 2000000 in
theorem unrolls_any (a : Option Addr) (len cap : Nat) (l : List UInt8) (s c p : Int) (w : World) (h : Bs w a len cap l) (hr : cap ≤ 140737488351232) :
    Calls Try.prog 30 #[.slice a len cap, .int .i64 s, .int .i64 c, .int .i64 p] w fun e w' => e = .returned (.bool true) ∧ Below w.heap.size w w' := by
  have hle := h.hle
  have HLN := Lib.hid h.hlen
  have H := Lib.hid h
  clear h
  go_enter Try.func30, Try.ntmps30
  go_wp2_with fail
  refine (alive14_any _).mono ?_
  rintro e w1 ⟨rfl, hb1⟩
  have HB1 := Lib.hid hb1
  clear hb1
  by_cases hbig : 5000 < len
  · have d1 : decide ((5000 : Int) < (len : Int)) = true := by simp; omega
    clear hbig
    go_wp2
    go_ret
    exact ⟨rfl, HB1.out⟩
  have d1 : decide ((5000 : Int) < (len : Int)) = false := by simp; omega
  have hn : len ≤ 1000000 := by omega
  clear hbig
  go_wp2_with fail
  refine (copy_any _ _ _ l _ (H.out.mono HB1.out) (by omega)).mono ?_
  rintro e w2 ⟨g1, rfl, own2, hb2⟩
  have hz1 := HB1.out.size
  have HC : Hid (Cb w w2 len l g1) := Lib.hid ⟨below_then HB1.out hb2, own_base (base' := w.heap.size) own2 (fun g' hg' => Nat.le_trans hz1 (own2.lt g' hg').1)⟩
  clear own2 hb2 HB1 hz1
  cases hf : Fi.frm s c p
  · obtain ⟨f1, f2, f3, f4, f5, f6⟩ := Fi.frm_false hf
    obtain ⟨sn, rfl⟩ : ∃ q : Nat, s = q := ⟨s.toNat, by omega⟩
    obtain ⟨cn, rfl⟩ : ∃ q : Nat, c = q := ⟨c.toNat, by omega⟩
    obtain ⟨pn, rfl⟩ : ∃ q : Nat, p = q := ⟨p.toNat, by omega⟩
    have HU := Lib.hid (unroll_good (some ⟨g1, 0, none⟩) len (len + 2) sn cn pn l w2 (copy_bs HC.out.o1 HLN.out hn) (by omega) (by omega) (by omega) (by omega) (by omega) (by omega) (by omega) (by omega))
    have HR := Lib.hid (fun W (hb : Below w.heap.size w W) => refUnroll_good a len cap sn cn pn l W (H.out.mono hb) (by omega) (by omega) (by omega) (by omega) (by omega) (by omega) (by omega) (by omega))
    have HLO : Hid (Fi.chkN l sn cn 0 = 0 → cn * sn ≤ 1000000) := Lib.hid (fun hz => by
      have h1 := (Fi.chkN_zero l sn cn 0 hz (by omega)).1
      rw [Nat.zero_add, HLN.out, Nat.mul_add, Nat.mul_one] at h1
      omega)
    generalize Fi.outN l sn pn cn = R at *
    generalize Fi.chkN l sn cn 0 = z at *
    generalize cn * sn = N at *
    clear f1 f2 f3 f4 f5 f6 hf
    go_wp2_with fail
    refine HU.out.mono ?_
    rintro e w3 ⟨hb3, hcase⟩
    have HC3 := Lib.hid (HC.out.mono hb3)
    have hz2 := HC.out.bel.size
    have hg2 := (HC.out.o1.lt g1 rfl).2
    have HG2 := Lib.hid hg2
    clear hb3 HU HC hg2
    rcases hcase with ⟨hz, g3, rfl, ho3⟩ | ⟨hz, rfl⟩
    · have hN := HLO.out hz
      have HO3 := Lib.hid (own_base (base' := w.heap.size) ho3 (fun g' hg' => Nat.le_trans hz2 (ho3.lt g' hg').1))
      have HNE : Hid (g3 ≠ g1) := Lib.hid (by have x1 := (ho3.lt g3 rfl).1; have := HG2.out; omega)
      subst hz
      clear ho3 hz2 HLO HG2
      go_wp2_with fail
      refine (HR.out _ HC3.out.bel).mono ?_
      rintro e w4 ⟨hb4, v4, rfl, own4⟩
      rw [if_pos rfl, if_pos rfl] at own4
      obtain ⟨a4, c4, rfl, hbs4⟩ := own_bs own4 (by omega)
      have HC4 := Lib.hid (HC3.out.mono hb4)
      have HO4 := Lib.hid (own_below HO3.out hb4)
      obtain ⟨a3, c3, e3, hbs3⟩ := own_bs HO4.out (by omega)
      simp only [Value.slice.injEq] at e3
      obtain ⟨rfl, _, rfl⟩ := e3
      have HSM := Lib.hid (same_any _ _ _ _ _ _ _ _ _ hbs3 hbs4)
      rw [show (R == R) = true from beq_self_eq_true R] at HSM
      clear own4 hb4 hbs4 hbs3 HC3 HO3 HR
      go_wp2_with fail
      refine HSM.out.mono ?_
      rintro e w' ⟨rfl, rfl⟩
      clear HSM
      go_wp2_with fail
      refine (num_nil _).mono ?_
      rintro e w' ⟨rfl, rfl⟩
      go_wp2_with fail
      refine (kept_any g1 len _ _ l _ _ (by omega) HC4.out.o1 (H.out.mono HC4.out.bel)).mono ?_
      rintro e w' ⟨rfl, rfl⟩
      go_wp2_with fail
      refine (apart2 w.heap.size _ _ _ _ _ R l _ rfl HC4.out.bel.size HO4.out (copy_own HC4.out.o1 HLN.out) (fun k hk e => ?_) (by omega) (by omega)).mono ?_
      · simp only [Value.ownBlock, Option.some.injEq] at hk e; exact HNE.out (by omega)
      rintro e w9 ⟨rfl, hb9⟩
      have HF9 := Lib.hid (HC4.out.bel.trans hb9)
      clear hb9 HC4 HO4
      go_wp2
      go_ret
      exact ⟨rfl, HF9.out⟩
    · clear hz2 HLO HG2
      have hzz : ((z : Int) == 0) = false := by simp; omega
      have HNU := Lib.hid (fun W => num_err (z : Int) hzz W)
      have HZ := Lib.hid hz
      clear hz hzz
      go_wp2_with fail
      refine (HR.out _ HC3.out.bel).mono ?_
      rintro e w4 ⟨hb4, v4, rfl, own4⟩
      rw [if_neg HZ.out, if_neg HZ.out] at own4
      obtain ⟨a4, c4, rfl, hbs4⟩ := own_bs own4 (by omega)
      have HC4 := Lib.hid (HC3.out.mono hb4)
      have HSM := Lib.hid (same_any _ _ _ _ _ _ _ _ _ (bs_nil w4) hbs4)
      rw [show (([] : List UInt8) == []) = true from rfl] at HSM
      clear own4 hb4 hbs4 HC3 HR HZ
      go_wp2_with fail
      refine HSM.out.mono ?_
      rintro e w' ⟨rfl, rfl⟩
      clear HSM
      go_wp2_with fail
      refine (HNU.out _).mono ?_
      rintro e w' ⟨rfl, rfl⟩
      go_wp2_with fail
      refine (kept_any g1 len _ _ l _ _ (by omega) HC4.out.o1 (H.out.mono HC4.out.bel)).mono ?_
      rintro e w' ⟨rfl, rfl⟩
      go_wp2_with fail
      refine (apart2 w.heap.size _ _ _ _ _ [] l _ rfl HC4.out.bel.size (World.ownsRow_nil _ _ _ _) (copy_own HC4.out.o1 HLN.out) (fun k hk e => ?_) (by omega) (by omega)).mono ?_
      · simp [Value.ownBlock] at hk
      rintro e w9 ⟨rfl, hb9⟩
      have HF9 := Lib.hid (HC4.out.bel.trans hb9)
      clear hb9 HC4
      go_wp2
      go_ret
      exact ⟨rfl, HF9.out⟩
  · have HU := Lib.hid (unroll_bad (some ⟨g1, 0, none⟩) len (len + 2) s c p w2 hf)
    have HR := Lib.hid (refUnroll_bad a len cap s c p w2 hf)
    clear hf
    go_wp2_with fail
    refine HU.out.mono ?_
    rintro e w' ⟨rfl, rfl⟩
    clear HU
    go_wp2_with fail
    refine HR.out.mono ?_
    rintro e w' ⟨rfl, rfl⟩
    clear HR
    go_wp2_with fail
    refine (same_any _ _ _ _ _ _ _ _ _ (bs_nil _) (bs_nil _)).mono ?_
    rintro e w' ⟨rfl, rfl⟩
    go_wp2_with fail
    refine (num_err 6 rfl _).mono ?_
    rintro e w' ⟨rfl, rfl⟩
    go_wp2_with fail
    refine (kept_any g1 len _ _ l _ _ (by omega) HC.out.o1 (H.out.mono HC.out.bel)).mono ?_
    rintro e w' ⟨rfl, rfl⟩
    go_wp2_with fail
    refine (apart2 w.heap.size _ _ _ _ _ [] l _ rfl HC.out.bel.size (World.ownsRow_nil _ _ _ _) (copy_own HC.out.o1 HLN.out) (fun k hk e => ?_) (by omega) (by omega)).mono ?_
    · simp [Value.ownBlock] at hk
    rintro e w9 ⟨rfl, hb9⟩
    have HF9 := Lib.hid (HC.out.bel.trans hb9)
    clear hb9 HC
    go_wp2
    go_ret
    exact ⟨rfl, HF9.out⟩
theorem walk (a : Option Addr) (len cap : Nat) (l : List UInt8) (s c p : Int) (w : World) (h : Bs w a len cap l) (hr : cap ≤ 140737488351232) (_ : (Lit.int .i64 s).wf = true) (_ : (Lit.int .i64 c).wf = true) (_ : (Lit.int .i64 p).wf = true) :
    Calls Try.prog 8 #[.agg #[.slice a len cap, .int .i64 s, .int .i64 c, .int .i64 p]] w fun e w' => e = .returned (.bool true) ∧ Below w.heap.size w w' := by
  have HB := Lib.hid (below_alloc w (.cells #[.slice a len cap, .int .i64 s, .int .i64 c, .int .i64 p] 59))
  have hq := heap_alloc_last w (.cells #[.slice a len cap, .int .i64 s, .int .i64 c, .int .i64 p] 59)
  have c0 : (w.alloc (.cells #[.slice a len cap, .int .i64 s, .int .i64 c, .int .i64 p] 59)).cell? ⟨w.heap.size, 0, none⟩ = some (.slice a len cap) := (cell_of_row _ _ 0 _ _ (0, 0) hq).trans rfl
  have c1 : (w.alloc (.cells #[.slice a len cap, .int .i64 s, .int .i64 c, .int .i64 p] 59)).cell? ⟨w.heap.size, 1, none⟩ = some (.int .i64 s) := (cell_of_row _ _ 1 _ _ (0, 0) hq).trans rfl
  have c2 : (w.alloc (.cells #[.slice a len cap, .int .i64 s, .int .i64 c, .int .i64 p] 59)).cell? ⟨w.heap.size, 2, none⟩ = some (.int .i64 c) := (cell_of_row _ _ 2 _ _ (0, 0) hq).trans rfl
  have c3 : (w.alloc (.cells #[.slice a len cap, .int .i64 s, .int .i64 c, .int .i64 p] 59)).cell? ⟨w.heap.size, 3, none⟩ = some (.int .i64 p) := (cell_of_row _ _ 3 _ _ (0, 0) hq).trans rfl
  have HF := Lib.hid (unrolls_any a len cap l s c p _ (h.mono HB.out) hr)
  clear hq h
  go_enter Try.func8, Try.ntmps8
  go_wp2_with fail
  refine HF.out.mono ?_
  rintro e w' ⟨rfl, hb⟩
  have HB2 := Lib.hid (below_then HB.out hb)
  clear hb
  go_wp2
  go_ret
  exact ⟨rfl, HB2.out⟩
set_option maxRecDepth 100000 in
theorem lifted (os : Os) (started : os.Started) (H : Type) (enc : TypeId × Value → H) :
    ReturnsInHanded {} Try.checked os 8 .any (Rows.filterRollsSpec.pre6 enc Try.prog Try.f8 Rows.filterRollsRow.domain false) (Rows.filterRollsSpec.post enc Try.prog Try.f8 false true false false) := by
  refine returnsInHanded_of_change_sized (C := Try.checked) own started (by kernel_rfl) Try.func8
    (ChangeSpec.witness6 (enc := enc) (C := Try.checked) false ⟨#[], #[.agg #[.slice none 0 0, .int .i64 0, .int .i64 0, .int .i64 0]], []⟩ 8 (by kernel_rfl) (by kernel_rfl) (by kernel_rfl) (by kernel_rfl)) ?_
  intro W base args ds gs before hval0 hW _ hsz0 _
  have hval : ∀ (j : Nat) t v, Try.f8.params[j]? = some t → args[j]? = some v → Value.okWide Try.prog W .any base t v := hval0
  have hsz : (DataW.weightsEach Try.prog (Try.f8.params.toList ++ Rows.filterRollsSpec.plain.varTypes Try.prog) (ds ++ gs)).all (· ≤ reachBytes) = true := hsz0
  have hW' := hW
  obtain ⟨p, q, hA0, hV, rfl, hfz, hnd⟩ := hW
  have hA : DataW.TrodAll enc Try.prog W 0 (fun _ => true) true Try.f8.params.toList args.toList ds p := hA0
  rw [Try.params8] at hA hval hsz
  obtain ⟨v0, vs0, d0, ds0, p0, q0, hargs, rfl, rfl, h0, r0⟩ := trodAll_cons hA
  obtain ⟨rfl, rfl, rfl⟩ := trodAll_nil r0
  obtain rfl : args = #[v0] := by cases args; simp_all
  obtain ⟨rfl, rfl⟩ := trodVars_none hV
  clear hsz0
  have k0 := h0
  have lt0 : ∀ x ∈ p0, x.block < W.heap.size := by obtain ⟨m, hm⟩ := k0; exact DataW.trod_lt m _ _ _ hm
  obtain ⟨a0, len0, cap0, l0, m0, g0, n0, rfl, w0, c0, x0, y0, z0⟩ := open_flat Try.underlying59 (by kernel_rfl) Try.underlying24 Try.underlying5 (by kernel_rfl) (by kernel_rfl) Try.underlying3 Try.underlying3 Try.underlying3 (by kernel_rfl) (by kernel_rfl) (by kernel_rfl) (by kernel_rfl) rfl rfl rfl rfl (hval 0 59 v0 rfl rfl) h0 hsz 0 rfl rfl
  clear hA0 hval0 hsz
  refine (walk a0 len0 cap0 l0 m0 g0 n0 W w0 c0 x0 y0 z0).mono fun e W' ⟨he, bel⟩ => ?_
  subst he
  exact ⟨_, rfl, _, _, _, [], _, [], hW', trodAll_mk1 (shut_bool Try.underlying4 _), (trodAll_cons_mk (Below.trod laidOut (by kernel_rfl) (of_decide_eq_true (by kernel_rfl)) k0 bel lt0) trodAll_mk0), rfl, bel.frame _, fun h => by cases h⟩

theorem proved : Rows.FilterRollsSaid :=
  OpenClaim.holds_of_wide 8 Try.f8 rfl rfl rfl rfl rfl rfl rfl ⟨rfl, rfl, rfl, rfl, rfl⟩ rfl rfl rfl rfl rfl (by kernel_rfl) Try.func8 (by kernel_rfl)
    (of_decide_eq_true (by kernel_rfl)) (by unfold Func.isWrapper; first | (rw [if_pos (by decide +kernel)]; kernel_rfl) | (rw [if_neg (by decide +kernel)]; exact ⟨rfl, rfl⟩))
    (fun os started H enc _ => lifted os started H enc)
#print axioms proved
end Go.Proofs.Ytbgaaocgdjkkeaa.FilterRolls
