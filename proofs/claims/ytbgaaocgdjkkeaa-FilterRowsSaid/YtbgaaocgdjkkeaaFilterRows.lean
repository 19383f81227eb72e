/- For every kind, row, row ahead and number of bytes: Filter and Unfilter answer the bytes that the document does, in new memory, or ErrForm where the arguments aren't good, and leave the rows as they were; the fixed example holds. Of rows of more than 5000 bytes nothing is asked. No conditions. -/
import Derived.Test.YtbgaaocgdjkkeaaRows
import Derived.Test.YtbgaaocgdjkkeaaOpen
import Derived.Test.YtbgaaocgdjkkeaaFlLaw
import Derived.Test.YtbgaaocgdjkkeaaFlRefOf
import Derived.Test.YtbgaaocgdjkkeaaNumSame
import Derived.Test.YtbgaaocgdjkkeaaNumIs
import Derived.Test.YtbgaaocgdjkkeaaOpenRow
import Derived.Test.YtbgaaocgdjkkeaaCopyOwn
import Derived.Test.YtbgaaocgdjkkeaaApart4
import Derived.Test.YtbgaaocgdjkkeaaRegionS
namespace Go.Proofs.Ytbgaaocgdjkkeaa.FilterRows
open Go.ChangeShapes Go.WideShapes Go.ChangeAt Go.RowKit
open Go.ChangeMaps (open_string shut_string)
set_option linter.unusedVariables false
theorem own : ownKnob Try.prog.godebug = none := by kernel_rfl
theorem laidOut : laidOutB Try.prog = true := by kernel_rfl
/-- Behind the copies. -/
structure Cw (w W : World) (k : Int) (a : Option Addr) (len cap : Nat) (l : List UInt8) (b : Option Addr) (blen bcap : Nat) (m : List UInt8) (p : Int) (g1 g2 : Nat) : Prop where
  bel : Below w.heap.size w W
  rx : Fi.Rx W w.heap.size k a len cap b blen bcap p
  o1 : W.ownsRow w.heap.size 5 1 (.slice (some ⟨g1, 0, none⟩) (len + 2) (len + 2)) (len + 2) (bvs (l ++ [165, 90]))
  o2 : W.ownsRow w.heap.size 5 1 (.slice (some ⟨g2, 0, none⟩) (blen + 2) (blen + 2)) (blen + 2) (bvs (m ++ [165, 90]))
  ne : g1 ≠ g2
theorem Cw.mono {w W V : World} {k : Int} {a : Option Addr} {len cap : Nat} {l : List UInt8} {b : Option Addr} {blen bcap : Nat} {m : List UInt8} {p : Int} {g1 g2 : Nat} (h : Cw w W k a len cap l b blen bcap m p g1 g2) (hb : Below W.heap.size W V) : Cw w V k a len cap l b blen bcap m p g1 g2 :=
  ⟨below_then h.bel hb, h.rx.below hb, own_below h.o1 hb, own_below h.o2 hb, h.ne⟩
theorem Cw.lt {w W : World} {k : Int} {a : Option Addr} {len cap : Nat} {l : List UInt8} {b : Option Addr} {blen bcap : Nat} {m : List UInt8} {p : Int} {g1 g2 : Nat} (h : Cw w W k a len cap l b blen bcap m p g1 g2) : g1 < W.heap.size ∧ g2 < W.heap.size :=
  ⟨(h.o1.lt g1 rfl).2, (h.o2.lt g2 rfl).2⟩
set_option maxRecDepth 100000 in
set_option maxHeartbeats 2000000 in
theorem walk (k : Int) (a : Option Addr) (len cap : Nat) (l : List UInt8) (b : Option Addr) (blen bcap : Nat) (m : List UInt8) (p : Int) (w : World) (_ : (Lit.int .i64 k).wf = true) (h : Bs w a len cap l) (hr : cap ≤ 140737488351232) (h' : Bs w b blen bcap m) (hr' : bcap ≤ 140737488351232) (_ : (Lit.int .i64 p).wf = true) :
    Calls Try.prog 5 #[.agg #[.int .i64 k, .slice a len cap, .slice b blen bcap, .int .i64 p]] w fun e w' => e = .returned (.bool true) ∧ Below w.heap.size w w' := by
  have hle := h.hle
  have hle' := h'.hle
  have HLN := Lib.hid h.hlen
  have HLN' := Lib.hid h'.hlen
  have H := Lib.hid h
  have H' := Lib.hid h'
  have HX0 := Lib.hid (Fi.Rx.new w k a len cap b blen bcap p)
  have HB0 := Lib.hid (below_alloc w (.cells #[.int .i64 k, .slice a len cap, .slice b blen bcap, .int .i64 p] 44))
  clear h h'
  go_enter Try.func5, Try.ntmps5
  go_wp2_with fail
  refine (alive14_any _).mono ?_
  rintro e w1 ⟨rfl, hb1⟩
  have HB1 := Lib.hid (below_then HB0.out hb1)
  have HX1 := Lib.hid (HX0.out.below hb1)
  obtain ⟨c0, c1, c2, c3⟩ := HX1.out.cells
  clear hb1 HB0 HX0
  go_wp2_with fail
  refine (rowLarge_any k a len cap b blen bcap p _ (by omega) (by omega)).mono ?_
  rintro e w2 ⟨rfl, hb2⟩
  have HB2 := Lib.hid (below_then HB1.out hb2)
  have HX2 := Lib.hid (HX1.out.below hb2)
  clear hb2 HB1 HX1 c0 c1 c2 c3
  by_cases hbig : 5000 < len ∨ 5000 < blen
  · rw [show (decide (5000 < len) || decide (5000 < blen)) = true by simpa using hbig]
    clear hbig
    go_wp2
    go_ret
    exact ⟨rfl, HB2.out⟩
  rw [show (decide (5000 < len) || decide (5000 < blen)) = false by simp; omega]
  have hn : len ≤ 1000000 := by omega
  have hm : blen ≤ 1000000 := by omega
  clear hbig
  obtain ⟨_, c1, c2, _⟩ := HX2.out.cells
  have hg2 : w.heap.size < w2.heap.size := (Array.getElem?_eq_some_iff.1 HX2.out.row).1
  have HG2 := Lib.hid hg2
  have HC1 := Lib.hid (copy_any a len cap l w2.drew (H.out.mono HB2.out.drew) (by omega))
  clear hg2
  go_wp2_with fail
  go_region_held3 (fun w' => w'.cell? ⟨w.heap.size, 1, none⟩ = some (.slice a len cap) ∧ w'.cell? ⟨w.heap.size, 2, none⟩ = some (.slice b blen bcap)) (first | (with_reducible exact ⟨c1, c2⟩) | (with_reducible exact ⟨d1, d2⟩) | (with_reducible exact ⟨e1, e2⟩) | go_keep)
    (first
      | (go_at_call 10; (with_reducible refine HC1.out.mono ?_); rintro e w3 ⟨g1, rfl, own3, hb3⟩; have hb3 : Below w2.heap.size w2 w3 := ((Below.refl _ w2).drew).trans hb3; have d1 := (hb3.cell (p := ⟨w.heap.size, 1, none⟩) HG2.out).trans c1; have d2 := (hb3.cell (p := ⟨w.heap.size, 2, none⟩) HG2.out).trans c2; have HO3 : Hid (w3.ownsRow w2.heap.size 5 1 (.slice (some ⟨g1, 0, none⟩) (len + 2) (len + 2)) (len + 2) (bvs (l ++ [165, 90]))) := Lib.hid own3; have HB3 := Lib.hid hb3; have HC2 := Lib.hid (copy_any b blen bcap m w3 (H'.out.mono (below_then HB2.out hb3)) (by omega)); clear own3 hb3)
      | (go_at_call 10; (with_reducible refine HC2.out.mono ?_); rintro e w4 ⟨g2, rfl, own4, hb4⟩; have hl3 : w.heap.size < w3.heap.size := Nat.lt_of_lt_of_le HG2.out HB3.out.size; have e1 := (hb4.cell (p := ⟨w.heap.size, 1, none⟩) hl3).trans d1; have e2 := (hb4.cell (p := ⟨w.heap.size, 2, none⟩) hl3).trans d2; have HO4 := Lib.hid own4; have HB4 := Lib.hid hb4; clear own4 hb4 hl3)
      | fail)
  have hz2 := HB2.out.size
  have hz3 := HB3.out.size
  have HC : Hid (Cw w w4 k a len cap l b blen bcap m p g1 g2) := Lib.hid ⟨below_then (below_then HB2.out HB3.out) HB4.out, (HX2.out.below HB3.out).below HB4.out,
    own_below (own_base (base' := w.heap.size) HO3.out (fun g' hg' => Nat.le_trans hz2 (HO3.out.lt g' hg').1)) HB4.out, own_base (base' := w.heap.size) HO4.out (fun g' hg' => Nat.le_trans (Nat.le_trans hz2 hz3) (HO4.out.lt g' hg').1), by
      have x1 := (HO3.out.lt g1 rfl).2
      have x2 := (HO4.out.lt g2 rfl).1
      omega⟩
  clear HB2 HB3 HB4 HX2 HO3 HO4 HC1 HC2 c1 c2 d1 d2 e1 e2 hb3 hz2 hz3 HG2
  obtain ⟨c0, c1, c2, c3⟩ := HC.out.rx.cells
  cases hg : Fi.good k len blen p
  · have HF := Lib.hid (fun W (hc : Cw w W k a len cap l b blen bcap m p g1 g2) => filter_bad k (some ⟨g1, 0, none⟩) len (len + 2) l (some ⟨g2, 0, none⟩) blen (blen + 2) m p W hg (copy_bs hc.o1 HLN.out hn) (copy_bs hc.o2 HLN'.out hm) hn hm)
    have HU := Lib.hid (fun W (hc : Cw w W k a len cap l b blen bcap m p g1 g2) => unfilter_bad k (some ⟨g1, 0, none⟩) len (len + 2) l (some ⟨g2, 0, none⟩) blen (blen + 2) m p W hg (copy_bs hc.o1 HLN.out hn) (copy_bs hc.o2 HLN'.out hm) hn hm)
    have HGG := Lib.hid (fun W => refGood14_any k a len cap b blen bcap p W (by omega) (by omega))
    rw [hg] at HGG
    clear hg
    go_wp2_with fail
    refine (HF.out _ HC.out).mono ?_
    rintro e w5 ⟨rfl, hb5⟩
    have HC5 := Lib.hid (HC.out.mono hb5)
    clear hb5 HC c0 c1 c2 c3
    obtain ⟨c0, c1, c2, c3⟩ := HC5.out.rx.cells
    go_wp2_with fail
    refine (HU.out _ HC5.out).mono ?_
    rintro e w6 ⟨rfl, hb6⟩
    have HC6 := Lib.hid (HC5.out.mono hb6)
    clear hb6 HC5 c0 c1 c2 c3
    obtain ⟨c0, c1, c2, c3⟩ := HC6.out.rx.cells
    go_wp2_with fail
    refine (kept_any g1 len _ _ l _ _ (by omega) HC6.out.o1 (H.out.mono HC6.out.bel)).mono ?_
    rintro e w' ⟨rfl, rfl⟩
    go_wp2_with fail
    refine (kept_any g2 blen _ _ m _ _ (by omega) HC6.out.o2 (H'.out.mono HC6.out.bel)).mono ?_
    rintro e w' ⟨rfl, rfl⟩
    go_wp2_with fail
    refine (HGG.out _).mono ?_
    rintro e w' ⟨rfl, rfl⟩
    go_wp2_with fail
    refine (is_yes 6 rfl _).mono ?_
    rintro e w' ⟨rfl, rfl⟩
    go_wp2_with fail
    refine (is_yes 6 rfl _).mono ?_
    rintro e w' ⟨rfl, rfl⟩
    go_wp2
    go_ret
    exact ⟨rfl, HC6.out.bel⟩
  · have HF := Lib.hid (fun W (hc : Cw w W k a len cap l b blen bcap m p g1 g2) => filter_good k (some ⟨g1, 0, none⟩) len (len + 2) l (some ⟨g2, 0, none⟩) blen (blen + 2) m p W hg (copy_bs hc.o1 HLN.out hn) (copy_bs hc.o2 HLN'.out hm) hn hm)
    have HU := Lib.hid (fun W (hc : Cw w W k a len cap l b blen bcap m p g1 g2) => unfilter_good k (some ⟨g1, 0, none⟩) len (len + 2) l (some ⟨g2, 0, none⟩) blen (blen + 2) m p W hg (copy_bs hc.o1 HLN.out hn) (copy_bs hc.o2 HLN'.out hm) hn hm)
    have HGG := Lib.hid (fun W => refGood14_any k a len cap b blen bcap p W (by omega) (by omega))
    rw [hg] at HGG
    obtain ⟨hp1, hp8⟩ := (Fi.good_len hg).2.1
    obtain ⟨q, rfl⟩ : ∃ q : Nat, p = q := ⟨p.toNat, by omega⟩
    simp only [Int.toNat_natCast] at HF HU
    have HRF := Lib.hid (fun W (hc : Cw w W k a len cap l b blen bcap m q g1 g2) => refFilter_any k a len cap l b blen bcap m q W (H.out.mono hc.bel) (H'.out.mono hc.bel) (by omega) (by omega) (by omega) (by omega))
    have HRU := Lib.hid (fun W (hc : Cw w W k a len cap l b blen bcap m q g1 g2) => refUnfilter_any k a len cap l b blen bcap m q W (H.out.mono hc.bel) (H'.out.mono hc.bel) (by omega) (by omega) (by omega) (by omega))
    generalize Fi.flt k l m q = F at *
    generalize Fi.unf k l m q = U at *
    clear hg hp1 hp8
    go_wp2_with fail
    refine (HF.out _ HC.out).mono ?_
    rintro e w5 ⟨g3, rfl, hs5, ho5, hb5⟩
    have HC5 := Lib.hid (HC.out.mono hb5)
    have hz4 := HC.out.bel.size
    have HN5 : Hid (g1 ≠ g3 ∧ g2 ≠ g3) := Lib.hid (by have x1 := HC.out.lt; have x2 := (ho5.out.lt g3 rfl).1; omega)
    have HO5 := Lib.hid (own_base (base' := w.heap.size) ho5.out (fun g' hg' => Nat.le_trans hz4 (ho5.out.lt g' hg').1))
    clear hb5 HC c0 c1 c2 c3 ho5 hz4 HF
    obtain ⟨c0, c1, c2, c3⟩ := HC5.out.rx.cells
    go_wp2_with fail
    refine (HU.out _ HC5.out).mono ?_
    rintro e w6 ⟨g4, rfl, hs6, ho6, hb6⟩
    have HC6 := Lib.hid (HC5.out.mono hb6)
    have hz5 := HC5.out.bel.size
    have HN6 : Hid (g3 ≠ g4 ∧ g3 ≠ g1 ∧ g3 ≠ g2 ∧ g4 ≠ g1 ∧ g4 ≠ g2 ∧ g1 ≠ g2) := Lib.hid (by have x1 := HC5.out.lt; have x2 := (ho6.out.lt g4 rfl).1; have x3 := (HO5.out.lt g3 rfl).2; have x4 := HN5.out; have x5 := HC5.out.ne; omega)
    have HO6 := Lib.hid (own_base (base' := w.heap.size) ho6.out (fun g' hg' => Nat.le_trans hz5 (ho6.out.lt g' hg').1))
    have HO5' := Lib.hid (own_below HO5.out hb6)
    have HS5 := Lib.hid (hs5.out.mono hb6)
    clear hb6 HC5 c0 c1 c2 c3 ho6 hz5 HU HO5 HN5 hs5
    obtain ⟨c0, c1, c2, c3⟩ := HC6.out.rx.cells
    go_wp2_with fail
    refine (kept_any g1 len _ _ l _ _ (by omega) HC6.out.o1 (H.out.mono HC6.out.bel)).mono ?_
    rintro e w' ⟨rfl, rfl⟩
    go_wp2_with fail
    refine (kept_any g2 blen _ _ m _ _ (by omega) HC6.out.o2 (H'.out.mono HC6.out.bel)).mono ?_
    rintro e w' ⟨rfl, rfl⟩
    go_wp2_with fail
    refine (HGG.out _).mono ?_
    rintro e w' ⟨rfl, rfl⟩
    go_wp2_with fail
    refine (HRF.out _ HC6.out).mono ?_
    rintro e w7 ⟨v7, rfl, own7, hb7⟩
    obtain ⟨a7, q7, rfl, hbs7⟩ := own_bs own7 (by omega)
    have HC7 := Lib.hid (HC6.out.mono hb7)
    have HS6 := Lib.hid (hs6.out.mono hb7)
    have HO6' := Lib.hid (own_below HO6.out hb7)
    have HO5'' := Lib.hid (own_below HO5'.out hb7)
    have HSM := Lib.hid (same_any _ _ _ _ _ _ _ _ _ (HS5.out.mono hb7) hbs7)
    rw [show (F == F) = true from beq_self_eq_true F] at HSM
    clear own7 hb7 hbs7 HC6 HO6 HO5' HS5 HRF hs6 c0 c1 c2 c3
    obtain ⟨c0, c1, c2, c3⟩ := HC7.out.rx.cells
    go_wp2_with fail
    refine HSM.out.mono ?_
    rintro e w' ⟨rfl, rfl⟩
    clear HSM
    go_wp2_with fail
    refine (HRU.out _ HC7.out).mono ?_
    rintro e w8 ⟨v8, rfl, own8, hb8⟩
    obtain ⟨a8, q8, rfl, hbs8⟩ := own_bs own8 (by omega)
    have HC8 := Lib.hid (HC7.out.mono hb8)
    have HO6 := Lib.hid (own_below HO6'.out hb8)
    have HO5 := Lib.hid (own_below HO5''.out hb8)
    have HSM := Lib.hid (same_any _ _ _ _ _ _ _ _ _ (HS6.out.mono hb8) hbs8)
    rw [show (U == U) = true from beq_self_eq_true U] at HSM
    clear own8 hb8 hbs8 HC7 HO6' HO5'' HS6 HRU c0 c1 c2 c3
    go_wp2_with fail
    refine HSM.out.mono ?_
    rintro e w' ⟨rfl, rfl⟩
    clear HSM
    go_wp2_with fail
    refine (apart4 w.heap.size _ g3 g4 g1 g2 len len len blen len len (len + 2) (blen + 2) F U l m _ rfl HC8.out.bel.size HO5.out HO6.out (copy_own HC8.out.o1 HLN.out) (copy_own HC8.out.o2 HLN'.out) HN6.out (by omega)).mono ?_
    rintro e w9 ⟨rfl, hb9⟩
    have HF9 := Lib.hid (HC8.out.bel.trans hb9)
    clear hb9 HC8 HO5 HO6
    go_wp2
    go_ret
    exact ⟨rfl, HF9.out⟩
set_option maxRecDepth 100000 in
theorem lifted (os : Os) (started : os.Started) (H : Type) (enc : TypeId × Value → H) :
    ReturnsInHanded {} Try.checked os 5 .any (Rows.filterRowsSpec.pre6 enc Try.prog Try.f5 Rows.filterRowsRow.domain false) (Rows.filterRowsSpec.post enc Try.prog Try.f5 false true false false) := by
  refine returnsInHanded_of_change_sized (C := Try.checked) own started (by kernel_rfl) Try.func5
    (ChangeSpec.witness6 (enc := enc) (C := Try.checked) false ⟨#[], #[.agg #[.int .i64 0, .slice none 0 0, .slice none 0 0, .int .i64 0]], []⟩ 8 (by kernel_rfl) (by kernel_rfl) (by kernel_rfl) (by kernel_rfl)) ?_
  intro W base args ds gs before hval0 hW _ hsz0 _
  have hval : ∀ (j : Nat) t v, Try.f5.params[j]? = some t → args[j]? = some v → Value.okWide Try.prog W .any base t v := hval0
  have hsz : (DataW.weightsEach Try.prog (Try.f5.params.toList ++ Rows.filterRowsSpec.plain.varTypes Try.prog) (ds ++ gs)).all (· ≤ reachBytes) = true := hsz0
  have hW' := hW
  obtain ⟨p, q, hA0, hV, rfl, hfz, hnd⟩ := hW
  have hA : DataW.TrodAll enc Try.prog W 0 (fun _ => true) true Try.f5.params.toList args.toList ds p := hA0
  rw [Try.params5] at hA hval hsz
  obtain ⟨v0, vs0, d0, ds0, p0, q0, hargs, rfl, rfl, h0, r0⟩ := trodAll_cons hA
  obtain ⟨rfl, rfl, rfl⟩ := trodAll_nil r0
  obtain rfl : args = #[v0] := by cases args; simp_all
  obtain ⟨rfl, rfl⟩ := trodVars_none hV
  clear hsz0
  have k0 := h0
  have lt0 : ∀ x ∈ p0, x.block < W.heap.size := by obtain ⟨m, hm⟩ := k0; exact DataW.trod_lt m _ _ _ hm
  obtain ⟨kd0, a0, len0, cap0, l0, b0, blen0, bcap0, m0, n0, rfl, w0, c0, x0, y0, z0, u0⟩ := open_row Try.underlying44 (by kernel_rfl) Try.underlying3 Try.underlying24 Try.underlying5 (by kernel_rfl) (by kernel_rfl) Try.underlying24 Try.underlying5 (by kernel_rfl) (by kernel_rfl) Try.underlying3 (by kernel_rfl) (by kernel_rfl) (by kernel_rfl) (by kernel_rfl) rfl rfl rfl rfl (hval 0 44 v0 rfl rfl) h0 hsz 0 rfl rfl
  clear hA0 hval0 hsz
  refine (walk kd0 a0 len0 cap0 l0 b0 blen0 bcap0 m0 n0 W w0 c0 x0 y0 z0 u0).mono fun e W' ⟨he, bel⟩ => ?_
  subst he
  exact ⟨_, rfl, _, _, _, [], _, [], hW', trodAll_mk1 (shut_bool Try.underlying4 _), (trodAll_cons_mk (Below.trod laidOut (by kernel_rfl) (of_decide_eq_true (by kernel_rfl)) k0 bel lt0) trodAll_mk0), rfl, bel.frame _, fun h => by cases h⟩

theorem proved : Rows.FilterRowsSaid :=
  OpenClaim.holds_of_wide 5 Try.f5 rfl rfl rfl rfl rfl rfl rfl ⟨rfl, rfl, rfl, rfl, rfl⟩ rfl rfl rfl rfl rfl (by kernel_rfl) Try.func5 (by kernel_rfl)
    (of_decide_eq_true (by kernel_rfl)) (by unfold Func.isWrapper; first | (rw [if_pos (by decide +kernel)]; kernel_rfl) | (rw [if_neg (by decide +kernel)]; exact ⟨rfl, rfl⟩))
    (fun os started H enc _ => lifted os started H enc)
#print axioms proved
end Go.Proofs.Ytbgaaocgdjkkeaa.FilterRows
