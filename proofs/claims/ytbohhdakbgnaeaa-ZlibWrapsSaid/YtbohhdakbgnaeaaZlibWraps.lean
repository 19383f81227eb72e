/- For all packed bytes and all texts (of at most 2^16, as the law itself asks) and any window: Wrap answers the bytes that the document does, or ErrForm where there is no such window, in new memory, and leaves both as they were; the fixed example holds. No conditions. -/
import Derived.Test.YtbohhdakbgnaeaaRows
import Derived.Test.YtbohhdakbgnaeaaOpen
import Derived.Test.YtbohhdakbgnaeaaRef07
import Derived.Test.YtbohhdakbgnaeaaNumSame
import Derived.Test.YtbohhdakbgnaeaaNumIs
import Derived.Test.YtbohhdakbgnaeaaApart3
namespace Go.Proofs.Ytbohhdakbgnaeaa.ZlibWraps
open Go.ChangeShapes Go.WideShapes Go.ChangeAt Go.RowKit
open Go.ChangeMaps (open_string shut_string)
set_option linter.unusedVariables false
theorem own : ownKnob Try.prog.godebug = none := by kernel_rfl
theorem laidOut : laidOutB Try.prog = true := by kernel_rfl
theorem ex_wrap : Zl.wrapped 7 [3, 0] [] = [120, 1, 3, 0, 0, 0, 0, 1] := by decide +kernel
/-- What lies there behind the copies. -/
structure Cp2 (w w4 : World) (g1 n1 : Nat) (l1 : List UInt8) (g2 n2 : Nat) (l2 : List UInt8) : Prop where
  bel : Below w.heap.size w w4
  o1 : w4.ownsRow w.heap.size 5 1 (.slice (some ⟨g1, 0, none⟩) (n1 + 2) (n1 + 2)) (n1 + 2) (bvs (l1 ++ [165, 90]))
  o2 : w4.ownsRow w.heap.size 5 1 (.slice (some ⟨g2, 0, none⟩) (n2 + 2) (n2 + 2)) (n2 + 2) (bvs (l2 ++ [165, 90]))
  ne : g1 ≠ g2
  len1 : l1.length = n1
  len2 : l2.length = n2
theorem Cp2.mono {w w4 w5 : World} {g1 n1 : Nat} {l1 : List UInt8} {g2 n2 : Nat} {l2 : List UInt8} (h : Cp2 w w4 g1 n1 l1 g2 n2 l2) (hb : Below w4.heap.size w4 w5) : Cp2 w w5 g1 n1 l1 g2 n2 l2 :=
  ⟨below_then h.bel hb, own_below h.o1 hb, own_below h.o2 hb, h.ne, h.len1, h.len2⟩
theorem pre_own {w4 : World} {b g n : Nat} {l : List UInt8} (o : w4.ownsRow b 5 1 (.slice (some ⟨g, 0, none⟩) (n + 2) (n + 2)) (n + 2) (bvs (l ++ [165, 90]))) (hl : l.length = n) : w4.ownsRow b 5 1 (.slice (some ⟨g, 0, none⟩) n (n + 2)) n (bvs l) := by
  have C := own_prefix o n (by omega)
  have ep : (bvs (l ++ [165, 90])).take n = bvs l := by
    rw [bvs_append, List.take_append_of_le_length (by rw [bvs_length, hl]; exact Nat.le_refl _), List.take_of_length_le (by rw [bvs_length, hl]; exact Nat.le_refl _)]
  rw [ep] at C
  exact C
theorem pre_bs {w4 : World} {b g n : Nat} {l : List UInt8} (o : w4.ownsRow b 5 1 (.slice (some ⟨g, 0, none⟩) (n + 2) (n + 2)) (n + 2) (bvs (l ++ [165, 90]))) (hl : l.length = n) (hn : n ≤ 1000000) : Bs w4 (some ⟨g, 0, none⟩) n (n + 2) l := by
  have hm := bs_of_own (pre_own o hl) (by omega) n (Nat.le_refl _)
  rw [List.take_of_length_le (by rw [hl]; exact Nat.le_refl _)] at hm
  exact hm
set_option maxRecDepth 100000 in
set_option maxHeartbeats 4000000 in
theorem walk (a : Option Addr) (len cap : Nat) (l : List UInt8) (a' : Option Addr) (len' cap' : Nat) (t : List UInt8) (v : Int) (w : World) (h : Bs w a len cap l) (hr : cap ≤ 140737488351232) (h' : Bs w a' len' cap' t) (hr' : cap' ≤ 140737488351232) (hw : (Lit.int .i64 v).wf = true) :
    Calls Try.prog 3 #[.slice a len cap, .slice a' len' cap', .int .i64 v] w fun e w' => e = .returned (.bool true) ∧ Below w.heap.size w w' := by
  have hle := h.hle
  have hle' := h'.hle
  have HL := Lib.hid h.hlen
  have HL' := Lib.hid h'.hlen
  have H := Lib.hid h
  have H' := Lib.hid h'
  clear h h' hw
  have hbs0 := bs_new w w.heap.size rfl [3, 0] 5 (0, 0) 2 rfl (by omega) #[.int .u8 3, .int .u8 0] rfl
  have hW := wrap_yes 7 (by omega) (some ⟨w.heap.size, 0, none⟩) 2 2 [3, 0] none 0 0 [] _ hbs0 (bs_nil _) (by omega)
  rw [show ((256 * 2 ^ 7 : Nat) : Int) = 32768 from rfl, ex_wrap] at hW
  have HW := Lib.hid hW
  have HB0 := Lib.hid (below_alloc w (.cells #[.int .u8 3, .int .u8 0] 5))
  clear hW hbs0
  go_enter Try.func3, Try.ntmps3
  go_wp2_with fail
  refine HW.out.mono ?_
  rintro e w1 ⟨g0, rfl, own1, hb1⟩
  obtain ⟨a1, c1, e1, hbs1⟩ := own_bs own1 (by decide)
  simp only [Value.slice.injEq] at e1
  obtain ⟨rfl, _, rfl⟩ := e1
  have hbs1' : Bs w1 (some ⟨g0, 0, none⟩) 8 8 [120, 1, 3, 0, 0, 0, 0, 1] := hbs1
  have k1 := conv_bs (P := Try.prog) hbs1' 22 9 5 Try.underlying22 Try.underlying5 Try.underlying9
  have kj : ((str [120, 1, 3, 0, 0, 0, 0, 1]).toList == [120, 1, 3, 0, 0, 0, 0, 1]) = true := by rw [str_list]; rfl
  have HB1 := Lib.hid (below_then HB0.out hb1)
  clear own1 hbs1 hbs1' hb1 HW HB0
  have e8 : ([120, 1, 3, 0, 0, 0, 0, 1] : List UInt8).length = 8 := rfl
  rw [e8]
  by_cases hbig : 65536 < len
  · have d1 : decide ((65536 : Int) < (len : Int)) = true := by simp; omega
    clear hbig
    go_wp2
    go_ret
    exact ⟨rfl, HB1.out⟩
  have d1 : decide ((65536 : Int) < (len : Int)) = false := by simp; omega
  have HBIG := Lib.hid hbig
  clear hbig
  by_cases hbig : 65536 < len'
  · have d2 : decide ((65536 : Int) < (len' : Int)) = true := by simp; omega
    clear hbig
    go_wp2
    go_ret
    exact ⟨rfl, HB1.out⟩
  have d2 : decide ((65536 : Int) < (len' : Int)) = false := by simp; omega
  have HBIG' := Lib.hid hbig
  clear hbig
  have hsm : len ≤ 1000000 := by have := HBIG.out; omega
  have hsm' : len' ≤ 1000000 := by have := HBIG'.out; omega
  clear HBIG HBIG'
  go_wp2_with fail
  refine (copy_any _ _ _ l _ (H.out.mono HB1.out) (by omega)).mono ?_
  rintro e w2 ⟨g1, rfl, own2, hb2⟩
  have hz1 := HB1.out.size
  have O2 := Lib.hid (own_base (base' := w.heap.size) own2 (fun g' hg' => Nat.le_trans hz1 (own2.lt g' hg').1))
  have HB2 := Lib.hid (below_then HB1.out hb2)
  clear own2 hb2 k1 kj
  go_wp2_with fail
  refine (copy_any _ _ _ t _ (H'.out.mono HB2.out) (by omega)).mono ?_
  rintro e w3 ⟨g2, rfl, own3, hb3⟩
  have hz2 := HB2.out.size
  have hg12 : g1 ≠ g2 := by
    have x1 := (O2.out.lt g1 rfl).2
    have x2 := (own3.lt g2 rfl).1
    omega
  have C3 : Hid (Cp2 w w3 g1 len l g2 len' t) := Lib.hid ⟨below_then HB2.out hb3, own_below O2.out hb3, own_base (base' := w.heap.size) own3 (fun g' hg' => Nat.le_trans hz2 (own3.lt g' hg').1), hg12, HL.out, HL'.out⟩
  clear own3 hb3 O2 HB2 hg12 hz1 hz2
  rcases Zl.win_or v with ⟨p, hp, rfl⟩ | hno
  · obtain ⟨m, hm⟩ : ∃ m : Int, ((256 * 2 ^ p : Nat) : Int) = m := ⟨_, rfl⟩
    have HWR := Lib.hid (wrap_yes p hp _ _ _ l _ _ _ t w3 (pre_bs C3.out.o1 HL.out hsm) (pre_bs C3.out.o2 HL'.out hsm') (by omega))
    have HRW : Hid (∀ w4, Below w3.heap.size w3 w4 → Calls Try.prog 7 #[.slice a len cap, .slice a' len' cap', .int .i64 ((256 * 2 ^ p : Nat) : Int)] w4 (RWrapPost w4 (Zl.wrapped p l t))) := Lib.hid (fun w4 hb => refWrap_yes p hp a len cap l a' len' cap' t w4 (H.out.mono (below_then C3.out.bel hb)) (H'.out.mono (below_then C3.out.bel hb)) (by omega))
    rw [hm] at HWR HRW ⊢
    have hwl : (Zl.wrapped p l t).length ≤ 2000000 := by
      have := HL.out
      simp [Zl.wrapped, Zl.hd, Pt.dig]; omega
    clear hm hp
    go_wp2_with fail
    refine HWR.out.mono ?_
    generalize Zl.wrapped p l t = x at *
    rintro e w4 ⟨g4, rfl, own4, hb4⟩
    have C4 := Lib.hid (C3.out.mono hb4)
    have hz3 := C3.out.bel.size
    have n41 : g4 ≠ g1 := by have x1 := (own4.lt g4 rfl).1; have x2 := (C3.out.o1.lt g1 rfl).2; omega
    have n42 : g4 ≠ g2 := by have x1 := (own4.lt g4 rfl).1; have x2 := (C3.out.o2.lt g2 rfl).2; omega
    have O4 := Lib.hid (own_base (base' := w.heap.size) own4 (fun g' hg' => Nat.le_trans hz3 (own4.lt g' hg').1))
    have HRW4 := Lib.hid (HRW.out w4 hb4)
    clear own4 hb4 HWR HRW C3 hz3
    go_wp2_with fail
    refine HRW4.out.mono ?_
    rintro e w5 ⟨v5, rfl, own5, hb5⟩
    obtain ⟨a5, c5, rfl, hbs5⟩ := own_bs own5 (by omega)
    have C5 := Lib.hid (C4.out.mono hb5)
    have O5 := Lib.hid (own_below O4.out hb5)
    obtain ⟨a4, c4, e4, hbs4⟩ := own_bs O5.out (by omega)
    simp only [Value.slice.injEq] at e4
    obtain ⟨rfl, _, rfl⟩ := e4
    have B5 := Lib.hid (And.intro hbs4 hbs5)
    clear own5 hb5 C4 O4 HRW4 hbs4 hbs5
    have hsame : (x == x) = true := by simp
    go_wp2_with fail
    refine (same_any _ _ _ _ _ _ _ _ _ B5.out.1 B5.out.2).mono ?_
    rintro e w' ⟨rfl, rfl⟩
    rw [hsame]
    clear hsame B5
    go_wp2_with fail
    refine (kept_any g1 len _ _ l _ _ (by omega) C5.out.o1 (H.out.mono C5.out.bel)).mono ?_
    rintro e w' ⟨rfl, rfl⟩
    go_wp2_with fail
    refine (kept_any g2 len' _ _ t _ _ (by omega) C5.out.o2 (H'.out.mono C5.out.bel)).mono ?_
    rintro e w' ⟨rfl, rfl⟩
    go_wp2_with fail
    refine (apart3 w.heap.size _ _ _ _ _ _ _ x l t _ rfl C5.out.bel.size O5.out (pre_own C5.out.o1 HL.out) (pre_own C5.out.o2 HL'.out) (fun k hk e => ?_) (fun k hk e => ?_) (fun k hk e => ?_) (by omega) (by omega) (by omega)).mono ?_
    · simp only [Value.ownBlock, Option.some.injEq] at hk e; omega
    · simp only [Value.ownBlock, Option.some.injEq] at hk e; omega
    · simp only [Value.ownBlock, Option.some.injEq] at hk e; exact C5.out.ne (by omega)
    rintro e w6 ⟨rfl, hb6⟩
    have HF := Lib.hid (C5.out.bel.trans hb6)
    clear hb6 C5 O5
    go_wp2
    go_ret
    exact ⟨rfl, HF.out⟩
  · have HWR := Lib.hid (wrap_no (some ⟨g1, 0, none⟩) len (len + 2) (some ⟨g2, 0, none⟩) len' (len' + 2) v hno w3)
    have HRW := Lib.hid (refWrap_no a len cap a' len' cap' v hno w3)
    clear hno
    go_wp2_with fail
    refine HWR.out.mono ?_
    rintro e w' ⟨rfl, rfl⟩
    go_wp2_with fail
    refine HRW.out.mono ?_
    rintro e w' ⟨rfl, rfl⟩
    go_wp2_with fail
    refine (same_any _ _ _ _ _ _ _ _ _ (bs_nil _) (bs_nil _)).mono ?_
    rintro e w' ⟨rfl, rfl⟩
    go_wp2_with fail
    refine (is_yes 6 rfl _).mono ?_
    rintro e w' ⟨rfl, rfl⟩
    go_wp2_with fail
    refine (kept_any g1 len _ _ l _ _ (by omega) C3.out.o1 (H.out.mono C3.out.bel)).mono ?_
    rintro e w' ⟨rfl, rfl⟩
    go_wp2_with fail
    refine (kept_any g2 len' _ _ t _ _ (by omega) C3.out.o2 (H'.out.mono C3.out.bel)).mono ?_
    rintro e w' ⟨rfl, rfl⟩
    go_wp2_with fail
    refine (apart3 w.heap.size _ _ _ _ _ _ _ [] l t _ rfl C3.out.bel.size (World.ownsRow_nil _ _ _ _) (pre_own C3.out.o1 HL.out) (pre_own C3.out.o2 HL'.out) (fun k hk e => ?_) (fun k hk e => ?_) (fun k hk e => ?_) (by omega) (by omega) (by omega)).mono ?_
    · simp [Value.ownBlock] at hk
    · simp [Value.ownBlock] at hk
    · simp only [Value.ownBlock, Option.some.injEq] at hk e; exact C3.out.ne (by omega)
    rintro e w6 ⟨rfl, hb6⟩
    have HF := Lib.hid (C3.out.bel.trans hb6)
    clear hb6 C3
    go_wp2
    go_ret
    exact ⟨rfl, HF.out⟩
set_option maxRecDepth 100000 in
theorem lifted (os : Os) (started : os.Started) (H : Type) (enc : TypeId × Value → H) :
    ReturnsInHanded {} Try.checked os 3 .any (Rows.zlibWrapsSpec.pre6 enc Try.prog Try.f3 Rows.zlibWrapsRow.domain false) (Rows.zlibWrapsSpec.post enc Try.prog Try.f3 false true false false) := by
  refine returnsInHanded_of_change_sized (C := Try.checked) own started (by kernel_rfl) Try.func3
    (ChangeSpec.witness6 (enc := enc) (C := Try.checked) false ⟨#[], #[.slice none 0 0, .slice none 0 0, .int .i64 0], []⟩ 8 (by kernel_rfl) (by kernel_rfl) (by kernel_rfl) (by kernel_rfl)) ?_
  intro W base args ds gs before hval0 hW _ hsz0 _
  have hval : ∀ (j : Nat) t v, Try.f3.params[j]? = some t → args[j]? = some v → Value.okWide Try.prog W .any base t v := hval0
  have hsz : (DataW.weightsEach Try.prog (Try.f3.params.toList ++ Rows.zlibWrapsSpec.plain.varTypes Try.prog) (ds ++ gs)).all (· ≤ reachBytes) = true := hsz0
  have hW' := hW
  obtain ⟨p, q, hA0, hV, rfl, hfz, hnd⟩ := hW
  have hA : DataW.TrodAll enc Try.prog W 0 (fun _ => true) true Try.f3.params.toList args.toList ds p := hA0
  rw [Try.params3] at hA hval hsz
  obtain ⟨v0, vs0, d0, ds0, p0, q0, hargs, rfl, rfl, h0, r0⟩ := trodAll_cons hA
  obtain ⟨v1, vs1, d1, ds1, p1, q1, rfl, rfl, rfl, h1, r1⟩ := trodAll_cons r0
  obtain ⟨v2, vs2, d2, ds2, p2, q2, rfl, rfl, rfl, h2, r2⟩ := trodAll_cons r1
  obtain ⟨rfl, rfl, rfl⟩ := trodAll_nil r2
  obtain rfl : args = #[v0, v1, v2] := by cases args; simp_all
  obtain ⟨rfl, rfl⟩ := trodVars_none hV
  clear hsz0
  obtain ⟨a0, len0, cap0, rfl⟩ := okWide_slice Try.underlying22 (hval 0 22 v0 rfl rfl)
  have k0 := h0
  have lt0 : ∀ x ∈ p0, x.block < W.heap.size := by obtain ⟨m, hm⟩ := k0; exact DataW.trod_lt m _ _ _ hm
  obtain ⟨l0, w0, c0⟩ := open_bs Try.underlying22 Try.underlying5 (by kernel_rfl) (by kernel_rfl) h0 hsz 0 rfl rfl
  obtain ⟨a1, len1, cap1, rfl⟩ := okWide_slice Try.underlying22 (hval 1 22 v1 rfl rfl)
  have k1 := h1
  have lt1 : ∀ x ∈ p1, x.block < W.heap.size := by obtain ⟨m, hm⟩ := k1; exact DataW.trod_lt m _ _ _ hm
  obtain ⟨l1, w1, c1⟩ := open_bs Try.underlying22 Try.underlying5 (by kernel_rfl) (by kernel_rfl) h1 hsz 1 rfl rfl
  obtain ⟨a2, rfl, rfl, rfl, w2⟩ := open_int Try.underlying3 (hval 2 3 v2 rfl rfl) h2
  clear hA0 hval0 hsz
  refine (walk a0 len0 cap0 l0 a1 len1 cap1 l1 a2 W w0 c0 w1 c1 w2).mono fun e W' ⟨he, bel⟩ => ?_
  subst he
  exact ⟨_, rfl, _, _, _, [], _, [], hW', trodAll_mk1 (shut_bool Try.underlying4 _), (trodAll_cons_mk (Below.trod laidOut (by kernel_rfl) (of_decide_eq_true (by kernel_rfl)) k0 bel lt0) (trodAll_cons_mk (Below.trod laidOut (by kernel_rfl) (of_decide_eq_true (by kernel_rfl)) k1 bel lt1) (trodAll_cons_mk (shut_int Try.underlying3 w2) trodAll_mk0))), rfl, bel.frame _, fun h => by cases h⟩

theorem proved : Rows.ZlibWrapsSaid :=
  OpenClaim.holds_of_wide 3 Try.f3 rfl rfl rfl rfl rfl rfl rfl ⟨rfl, rfl, rfl, rfl, rfl⟩ rfl rfl rfl rfl rfl (by kernel_rfl) Try.func3 (by kernel_rfl)
    (of_decide_eq_true (by kernel_rfl)) (by unfold Func.isWrapper; first | (rw [if_pos (by decide +kernel)]; kernel_rfl) | (rw [if_neg (by decide +kernel)]; exact ⟨rfl, rfl⟩))
    (fun os started H enc _ => lifted os started H enc)
#print axioms proved
end Go.Proofs.Ytbohhdakbgnaeaa.ZlibWraps
