/- For all bytes (of at most 2^20, as the law itself asks), every size and number, sums.Put answers the bytes and the error that the document does, in new memory, and leaves the bytes as they were. No conditions. -/
import Derived.Test.YtpehficaadckgaaRows
import Derived.Test.YtpehficaadckgaaOpen
import Derived.Test.YtpehficaadckgaaSumsPutOf
import Derived.Test.YtpehficaadckgaaRef01c
import Derived.Test.YtpehficaadckgaaNumSame
import Derived.Test.YtpehficaadckgaaApart2
import Derived.Test.YtpehficaadckgaaSumsAdlerNil
namespace Go.Proofs.Ytpehficaadckgaa.SumsPut
open Go.ChangeShapes Go.WideShapes Go.ChangeAt Go.RowKit
open Go.ChangeMaps (open_string shut_string)
set_option linter.unusedVariables false
theorem own : ownKnob Try.prog.godebug = none := by kernel_rfl
theorem laidOut : laidOutB Try.prog = true := by kernel_rfl
theorem dig_300 : Pt.dig 2 300 = [1, 44] := by decide
/-- The part behind both calls. -/
def Tail (w w4 : World) (g len : Nat) (l : List UInt8) (v1 : Value) (n1 : Nat) (m1 : List UInt8) : Prop :=
  Below w.heap.size w w4 ∧ w4.ownsRow w.heap.size 5 1 (.slice (some ⟨g, 0, none⟩) (len + 2) (len + 2)) (len + 2) (bvs (l ++ [165, 90])) ∧ w4.ownsRow w.heap.size 5 1 v1 n1 (bvs m1) ∧
    (∀ g', v1.ownBlock = some g' → (Value.slice (some ⟨g, 0, none⟩) len (len + 2)).ownBlock ≠ some g')
theorem Tail.mono {w w4 w5 : World} {g len : Nat} {l : List UInt8} {v1 : Value} {n1 : Nat} {m1 : List UInt8} (h : Tail w w4 g len l v1 n1 m1) (hb : Below w4.heap.size w4 w5) : Tail w w5 g len l v1 n1 m1 :=
  ⟨below_then h.1 hb, own_below h.2.1 hb, own_below h.2.2.1 hb, h.2.2.2⟩
set_option maxHeartbeats 1000000 in
theorem walk (a : Option Addr) (len cap : Nat) (l : List UInt8) (size n : Int) (w : World) (h : Bs w a len cap l) (hr : cap ≤ 140737488351232) (hw : (Lit.int .i64 size).wf = true) (hw2 : (Lit.int .i64 n).wf = true) :
    Calls Try.prog 7 #[.slice a len cap, .int .i64 size, .int .i64 n] w fun e w' => e = .returned (.bool true) ∧ Below w.heap.size w w' := by
  have hle := h.hle
  have HL := Lib.hid h.hlen
  have H := Lib.hid h
  clear h
  have hn : n ≤ 9223372036854775807 := by
    have : -9223372036854775808 ≤ n ∧ n ≤ 9223372036854775807 := by simpa [Lit.wf, IntKind.min, IntKind.max, IntKind.signed, IntKind.bits] using hw2
    omega
  clear hw hw2
  by_cases hbig : 1048576 < len
  · have d1 : decide ((1048576 : Int) < ↑len) = true := by simp; omega
    go_enter Try.func7, Try.ntmps7
    go_wp2_with fail
    refine (adler_nil _).mono ?_
    rintro e w1 ⟨rfl, hb1⟩
    go_wp2_with fail
    go_ret
    exact ⟨rfl, hb1⟩
  have d1 : decide ((1048576 : Int) < ↑len) = false := by simp; omega
  go_enter Try.func7, Try.ntmps7
  go_wp2_with fail
  refine (put_ok _ _ _ [] 2 300 _ (bs_nil _) (by omega) (by omega) (by omega)).mono ?_
  rintro e w1 ⟨g0, rfl, ho1, hb1⟩
  rw [dig_300] at ho1
  obtain ⟨a1, c1, e1, hbs1⟩ := own_bs ho1 (by omega)
  simp only [Value.slice.injEq] at e1
  obtain ⟨rfl, _, rfl⟩ := e1
  have k1 := conv_bs (P := Try.prog) hbs1 22 9 5 Try.underlying22 Try.underlying5 Try.underlying9
  rw [List.nil_append] at k1
  have kj : ((str [1, 44]).toList == [1, 44]) = true := by rw [str_list]; rfl
  clear hbs1 ho1
  go_wp2_with fail
  refine (copy_any _ _ _ l _ (H.out.mono hb1) (by omega)).mono ?_
  rintro e w2 ⟨g, rfl, hown2, hb2⟩
  have hz2 := hb1.size
  have hown2 := own_base (base' := w.heap.size) hown2 (fun g' hg' => Nat.le_trans hz2 (hown2.lt g' hg').1)
  have hb2 := below_then hb1 hb2
  have O2 := Lib.hid hown2
  clear hown2 hb1 hz2 k1 kj
  have C2 := own_prefix O2.out len (by omega)
  have ep : (bvs (l ++ [165, 90])).take len = bvs l := by
    rw [bvs_append, List.take_append_of_le_length (by rw [bvs_length, HL.out]; exact Nat.le_refl _), List.take_of_length_le (by rw [bvs_length, HL.out]; exact Nat.le_refl _)]
  rw [ep] at C2
  have hm := bs_of_own C2 (by omega) len (Nat.le_refl _)
  rw [List.take_of_length_le (by rw [HL.out]; exact Nat.le_refl _)] at hm
  have EP := Lib.hid ep
  have HM := Lib.hid hm
  clear ep hm C2
  -- how each way with an error ends
  have fin : ∀ (x : Int), (x == 0) = false → True := fun _ _ => trivial
  by_cases hsz : size < 1 ∨ 4 < size
  · have HZ := Lib.hid hsz
    clear hsz fin
    go_wp2_with fail
    refine (put_form _ _ _ _ _ _ HZ.out).mono ?_
    rintro e w' ⟨rfl, rfl⟩
    go_wp2_with fail
    refine (number_form _ _ _ HZ.out).mono ?_
    rintro e w' ⟨rfl, rfl⟩
    go_wp2_with fail
    refine (same_any _ _ _ _ _ _ _ _ _ (bs_nil _) (bs_nil _)).mono ?_
    rintro e w' ⟨rfl, rfl⟩
    go_wp2_with fail
    refine (num_err 6 rfl _).mono ?_
    rintro e w' ⟨rfl, rfl⟩
    go_wp2_with fail
    refine (kept_any g len _ _ l _ _ (by omega) O2.out (H.out.mono hb2)).mono ?_
    rintro e w' ⟨rfl, rfl⟩
    go_wp2_with fail
    have C4 := own_prefix O2.out len (by omega)
    rw [EP.out] at C4
    refine (apart2 w.heap.size _ _ _ _ _ [] l _ rfl hb2.size (World.ownsRow_nil _ _ _ _) C4 (fun g' hg' => by simp [Value.ownBlock] at hg') (by omega) (by omega)).mono ?_
    rintro e w5 ⟨rfl, hb5⟩
    go_wp2_with fail
    go_ret
    exact ⟨rfl, hb2.trans hb5⟩
  obtain ⟨s, rfl⟩ := Int.eq_ofNat_of_zero_le (show 0 ≤ size by omega)
  have h1 : 1 ≤ s := by omega
  have h4 : s ≤ 4 := by omega
  clear hsz fin
  by_cases hneg : n < 0
  · go_wp2_with fail
    refine (put_range _ _ _ _ _ _ (by omega) (.inl hneg)).mono ?_
    rintro e w' ⟨rfl, rfl⟩
    go_wp2_with fail
    refine (number_neg s n _ h1 h4 hneg).mono ?_
    rintro e w' ⟨rfl, rfl⟩
    go_wp2_with fail
    refine (same_any _ _ _ _ _ _ _ _ _ (bs_nil _) (bs_nil _)).mono ?_
    rintro e w' ⟨rfl, rfl⟩
    go_wp2_with fail
    refine (num_err 7 rfl _).mono ?_
    rintro e w' ⟨rfl, rfl⟩
    go_wp2_with fail
    refine (kept_any g len _ _ l _ _ (by omega) O2.out (H.out.mono hb2)).mono ?_
    rintro e w' ⟨rfl, rfl⟩
    go_wp2_with fail
    have C4 := own_prefix O2.out len (by omega)
    rw [EP.out] at C4
    refine (apart2 w.heap.size _ _ _ _ _ [] l _ rfl hb2.size (World.ownsRow_nil _ _ _ _) C4 (fun g' hg' => by simp [Value.ownBlock] at hg') (by omega) (by omega)).mono ?_
    rintro e w5 ⟨rfl, hb5⟩
    go_wp2_with fail
    go_ret
    exact ⟨rfl, hb2.trans hb5⟩
  obtain ⟨q, rfl⟩ := Int.eq_ofNat_of_zero_le (show 0 ≤ n by omega)
  have hpow : (2 : Int) ^ (8 * (s : Int)).toNat = ((256 ^ s : Nat) : Int) := by
    rcases (show s = 1 ∨ s = 2 ∨ s = 3 ∨ s = 4 by omega) with rfl | rfl | rfl | rfl <;> rfl
  have HP := Lib.hid hpow
  clear hpow hneg
  by_cases hge : 256 ^ s ≤ q
  · have HGE := Lib.hid hge
    clear hge
    go_wp2_with fail
    refine (put_range _ _ _ _ _ _ (by omega) (.inr (by rw [HP.out]; have := HGE.out; omega))).mono ?_
    rintro e w' ⟨rfl, rfl⟩
    go_wp2_with fail
    refine (number_nat s q _ h1 h4 (by omega)).mono ?_
    rintro e w3 ⟨hb3, ⟨_, rfl⟩ | ⟨hlt, _⟩⟩
    · have O3 := Lib.hid (own_below O2.out hb3)
      have hb3 := below_then hb2 hb3
      clear hb2 O2 HM
      go_wp2_with fail
      refine (same_any _ _ _ _ _ _ _ _ _ (bs_nil _) (bs_nil _)).mono ?_
      rintro e w' ⟨rfl, rfl⟩
      go_wp2_with fail
      refine (num_err 7 rfl _).mono ?_
      rintro e w' ⟨rfl, rfl⟩
      go_wp2_with fail
      refine (kept_any g len _ _ l _ _ (by omega) O3.out (H.out.mono hb3)).mono ?_
      rintro e w' ⟨rfl, rfl⟩
      go_wp2_with fail
      have C4 := own_prefix O3.out len (by omega)
      rw [EP.out] at C4
      refine (apart2 w.heap.size _ _ _ _ _ [] l _ rfl hb3.size (World.ownsRow_nil _ _ _ _) C4 (fun g' hg' => by simp [Value.ownBlock] at hg') (by omega) (by omega)).mono ?_
      rintro e w5 ⟨rfl, hb5⟩
      go_wp2_with fail
      go_ret
      exact ⟨rfl, hb3.trans hb5⟩
    · have := HGE.out; omega
  · have HLT := Lib.hid (Nat.lt_of_not_le hge)
    clear hge
    go_wp2_with fail
    refine (put_ok _ _ _ l s q _ HM.out (by omega) (by omega) HLT.out).mono ?_
    rintro e w3 ⟨g3, rfl, ho3, hb3⟩
    have O3 := Lib.hid (own_below O2.out hb3)
    have hz2 := hb2.size
    have hne3 : ∀ g', (Value.slice (some ⟨g3, 0, none⟩) (len + s) (len + s)).ownBlock = some g' → (Value.slice (some ⟨g, 0, none⟩) len (len + 2)).ownBlock ≠ some g' := by
      intro g' hg' he
      have h1 := (ho3.lt g' hg').1
      have h2 := (O2.out.lt g rfl).2
      simp only [Value.ownBlock, Option.some.injEq] at he
      omega
    have ho3 := own_base (base' := w.heap.size) ho3 (fun g' hg' => Nat.le_trans hz2 (ho3.lt g' hg').1)
    have hb3 := below_then hb2 hb3
    have T3 : Hid (Tail w w3 g len l (.slice (some ⟨g3, 0, none⟩) (len + s) (len + s)) (len + s) (l ++ Pt.dig s q)) := Lib.hid ⟨hb3, O3.out, ho3, hne3⟩
    clear hb2 O2 HM O3 hz2 ho3 hb3 hne3
    go_wp2_with fail
    refine (number_nat s q _ h1 h4 (by omega)).mono ?_
    rintro e w4 ⟨hb4, ⟨hge, _⟩ | ⟨_, v4, rfl, ho4⟩⟩
    · have := HLT.out; omega
    obtain ⟨a4, c4, rfl, hbs4⟩ := own_bs ho4 (by omega)
    have T4 := Lib.hid (T3.out.mono hb4)
    have B4 := Lib.hid hbs4
    clear T3 hb4 ho4 hbs4
    have hz4 := T4.out.1.size
    have own0 : (w4.alloc (.cells #[] 5)).ownsRow w4.heap.size 5 1 (.slice (some ⟨w4.heap.size, 0, none⟩) 0 0) 0 [] := World.ownsRow_made w4 #[] 0 (Nat.le_refl _) (by unfold maxLen; omega) rfl
    have s1 := ((H.out.mono T4.out.1).mono (below_alloc w4 (.cells #[] 5))).src
    go_wp2_with (at_builtin; refine wpl_append tyB rfl _ _ rfl own0 s1 rfl rfl (by omega) (by omega) (by simp) ?_)
    intro v1 w5 own1 g1 _
    have b5 : Below w4.heap.size w4 w5 := (below_alloc w4 (.cells #[] 5)).grown g1 (by simp) (by simp [Value.ownBlock])
    have own1 := Lib.hid own1
    have s2 := (B4.out.mono b5).src
    have z5 := b5.size
    clear s1 g1 own0 B4
    go_wp2_with (at_builtin; refine wpl_append tyB rfl _ _ rfl own1.out s2 rfl rfl (by omega) (by omega) (by omega) ?_)
    intro v2 w6 own2 g2 _
    have b6 : Below w4.heap.size w4 w6 := b5.grown g2 z5 (fun k hk => (own1.out.lt k hk).1)
    rw [← bvs_append] at own2
    obtain ⟨a6, c6, rfl, hbs6⟩ := own_bs own2 (by omega)
    have T6 := Lib.hid (T4.out.mono b6)
    have B6 := Lib.hid hbs6
    have hsame : (l ++ Pt.dig s q == l ++ Pt.dig s q) = true := by simp
    clear s2 g2 own2 own1 b5 z5 hbs6 T4
    obtain ⟨a7, c7, e7, hbs7⟩ := own_bs T6.out.2.2.1 (by omega)
    simp only [Value.slice.injEq] at e7
    obtain ⟨rfl, _, rfl⟩ := e7
    have B7 := Lib.hid hbs7
    clear hbs7
    go_wp2_with fail
    refine (same_any _ _ _ _ _ _ _ _ _ B7.out B6.out).mono ?_
    rintro e w' ⟨rfl, rfl⟩
    rw [hsame]
    clear hsame B6 B7
    go_wp2_with fail
    refine (num_nil _).mono ?_
    rintro e w' ⟨rfl, rfl⟩
    go_wp2_with fail
    refine (kept_any g len _ _ l _ _ (by omega) T6.out.2.1 (H.out.mono T6.out.1)).mono ?_
    rintro e w' ⟨rfl, rfl⟩
    go_wp2_with fail
    have C4 := own_prefix T6.out.2.1 len (by omega)
    rw [EP.out] at C4
    refine (apart2 w.heap.size _ _ _ _ _ _ l _ rfl T6.out.1.size T6.out.2.2.1 C4 T6.out.2.2.2 (by omega) (by omega)).mono ?_
    rintro e w5 ⟨rfl, hb5⟩
    go_wp2_with fail
    go_ret
    exact ⟨rfl, T6.out.1.trans hb5⟩
set_option maxRecDepth 100000 in
theorem lifted (os : Os) (started : os.Started) (H : Type) (enc : TypeId × Value → H) :
    ReturnsInHanded {} Try.checked os 7 .any (Rows.sumsPutSpec.pre6 enc Try.prog Try.f7 Rows.sumsPutRow.domain false) (Rows.sumsPutSpec.post enc Try.prog Try.f7 false true false false) := by
  refine returnsInHanded_of_change_sized (C := Try.checked) own started (by kernel_rfl) Try.func7
    (ChangeSpec.witness6 (enc := enc) (C := Try.checked) false ⟨#[], #[.slice none 0 0, .int .i64 0, .int .i64 0], []⟩ 8 (by kernel_rfl) (by kernel_rfl) (by kernel_rfl) (by kernel_rfl)) ?_
  intro W base args ds gs before hval0 hW _ hsz0 _
  have hval : ∀ (j : Nat) t v, Try.f7.params[j]? = some t → args[j]? = some v → Value.okWide Try.prog W .any base t v := hval0
  have hsz : (DataW.weightsEach Try.prog (Try.f7.params.toList ++ Rows.sumsPutSpec.plain.varTypes Try.prog) (ds ++ gs)).all (· ≤ reachBytes) = true := hsz0
  have hW' := hW
  obtain ⟨p, q, hA0, hV, rfl, hfz, hnd⟩ := hW
  have hA : DataW.TrodAll enc Try.prog W 0 (fun _ => true) true Try.f7.params.toList args.toList ds p := hA0
  rw [Try.params7] at hA hval hsz
  obtain ⟨v0, vs0, d0, ds0, p0, q0, hargs, rfl, rfl, h0, r0⟩ := trodAll_cons hA
  obtain ⟨v1, vs1, d1, ds1, p1, q1, rfl, rfl, rfl, h1, r1⟩ := trodAll_cons r0
  obtain ⟨v2, vs2, d2, ds2, p2, q2, rfl, rfl, rfl, h2, r2⟩ := trodAll_cons r1
  obtain ⟨rfl, rfl, rfl⟩ := trodAll_nil r2
  obtain rfl : args = #[v0, v1, v2] := by cases args; simp_all
  obtain ⟨rfl, rfl⟩ := trodVars_none hV
  clear hsz0
  obtain ⟨a0, len0, cap0, rfl⟩ := okWide_slice Try.underlying22 (hval 0 22 v0 rfl rfl)
  have k0 := h0
  have lt0 : ∀ x ∈ p0, x.block < W.heap.size := by obtain ⟨m, hm⟩ := k0; exact DataW.trod_lt m _ _ _ hm
  obtain ⟨l0, w0, c0⟩ := open_bs Try.underlying22 Try.underlying5 (by kernel_rfl) (by kernel_rfl) h0 hsz 0 rfl rfl
  obtain ⟨a1, rfl, rfl, rfl, w1⟩ := open_int Try.underlying3 (hval 1 3 v1 rfl rfl) h1
  obtain ⟨a2, rfl, rfl, rfl, w2⟩ := open_int Try.underlying3 (hval 2 3 v2 rfl rfl) h2
  clear hA0 hval0 hsz
  refine (walk a0 len0 cap0 l0 a1 a2 W w0 c0 w1 w2).mono fun e W' ⟨he, bel⟩ => ?_
  subst he
  exact ⟨_, rfl, _, _, _, [], _, [], hW', trodAll_mk1 (shut_bool Try.underlying4 _), (trodAll_cons_mk (Below.trod laidOut (by kernel_rfl) (of_decide_eq_true (by kernel_rfl)) k0 bel lt0) (trodAll_cons_mk (shut_int Try.underlying3 w1) (trodAll_cons_mk (shut_int Try.underlying3 w2) trodAll_mk0))), rfl, bel.frame _, fun h => by cases h⟩

theorem proved : Rows.SumsPutSaid :=
  OpenClaim.holds_of_wide 7 Try.f7 rfl rfl rfl rfl rfl rfl rfl ⟨rfl, rfl, rfl, rfl, rfl⟩ rfl rfl rfl rfl rfl (by kernel_rfl) Try.func7 (by kernel_rfl)
    (of_decide_eq_true (by kernel_rfl)) (by unfold Func.isWrapper; first | (rw [if_pos (by decide +kernel)]; kernel_rfl) | (rw [if_neg (by decide +kernel)]; exact ⟨rfl, rfl⟩))
    (fun os started H enc _ => lifted os started H enc)
#print axioms proved
end Go.Proofs.Ytpehficaadckgaa.SumsPut
