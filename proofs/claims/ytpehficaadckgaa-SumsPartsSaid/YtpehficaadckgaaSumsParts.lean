/- For every three texts (of at most 2^20 bytes each, as the law itself asks), both sums of them as parts are the sums of them as one text; the Adler sum of no parts is 1. No conditions. -/
import Derived.Test.YtpehficaadckgaaRows
import Derived.Test.YtpehficaadckgaaOpen
import Derived.Test.YtpehficaadckgaaSumsAdlerOf
import Derived.Test.YtpehficaadckgaaSumsAdlerNil
import Derived.Test.YtpehficaadckgaaSumsCrcOf
import Derived.Test.YtpehficaadckgaaNum
namespace Go.Proofs.Ytpehficaadckgaa.SumsParts
open Go.ChangeShapes Go.WideShapes Go.ChangeAt Go.RowKit
open Go.ChangeMaps (open_string shut_string)
set_option linter.unusedVariables false
theorem own : ownKnob Try.prog.godebug = none := by kernel_rfl
theorem laidOut : laidOutB Try.prog = true := by kernel_rfl
def one1 : List UInt8 := [49]
def eight : List UInt8 := [50, 51, 52, 53, 54, 55, 56, 57]
theorem nine_crc : (Crc.crc (flat [⟨none, 0, 0, one1⟩, ⟨none, 0, 0, eight⟩]) : Int) = 3421780262 := by decide +kernel
theorem flat_two (s t : Sl) : flat [s, t] = s.l ++ t.l := by simp [flat]
theorem flat_three (s t u : Sl) : flat [s, t, u] = s.l ++ t.l ++ u.l := by simp [flat]
theorem eight_crc (s t : Sl) (hs : s.l = one1) (ht : t.l = eight) : (Crc.crc (flat [s, t]) : Int) = 3421780262 := by
  rw [flat_two, hs, ht]
  have := nine_crc
  rw [flat_two] at this
  exact this
set_option maxHeartbeats 1000000 in
theorem walk (a : Option Addr) (len cap : Nat) (l : List UInt8) (a' : Option Addr) (len' cap' : Nat) (l' : List UInt8) (b : Option Addr) (lenb capb : Nat) (lb : List UInt8) (w : World)
    (h : Bs w a len cap l) (hr : cap ≤ 140737488351232) (h' : Bs w a' len' cap' l') (hr' : cap' ≤ 140737488351232) (hb : Bs w b lenb capb lb) (hrb : capb ≤ 140737488351232) :
    Calls Try.prog 5 #[.slice a len cap, .slice a' len' cap', .slice b lenb capb] w fun e w' => e = .returned (.bool true) ∧ Below w.heap.size w w' := by
  have hle := h.hle
  have hle' := h'.hle
  have hleb := hb.hle
  have H := Lib.hid h
  have H' := Lib.hid h'
  have HB := Lib.hid hb
  clear h h' hb
  by_cases g1 : 1048576 < len
  · have d1 : decide ((1048576 : Int) < ↑len) = true := by simp; omega
    go_enter Try.func5, Try.ntmps5
    go_wp2_with fail
    refine (adler_nil _).mono ?_
    rintro e w1 ⟨rfl, hb1⟩
    go_wp2_with fail
    go_ret
    exact ⟨rfl, hb1⟩
  have d1 : decide ((1048576 : Int) < ↑len) = false := by simp; omega
  by_cases g2 : 1048576 < len'
  · have d2 : decide ((1048576 : Int) < ↑len') = true := by simp; omega
    go_enter Try.func5, Try.ntmps5
    go_wp2_with fail
    refine (adler_nil _).mono ?_
    rintro e w1 ⟨rfl, hb1⟩
    go_wp2_with fail
    go_ret
    exact ⟨rfl, hb1⟩
  have d2 : decide ((1048576 : Int) < ↑len') = false := by simp; omega
  by_cases g3 : 1048576 < lenb
  · have d3 : decide ((1048576 : Int) < ↑lenb) = true := by simp; omega
    go_enter Try.func5, Try.ntmps5
    go_wp2_with fail
    refine (adler_nil _).mono ?_
    rintro e w1 ⟨rfl, hb1⟩
    go_wp2_with fail
    go_ret
    exact ⟨rfl, hb1⟩
  have d3 : decide ((1048576 : Int) < ↑lenb) = false := by simp; omega
  have kc := fun (w : World) (C : Array Value) (n c : Nat) => Lib.run_convert_bytes_const (P := Try.prog) w 22 5 C n c Try.underlying22 Try.underlying5
  have kc2 := fun (w : World) (X : Obj) (C : Array Value) (n c : Nat) => (by have := kc (w.alloc X) C n c; rw [World.size_alloc] at this; exact this :
    (convert 22 22 (.slice (some ⟨w.heap.size + 1, 0, none⟩) n c)).run Try.prog ((w.alloc X).alloc (.cells C 5)) = .ok (.slice (some ⟨w.heap.size + 1, 0, none⟩) n c) ((w.alloc X).alloc (.cells C 5 (C.size, C.size + 1))))
  go_enter Try.func5, Try.ntmps5
  have own0 : (w.alloc (.cells #[] 5)).ownsRow w.heap.size 5 1 (.slice (some ⟨w.heap.size, 0, none⟩) 0 0) 0 [] := World.ownsRow_made w #[] 0 (Nat.le_refl _) (by unfold maxLen; omega) rfl
  have s1 := (H.out.mono (below_alloc w (.cells #[] 5))).src
  go_wp2_with (at_builtin; refine wpl_append tyB rfl _ _ rfl own0 s1 rfl rfl (by omega) (by omega) (by simp) ?_)
  intro v1 w1 own1 e1 _
  have b1 : Below w.heap.size w w1 := (below_alloc w (.cells #[] 5)).grown e1 (by simp) (by simp [Value.ownBlock])
  have z1 := b1.size
  have s2 := (H'.out.mono b1).src
  clear s1 e1 own0
  go_wp2_with (at_builtin; refine wpl_append tyB rfl _ _ rfl own1 s2 rfl rfl (by omega) (by omega) z1 ?_)
  intro v2 w2 own2 e2 _
  have b2 : Below w.heap.size w w2 := b1.grown e2 z1 (fun k hk => (own1.lt k hk).1)
  have z2 := b2.size
  have s3 := (HB.out.mono b2).src
  clear s2 e2 own1 b1 z1
  rw [← bvs_append] at own2
  go_wp2_with (at_builtin; refine wpl_append tyB rfl _ _ rfl own2 s3 rfl rfl (by omega) (by omega) z2 ?_)
  intro v3 w3 own3 e3 _
  have b3 : Below w.heap.size w w3 := b2.grown e3 z2 (fun k hk => (own2.lt k hk).1)
  clear s3 e3 own2 b2 z2
  rw [← bvs_append] at own3
  obtain ⟨a3, c3, rfl, hbs3⟩ := own_bs own3 (by omega)
  have B3 := Lib.hid hbs3
  clear own3 hbs3
  go_wp2_with fail
  refine (crc_of 3421780262 _ _ _ [⟨some ⟨w3.heap.size, 0, none⟩, 1, 1, one1⟩, ⟨some ⟨w3.heap.size + 1, 0, none⟩, 8, 8, eight⟩] _ (parts_new _ _ (by simp) _ 22 2 rfl (by omega) _ rfl ?_) (eight_crc _ _ rfl rfl)).mono ?_
  · intro s hs
    simp only [List.mem_cons, List.not_mem_nil, or_false] at hs
    rcases hs with rfl | rfl
    · exact Bs.mono (bs_new w3 _ rfl one1 5 _ 1 rfl (by omega) _ rfl) (below_alloc _ _)
    · exact bs_new _ _ (by simp) eight 5 _ 8 rfl (by omega) _ rfl
  rintro e w4 ⟨rfl, hb4⟩
  have b34 : Below w3.heap.size w3 w4 := below_then ((below_alloc2 _ _ _).alloc (by simp; omega) _) hb4
  have B4 := Lib.hid (B3.out.mono b34)
  have b4 := below_then b3 b34
  clear hb4 b34 b3 B3
  go_wp2_with fail
  refine (crc_of (Crc.crc (l ++ l' ++ lb)) _ _ _ [⟨a, len, cap, l⟩, ⟨a', len', cap', l'⟩, ⟨b, lenb, capb, lb⟩] _ (parts_new _ _ (by simp) _ 22 3 rfl (by omega) _ rfl ?_) (by rw [flat_three])).mono ?_
  · intro s hs
    simp only [List.mem_cons, List.not_mem_nil, or_false] at hs
    rcases hs with rfl | rfl | rfl
    · exact H.out.mono b4
    · exact H'.out.mono b4
    · exact HB.out.mono b4
  rintro e w5 ⟨rfl, hb5⟩
  have b45 := below_then (below_alloc _ _) hb5
  have B5 := Lib.hid (B4.out.mono b45)
  have b5 := below_then b4 b45
  clear hb5 b45 b4 B4
  go_wp2_with fail
  refine (crc_of (Crc.crc (l ++ l' ++ lb)) _ _ _ [⟨a3, len + len' + lenb, c3, l ++ l' ++ lb⟩] _ (parts_new _ _ (by simp) _ 22 1 rfl (by omega) _ rfl ?_) (by rw [flat_one])).mono ?_
  · intro s hs
    simp only [List.mem_singleton] at hs
    subst hs
    exact B5.out
  rintro e w6 ⟨rfl, hb6⟩
  have b56 := below_then (below_alloc _ _) hb6
  have B6 := Lib.hid (B5.out.mono b56)
  have b6 := below_then b5 b56
  clear hb6 b56 b5 B5
  go_wp2_with fail
  refine (adler_of (Ad.adler (l ++ l' ++ lb)) _ _ _ [⟨a, len, cap, l⟩, ⟨a', len', cap', l'⟩, ⟨b, lenb, capb, lb⟩] _ (parts_new _ _ (by simp) _ 22 3 rfl (by omega) _ rfl ?_) (by rw [flat_three])).mono ?_
  · intro s hs
    simp only [List.mem_cons, List.not_mem_nil, or_false] at hs
    rcases hs with rfl | rfl | rfl
    · exact H.out.mono b6
    · exact H'.out.mono b6
    · exact HB.out.mono b6
  rintro e w7 ⟨rfl, hb7⟩
  have b67 := below_then (below_alloc _ _) hb7
  have B7 := Lib.hid (B6.out.mono b67)
  have b7 := below_then b6 b67
  clear hb7 b67 b6 B6
  go_wp2_with fail
  refine (adler_of (Ad.adler (l ++ l' ++ lb)) _ _ _ [⟨a3, len + len' + lenb, c3, l ++ l' ++ lb⟩] _ (parts_new _ _ (by simp) _ 22 1 rfl (by omega) _ rfl ?_) (by rw [flat_one])).mono ?_
  · intro s hs
    simp only [List.mem_singleton] at hs
    subst hs
    exact B7.out
  rintro e w8 ⟨rfl, hb8⟩
  have b8 := below_then b7 (below_then (below_alloc _ _) hb8)
  clear hb8 b7 B7
  go_wp2_with fail
  refine (adler_nil _).mono ?_
  rintro e w9 ⟨rfl, hb9⟩
  go_wp2_with fail
  go_ret
  exact ⟨rfl, below_then b8 hb9⟩
set_option maxRecDepth 100000 in
theorem lifted (os : Os) (started : os.Started) (H : Type) (enc : TypeId × Value → H) :
    ReturnsInHanded {} Try.checked os 5 .any (Rows.sumsPartsSpec.pre6 enc Try.prog Try.f5 Rows.sumsPartsRow.domain false) (Rows.sumsPartsSpec.post enc Try.prog Try.f5 false true false false) := by
  refine returnsInHanded_of_change_sized (C := Try.checked) own started (by kernel_rfl) Try.func5
    (ChangeSpec.witness6 (enc := enc) (C := Try.checked) false ⟨#[], #[.slice none 0 0, .slice none 0 0, .slice none 0 0], []⟩ 8 (by kernel_rfl) (by kernel_rfl) (by kernel_rfl) (by kernel_rfl)) ?_
  intro W base args ds gs before hval0 hW _ hsz0 _
  have hval : ∀ (j : Nat) t v, Try.f5.params[j]? = some t → args[j]? = some v → Value.okWide Try.prog W .any base t v := hval0
  have hsz : (DataW.weightsEach Try.prog (Try.f5.params.toList ++ Rows.sumsPartsSpec.plain.varTypes Try.prog) (ds ++ gs)).all (· ≤ reachBytes) = true := hsz0
  have hW' := hW
  obtain ⟨p, q, hA0, hV, rfl, hfz, hnd⟩ := hW
  have hA : DataW.TrodAll enc Try.prog W 0 (fun _ => true) true Try.f5.params.toList args.toList ds p := hA0
  rw [Try.params5] at hA hval hsz
  obtain ⟨v0, vs0, d0, ds0, p0, q0, hargs, rfl, rfl, h0, r0⟩ := trodAll_cons hA
  obtain ⟨v1, vs1, d1, ds1, p1, q1, rfl, rfl, rfl, h1, r1⟩ := trodAll_cons r0
  obtain ⟨v2, vs2, d2, ds2, p2, q2, rfl, rfl, rfl, h2, r2⟩ := trodAll_cons r1
  obtain ⟨rfl, rfl, rfl⟩ := trodAll_nil r2
  obtain rfl : args = #[v0, v1, v2] := by cases args; simp_all
  obtain ⟨rfl, rfl⟩ := trodVars_none hV
  clear hsz0
  obtain ⟨a0, len0, cap0, rfl⟩ := okWide_slice Try.underlying22 (hval 0 22 v0 rfl rfl)
  have k0 := h0
  have lt0 : ∀ x ∈ p0, x.block < W.heap.size := by obtain ⟨m, hm⟩ := k0; exact DataW.trod_lt m _ _ _ hm
  obtain ⟨l0, w0, c0⟩ := open_bs Try.underlying22 Try.underlying5 (by kernel_rfl) (by kernel_rfl) h0 hsz 0 rfl rfl
  obtain ⟨a1, len1, cap1, rfl⟩ := okWide_slice Try.underlying22 (hval 1 22 v1 rfl rfl)
  have k1 := h1
  have lt1 : ∀ x ∈ p1, x.block < W.heap.size := by obtain ⟨m, hm⟩ := k1; exact DataW.trod_lt m _ _ _ hm
  obtain ⟨l1, w1, c1⟩ := open_bs Try.underlying22 Try.underlying5 (by kernel_rfl) (by kernel_rfl) h1 hsz 1 rfl rfl
  obtain ⟨a2, len2, cap2, rfl⟩ := okWide_slice Try.underlying22 (hval 2 22 v2 rfl rfl)
  have k2 := h2
  have lt2 : ∀ x ∈ p2, x.block < W.heap.size := by obtain ⟨m, hm⟩ := k2; exact DataW.trod_lt m _ _ _ hm
  obtain ⟨l2, w2, c2⟩ := open_bs Try.underlying22 Try.underlying5 (by kernel_rfl) (by kernel_rfl) h2 hsz 2 rfl rfl
  clear hA0 hval0 hsz
  refine (walk a0 len0 cap0 l0 a1 len1 cap1 l1 a2 len2 cap2 l2 W w0 c0 w1 c1 w2 c2).mono fun e W' ⟨he, bel⟩ => ?_
  subst he
  exact ⟨_, rfl, _, _, _, [], _, [], hW', trodAll_mk1 (shut_bool Try.underlying4 _), (trodAll_cons_mk (Below.trod laidOut (by kernel_rfl) (of_decide_eq_true (by kernel_rfl)) k0 bel lt0) (trodAll_cons_mk (Below.trod laidOut (by kernel_rfl) (of_decide_eq_true (by kernel_rfl)) k1 bel lt1) (trodAll_cons_mk (Below.trod laidOut (by kernel_rfl) (of_decide_eq_true (by kernel_rfl)) k2 bel lt2) trodAll_mk0))), rfl, bel.frame _, fun h => by cases h⟩

theorem proved : Rows.SumsPartsSaid :=
  OpenClaim.holds_of_wide 5 Try.f5 rfl rfl rfl rfl rfl rfl rfl ⟨rfl, rfl, rfl, rfl, rfl⟩ rfl rfl rfl rfl rfl (by kernel_rfl) Try.func5 (by kernel_rfl)
    (of_decide_eq_true (by kernel_rfl)) (by unfold Func.isWrapper; first | (rw [if_pos (by decide +kernel)]; kernel_rfl) | (rw [if_neg (by decide +kernel)]; exact ⟨rfl, rfl⟩))
    (fun os started H enc _ => lifted os started H enc)
#print axioms proved
end Go.Proofs.Ytpehficaadckgaa.SumsParts
