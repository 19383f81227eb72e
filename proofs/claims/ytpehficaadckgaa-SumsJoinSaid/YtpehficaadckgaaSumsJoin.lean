/- For every two texts (of at most 2^20 bytes each, as the law itself asks), sums.Join of their document's Adler sums is the document's Adler sum of both. No conditions. -/
import Derived.Test.YtpehficaadckgaaRows
import Derived.Test.YtpehficaadckgaaOpen
import Derived.Test.YtpehficaadckgaaNum
import Derived.Test.YtpehficaadckgaaRef01b
import Derived.Test.YtpehficaadckgaaSumsJoinOf
namespace Go.Proofs.Ytpehficaadckgaa.SumsJoin
open Go.ChangeShapes Go.WideShapes Go.ChangeAt Go.RowKit
open Go.ChangeMaps (open_string shut_string)
set_option linter.unusedVariables false
theorem own : ownKnob Try.prog.godebug = none := by kernel_rfl
theorem laidOut : laidOutB Try.prog = true := by kernel_rfl
theorem walk (a : Option Addr) (len cap : Nat) (l : List UInt8) (a' : Option Addr) (len' cap' : Nat) (l' : List UInt8) (w : World) (h : Bs w a len cap l) (hr : cap ≤ 140737488351232) (h' : Bs w a' len' cap' l') (hr' : cap' ≤ 140737488351232) :
    Calls Try.prog 6 #[.slice a len cap, .slice a' len' cap'] w fun e w' => e = .returned (.bool true) ∧ Below w.heap.size w w' := by
  have hle := h.hle
  have hle' := h'.hle
  have HL := Lib.hid h.hlen
  have HL' := Lib.hid h'.hlen
  have e1 : Ad.join 1 1 0 = 1 := by decide
  by_cases g : 1048576 < len ∨ 1048576 < len'
  · have J := Lib.hid e1
    clear e1
    by_cases g1 : 1048576 < len
    · have d1 : decide ((1048576 : Int) < ↑len) = true := by simp; omega
      go_enter Try.func6, Try.ntmps6
      go_wp2_with fail
      refine (join_any 1 1 0 _ (by omega) (by omega) (by omega) (by omega) (by omega) (by omega)).mono ?_
      rintro e w' ⟨rfl, rfl⟩
      rw [J.out]
      go_wp2_with fail
      go_ret
      exact ⟨rfl, Below.refl _ _⟩
    · have d1 : decide ((1048576 : Int) < ↑len) = false := by simp; omega
      have d2 : decide ((1048576 : Int) < ↑len') = true := by simp; omega
      go_enter Try.func6, Try.ntmps6
      go_wp2_with fail
      refine (join_any 1 1 0 _ (by omega) (by omega) (by omega) (by omega) (by omega) (by omega)).mono ?_
      rintro e w' ⟨rfl, rfl⟩
      rw [J.out]
      go_wp2_with fail
      go_ret
      exact ⟨rfl, Below.refl _ _⟩
  · have d1 : decide ((1048576 : Int) < ↑len) = false := by simp; omega
    have d2 : decide ((1048576 : Int) < ↑len') = false := by simp; omega
    have J := Lib.hid e1
    clear e1
    go_enter Try.func6, Try.ntmps6
    have own0 : (w.alloc (.cells #[] 5)).ownsRow w.heap.size 5 1 (.slice (some ⟨w.heap.size, 0, none⟩) 0 0) 0 [] := World.ownsRow_made w #[] 0 (Nat.le_refl _) (by unfold maxLen; omega) rfl
    have s1 := (h.mono (below_alloc w (.cells #[] 5))).src
    go_wp2_with (at_builtin; refine wpl_append tyB rfl _ _ rfl own0 s1 rfl rfl (by omega) (by omega) (by simp) ?_)
    intro v1 w1 own1 g1 _
    have b1 : Below w.heap.size w w1 := (below_alloc w (.cells #[] 5)).grown g1 (by simp) (by simp [Value.ownBlock])
    have z1 := b1.size
    have s2 := (h'.mono b1).src
    clear s1 g1 own0
    go_wp2_with (at_builtin; refine wpl_append tyB rfl _ _ rfl own1 s2 rfl rfl (by omega) (by omega) z1 ?_)
    intro v2 w2 own2 g2 hn2
    have b2 : Below w.heap.size w w2 := b1.grown g2 z1 (fun k hk => (own1.lt k hk).1)
    have z2 := b2.size
    clear s2 g2
    rw [← bvs_append] at own2
    obtain ⟨a3, c3, rfl, hb3⟩ := own_bs own2 (by omega)
    clear own2
    go_wp2_with fail
    refine (join_any 1 1 0 _ (by omega) (by omega) (by omega) (by omega) (by omega) (by omega)).mono ?_
    rintro e w' ⟨rfl, rfl⟩
    rw [J.out]
    go_wp2_with fail
    refine (refAdler_any _ _ _ _ _ (h.mono b2)).mono ?_
    rintro e w' ⟨rfl, rfl⟩
    go_wp2_with fail
    refine (refAdler_any _ _ _ _ _ (h'.mono b2)).mono ?_
    rintro e w' ⟨rfl, rfl⟩
    go_wp2_with fail
    have t1 := Ad.adler_lt l
    have t2 := Ad.adler_lt l'
    refine (join_any _ _ _ _ (by omega) (by omega) (by omega) (by omega) (by omega) (by omega)).mono ?_
    rintro e w' ⟨rfl, rfl⟩
    have HJ : Ad.join (Ad.adler l) (Ad.adler l') len' = Ad.adler (l ++ l') := by rw [← Ad.join_adler, HL'.out]
    rw [HJ]
    clear HJ t1 t2
    go_wp2_with fail
    refine (refAdler_any _ _ _ _ _ hb3).mono ?_
    rintro e w' ⟨rfl, rfl⟩
    go_wp2_with fail
    go_ret
    exact ⟨rfl, b2⟩
set_option maxRecDepth 100000 in
theorem lifted (os : Os) (started : os.Started) (H : Type) (enc : TypeId × Value → H) :
    ReturnsInHanded {} Try.checked os 6 .any (Rows.sumsJoinSpec.pre6 enc Try.prog Try.f6 Rows.sumsJoinRow.domain false) (Rows.sumsJoinSpec.post enc Try.prog Try.f6 false true false false) := by
  refine returnsInHanded_of_change_sized (C := Try.checked) own started (by kernel_rfl) Try.func6
    (ChangeSpec.witness6 (enc := enc) (C := Try.checked) false ⟨#[], #[.slice none 0 0, .slice none 0 0], []⟩ 8 (by kernel_rfl) (by kernel_rfl) (by kernel_rfl) (by kernel_rfl)) ?_
  intro W base args ds gs before hval0 hW _ hsz0 _
  have hval : ∀ (j : Nat) t v, Try.f6.params[j]? = some t → args[j]? = some v → Value.okWide Try.prog W .any base t v := hval0
  have hsz : (DataW.weightsEach Try.prog (Try.f6.params.toList ++ Rows.sumsJoinSpec.plain.varTypes Try.prog) (ds ++ gs)).all (· ≤ reachBytes) = true := hsz0
  have hW' := hW
  obtain ⟨p, q, hA0, hV, rfl, hfz, hnd⟩ := hW
  have hA : DataW.TrodAll enc Try.prog W 0 (fun _ => true) true Try.f6.params.toList args.toList ds p := hA0
  rw [Try.params6] at hA hval hsz
  obtain ⟨v0, vs0, d0, ds0, p0, q0, hargs, rfl, rfl, h0, r0⟩ := trodAll_cons hA
  obtain ⟨v1, vs1, d1, ds1, p1, q1, rfl, rfl, rfl, h1, r1⟩ := trodAll_cons r0
  obtain ⟨rfl, rfl, rfl⟩ := trodAll_nil r1
  obtain rfl : args = #[v0, v1] := by cases args; simp_all
  obtain ⟨rfl, rfl⟩ := trodVars_none hV
  clear hsz0
  obtain ⟨a0, len0, cap0, rfl⟩ := okWide_slice Try.underlying22 (hval 0 22 v0 rfl rfl)
  have k0 := h0
  have lt0 : ∀ x ∈ p0, x.block < W.heap.size := by obtain ⟨m, hm⟩ := k0; exact DataW.trod_lt m _ _ _ hm
  obtain ⟨l0, w0, c0⟩ := open_bs Try.underlying22 Try.underlying5 (by kernel_rfl) (by kernel_rfl) h0 hsz 0 rfl rfl
  obtain ⟨a1, len1, cap1, rfl⟩ := okWide_slice Try.underlying22 (hval 1 22 v1 rfl rfl)
  have k1 := h1
  have lt1 : ∀ x ∈ p1, x.block < W.heap.size := by obtain ⟨m, hm⟩ := k1; exact DataW.trod_lt m _ _ _ hm
  obtain ⟨l1, w1, c1⟩ := open_bs Try.underlying22 Try.underlying5 (by kernel_rfl) (by kernel_rfl) h1 hsz 1 rfl rfl
  clear hA0 hval0 hsz
  refine (walk a0 len0 cap0 l0 a1 len1 cap1 l1 W w0 c0 w1 c1).mono fun e W' ⟨he, bel⟩ => ?_
  subst he
  exact ⟨_, rfl, _, _, _, [], _, [], hW', trodAll_mk1 (shut_bool Try.underlying4 _), (trodAll_cons_mk (Below.trod laidOut (by kernel_rfl) (of_decide_eq_true (by kernel_rfl)) k0 bel lt0) (trodAll_cons_mk (Below.trod laidOut (by kernel_rfl) (of_decide_eq_true (by kernel_rfl)) k1 bel lt1) trodAll_mk0)), rfl, bel.frame _, fun h => by cases h⟩

theorem proved : Rows.SumsJoinSaid :=
  OpenClaim.holds_of_wide 6 Try.f6 rfl rfl rfl rfl rfl rfl rfl ⟨rfl, rfl, rfl, rfl, rfl⟩ rfl rfl rfl rfl rfl (by kernel_rfl) Try.func6 (by kernel_rfl)
    (of_decide_eq_true (by kernel_rfl)) (by unfold Func.isWrapper; first | (rw [if_pos (by decide +kernel)]; kernel_rfl) | (rw [if_neg (by decide +kernel)]; exact ⟨rfl, rfl⟩))
    (fun os started H enc _ => lifted os started H enc)
#print axioms proved
end Go.Proofs.Ytpehficaadckgaa.SumsJoin
