/- For every text, sums.Adler of it is the document's Adler sum, the fixed example holds, and the text is left as it was. No conditions. -/
import Derived.Test.YtpehficaadckgaaRows
import Derived.Test.YtpehficaadckgaaOpen
import Derived.Test.YtpehficaadckgaaRef01b
import Derived.Test.YtpehficaadckgaaSumsAdlerOf
import Derived.Test.YtpehficaadckgaaNum
namespace Go.Proofs.Ytpehficaadckgaa.SumsAdler
open Go.ChangeShapes Go.WideShapes Go.ChangeAt Go.RowKit
open Go.ChangeMaps (open_string shut_string)
set_option linter.unusedVariables false
theorem own : ownKnob Try.prog.godebug = none := by kernel_rfl
theorem laidOut : laidOutB Try.prog = true := by kernel_rfl
def wiki : List UInt8 := [87, 105, 107, 105, 112, 101, 100, 105, 97]
theorem wiki_adler : (Ad.adler wiki : Int) = 300286872 := by decide +kernel
theorem adler_of (v : Int) (a : Option Addr) (len cap : Nat) (ps : List Sl) (w : World) (h : Parts w a len cap ps) (hv : (Ad.adler (flat ps) : Int) = v) :
    Calls Try.prog 13 #[.slice a len cap] w fun e w' => e = .returned (.int .i64 v) ∧ Below w.heap.size w w' := by
  subst hv
  exact adler_any a len cap ps w h
theorem walk (a : Option Addr) (len cap : Nat) (l : List UInt8) (w : World) (h : Bs w a len cap l) (hr : cap ≤ 140737488351232) :
    Calls Try.prog 4 #[.slice a len cap] w fun e w' => e = .returned (.bool true) ∧ Below w.heap.size w w' := by
  have hle := h.hle
  have HL := Lib.hid h.hlen
  have kc := fun (w : World) (C : Array Value) (n c : Nat) => Lib.run_convert_bytes_const (P := Try.prog) w 22 5 C n c Try.underlying22 Try.underlying5
  go_enter Try.func4, Try.ntmps4
  go_wp2_with fail
  refine (copy_any _ _ _ l _ h (by omega)).mono ?_
  rintro e w1 ⟨g, rfl, hown, hb1⟩
  go_wp2_with fail
  refine (adler_of 300286872 _ _ _ [⟨some ⟨w1.heap.size, 0, none⟩, 9, 9, wiki⟩] _ (parts_new _ _ (by simp) _ 22 1 rfl (by omega) _ rfl ?_) (by rw [flat_one]; exact wiki_adler)).mono ?_
  · intro s hs
    simp only [List.mem_singleton] at hs
    subst hs
    exact bs_new w1 _ rfl wiki 5 _ 9 rfl (by omega) _ rfl
  rintro e w2 ⟨rfl, hb2⟩
  have hown2 := own_below hown (below_then (below_alloc2 _ _ _) hb2)
  have hb2 := below_then hb1 (below_then (below_alloc2 _ _ _) hb2)
  clear hown hb1
  have hm := bs_of_own hown2 (by omega) len (by omega)
  rw [List.take_append_of_le_length (by rw [HL.out]; exact Nat.le_refl _), List.take_of_length_le (by rw [HL.out]; exact Nat.le_refl _)] at hm
  go_wp2_with fail
  refine (adler_of (Ad.adler l) _ _ _ [⟨some ⟨g, 0, none⟩, len, len + 2, l⟩] _ (parts_new _ _ (by simp) _ 22 1 rfl (by omega) _ rfl ?_) (by rw [flat_one])).mono ?_
  · intro s hs
    simp only [List.mem_singleton] at hs
    subst hs
    exact hm
  rintro e w3 ⟨rfl, hb3⟩
  have hown3 := own_below hown2 (below_then (below_alloc _ _) hb3)
  have hb3 := below_then hb2 (below_then (below_alloc _ _) hb3)
  clear hown2 hb2 hm
  go_wp2_with fail
  refine (refAdler_any _ _ _ l _ (h.mono hb3)).mono ?_
  rintro e w4 ⟨rfl, rfl⟩
  go_wp2_with fail
  refine (kept_any g len _ _ l _ _ (by omega) hown3 (h.mono hb3)).mono ?_
  rintro e w4 ⟨rfl, rfl⟩
  go_wp2_with fail
  go_ret
  exact ⟨rfl, hb3⟩
set_option maxRecDepth 100000 in
theorem lifted (os : Os) (started : os.Started) (H : Type) (enc : TypeId × Value → H) :
    ReturnsInHanded {} Try.checked os 4 .any (Rows.sumsAdlerSpec.pre6 enc Try.prog Try.f4 Rows.sumsAdlerRow.domain false) (Rows.sumsAdlerSpec.post enc Try.prog Try.f4 false true false false) := by
  refine returnsInHanded_of_change_sized (C := Try.checked) own started (by kernel_rfl) Try.func4
    (ChangeSpec.witness6 (enc := enc) (C := Try.checked) false ⟨#[], #[.slice none 0 0], []⟩ 8 (by kernel_rfl) (by kernel_rfl) (by kernel_rfl) (by kernel_rfl)) ?_
  intro W base args ds gs before hval0 hW _ hsz0 _
  have hval : ∀ (j : Nat) t v, Try.f4.params[j]? = some t → args[j]? = some v → Value.okWide Try.prog W .any base t v := hval0
  have hsz : (DataW.weightsEach Try.prog (Try.f4.params.toList ++ Rows.sumsAdlerSpec.plain.varTypes Try.prog) (ds ++ gs)).all (· ≤ reachBytes) = true := hsz0
  have hW' := hW
  obtain ⟨p, q, hA0, hV, rfl, hfz, hnd⟩ := hW
  have hA : DataW.TrodAll enc Try.prog W 0 (fun _ => true) true Try.f4.params.toList args.toList ds p := hA0
  rw [Try.params4] at hA hval hsz
  obtain ⟨v0, vs0, d0, ds0, p0, q0, hargs, rfl, rfl, h0, r0⟩ := trodAll_cons hA
  obtain ⟨rfl, rfl, rfl⟩ := trodAll_nil r0
  obtain rfl : args = #[v0] := by cases args; simp_all
  obtain ⟨rfl, rfl⟩ := trodVars_none hV
  clear hsz0
  obtain ⟨a0, len0, cap0, rfl⟩ := okWide_slice Try.underlying22 (hval 0 22 v0 rfl rfl)
  have k0 := h0
  have lt0 : ∀ x ∈ p0, x.block < W.heap.size := by obtain ⟨m, hm⟩ := k0; exact DataW.trod_lt m _ _ _ hm
  obtain ⟨l0, w0, c0⟩ := open_bs Try.underlying22 Try.underlying5 (by kernel_rfl) (by kernel_rfl) h0 hsz 0 rfl rfl
  clear hA0 hval0 hsz
  refine (walk a0 len0 cap0 l0 W w0 c0).mono fun e W' ⟨he, bel⟩ => ?_
  subst he
  exact ⟨_, rfl, _, _, _, [], _, [], hW', trodAll_mk1 (shut_bool Try.underlying4 _), (trodAll_cons_mk (Below.trod laidOut (by kernel_rfl) (of_decide_eq_true (by kernel_rfl)) k0 bel lt0) trodAll_mk0), rfl, bel.frame _, fun h => by cases h⟩

theorem proved : Rows.SumsAdlerSaid :=
  OpenClaim.holds_of_wide 4 Try.f4 rfl rfl rfl rfl rfl rfl rfl ⟨rfl, rfl, rfl, rfl, rfl⟩ rfl rfl rfl rfl rfl (by kernel_rfl) Try.func4 (by kernel_rfl)
    (of_decide_eq_true (by kernel_rfl)) (by unfold Func.isWrapper; first | (rw [if_pos (by decide +kernel)]; kernel_rfl) | (rw [if_neg (by decide +kernel)]; exact ⟨rfl, rfl⟩))
    (fun os started H enc _ => lifted os started H enc)
#print axioms proved
end Go.Proofs.Ytpehficaadckgaa.SumsAdler
