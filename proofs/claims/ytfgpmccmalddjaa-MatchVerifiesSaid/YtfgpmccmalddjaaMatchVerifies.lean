/- For all bytes, every place and every token, match.Verify tells whether the token is a match there, as the document's definition does, and two examples come out so; the bytes are left as they were. No conditions but those of the law itself (text of at most 100000 bytes). -/
import Derived.Test.YtfgpmccmalddjaaRows
import Derived.Test.YtfgpmccmalddjaaOpen
import Derived.Test.YtfgpmccmalddjaaMatchVer
import Derived.Test.YtfgpmccmalddjaaTyB
import Derived.Test.YtfgpmccmalddjaaOpenTok
namespace Go.Proofs.Ytfgpmccmalddjaa.MatchVerifies
open Go.ChangeShapes Go.WideShapes Go.ChangeAt Go.RowKit
open Go.ChangeMaps (open_string shut_string)
set_option linter.unusedVariables false
theorem own : ownKnob Try.prog.godebug = none := by kernel_rfl
theorem laidOut : laidOutB Try.prog = true := by kernel_rfl
theorem ver_ex1 : Mt.ver [97, 98, 99, 97, 98, 99] 3 3 3 = true := by decide
theorem ver_ex2 : Mt.ver [97, 98, 99, 97, 98, 100] 3 3 3 = false := by decide
set_option maxRecDepth 100000 in
set_option maxHeartbeats 4000000 in
theorem walk (a : Option Addr) (len cap : Nat) (l : List UInt8) (p n far : Int) (w : World) (h : Bs w a len cap l) (hr : cap ≤ 140737488351232) (hp : (Lit.int .i64 p).wf = true) (hn : (Lit.int .i64 n).wf = true) (hf : (Lit.int .i64 far).wf = true) :
    Calls Try.prog 3 #[.slice a len cap, .int .i64 p, .agg #[.int .i64 n, .int .i64 far]] w fun e w' => e = .returned (.bool true) ∧ Below w.heap.size w w' := by
  have hle := h.hle
  have H := Lib.hid h
  have HP := Lib.hid (And.intro hp (And.intro hn hf))
  have hb0 := below_alloc w (.cells #[.int .i64 n, .int .i64 far] 24)
  have hrow0 : (w.alloc (.cells #[.int .i64 n, .int .i64 far] 24)).heap[w.heap.size]? = some (.cells #[.int .i64 n, .int .i64 far] 24 (0, 0)) := heap_alloc_last w _
  have HR := Lib.hid hrow0
  have HB := Lib.hid hb0
  clear h hp hn hf hb0 hrow0
  have kc := fun (w : World) (C : Array Value) (n c : Nat) => Lib.run_convert_bytes_const (P := Try.prog) w 22 5 C n c Try.underlying22 Try.underlying5
  have kc2 := fun (w : World) (X : Obj) (C : Array Value) (n c : Nat) => (by have := kc (w.alloc X) C n c; rw [World.size_alloc] at this; exact this :
    (convert 22 22 (.slice (some ⟨w.heap.size + 1, 0, none⟩) n c)).run Try.prog ((w.alloc X).alloc (.cells C 5)) = .ok (.slice (some ⟨w.heap.size + 1, 0, none⟩) n c) ((w.alloc X).alloc (.cells C 5 (C.size, C.size + 1))))
  go_enter Try.func3, Try.ntmps3
  go_wp2_with fail
  have hb1 := bs_new (w.alloc (.cells #[.int .i64 n, .int .i64 far] 24)) _ rfl [97, 98, 99, 97, 98, 99] 5 (6, 7) 6 rfl (by omega) _ rfl
  rw [World.size_alloc] at hb1
  refine (verify_any _ _ _ _ 3 3 3 _ hb1 rfl rfl rfl).mono ?_
  rw [ver_ex1]
  rintro e w1 ⟨rfl, hb2⟩
  have HC1 := Lib.hid (below_then (below_alloc _ _) hb2)
  clear hb1 hb2
  go_wp2_with fail
  have hb1 := bs_new w1 _ rfl [97, 98, 99, 97, 98, 100] 5 (6, 7) 6 rfl (by omega) _ rfl
  refine (verify_any _ _ _ _ 3 3 3 _ hb1 rfl rfl rfl).mono ?_
  rw [ver_ex2]
  rintro e w2 ⟨rfl, hb2⟩
  have HC2 := Lib.hid (below_then HC1.out (below_then (below_alloc _ _) hb2))
  have HB2 := Lib.hid (below_then HB.out HC2.out)
  have HR2 := Lib.hid ((HC2.out.block w.heap.size (by simp)).trans HR.out)
  clear hb1 hb2 HB HR HC1 HC2 kc kc2
  by_cases hbig : 100000 < len
  · have d1 : decide ((100000 : Int) < (len : Int)) = true := by simp; omega
    go_wp2
    go_ret
    exact ⟨rfl, HB2.out⟩
  have d1 : decide ((100000 : Int) < (len : Int)) = false := by simp; omega
  have c0 : w2.cell? ⟨w.heap.size, 0, none⟩ = some (.int .i64 n) := by rw [cell_of_row _ _ _ _ _ (0, 0) HR2.out]; rfl
  have c1 : w2.cell? ⟨w.heap.size, 1, none⟩ = some (.int .i64 far) := by rw [cell_of_row _ _ _ _ _ (0, 0) HR2.out]; rfl
  have HV : Hid (∀ w', Below w.heap.size w w' → Calls Try.prog 4 #[.slice a len cap, .int .i64 p, .agg #[.int .i64 n, .int .i64 far]] w' fun e w'' => e = .returned (.bool (Mt.ver l p n far)) ∧ Below w'.heap.size w' w'') := Lib.hid (fun w' hb => verify_any a len cap l p n far w' (H.out.mono hb) HP.out.1 HP.out.2.1 HP.out.2.2)
  have HM : Hid (∀ w', Below w.heap.size w w' → Calls Try.prog 5 #[.slice a len cap, .int .i64 p, .int .i64 n, .int .i64 far] w' fun e w'' => e = .returned (.bool (Mt.ver l p n far)) ∧ Below w'.heap.size w' w'') := Lib.hid (fun w' hb => refMatch_any a len cap l p n far w' (H.out.mono hb) HP.out.1 HP.out.2.1 HP.out.2.2)
  have HD : Hid (∀ m, Below w.heap.size w (w2.drewN m)) := Lib.hid (fun m => below_then HB2.out (dn_below w2 m))
  have HE : ((Mt.ver l p n far) == (Mt.ver l p n far)) = true := by simp
  have HZ : Hid (w.heap.size < w2.heap.size) := Lib.hid (Array.getElem?_eq_some_iff.1 HR2.out).1
  clear hbig
  go_wp2_with fail
  go_region_held3 (fun w' => w'.cell? ⟨w.heap.size, 0, none⟩ = some (.int .i64 n) ∧ w'.cell? ⟨w.heap.size, 1, none⟩ = some (.int .i64 far)) (go_keep)
    (first | (go_at_call 4; refine (HV.out _ (HD.out 1)).mono ?_; rintro e w3 ⟨rfl, hb3⟩; have HB3 := Lib.hid (below_then (HD.out 1) hb3); have e0 := (hb3.cell (p := ⟨w.heap.size, 0, none⟩) HZ.out).trans c0; have e1 := (hb3.cell (p := ⟨w.heap.size, 1, none⟩) HZ.out).trans c1; have HZ3 := Lib.hid (Nat.lt_of_lt_of_le HZ.out hb3.size); clear hb3) | (go_at_call 5; refine (HM.out _ HB3.out).mono ?_; rintro e w4 ⟨rfl, hb4⟩; have HB4 := Lib.hid (below_then HB3.out hb4); have e2 := (hb4.cell (p := ⟨w.heap.size, 0, none⟩) HZ3.out).trans e0; have e3 := (hb4.cell (p := ⟨w.heap.size, 1, none⟩) HZ3.out).trans e1; clear hb4))
  go_wp2
  go_ret
  exact ⟨rfl, HB4.out⟩
set_option maxRecDepth 100000 in
theorem lifted (os : Os) (started : os.Started) (H : Type) (enc : TypeId × Value → H) :
    ReturnsInHanded {} Try.checked os 3 .any (Rows.matchVerifiesSpec.pre6 enc Try.prog Try.f3 Rows.matchVerifiesRow.domain false) (Rows.matchVerifiesSpec.post enc Try.prog Try.f3 false true false false) := by
  refine returnsInHanded_of_change_sized (C := Try.checked) own started (by kernel_rfl) Try.func3
    (ChangeSpec.witness6 (enc := enc) (C := Try.checked) false ⟨#[], #[.slice none 0 0, .int .i64 0, .agg #[.int .i64 0, .int .i64 0]], []⟩ 8 (by kernel_rfl) (by kernel_rfl) (by kernel_rfl) (by kernel_rfl)) ?_
  intro W base args ds gs before hval0 hW _ hsz0 _
  have hval : ∀ (j : Nat) t v, Try.f3.params[j]? = some t → args[j]? = some v → Value.okWide Try.prog W .any base t v := hval0
  have hsz : (DataW.weightsEach Try.prog (Try.f3.params.toList ++ Rows.matchVerifiesSpec.plain.varTypes Try.prog) (ds ++ gs)).all (· ≤ reachBytes) = true := hsz0
  have hW' := hW
  obtain ⟨p, q, hA0, hV, rfl, hfz, hnd⟩ := hW
  have hA : DataW.TrodAll enc Try.prog W 0 (fun _ => true) true Try.f3.params.toList args.toList ds p := hA0
  rw [Try.params3] at hA hval hsz
  obtain ⟨v0, vs0, d0, ds0, p0, q0, hargs, rfl, rfl, h0, r0⟩ := trodAll_cons hA
  obtain ⟨v1, vs1, d1, ds1, p1, q1, rfl, rfl, rfl, h1, r1⟩ := trodAll_cons r0
  obtain ⟨v2, vs2, d2, ds2, p2, q2, rfl, rfl, rfl, h2, r2⟩ := trodAll_cons r1
  obtain ⟨rfl, rfl, rfl⟩ := trodAll_nil r2
  obtain rfl : args = #[v0, v1, v2] := by cases args; simp_all
  obtain ⟨rfl, rfl⟩ := trodVars_none hV
  clear hsz0
  obtain ⟨a0, len0, cap0, rfl⟩ := okWide_slice Try.underlying22 (hval 0 22 v0 rfl rfl)
  have k0 := h0
  have lt0 : ∀ x ∈ p0, x.block < W.heap.size := by obtain ⟨m, hm⟩ := k0; exact DataW.trod_lt m _ _ _ hm
  obtain ⟨l0, w0, c0⟩ := open_bs Try.underlying22 Try.underlying5 (by kernel_rfl) (by kernel_rfl) h0 hsz 0 rfl rfl
  obtain ⟨a1, rfl, rfl, rfl, w1⟩ := open_int Try.underlying3 (hval 1 3 v1 rfl rfl) h1
  have k2 := h2
  have lt2 : ∀ x ∈ p2, x.block < W.heap.size := by obtain ⟨m, hm⟩ := k2; exact DataW.trod_lt m _ _ _ hm
  obtain ⟨x2, y2, rfl, w2, z2⟩ := open_tok Try.underlying24 (by kernel_rfl) Try.underlying3 Try.underlying3 (by kernel_rfl) (by kernel_rfl) rfl rfl (hval 2 24 v2 rfl rfl) h2
  clear hA0 hval0 hsz
  refine (walk a0 len0 cap0 l0 a1 x2 y2 W w0 c0 w1 w2 z2).mono fun e W' ⟨he, bel⟩ => ?_
  subst he
  exact ⟨_, rfl, _, _, _, [], _, [], hW', trodAll_mk1 (shut_bool Try.underlying4 _), (trodAll_cons_mk (Below.trod laidOut (by kernel_rfl) (of_decide_eq_true (by kernel_rfl)) k0 bel lt0) (trodAll_cons_mk (shut_int Try.underlying3 w1) (trodAll_cons_mk (Below.trod laidOut (by kernel_rfl) (of_decide_eq_true (by kernel_rfl)) k2 bel lt2) trodAll_mk0))), rfl, bel.frame _, fun h => by cases h⟩

theorem proved : Rows.MatchVerifiesSaid :=
  OpenClaim.holds_of_wide 3 Try.f3 rfl rfl rfl rfl rfl rfl rfl ⟨rfl, rfl, rfl, rfl, rfl⟩ rfl rfl rfl rfl rfl (by kernel_rfl) Try.func3 (by kernel_rfl)
    (of_decide_eq_true (by kernel_rfl)) (by unfold Func.isWrapper; first | (rw [if_pos (by decide +kernel)]; kernel_rfl) | (rw [if_neg (by decide +kernel)]; exact ⟨rfl, rfl⟩))
    (fun os started H enc _ => lifted os started H enc)
#print axioms proved
end Go.Proofs.Ytfgpmccmalddjaa.MatchVerifies
