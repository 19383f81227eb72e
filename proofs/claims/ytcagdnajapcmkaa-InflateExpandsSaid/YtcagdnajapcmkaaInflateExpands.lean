/- For any tokens (of at most 2000, as the law itself asks) and any most bytes: Expand answers what the document says that they come to, or the error's number that comes first, and the tokens are left as they were. No conditions. -/
import Derived.Test.YtcagdnajapcmkaaRows
import Derived.Test.YtcagdnajapcmkaaOpen
import Derived.Test.YtcagdnajapcmkaaExpand06
import Derived.Test.YtcagdnajapcmkaaRefExp06
import Derived.Test.YtcagdnajapcmkaaTokSame
import Derived.Test.YtcagdnajapcmkaaNumSame
import Derived.Test.YtcagdnajapcmkaaOpenToks
namespace Go.Proofs.Ytcagdnajapcmkaa.InflateExpands
open Go.ChangeShapes Go.WideShapes Go.ChangeAt Go.RowKit
open Go.ChangeMaps (open_string shut_string)
set_option linter.unusedVariables false
theorem own : ownKnob Try.prog.godebug = none := by kernel_rfl
theorem laidOut : laidOutB Try.prog = true := by kernel_rfl
theorem own_toks0 (w : World) (B : Nat) (hB : B ≤ w.heap.size) : (w.alloc (.cells #[] 49)).ownsRow B 49 2 (.slice (some ⟨w.heap.size, 0, none⟩) 0 0) 0 (tks []) :=
  ⟨rfl, .inr ⟨w.heap.size, 0, #[], rfl, hB, heap_alloc_last w _, Nat.le_refl _, by unfold maxLen; omega, rfl, rfl⟩⟩
theorem ex_toks (w : World) : Ts2 (w.alloc (.cells #[.int .i64 0, .int .i64 7, .int .i64 3, .int .i64 1] 49)) (some ⟨w.heap.size, 0, none⟩) 2 2 [(0, 7), (3, 1)] := by
  have hrow : (w.alloc (.cells #[.int .i64 0, .int .i64 7, .int .i64 3, .int .i64 1] 49)).heap[w.heap.size]? = some (.cells #[.int .i64 0, .int .i64 7, .int .i64 3, .int .i64 1] 49 (0, 0)) := heap_alloc_last w _
  refine ⟨rfl, Nat.le_refl _, fun e => by simp at e, fun i hi => ⟨w.heap.size, 0, rfl, by simp, ?_⟩, fun i hi => ?_⟩
  · rw [Nat.zero_add, cell_of_row _ _ _ _ _ (0, 0) hrow, cell_of_row _ _ _ _ _ (0, 0) hrow]
    match i, hi with
    | 0, _ => exact ⟨rfl, rfl⟩
    | 1, _ => exact ⟨rfl, rfl⟩
    | i + 2, h => omega
  · match i, hi with
    | 0, _ => exact ⟨rfl, rfl⟩
    | 1, _ => exact ⟨rfl, rfl⟩
    | i + 2, h => omega
theorem ex_exp : Tk.exp 4 [(0, 7), (3, 1)] = (0, [7, 7, 7, 7]) := by decide +kernel
theorem wf_at {l : List Tok} {n : Nat} (h : ∀ i, i < n → (Lit.int .i64 (l.getD i (0, 0)).1).wf = true ∧ (Lit.int .i64 (l.getD i (0, 0)).2).wf = true) : ∀ i, i < n → (Lit.int .i64 (l.getD i (0, 0)).1).wf = true ∧ (Lit.int .i64 (l.getD i (0, 0)).2).wf = true := h
theorem add_err (n : Nat) (l : List UInt8) (t : Tok) (h : (Tk.add n l t).1 ≠ 0) : (Tk.add n l t).2 = [] := by
  unfold Tk.add at *
  split
  · rfl
  split
  · rfl
  · rename_i h1 h2
    rw [if_neg h1, if_neg h2] at h
    exact absurd rfl h
theorem upto_nil (n : Nat) (ts : List Tok) : ∀ k, (Tk.upto n ts k).1 ≠ 0 → (Tk.upto n ts k).2 = []
  | 0, h => absurd rfl h
  | k + 1, h => by
    rw [Tk.upto] at h ⊢
    split at h
    · rename_i h0
      rw [if_pos h0]
      unfold Tk.stp at *
      split at h
      · rename_i h1; rw [if_pos h1]; exact add_err _ _ _ h
      · rename_i h1; rw [if_neg h1]
    · rename_i h0
      rw [if_neg h0]; exact upto_nil n ts k h
theorem exp_nil (m : Int) (ts : List Tok) (h : (Tk.exp m ts).1 ≠ 0) : (Tk.exp m ts).2 = [] := by
  unfold Tk.exp at *
  split
  · rename_i h0; rw [if_pos h0] at h; exact upto_nil _ _ _ h
  · rfl
theorem upto_small (n : Nat) (hn : n ≤ 4194304) (ts : List Tok) : (Tk.upto n ts ts.length).2.length ≤ 4194304 := by
  by_cases h : (Tk.upto n ts ts.length).1 = 0
  · have := Tk.upto_le n ts ts.length (Tk.upto n ts ts.length).2 (by rw [← h])
    omega
  · rw [upto_nil n ts _ h]; simp
theorem exp_small (m : Int) (ts : List Tok) : (Tk.exp m ts).2.length ≤ 4194304 := by
  unfold Tk.exp
  split
  · exact upto_small _ (by omega) _
  · simp
set_option maxRecDepth 100000 in
set_option maxHeartbeats 4000000 in
theorem walk (a : Option Addr) (len cap : Nat) (l : List Tok) (m : Int) (w : World) (h : Ts2 w a len cap l) (hr : cap * 16 ≤ 140737488351232) (hw : (Lit.int .i64 m).wf = true) :
    Calls Try.prog 4 #[.slice a len cap, .int .i64 m] w fun e w' => e = .returned (.bool true) ∧ Below w.heap.size w w' := by
  have hle := h.hle
  have HL := Lib.hid h.hlen
  have H := Lib.hid h
  have HEX := Lib.hid (ex_toks w)
  have HB1 := Lib.hid (below_alloc w (.cells #[.int .i64 0, .int .i64 7, .int .i64 3, .int .i64 1] 49))
  clear h hw
  go_enter Try.func4, Try.ntmps4
  go_wp2_with fail
  refine (expand_any _ 2 2 [(0, 7), (3, 1)] 4 _ HEX.out (by omega)).mono ?_
  rintro e w2 ⟨hb2, hpost⟩
  rw [ex_exp] at hpost
  rcases hpost with ⟨h0, _⟩ | ⟨_, v2, rfl, own2⟩
  · exact absurd rfl h0
  have own2' : w2.ownsRow (w.alloc (.cells #[.int .i64 0, .int .i64 7, .int .i64 3, .int .i64 1] 49)).heap.size 5 1 v2 4 (bvs [7, 7, 7, 7]) := own2
  obtain ⟨a2, c2, rfl, hbs2⟩ := own_bs own2' (by omega)
  have hcv := conv_bs (P := Try.prog) hbs2 27 9 5 Try.underlying27 Try.underlying5 Try.underlying9
  have HB2 := Lib.hid (below_then HB1.out hb2)
  have hst : str [7, 7, 7, 7] = { data := #[7, 7, 7, 7] } := rfl
  rw [hst] at hcv
  clear own2 own2' hbs2 hb2 hst
  by_cases hbig : 2000 < len
  · have d1 : decide ((2000 : Int) < ↑len) = true := by simp; omega
    go_wp2
    go_ret
    exact ⟨rfl, HB2.out⟩
  have d1 : decide ((2000 : Int) < ↑len) = false := by simp; omega
  have OW := Lib.hid (own_toks0 w2 w.heap.size HB2.out.size)
  have HB3 := Lib.hid (below_then HB2.out (below_alloc w2 (.cells #[] 49)))
  have SRC := Lib.hid ((H.out.mono HB2.out).src.mono (below_alloc w2 (.cells #[] 49)))
  have HZ := HB3.out.size
  go_wp2_with (at_builtin; refine wpl_append tyT rfl _ _ rfl OW.out SRC.out rfl rfl (by omega) (by omega) HZ ?_)
  intro v4 w4 own4 hg4 _
  try rw [← tks_append, List.nil_append] at own4
  try rw [Nat.zero_add] at own4
  have HB4 : Hid (Below w.heap.size w w4) := Lib.hid (HB3.out.grown hg4 HZ (fun q hq => (OW.out.lt q hq).1))
  obtain ⟨a4, c4, rfl, ht4⟩ := own_ts2 own4 H.out.wf
  have HT4 := Lib.hid ht4
  clear own4 hg4 ht4 OW SRC HB3 HZ hcv
  go_wp2_with fail
  refine (expand_any a4 len c4 l m w4 HT4.out (by omega)).mono ?_
  rintro e w5 ⟨hb5, hpost⟩
  have HB5 := Lib.hid (below_then HB4.out hb5)
  have HT5 := Lib.hid (HT4.out.mono hb5)
  clear hb5 HT4
  have hnil := exp_nil m l
  have hsm := exp_small m l
  obtain ⟨⟨n, r⟩, hr2⟩ : ∃ r, Tk.exp m l = r := ⟨_, rfl⟩
  rw [hr2] at hpost hnil hsm
  have HR := Lib.hid hr2
  clear hr2
  dsimp only at hpost hnil hsm
  rcases hpost with ⟨hn, rfl⟩ | ⟨rfl, v5, rfl, own5⟩
  · obtain rfl := hnil hn
    have hn0 : (n == 0) = false := by simpa using hn
    have HN0 := Lib.hid hn0
    clear hn0
    go_wp2_with fail
    refine (refExpand_any a len cap l m w5 (H.out.mono HB5.out) (by omega)).mono ?_
    rw [HR.out]
    rintro e w6 ⟨hb6, v6, rfl, own6⟩
    obtain ⟨a6, c6, rfl, hbs6⟩ := own_bs own6 (by simp)
    have HBS6 := Lib.hid hbs6
    have HB6 := Lib.hid (below_then HB5.out hb6)
    have HT6 := Lib.hid (HT5.out.mono hb6)
    clear own6 hbs6 hb6 HB5 HT5
    go_wp2_with fail
    refine (same_any none a6 0 0 0 c6 [] [] w6 (bs_nil w6) HBS6.out).mono ?_
    rintro e w' ⟨rfl, rfl⟩
    go_wp2_with fail
    refine (num_err n HN0.out w6).mono ?_
    rintro e w' ⟨rfl, rfl⟩
    have dnn : (n == n) = true := by simp
    go_wp2_with fail
    refine (tokens_any a4 a len c4 cap l w6 HT6.out (H.out.mono HB6.out) (by omega)).mono ?_
    rintro e w7 ⟨rfl, dn, rfl⟩
    go_wp2
    go_ret
    exact ⟨rfl, HB6.out.trans ((dn_is w6 dn).mono HB6.out.size)⟩
  · obtain ⟨a5, c5, rfl, hbs5⟩ := own_bs own5 (by omega)
    have HBS5 := Lib.hid hbs5
    clear own5 hbs5 hnil
    go_wp2_with fail
    refine (refExpand_any a len cap l m w5 (H.out.mono HB5.out) (by omega)).mono ?_
    rw [HR.out]
    rintro e w6 ⟨hb6, v6, rfl, own6⟩
    obtain ⟨a6, c6, rfl, hbs6⟩ := own_bs own6 (by dsimp only; omega)
    have HBS6 := Lib.hid hbs6
    have HBS5b := Lib.hid (HBS5.out.mono hb6)
    have HB6 := Lib.hid (below_then HB5.out hb6)
    have HT6 := Lib.hid (HT5.out.mono hb6)
    clear own6 hbs6 hb6 HB5 HT5 HBS5
    go_wp2_with fail
    refine (same_any a5 a6 _ c5 _ c6 r r w6 HBS5b.out HBS6.out).mono ?_
    rintro e w' ⟨rfl, rfl⟩
    rw [show (r == r) = true by simp]
    go_wp2_with fail
    refine (num_nil w6).mono ?_
    rintro e w' ⟨rfl, rfl⟩
    go_wp2_with fail
    refine (tokens_any a4 a len c4 cap l w6 HT6.out (H.out.mono HB6.out) (by omega)).mono ?_
    rintro e w7 ⟨rfl, dn, rfl⟩
    go_wp2
    go_ret
    exact ⟨rfl, HB6.out.trans ((dn_is w6 dn).mono HB6.out.size)⟩
set_option maxRecDepth 100000 in
theorem lifted (os : Os) (started : os.Started) (H : Type) (enc : TypeId × Value → H) :
    ReturnsInHanded {} Try.checked os 4 .any (Rows.inflateExpandsSpec.pre6 enc Try.prog Try.f4 Rows.inflateExpandsRow.domain false) (Rows.inflateExpandsSpec.post enc Try.prog Try.f4 false true false false) := by
  refine returnsInHanded_of_change_sized (C := Try.checked) own started (by kernel_rfl) Try.func4
    (ChangeSpec.witness6 (enc := enc) (C := Try.checked) false ⟨#[], #[.slice none 0 0, .int .i64 0], []⟩ 8 (by kernel_rfl) (by kernel_rfl) (by kernel_rfl) (by kernel_rfl)) ?_
  intro W base args ds gs before hval0 hW _ hsz0 _
  have hval : ∀ (j : Nat) t v, Try.f4.params[j]? = some t → args[j]? = some v → Value.okWide Try.prog W .any base t v := hval0
  have hsz : (DataW.weightsEach Try.prog (Try.f4.params.toList ++ Rows.inflateExpandsSpec.plain.varTypes Try.prog) (ds ++ gs)).all (· ≤ reachBytes) = true := hsz0
  have hW' := hW
  obtain ⟨p, q, hA0, hV, rfl, hfz, hnd⟩ := hW
  have hA : DataW.TrodAll enc Try.prog W 0 (fun _ => true) true Try.f4.params.toList args.toList ds p := hA0
  rw [Try.params4] at hA hval hsz
  obtain ⟨v0, vs0, d0, ds0, p0, q0, hargs, rfl, rfl, h0, r0⟩ := trodAll_cons hA
  obtain ⟨v1, vs1, d1, ds1, p1, q1, rfl, rfl, rfl, h1, r1⟩ := trodAll_cons r0
  obtain ⟨rfl, rfl, rfl⟩ := trodAll_nil r1
  obtain rfl : args = #[v0, v1] := by cases args; simp_all
  obtain ⟨rfl, rfl⟩ := trodVars_none hV
  clear hsz0
  obtain ⟨a0, len0, cap0, rfl⟩ := okWide_slice Try.underlying45 (hval 0 45 v0 rfl rfl)
  have k0 := h0
  have lt0 : ∀ x ∈ p0, x.block < W.heap.size := by obtain ⟨m, hm⟩ := k0; exact DataW.trod_lt m _ _ _ hm
  obtain ⟨l0, w0, c0⟩ := open_toks Try.underlying45 Try.underlying49 Try.underlying3 Try.underlying3 (by kernel_rfl) (by kernel_rfl) rfl rfl (by kernel_rfl) (by kernel_rfl) h0 hsz 0 rfl rfl
  obtain ⟨a1, rfl, rfl, rfl, w1⟩ := open_int Try.underlying3 (hval 1 3 v1 rfl rfl) h1
  clear hA0 hval0 hsz
  refine (walk a0 len0 cap0 l0 a1 W w0 c0 w1).mono fun e W' ⟨he, bel⟩ => ?_
  subst he
  exact ⟨_, rfl, _, _, _, [], _, [], hW', trodAll_mk1 (shut_bool Try.underlying4 _), (trodAll_cons_mk (Below.trod laidOut (by kernel_rfl) (of_decide_eq_true (by kernel_rfl)) k0 bel lt0) (trodAll_cons_mk (shut_int Try.underlying3 w1) trodAll_mk0)), rfl, bel.frame _, fun h => by cases h⟩

theorem proved : Rows.InflateExpandsSaid :=
  OpenClaim.holds_of_wide 4 Try.f4 rfl rfl rfl rfl rfl rfl rfl ⟨rfl, rfl, rfl, rfl, rfl⟩ rfl rfl rfl rfl rfl (by kernel_rfl) Try.func4 (by kernel_rfl)
    (of_decide_eq_true (by kernel_rfl)) (by unfold Func.isWrapper; first | (rw [if_pos (by decide +kernel)]; kernel_rfl) | (rw [if_neg (by decide +kernel)]; exact ⟨rfl, rfl⟩))
    (fun os started H enc _ => lifted os started H enc)
#print axioms proved
end Go.Proofs.Ytcagdnajapcmkaa.InflateExpands
