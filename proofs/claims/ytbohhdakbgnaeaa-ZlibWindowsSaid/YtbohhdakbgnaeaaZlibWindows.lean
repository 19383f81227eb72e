/- For any tokens (of at most 5000, as the law itself asks): Window answers the least power of two from 2^8 to 2^15 that no distance of a match exceeds (2^15 where one does), and of no tokens 2^8. No conditions. -/
import Derived.Test.YtbohhdakbgnaeaaRows
import Derived.Test.YtbohhdakbgnaeaaOpen
import Derived.Test.YtbohhdakbgnaeaaZlWin
import Derived.Test.YtbohhdakbgnaeaaOpenToks
namespace Go.Proofs.Ytbohhdakbgnaeaa.ZlibWindows
open Go.ChangeShapes Go.WideShapes Go.ChangeAt Go.RowKit
open Go.ChangeMaps (open_string shut_string)
set_option linter.unusedVariables false
theorem own : ownKnob Try.prog.godebug = none := by kernel_rfl
theorem laidOut : laidOutB Try.prog = true := by kernel_rfl
theorem bs_nil2 (w : World) : Ts2 w none 0 0 [] := ⟨rfl, Nat.le_refl _, fun _ => rfl, fun i hi => absurd hi (by omega), fun i hi => absurd hi (by omega)⟩
theorem win_nil {j : Nat} (h : Zl.Win [] j) : j = 0 := by
  obtain ⟨_, h2, _⟩ := h
  by_cases h0 : j = 0
  · exact h0
  · have := h2 0 (by omega)
    cases this
/-- The farthest distance so far. -/
def Far (l : List Tok) (j : Nat) (v : Int) : Prop :=
  0 ≤ v ∧ (∀ k, k < j → 0 < (l.getD k (0, 0)).1 → (l.getD k (0, 0)).2 ≤ v) ∧ (v = 0 ∨ ∃ k, k < j ∧ 0 < (l.getD k (0, 0)).1 ∧ (l.getD k (0, 0)).2 = v)
theorem far_zero (l : List Tok) : Far l 0 0 := ⟨by omega, fun k hk => absurd hk (by omega), .inl rfl⟩
theorem far_skip {l : List Tok} {j : Nat} {v : Int} (h : Far l j v) (x : ¬ 0 < (l.getD j (0, 0)).1) : Far l (j + 1) v := by
  obtain ⟨h0, h1, h2⟩ := h
  refine ⟨h0, fun k hk hp => ?_, ?_⟩
  · by_cases hkj : k < j
    · exact h1 k hkj hp
    · obtain rfl : k = j := by omega
      exact absurd hp x
  · rcases h2 with h2 | ⟨k, hk, hp⟩
    · exact .inl h2
    · exact .inr ⟨k, by omega, hp⟩
theorem far_low {l : List Tok} {j : Nat} {v : Int} (h : Far l j v) (hy : (l.getD j (0, 0)).2 ≤ v) : Far l (j + 1) v := by
  obtain ⟨h0, h1, h2⟩ := h
  refine ⟨h0, fun k hk hp => ?_, ?_⟩
  · by_cases hkj : k < j
    · exact h1 k hkj hp
    · obtain rfl : k = j := by omega
      exact hy
  · rcases h2 with h2 | ⟨k, hk, hp⟩
    · exact .inl h2
    · exact .inr ⟨k, by omega, hp⟩
theorem far_new {l : List Tok} {j : Nat} {v : Int} (h : Far l j v) (x : 0 < (l.getD j (0, 0)).1) (hy : v ≤ (l.getD j (0, 0)).2) : Far l (j + 1) (l.getD j (0, 0)).2 := by
  obtain ⟨h0, h1, h2⟩ := h
  refine ⟨by omega, fun k hk hp => ?_, .inr ⟨j, by omega, x, rfl⟩⟩
  by_cases hkj : k < j
  · have := h1 k hkj hp; omega
  · obtain rfl : k = j := by omega
    exact Int.le_refl _
theorem far_le {l : List Tok} {v : Int} {n : Nat} (h : Far l l.length v) (hb : Zl.bey (n : Int) l = false) : v ≤ n := by
  rcases h.2.2 with h2 | ⟨k, hk, hp, hv⟩
  · omega
  · unfold Zl.bey at hb
    rw [List.any_eq_false] at hb
    have := hb _ (List.getElem_mem hk)
    rw [List.getD, List.getElem?_eq_getElem hk] at hp hv
    simp only [Option.getD_some] at hp hv
    simp [Zl.far, hp] at this
    omega
theorem far_gt {l : List Tok} {v : Int} {n : Nat} (h : Far l l.length v) (hb : Zl.bey (n : Int) l = true) : (n : Int) < v := by
  unfold Zl.bey at hb
  rw [List.any_eq_true] at hb
  obtain ⟨t, ht, hf⟩ := hb
  obtain ⟨i, hi, rfl⟩ := List.getElem_of_mem ht
  simp [Zl.far] at hf
  have := h.2.1 i hi (by rw [List.getD, List.getElem?_eq_getElem hi]; exact hf.1)
  rw [List.getD, List.getElem?_eq_getElem hi] at this
  simp only [Option.getD_some] at this
  omega
/-- What the window and the farthest distance have to do with each other. -/
theorem win_far {l : List Tok} {j : Nat} {v : Int} (h : Zl.Win l j) (hv : Far l l.length v) : (j = 7 ∨ v ≤ ((256 * 2 ^ j : Nat) : Int)) ∧ (j = 0 ∨ ((256 * 2 ^ (j - 1) : Nat) : Int) < v) := by
  obtain ⟨h1, h2, h3⟩ := h
  refine ⟨?_, ?_⟩
  · rcases h3 with h3 | h3
    · exact .inl h3
    · exact .inr (far_le hv h3)
  · by_cases h0 : j = 0
    · exact .inl h0
    · exact .inr (far_gt hv (h2 (j - 1) (by omega)))
theorem wf_toks {w : World} {a : Option Addr} {len cap : Nat} {l : List Tok} (h : Ts2 w a len cap l) (j : Nat) (hj : j < len) : -9223372036854775808 ≤ (l.getD j (0, 0)).1 ∧ (l.getD j (0, 0)).1 ≤ 9223372036854775807 ∧ -9223372036854775808 ≤ (l.getD j (0, 0)).2 ∧ (l.getD j (0, 0)).2 ≤ 9223372036854775807 := by
  have := h.wf j hj
  have h1 : -9223372036854775808 ≤ (l.getD j (0, 0)).1 ∧ (l.getD j (0, 0)).1 ≤ 9223372036854775807 := by simpa [Lit.wf, IntKind.min, IntKind.max, IntKind.signed, IntKind.bits] using this.1
  have h2 : -9223372036854775808 ≤ (l.getD j (0, 0)).2 ∧ (l.getD j (0, 0)).2 ≤ 9223372036854775807 := by simpa [Lit.wf, IntKind.min, IntKind.max, IntKind.signed, IntKind.bits] using this.2
  exact ⟨h1.1, h1.2, h2⟩
set_option maxRecDepth 100000 in
set_option maxHeartbeats 4000000 in
theorem walk (a : Option Addr) (len cap : Nat) (l : List Tok) (w : World) (h : Ts2 w a len cap l) (hr : cap * 16 ≤ 140737488351232) :
    Calls Try.prog 4 #[.slice a len cap] w fun e w' => e = .returned (.bool true) ∧ Below w.heap.size w w' := by
  have HL := Lib.hid h.hlen
  have hle := h.hle
  have H := Lib.hid h
  clear h hr
  go_enter Try.func4, Try.ntmps4
  go_wp2_with fail
  refine (window_any none 0 0 [] w (bs_nil2 w) (by omega)).mono ?_
  rintro e w1 ⟨⟨j, hj, rfl⟩, hb1⟩
  obtain rfl := win_nil hj
  have HB1 := Lib.hid hb1
  clear hj hb1
  by_cases hbig : 5000 < len
  · have d1 : decide ((5000 : Int) < (len : Int)) = true := by simp; omega
    go_wp2_with fail
    refine (window_any none 0 0 [] w1 (bs_nil2 w1) (by omega)).mono ?_
    rintro e w2 ⟨⟨j, hj, rfl⟩, hb2⟩
    obtain rfl := win_nil hj
    have HB2 := Lib.hid (below_then HB1.out hb2)
    clear hj hb2
    go_wp2
    go_ret
    exact ⟨rfl, HB2.out⟩
  have d1 : decide ((5000 : Int) < (len : Int)) = false := by simp; omega
  go_wp2_with fail
  refine (window_any a len cap l w1 (H.out.mono HB1.out) (by omega)).mono ?_
  rintro e w2 ⟨⟨j, hj, rfl⟩, hb2⟩
  have HJ := Lib.hid hj
  have HB2 := Lib.hid (below_then HB1.out hb2)
  have hj7 := hj.1
  obtain ⟨n, hn⟩ : ∃ n : Nat, n = 256 * 2 ^ j := ⟨_, rfl⟩
  rw [← hn]
  have HN := Lib.hid hn
  have hn3 : n ≤ 32768 := by rw [hn]; exact Zl.pow_le j hj7
  have HN3 := Lib.hid (And.intro hn3 hj7)
  clear hj hb2 hn hn3 hj7
  go_wp2
  go_loopw [4, 20] (fun v i wr => ∃ (q : Nat) (x : Int), q ≤ len ∧ i = .int .i64 q ∧ v = .int .i64 x ∧ Hid (Far l q x ∧ Below w.heap.size w wr)) (fun _ i _ => len - (intOf i).toNat)
  case atStart => exact ⟨0, 0, by omega, rfl, rfl, Lib.hid ⟨far_zero l, HB2.out⟩⟩
  case round =>
    obtain ⟨q, x, hq, rfl, rfl, HX⟩ := hrel
    by_cases hql : q < len
    · obtain ⟨b, off, rfl, hb, c0, c1⟩ := (H.out.mono HX.out.2).at' q hql
      have hwf := wf_toks H.out q hql
      have HF := HX.out.1
      have HB3 := Lib.hid (HX.out.2.alloc HX.out.2.size (.cells #[.int .i64 (l.getD q (0, 0)).1, .int .i64 (l.getD q (0, 0)).2] 39))
      have HFS := Lib.hid (fun (x1 : ¬ 0 < (l.getD q (0, 0)).1) => far_skip HF x1)
      have HFL := Lib.hid (fun (x1 : (l.getD q (0, 0)).2 ≤ x) => far_low HF x1)
      have HFN := Lib.hid (fun (x0 : 0 < (l.getD q (0, 0)).1) (x1 : x ≤ (l.getD q (0, 0)).2) => far_new HF x0 x1)
      clear HF
      generalize (l.getD q (0, 0)).1 = t1 at *
      generalize (l.getD q (0, 0)).2 = t2 at *
      by_cases h0 : 0 < t1
      · have d0 : decide (0 < t1) = true := by simpa using h0
        by_cases hm : t2 ≤ x
        · have hmax : max x t2 = x := by omega
          have HF2 := Lib.hid (HFL.out hm)
          go_wp2
          go_roundw
          case rel => exact ⟨q + 1, x, by omega, by go_num, by first | rfl | (simp [hmax]) , Lib.hid ⟨HF2.out, HB3.out⟩⟩
          case measure => simp [intOf]; omega
        · have hmax : max x t2 = t2 := by omega
          have HF2 := Lib.hid (HFN.out h0 (by omega))
          go_wp2
          go_roundw
          case rel => exact ⟨q + 1, t2, by omega, by go_num, by first | rfl | (simp [hmax]), Lib.hid ⟨HF2.out, HB3.out⟩⟩
          case measure => simp [intOf]; omega
      · have d0 : decide (0 < t1) = false := by simpa using h0
        have HF2 := Lib.hid (HFS.out h0)
        go_wp2
        go_roundw
        case rel => exact ⟨q + 1, x, by omega, by go_num, rfl, Lib.hid ⟨HF2.out, HB3.out⟩⟩
        case measure => simp [intOf]; omega
    · obtain rfl : len = q := by omega
      have hwin := win_far HJ.out (v := x) (by rw [HL.out]; exact HX.out.1)
      have HXB := Lib.hid HX.out.2
      have hj7 := HN3.out.2
      have hnj := HN.out
      clear HX HJ HN HN3 HL
      rcases (show j = 0 ∨ j = 1 ∨ j = 2 ∨ j = 3 ∨ j = 4 ∨ j = 5 ∨ j = 6 ∨ j = 7 by omega) with rfl | rfl | rfl | rfl | rfl | rfl | rfl | rfl
      · have en : ((n : Nat) : Int) = 256 := by rw [hnj]; rfl
        rw [en]
        clear en hnj
        have dl : decide (x ≤ 256) = true := by
          rcases hwin.1 with h | h
          · omega
          · exact decide_eq_true h
        clear hwin
        go_wp2
        go_ret
        exact ⟨rfl, HXB.out⟩
      · have en : ((n : Nat) : Int) = 512 := by rw [hnj]; rfl
        rw [en]
        clear en hnj
        have dl : decide (x ≤ 512) = true := by
          rcases hwin.1 with h | h
          · omega
          · exact decide_eq_true h
        have dg : decide (256 < x) = true := by
          rcases hwin.2 with h | h
          · omega
          · exact decide_eq_true h
        clear hwin
        go_wp2
        go_ret
        exact ⟨rfl, HXB.out⟩
      · have en : ((n : Nat) : Int) = 1024 := by rw [hnj]; rfl
        rw [en]
        clear en hnj
        have dl : decide (x ≤ 1024) = true := by
          rcases hwin.1 with h | h
          · omega
          · exact decide_eq_true h
        have dg : decide (512 < x) = true := by
          rcases hwin.2 with h | h
          · omega
          · exact decide_eq_true h
        clear hwin
        go_wp2
        go_ret
        exact ⟨rfl, HXB.out⟩
      · have en : ((n : Nat) : Int) = 2048 := by rw [hnj]; rfl
        rw [en]
        clear en hnj
        have dl : decide (x ≤ 2048) = true := by
          rcases hwin.1 with h | h
          · omega
          · exact decide_eq_true h
        have dg : decide (1024 < x) = true := by
          rcases hwin.2 with h | h
          · omega
          · exact decide_eq_true h
        clear hwin
        go_wp2
        go_ret
        exact ⟨rfl, HXB.out⟩
      · have en : ((n : Nat) : Int) = 4096 := by rw [hnj]; rfl
        rw [en]
        clear en hnj
        have dl : decide (x ≤ 4096) = true := by
          rcases hwin.1 with h | h
          · omega
          · exact decide_eq_true h
        have dg : decide (2048 < x) = true := by
          rcases hwin.2 with h | h
          · omega
          · exact decide_eq_true h
        clear hwin
        go_wp2
        go_ret
        exact ⟨rfl, HXB.out⟩
      · have en : ((n : Nat) : Int) = 8192 := by rw [hnj]; rfl
        rw [en]
        clear en hnj
        have dl : decide (x ≤ 8192) = true := by
          rcases hwin.1 with h | h
          · omega
          · exact decide_eq_true h
        have dg : decide (4096 < x) = true := by
          rcases hwin.2 with h | h
          · omega
          · exact decide_eq_true h
        clear hwin
        go_wp2
        go_ret
        exact ⟨rfl, HXB.out⟩
      · have en : ((n : Nat) : Int) = 16384 := by rw [hnj]; rfl
        rw [en]
        clear en hnj
        have dl : decide (x ≤ 16384) = true := by
          rcases hwin.1 with h | h
          · omega
          · exact decide_eq_true h
        have dg : decide (8192 < x) = true := by
          rcases hwin.2 with h | h
          · omega
          · exact decide_eq_true h
        clear hwin
        go_wp2
        go_ret
        exact ⟨rfl, HXB.out⟩
      · have en : ((n : Nat) : Int) = 32768 := by rw [hnj]; rfl
        rw [en]
        clear en hnj
        have dg : decide (16384 < x) = true := by
          rcases hwin.2 with h | h
          · omega
          · exact decide_eq_true h
        clear hwin
        go_wp2
        go_ret
        exact ⟨rfl, HXB.out⟩
set_option maxRecDepth 100000 in
theorem lifted (os : Os) (started : os.Started) (H : Type) (enc : TypeId × Value → H) :
    ReturnsInHanded {} Try.checked os 4 .any (Rows.zlibWindowsSpec.pre6 enc Try.prog Try.f4 Rows.zlibWindowsRow.domain false) (Rows.zlibWindowsSpec.post enc Try.prog Try.f4 false true false false) := by
  refine returnsInHanded_of_change_sized (C := Try.checked) own started (by kernel_rfl) Try.func4
    (ChangeSpec.witness6 (enc := enc) (C := Try.checked) false ⟨#[], #[.slice none 0 0], []⟩ 8 (by kernel_rfl) (by kernel_rfl) (by kernel_rfl) (by kernel_rfl)) ?_
  intro W base args ds gs before hval0 hW _ hsz0 _
  have hval : ∀ (j : Nat) t v, Try.f4.params[j]? = some t → args[j]? = some v → Value.okWide Try.prog W .any base t v := hval0
  have hsz : (DataW.weightsEach Try.prog (Try.f4.params.toList ++ Rows.zlibWindowsSpec.plain.varTypes Try.prog) (ds ++ gs)).all (· ≤ reachBytes) = true := hsz0
  have hW' := hW
  obtain ⟨p, q, hA0, hV, rfl, hfz, hnd⟩ := hW
  have hA : DataW.TrodAll enc Try.prog W 0 (fun _ => true) true Try.f4.params.toList args.toList ds p := hA0
  rw [Try.params4] at hA hval hsz
  obtain ⟨v0, vs0, d0, ds0, p0, q0, hargs, rfl, rfl, h0, r0⟩ := trodAll_cons hA
  obtain ⟨rfl, rfl, rfl⟩ := trodAll_nil r0
  obtain rfl : args = #[v0] := by cases args; simp_all
  obtain ⟨rfl, rfl⟩ := trodVars_none hV
  clear hsz0
  obtain ⟨a0, len0, cap0, rfl⟩ := okWide_slice Try.underlying36 (hval 0 36 v0 rfl rfl)
  have k0 := h0
  have lt0 : ∀ x ∈ p0, x.block < W.heap.size := by obtain ⟨m, hm⟩ := k0; exact DataW.trod_lt m _ _ _ hm
  obtain ⟨l0, w0, c0⟩ := open_toks Try.underlying36 Try.underlying39 Try.underlying3 Try.underlying3 (by kernel_rfl) (by kernel_rfl) rfl rfl (by kernel_rfl) (by kernel_rfl) h0 hsz 0 rfl rfl
  clear hA0 hval0 hsz
  refine (walk a0 len0 cap0 l0 W w0 c0).mono fun e W' ⟨he, bel⟩ => ?_
  subst he
  exact ⟨_, rfl, _, _, _, [], _, [], hW', trodAll_mk1 (shut_bool Try.underlying4 _), (trodAll_cons_mk (Below.trod laidOut (by kernel_rfl) (of_decide_eq_true (by kernel_rfl)) k0 bel lt0) trodAll_mk0), rfl, bel.frame _, fun h => by cases h⟩

theorem proved : Rows.ZlibWindowsSaid :=
  OpenClaim.holds_of_wide 4 Try.f4 rfl rfl rfl rfl rfl rfl rfl ⟨rfl, rfl, rfl, rfl, rfl⟩ rfl rfl rfl rfl rfl (by kernel_rfl) Try.func4 (by kernel_rfl)
    (of_decide_eq_true (by kernel_rfl)) (by unfold Func.isWrapper; first | (rw [if_pos (by decide +kernel)]; kernel_rfl) | (rw [if_neg (by decide +kernel)]; exact ⟨rfl, rfl⟩))
    (fun os started H enc _ => lifted os started H enc)
#print axioms proved
end Go.Proofs.Ytbohhdakbgnaeaa.ZlibWindows
