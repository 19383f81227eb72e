/- For all lengths (of at most 600, as the law itself asks) that have codes: no code begins another one, and codes rise with their lengths. No conditions. -/
import Derived.Test.YtnlbomijnldlmaaRows
import Derived.Test.YtnlbomijnldlmaaOpen
import Derived.Test.YtnlbomijnldlmaaLawCanon
namespace Go.Proofs.Ytnlbomijnldlmaa.CanonPrefix
open Go.ChangeShapes Go.WideShapes Go.ChangeAt Go.RowKit
open Go.ChangeMaps (open_string shut_string)
set_option linter.unusedVariables false
theorem own : ownKnob Try.prog.godebug = none := by kernel_rfl
theorem laidOut : laidOutB Try.prog = true := by kernel_rfl
open Bk
theorem pre_no (l : List Int) (h : Cn.freeB l = true) (a b m n : Nat) (ha : a < l.length) (hb : b < l.length) (hm : l.getD a 0 = (m : Int)) (hn : l.getD b 0 = (n : Int)) (hm0 : 0 < m) (hmn : m ≤ n) (hab : a ≠ b) :
    (Bk.look (seq (rowsL l) 17) b).1 / 2 ^ (n - m) ≠ (Bk.look (seq (rowsL l) 17) a).1 ∧ (m < n → (Bk.look (seq (rowsL l) 17) a).1 < (Bk.look (seq (rowsL l) 17) b).1) := by
  have h1 := h
  simp only [Cn.freeB, Bool.and_eq_true] at h1
  have hf := Cn.form_mem l h1.1
  have bound : ∀ s, s < l.length → l.getD s 0 ≤ 16 := fun s hs => (hf _ (by simp [List.getD, List.getElem?_eq_getElem hs])).2
  obtain ⟨m', i, hm17, hi, hia, hma, ea⟩ := look_some l a ha ⟨by omega, bound a ha⟩
  obtain ⟨n', j, hn17, hj, hjb, hnb, eb⟩ := look_some l b hb ⟨by omega, bound b hb⟩
  obtain rfl : m' = m := by omega
  obtain rfl : n' = n := by omega
  rw [ea, eb]
  by_cases hlt : m' < n'
  · have h2 := Bk.ahead (rowsL l) m' n' j hlt hn17 hj
    have h3 : (fst (rowsL l) n' + j) / 2 ^ (n' - m') ≤ fst (rowsL l) n' + j := Nat.div_le_self _ _
    generalize (fst (rowsL l) n' + j) / 2 ^ (n' - m') = z at *
    exact ⟨by show z ≠ fst (rowsL l) m' + i; omega, fun _ => by show fst (rowsL l) m' + i < fst (rowsL l) n' + j; omega⟩
  · obtain rfl : m' = n' := by omega
    refine ⟨fun e => hab ?_, fun h => absurd h hlt⟩
    have e2 : fst (rowsL l) m' + j = fst (rowsL l) m' + i := by simpa using e
    rw [← hia, ← hjb, show j = i by omega]
set_option maxRecDepth 100000 in
set_option maxHeartbeats 4000000 in
theorem walk (a : Option Addr) (len cap : Nat) (l : List Int) (w : World) (h : Is .i64 w a len cap l) (hr : cap * 8 ≤ 140737488351232) :
    Calls Try.prog 7 #[.slice a len cap] w fun e w' => e = .returned (.bool true) ∧ Below w.heap.size w w' := by
  have hle := h.hle
  have HL := Lib.hid h.hlen
  have H := Lib.hid h
  clear h
  go_enter Try.func7, Try.ntmps7
  go_wp2_with fail
  refine (example_any _).mono ?_
  rintro e w1 ⟨ea, ec, rfl, hex, hb1, _⟩
  go_wp2_with fail
  refine (codes_any ea 8 ec Cn.ex _ hex (by omega)).mono ?_
  rintro e w2 (⟨_, v2, rfl, own2, hb2⟩ | ⟨hf, _⟩)
  rotate_left
  · rw [ex_free] at hf; cases hf
  have HB2 := Lib.hid (below_then hb1 hb2)
  have e8 : csOf (seq (rowsL Cn.ex) 17) Cn.ex.length = [2, 3, 4, 5, 6, 0, 14, 15] := ex_codes
  rw [e8] at own2
  obtain ⟨va, vc, rfl, his⟩ := own_is own2 (wf_small (by decide))
  obtain ⟨rb, ro, rfl, _, c7⟩ := his.at' 7 (by decide)
  have c7' : w2.cell? ⟨rb, ro + 7, none⟩ = some (.int .i64 15) := c7
  have h8 : Cn.ex.length = 8 := rfl
  rw [h8]
  clear own2 his hex hb1 hb2 e8 c7 h8
  by_cases hbig : 600 < len
  · have d1 : decide ((600 : Int) < ↑len) = true := by simp; omega
    go_wp2
    go_ret
    exact ⟨rfl, HB2.out⟩
  have d1 : decide ((600 : Int) < ↑len) = false := by simp; omega
  go_wp2_with fail
  refine (codes_any a len cap l _ (H.out.mono HB2.out) (by omega)).mono ?_
  rintro e w3 (⟨hf, v3, rfl, own3, hb3⟩ | ⟨hf, rfl, hb3⟩)
  rotate_left
  · have HB3 := Lib.hid (below_then HB2.out hb3)
    clear hb3 HB2
    go_wp2
    go_ret
    exact ⟨rfl, HB3.out⟩
  have HF := Lib.hid hf
  have hG := good_of l hf
  have hwf : Wf (csOf (seq (rowsL l) 17) l.length) := csOf_wf _ _ (fun s => (look_small _ hG s).1)
  obtain ⟨va3, vc3, rfl, his3⟩ := own_is own3 hwf
  rw [HL.out] at his3 ⊢
  have HC := Lib.hid his3
  have HB3 := Lib.hid (below_then HB2.out hb3)
  have H3 := Lib.hid (H.out.mono HB3.out)
  have HLN : Hid (∀ s, s < len → ∃ n : Nat, l.getD s 0 = (n : Int) ∧ n ≤ 16) := Lib.hid (fun s hs => by
    have h1 := HF.out
    simp only [Cn.freeB, Bool.and_eq_true] at h1
    have h2 := Cn.form_mem l h1.1 (l.getD s 0) (by have : s < l.length := by rw [HL.out]; exact hs
                                                   simp [List.getD, List.getElem?_eq_getElem this])
    exact ⟨(l.getD s 0).toNat, by omega, by omega⟩)
  have HCS : Hid (∀ s, s < len → (csOf (seq (rowsL l) 17) len).getD s 0 = ((Bk.look (seq (rowsL l) 17) s).1 : Nat)) := Lib.hid (fun s hs => by simp [csOf, List.getD, List.getElem?_range hs])
  have HSM : Hid (∀ s, (Bk.look (seq (rowsL l) 17) s).1 < 65536) := Lib.hid (fun s => (look_small _ hG s).1)
  have HPN := Lib.hid (fun a b m n ha hb => pre_no l HF.out a b m n (by rw [HL.out]; exact ha) (by rw [HL.out]; exact hb))
  clear own3 his3 hf hwf hb3 HB2 c7'
  go_wp2
  go_loopw [41] (fun i wr => ∃ k d : Nat, k ≤ len ∧ i = .int .i64 k ∧ wr = w3.drewN d) (fun i _ => len - (intOf i).toNat)
  case atStart => exact ⟨0, 0, by omega, rfl, rfl⟩
  case round =>
    obtain ⟨A, d, hA, rfl, rfl⟩ := hrel
    by_cases hlt : A < len
    · obtain ⟨m, hm, hm16⟩ := HLN.out A hlt
      obtain ⟨b1, o1, rfl, _, c1⟩ := H3.out.at' A hlt
      rw [hm] at c1
      have c1' : (w3.drewN d).cell? ⟨b1, o1 + A, none⟩ = some (.int .i64 (m : Nat)) := c1
      clear c1
      go_wp2
      generalize Value.bool (decide ((A : Int) < len)) = tb
      go_loopw [48] (fun i wr => ∃ k d : Nat, k ≤ len ∧ i = .int .i64 k ∧ wr = w3.drewN d) (fun i _ => len - (intOf i).toNat)
      case atStart => exact ⟨0, d, by omega, rfl, rfl⟩
      case round =>
        obtain ⟨B, d, hB, rfl, rfl⟩ := hrel
        by_cases hltB : B < len
        · obtain ⟨n, hn, hn16⟩ := HLN.out B hltB
          have c2 := cell_at H3.out B hltB
          rw [hn] at c2
          obtain ⟨b3, o3, rfl, _, cA⟩ := HC.out.at' A hlt
          have cB := cell_at HC.out B hltB
          rw [HCS.out A hlt] at cA
          rw [HCS.out B hltB] at cB
          have hsA := HSM.out A
          have hsB := HSM.out B
          have HP := Lib.hid (HPN.out A B m n hlt hltB hm hn)
          have HMN : Hid (A = B → m = n) := Lib.hid (fun e => by subst e; omega)
          generalize (Bk.look (seq (rowsL l) 17) A).1 = x at *
          generalize (Bk.look (seq (rowsL l) 17) B).1 = y at *
          have c2' : ∀ d, (w3.drewN d).cell? ⟨b1, o1 + B, none⟩ = some (.int .i64 (n : Nat)) := fun _ => c2
          have cA' : ∀ d, (w3.drewN d).cell? ⟨b3, o3 + A, none⟩ = some (.int .i64 (x : Nat)) := fun _ => cA
          have cB' : ∀ d, (w3.drewN d).cell? ⟨b3, o3 + B, none⟩ = some (.int .i64 (y : Nat)) := fun _ => cB
          clear c2 cA cB hm hn
          by_cases hab : A = B
          · subst hab
            obtain rfl := HMN.out rfl
            have d0 : decide (m < m) = false := by simp
            by_cases hm0 : m = 0
            · have dm : decide (0 < m) = false := by simp; omega
              clear hm0
              go_wp2
              go_quiet (fail)
              go_wp2
              go_quiet (fail)
              go_wp2
              go_roundw
              case rel => exact ⟨A + 1, _, by omega, by go_num, rfl⟩
              case measure => simp [intOf]; omega
            · have dm : decide (0 < m) = true := by simp; omega
              go_wp2
              go_quiet (fail)
              go_wp2
              go_quiet (fail)
              go_wp2
              go_roundw
              case rel => exact ⟨A + 1, _, by omega, by go_num, rfl⟩
              case measure => simp [intOf]; omega
          · have d1 : ((A : Int) != (B : Int)) = true := by simp; omega
            have d2 : decide ((A : Int) = (B : Int)) = false := by simp; omega
            have d3 : (A != B) = true := by simpa using hab
            have d4 : decide (A = B) = false := by simpa using hab
            by_cases hm0 : m = 0
            · have dm : decide (0 < m) = false := by simp; omega
              clear hm0
              go_wp2
              go_quiet (fail)
              go_wp2
              go_quiet (fail)
              go_wp2
              go_roundw
              case rel => exact ⟨B + 1, _, by omega, by go_num, rfl⟩
              case measure => simp [intOf]; omega
            · have dm : decide (0 < m) = true := by simp; omega
              by_cases hnm : n < m
              · have dn : decide (m ≤ n) = false := by simp; omega
                have dn2 : decide (m < n) = false := by simp; omega
                clear hnm
                go_wp2
                go_quiet (fail)
                go_wp2
                go_quiet (fail)
                go_wp2
                go_roundw
                case rel => exact ⟨B + 1, _, by omega, by go_num, rfl⟩
                case measure => simp [intOf]; omega
              · obtain ⟨hp1, hp2⟩ := HP.out (by omega) (by omega) hab
                have dn : decide (m ≤ n) = true := by simp; omega
                have HDM : Hid (decide (m < n) = true → decide ((y : Int) ≤ (x : Int)) = false ∧ decide (y ≤ x) = false) := Lib.hid (fun h => by have := hp2 (by simpa using h); exact ⟨by simp; omega, by simp; omega⟩)
                have hmn : m ≤ n := by omega
                have dq : (((y : Nat) : Int) / 2 ^ (n - m) == ((x : Nat) : Int)) = false := by
                  have e : ((y : Nat) : Int) / 2 ^ (n - m) = ((y / 2 ^ (n - m) : Nat) : Int) := by rw [Bt.pow_cast]; exact (Int.natCast_ediv y (2 ^ (n - m))).symm
                  rw [e]
                  generalize y / 2 ^ (n - m) = z at *
                  simp; omega
                by_cases hlt2 : m < n
                · have dn2 : decide (m < n) = true := by simpa using hlt2
                  have hxy := hp2 hlt2
                  have dn3 : decide (y ≤ x) = false := by simp; omega
                  clear hp1 hp2 hnm HDM
                  go_wp2
                  go_quiet (fail)
                  go_wp2
                  go_quiet (fail)
                  go_wp2
                  go_roundw
                  case rel => exact ⟨B + 1, _, by omega, by go_num, rfl⟩
                  case measure => simp [intOf]; omega
                · have dn2 : decide (m < n) = false := by simpa using hlt2
                  clear hp1 hp2 hnm HDM
                  go_wp2
                  go_quiet (fail)
                  go_wp2
                  go_quiet (fail)
                  go_wp2
                  go_roundw
                  case rel => exact ⟨B + 1, _, by omega, by go_num, rfl⟩
                  case measure => simp [intOf]; omega
        · obtain rfl : len = B := by omega
          go_wp2
          go_roundw
          case rel => exact ⟨A + 1, _, by omega, by go_num, rfl⟩
          case measure => simp [intOf]; omega
    · obtain rfl : len = A := by omega
      go_wp2
      go_ret
      exact ⟨rfl, HB3.out.trans ((drewN_is w3 d).mono HB3.out.size)⟩
set_option maxRecDepth 100000 in
theorem lifted (os : Os) (started : os.Started) (H : Type) (enc : TypeId × Value → H) :
    ReturnsInHanded {} Try.checked os 7 .any (Rows.canonPrefixSpec.pre6 enc Try.prog Try.f7 Rows.canonPrefixRow.domain false) (Rows.canonPrefixSpec.post enc Try.prog Try.f7 false true false false) := by
  refine returnsInHanded_of_change_sized (C := Try.checked) own started (by kernel_rfl) Try.func7
    (ChangeSpec.witness6 (enc := enc) (C := Try.checked) false ⟨#[], #[.slice none 0 0], []⟩ 8 (by kernel_rfl) (by kernel_rfl) (by kernel_rfl) (by kernel_rfl)) ?_
  intro W base args ds gs before hval0 hW _ hsz0 _
  have hval : ∀ (j : Nat) t v, Try.f7.params[j]? = some t → args[j]? = some v → Value.okWide Try.prog W .any base t v := hval0
  have hsz : (DataW.weightsEach Try.prog (Try.f7.params.toList ++ Rows.canonPrefixSpec.plain.varTypes Try.prog) (ds ++ gs)).all (· ≤ reachBytes) = true := hsz0
  have hW' := hW
  obtain ⟨p, q, hA0, hV, rfl, hfz, hnd⟩ := hW
  have hA : DataW.TrodAll enc Try.prog W 0 (fun _ => true) true Try.f7.params.toList args.toList ds p := hA0
  rw [Try.params7] at hA hval hsz
  obtain ⟨v0, vs0, d0, ds0, p0, q0, hargs, rfl, rfl, h0, r0⟩ := trodAll_cons hA
  obtain ⟨rfl, rfl, rfl⟩ := trodAll_nil r0
  obtain rfl : args = #[v0] := by cases args; simp_all
  obtain ⟨rfl, rfl⟩ := trodVars_none hV
  clear hsz0
  obtain ⟨a0, len0, cap0, rfl⟩ := okWide_slice Try.underlying22 (hval 0 22 v0 rfl rfl)
  have k0 := h0
  have lt0 : ∀ x ∈ p0, x.block < W.heap.size := by obtain ⟨m, hm⟩ := k0; exact DataW.trod_lt m _ _ _ hm
  obtain ⟨l0, w0, c0⟩ := open_is (by' := 8) Try.underlying22 Try.underlying3 (by kernel_rfl) (by kernel_rfl) h0 hsz 0 rfl rfl
  clear hA0 hval0 hsz
  refine (walk a0 len0 cap0 l0 W w0 c0).mono fun e W' ⟨he, bel⟩ => ?_
  subst he
  exact ⟨_, rfl, _, _, _, [], _, [], hW', trodAll_mk1 (shut_bool Try.underlying4 _), (trodAll_cons_mk (Below.trod laidOut (by kernel_rfl) (of_decide_eq_true (by kernel_rfl)) k0 bel lt0) trodAll_mk0), rfl, bel.frame _, fun h => by cases h⟩

theorem proved : Rows.CanonPrefixSaid :=
  OpenClaim.holds_of_wide 7 Try.f7 rfl rfl rfl rfl rfl rfl rfl ⟨rfl, rfl, rfl, rfl, rfl⟩ rfl rfl rfl rfl rfl (by kernel_rfl) Try.func7 (by kernel_rfl)
    (of_decide_eq_true (by kernel_rfl)) (by unfold Func.isWrapper; first | (rw [if_pos (by decide +kernel)]; kernel_rfl) | (rw [if_neg (by decide +kernel)]; exact ⟨rfl, rfl⟩))
    (fun os started H enc _ => lifted os started H enc)
#print axioms proved
end Go.Proofs.Ytnlbomijnldlmaa.CanonPrefix
