/- The document's reader: all tokens. The lengths of kind 2, grown at one go or at two. -/
import Derived.Test.YtfgpmccmalddjaaDoorZ27
set_option linter.unusedSimpArgs false
set_option linter.unusedVariables false
section
namespace Go.Proofs.YtfgpmccmalddjaaDoor
open Go.RowKit
attribute [local go_sem] Oper.semAt_some

/-- What lengths answers. -/
def LnPost (w : World) (D : Nat → Prop) (B gr : Nat) (a : Option Addr) (cap : Nat) (u : List Bool) (most : Nat) (s : Unp) (r : Ip.Rs (List Int × List Int)) (e : Ending) (w' : World) : Prop :=
  ∃ a1 n1 c1 a2 n2 c2 L M, e = .returned (.tuple #[.slice a1 n1 c1, .slice a2 n2 c2]) ∧ Is .i64 w' a1 n1 c1 L ∧ Is .i64 w' a2 n2 c2 M ∧ n1 ≤ 512 ∧ n2 ≤ 512 ∧ Ch w w' (fun k => ¬ D k) ∧
    ((∃ q, r = .ok (L, M) q ∧ Cn.freeB L = true ∧ Cn.freeB M = true ∧ Rq w' D B gr a cap u most (.ok s q)) ∨ Rq w' D B gr a cap u most (.err 1))
/-- What Tokens answers. -/
def TkPost (w : World) (most : Nat) (l : List UInt8) (e : Ending) (w' : World) : Prop :=
  Below w.heap.size w w' ∧ ∃ v n bad, e = .returned (.tuple #[v, .int .i64 n, .int .i64 bad]) ∧ (bad ≠ 0 ∨ (bad = 0 ∧ ∃ s q, infR most l = .ok s q ∧ w'.ownsRow w.heap.size 47 2 v s.2.length (tks s.2) ∧ n = (((q + 7) / 8 : Nat) : Int)))
section
variable {w : World} {D : Nat → Prop} {B gr : Nat} {a : Option Addr} {cap : Nat} {u : List Bool} {p : Nat} {bad : Int} {most sz : Nat} {ts : List Tok} {v : Value}
theorem rsyms_dead (h : Rn w D B gr a cap u p bad most sz ts v) (hb : bad ≠ 0) {a1 a2 : Option Addr} {n1 c1 n2 c2 : Nat} {L M : List Int} (hL : Is .i64 w a1 n1 c1 L) (hM : Is .i64 w a2 n2 c2 M) (hn1 : n1 ≤ 512) (hn2 : n2 ≤ 512) :
    Calls Tryd.prog 30 #[.pointer (some ⟨gr, 0, none⟩), .slice a1 n1 c1, .slice a2 n2 c2] w fun e w' => e = .returned (.tuple #[]) ∧ Rn w' D B gr a cap u p bad most sz ts v ∧ Ch w w' (fun k => ¬ D k) := by
  have HR := Lib.hid h
  have HM := Lib.hid hM
  have d9 : (bad == 0) = false := by simpa using hb
  clear h hM hb
  go_enter Tryd.func30, Tryd.ntmps30
  go_wp2_with fail
  refine (refCodes_any a1 n1 c1 L _ hL hn1).mono ?_
  rintro e w1 ⟨va, m1, cs1, rfl, _, _, _, hb1⟩
  clear hL
  go_wp2_with fail
  refine (refCodes_any a2 n2 c2 M _ (HM.out.mono hb1) hn2).mono ?_
  rintro e w2 ⟨vb, m2, cs2, rfl, _, _, _, hb2⟩
  go_wp2_with fail
  refine (lens_low _).mono ?_
  rintro e w3 ⟨g1, g2, rfl, ht1, hb3, _, _⟩
  go_wp2_with fail
  refine (dists_low _).mono ?_
  rintro e w4 ⟨g3, g4, rfl, ht2, hb4, _, _⟩
  have b14 := below_then (below_then (below_then hb1 hb2) hb3) hb4
  have HP := Lib.hid (And.intro (HR.out.mono b14) (Ch.of_below (T := fun k => ¬ D k) b14))
  have k4 := (HR.out.mono b14).cells.2.2.1
  clear hb1 hb2 hb3 hb4 b14 ht1 ht2 HM HR
  go_wp2
  go_loop [] (True) (0)
  case atStart => trivial
  case round =>
    go_wp2
    go_end0
    exact ⟨rfl, HP.out⟩
end
namespace Ip
theorem unp_next {dyn : Unp → Pr Unp} {most k q q2 q3 f : Nat} {s s3 : Unp} {u : List Bool} {ns : List Nat} (h1 : numbers [1, 2] u q = .ok ns q2) (h0 : ns = [0, k]) (h2 : blockP dyn most s k u q2 = .ok s3 q3) : loop (unpStep dyn most) (f + 1) s u q = loop (unpStep dyn most) f s3 u q3 := by
  subst h0
  show bind (bind (numbers [1, 2]) _) (next (loop (unpStep dyn most) f)) u q = _
  rw [bind2_ok h1]
  show bind (bind (blockP dyn most s k) _) _ u q2 = _
  rw [bind2_ok h2]; rfl
theorem unp_last {dyn : Unp → Pr Unp} {most k q q2 q3 f : Nat} {s s3 : Unp} {u : List Bool} {ns : List Nat} (h1 : numbers [1, 2] u q = .ok ns q2) (h0 : ns = [1, k]) (h2 : blockP dyn most s k u q2 = .ok s3 q3) : loop (unpStep dyn most) (f + 1) s u q = .ok s3 q3 := by
  subst h0
  show bind (bind (numbers [1, 2]) _) (next (loop (unpStep dyn most) f)) u q = _
  rw [bind2_ok h1]
  show bind (bind (blockP dyn most s k) _) _ u q2 = _
  rw [bind2_ok h2]; rfl
theorem nums_two {x k q q1 q2 : Nat} {u : List Bool} (h1 : take 1 u q = .ok x q1) (h2 : take 2 u q1 = .ok k q2) : numbers [1, 2] u q = .ok [x, k] q2 := by
  show bind (take 1) _ u q = _
  rw [bind_ok h1]
  show bind (numbers [2]) _ u q1 = _
  have : numbers [2] u q1 = .ok [k] q2 := by rw [numbers_one, bind_ok h2]; rfl
  rw [bind_ok this]; rfl
end Ip
/-- How it stands between two blocks. -/
def UnpAt (w : World) (u : List Bool) (most : Nat) (wr : World) (D : Nat → Prop) (B gr : Nat) (a : Option Addr) (cap x gk : Nat) : Prop :=
  (∃ q s2 v2, Rn wr D B gr a cap u q 0 most s2.1.length s2.2 v2 ∧
    ((x = 0 ∧ gk = u.length - q + 1 ∧ ∃ f, u.length - q < f ∧ Ip.unpP (Ip.dynP most) most u 0 = Ip.loop (Ip.unpStep (Ip.dynP most) most) f s2 u q) ∨ (x ≠ 0 ∧ gk = 0 ∧ Ip.unpP (Ip.dynP most) most u 0 = .ok s2 q))) ∨
  ((∃ q bad sz ts v2, bad ≠ 0 ∧ Rn wr D B gr a cap u q bad most sz ts v2) ∧ gk = 0)
set_option maxRecDepth 100000 in
set_option maxHeartbeats 4000000 in
theorem rtokens_any (hlen : ∀ (wr : World) (D : Nat → Prop) (B gr : Nat) (a : Option Addr) (cap : Nat) (u : List Bool) (q most : Nat) (s : Unp) (v : Value), 0 < u.length → Rn wr D B gr a cap u q 0 most s.1.length s.2 v → Calls Tryd.prog 31 #[.pointer (some ⟨gr, 0, none⟩)] wr (LnPost wr D B gr a cap u most s (Ip.booksP u q)))
    (w : World) (a0 : Option Addr) (len cap0 most : Nat) (l : List UInt8) (H : Bs w a0 len cap0 l) (hl : len ≤ 100000) (hm : most ≤ 4194304) :
    Calls Tryd.prog 9 #[.slice a0 len cap0, .int .i64 (most : Nat)] w (TkPost w most l) := by
  have HL := Lib.hid H.hlen
  have HLN := Lib.hid hlen
  have e1 : decide ((most : Int) < 0) = false := by simp
  have e2 : decide ((4194304 : Int) < (most : Int)) = false := by simp; omega
  have HM := Lib.hid hm
  clear hm hlen
  go_enter Tryd.func9, Tryd.ntmps9
  go_wp2_with fail
  refine (refBits_any false a0 len cap0 l w H (by omega)).mono ?_
  rintro e w1 ⟨vu, rfl, own1, hb1⟩
  obtain ⟨a, cap, rfl, his⟩ := own_is own1 (bi_wf _)
  have hba := below_alloc w1 (.cells #[.slice a (8 * l.length) cap, .int .i64 0, .int .i64 0, .int .i64 (most : Nat), .int .i64 0, .slice none 0 0] 66)
  obtain ⟨D, hD⟩ : ∃ D : Nat → Prop, D = fun k => k < w.heap.size := ⟨_, rfl⟩
  obtain ⟨u, hu⟩ : ∃ u, u = lob l := ⟨_, rfl⟩
  have hul : u.length = 8 * l.length := by rw [hu, lob_length]
  have HDD := Lib.hid hD
  have HUU := Lib.hid hu
  have HRN : Hid (Rn (w1.alloc (.cells #[.slice a (8 * l.length) cap, .int .i64 0, .int .i64 0, .int .i64 (most : Nat), .int .i64 0, .slice none 0 0] 66)) D w.heap.size w1.heap.size a cap u 0 0 most 0 [] (.slice none 0 0)) := Lib.hid (by
    have hz := hb1.size
    have hll := HL.out
    have hi2 := his.mono hba
    have hrow := heap_alloc_last w1 (.cells #[.slice a (8 * l.length) cap, .int .i64 0, .int .i64 0, .int .i64 (most : Nat), .int .i64 0, .slice none 0 0] 66)
    refine ⟨by rw [hul]; exact hrow, by rw [hul, hu]; exact hi2, World.ownsRow_nil _ _ _ _, fun ad e => ?_, fun e => by simp [Value.ownBlock] at e, by simp; omega, fun k hk => ?_, Nat.zero_le _, by omega, HM.out, Nat.zero_le _, Nat.le_refl _⟩
    · subst e
      rcases own_nil_or own1 with ⟨e, _⟩ | ⟨g', c', e, _⟩
      · cases e
      · simp only [Value.slice.injEq, Option.some.injEq] at e
        obtain ⟨rfl, _, _⟩ := e
        have := own1.lt g' rfl
        refine ⟨by show g' ≠ _; omega, by simp [Value.ownBlock], by simp; omega⟩
    · rw [hD] at hk
      refine ⟨by simp; omega, by omega, by simp [Value.ownBlock]⟩)
  have HC1 : Hid (Ch w (w1.alloc (.cells #[.slice a (8 * l.length) cap, .int .i64 0, .int .i64 0, .int .i64 (most : Nat), .int .i64 0, .slice none 0 0] 66)) (fun k => ¬ D k)) := Lib.hid (Ch.of_below (below_then hb1 hba))
  obtain ⟨B, hB⟩ : ∃ B, B = w.heap.size := ⟨_, rfl⟩
  have HBB := Lib.hid hB
  rw [← hB] at HRN
  clear hD hB hu own1 his hba hb1
  have hll := HL.out
  have h8 : 8 ∣ u.length := ⟨l.length, hul⟩
  have H8 := Lib.hid h8
  have huL : u.length ≤ 1000000 := by omega
  clear h8 hul hll H
  go_wp2
  revert HRN HC1
  generalize w1.alloc _ = w2
  generalize w1.heap.size = gr
  intro HC1 HRN
  have HI : Hid (UnpAt w u most w2 D B gr a cap 0 (u.length - 0 + 1)) := Lib.hid (.inl ⟨0, ([], []), _, HRN.out, .inl ⟨rfl, rfl, Ip.big, by unfold Ip.big; omega, rfl⟩⟩)
  have HFIN : Hid (∀ wr q s2 v2, Rn wr D B gr a cap u q 0 most s2.1.length s2.2 v2 → Ip.unpP (Ip.dynP most) most u 0 = .ok s2 q → Ch w wr (fun k => ¬ D k) → TkPost w most l (.returned (.tuple #[v2, .int .i64 (((q + 7) / 8 : Nat) : Int), .int .i64 0])) wr) := Lib.hid (fun wr q s2 v2 h1 h2 h3 =>
    ⟨h3.below (Nat.le_refl _) (fun k hk => by rw [HDD.out] at hk; omega), v2, _, 0, rfl, .inr ⟨rfl, s2, q, by unfold infR; rw [← HUU.out]; exact h2, by rw [← HBB.out]; exact h1.own, rfl⟩⟩)
  clear HRN
  go_loopg [8] (u.length - 0 + 1) (fun gk i wr => ∃ x : Nat, i = .int .i64 x ∧ Hid (UnpAt w u most wr D B gr a cap x gk) ∧ Hid (Ch w wr (fun k => ¬ D k)))
  case atStart => exact ⟨0, rfl, HI, HC1⟩
  case round =>
    obtain ⟨x, rfl, HK, HCH⟩ := hrel
    rcases HK.out with ⟨q, s2, v2, hrn, ⟨rfl, rfl, f, hf, hsp⟩ | ⟨hx0, rfl, hsp⟩⟩ | ⟨⟨q, bad, sz, ts, v2, hb, hrn⟩, rfl⟩
    · have k2 := hrn.cells.2.2.1
      obtain ⟨f, rfl⟩ : ∃ f', f = f' + 1 := ⟨f - 1, by omega⟩
      have HSP := Lib.hid hsp
      have HT : Hid (Calls Tryd.prog 27 #[.pointer (some ⟨gr, 0, none⟩), .int .i64 1] wr (RtPost wr D B gr a cap u most s2 (fun n : Nat => .int .i64 (n : Nat)) (.int .i64 0) (Ip.take 1 u q))) := Lib.hid (rtake_any hrn 1 (by omega) (.inl (by omega)))
      clear hrn hsp HK
      go_wp2_with fail
      refine HT.out.mono ?_
      clear HT
      cases h1 : Ip.take 1 u q with
      | err n =>
        rintro e w5 ⟨rfl, ⟨q5, bad, sz, ts, v5, hb, hr5⟩, hc5⟩
        have HD5 : Hid (Calls Tryd.prog 27 #[.pointer (some ⟨gr, 0, none⟩), .int .i64 2] w5 fun e w' => e = .returned (.int .i64 0) ∧ Rn w' D B gr a cap u q5 bad most sz ts v5 ∧ Ch w5 w' (fun k => ¬ D k)) := Lib.hid (rtake_dead hr5 hb 2)
        have hc5' := HCH.out.trans hc5 (fun n hn => .inl hn)
        clear hr5 hc5 h1 k2
        go_wp2_with fail
        refine HD5.out.mono ?_
        rintro e w6 ⟨rfl, hr6, hc6⟩
        have HC6 := Lib.hid (hc5'.trans hc6 (fun n hn => .inl hn))
        clear hc5' hc6 HD5
        have d10 : (bad != 0) = true := by simpa using hb
        have d11 : (bad == 0) = false := by simpa using hb
        have k8 := hr6.cells.2.2.1
        have HP : Hid (∀ N, TkPost w most l (.returned (.tuple #[.slice none 0 0, .int .i64 0, .int .i64 bad])) (w6.drewN N)) := Lib.hid (fun N => ⟨(HC6.out.trans (Ch.of_below (T := fun _ => False) (dn_is _ N)) (fun _ h => h.elim)).below (Nat.le_refl _) (fun k hk => by rw [HDD.out] at hk; omega), _, _, bad, rfl, .inl hb⟩)
        clear hr6 hb HC6
        go_wp2
        go_quiet (fail)
        go_wp2
        go_ret3
        exact HP.out nq
      | ok x q1 =>
        rintro e w5 ⟨rfl, ⟨v5, hr5⟩, hc5⟩
        have hx2 := Ip.take_lt h1
        rw [show (2 : Nat) ^ 1 = 2 from rfl] at hx2
        have hx2 : x = 0 ∨ x = 1 := by omega
        have hz : 0 < u.length := by
          have := hr5.hp
          have : q1 = q + 1 := by
            unfold Ip.take at h1
            split at h1
            · cases h1; rfl
            · cases h1
          omega
        have HT : Hid (Calls Tryd.prog 27 #[.pointer (some ⟨gr, 0, none⟩), .int .i64 2] w5 (RtPost w5 D B gr a cap u most s2 (fun n : Nat => .int .i64 (n : Nat)) (.int .i64 0) (Ip.take 2 u q1))) := Lib.hid (rtake_any hr5 2 (by omega) (.inl (by omega)))
        have HC5 := Lib.hid (HCH.out.trans hc5 (fun n hn => .inl hn))
        have H1 := Lib.hid h1
        clear hr5 hc5 h1 k2
        go_wp2_with fail
        refine HT.out.mono ?_
        clear HT
        cases h2 : Ip.take 2 u q1 with
        | err n =>
          rintro e w6 ⟨rfl, ⟨q6, bad, sz, ts, v6, hb, hr6⟩, hc6⟩
          have HC6 := Lib.hid (HC5.out.trans hc6 (fun n hn => .inl hn))
          clear hc6 h2
          have d10 : (bad != 0) = true := by simpa using hb
          have d11 : (bad == 0) = false := by simpa using hb
          have k8 := hr6.cells.2.2.1
          have HP : Hid (∀ N, TkPost w most l (.returned (.tuple #[.slice none 0 0, .int .i64 0, .int .i64 bad])) (w6.drewN N)) := Lib.hid (fun N => ⟨(HC6.out.trans (Ch.of_below (T := fun _ => False) (dn_is _ N)) (fun _ h => h.elim)).below (Nat.le_refl _) (fun k hk => by rw [HDD.out] at hk; omega), _, _, bad, rfl, .inl hb⟩)
          clear hr6 hb HC6
          go_wp2
          go_quiet (fail)
          go_wp2
          go_ret3
          exact HP.out nq
        | ok k q2 =>
          rintro e w6 ⟨rfl, ⟨v6, hr6⟩, hc6⟩
          have hk4 := Ip.take_lt h2
          rw [show (2 : Nat) ^ 2 = 4 from rfl] at hk4
          have HNS := Lib.hid (Ip.nums_two H1.out h2)
          have hq1 := Ip.take_le h2
          have hq0 : q < q1 := by
            have h1 := H1.out
            unfold Ip.take at h1
            split at h1
            · cases h1; omega
            · cases h1
          have HC6 := Lib.hid (HC5.out.trans hc6 (fun n hn => .inl hn))
          have k6 := hr6.cells.2.2.1
          have hqu := hr6.hp
          clear hc6 h2 H1
          obtain rfl | rfl | rfl | rfl : k = 0 ∨ k = 1 ∨ k = 2 ∨ k = 3 := by omega
          · have HB := Lib.hid (rstored_any hr6 hz H8.out)
            clear hr6
            go_wp2_with fail
            refine HB.out.mono ?_
            clear HB
            rintro e w7 ⟨rfl, hrz, hc7⟩
            have HC7 := Lib.hid (HC6.out.trans hc7 (fun n hn => .inl hn))
            clear hc7 k6
            cases hbk : Ip.storedP most s2 u q2 with
            | ok s3 q3 =>
              rw [hbk] at hrz
              have hblk : Ip.blockP (Ip.dynP most) most s2 0 u q2 = .ok s3 q3 := by unfold Ip.blockP; rw [if_pos rfl]; exact hbk
              rcases hrz with ⟨v3, hr7⟩ | ⟨q7, bad, sz, ts, v7, hb, hr7⟩
              · have hmo := Ip.mono_blockP (fun s => Ip.mono_dynP most s) most s2 0 u q2 s3 q3 hblk
                rcases hx2 with rfl | rfl
                · have HI : Hid (UnpAt w u most w7 D B gr a cap 0 (u.length - q3 + 1)) := Lib.hid (.inl ⟨q3, s3, v3, hr7, .inl ⟨rfl, rfl, f, by omega, by rw [HSP.out, Ip.unp_next HNS.out rfl hblk]⟩⟩)
                  clear hr7
                  go_wp2
                  go_roundg (u.length - q3 + 1)
                  case measure => omega
                  case rel => exact ⟨0, rfl, HI, HC7⟩
                · have HI : Hid (UnpAt w u most w7 D B gr a cap 1 0) := Lib.hid (.inl ⟨q3, s3, v3, hr7, .inr ⟨by decide, rfl, by rw [HSP.out, Ip.unp_last HNS.out rfl hblk]⟩⟩)
                  clear hr7
                  go_wp2
                  go_roundg (0)
                  case measure => omega
                  case rel => exact ⟨1, rfl, HI, HC7⟩
              · have HD9 : Hid (∃ q bad sz ts v2, bad ≠ 0 ∧ Rn w7 D B gr a cap u q bad most sz ts v2) := Lib.hid ⟨_, bad, _, _, _, hb, hr7⟩
                clear hr7 hb
                go_wp2
                go_roundg (0)
                case measure => omega
                case rel => exact ⟨x, rfl, Lib.hid (.inr ⟨HD9.out, rfl⟩), HC7⟩
            | err n =>
              rw [hbk] at hrz
              obtain ⟨q7, bad, sz, ts, v7, hb, hr7⟩ : Rq w7 D B gr a cap u most (.err 1) := hrz.elim (fun h => h) (fun h => h)
              have HD9 : Hid (∃ q bad sz ts v2, bad ≠ 0 ∧ Rn w7 D B gr a cap u q bad most sz ts v2) := Lib.hid ⟨_, bad, _, _, _, hb, hr7⟩
              clear hr7 hb
              go_wp2
              go_roundg (0)
              case measure => omega
              case rel => exact ⟨x, rfl, Lib.hid (.inr ⟨HD9.out, rfl⟩), HC7⟩
          · have HR6 := Lib.hid hr6
            clear hr6
            go_wp2_with fail
            refine (refFixed_any w6).mono ?_
            rintro e w7 ⟨x1, x2, rfl, ho1, ho2, hb7⟩
            obtain ⟨a1, c1, rfl, hi1⟩ := own_is ho1 (wf_small (l := fixL) (by decide +kernel))
            obtain ⟨a2, c2, rfl, hi2⟩ := own_is ho2 (wf_small (l := fixD) (by decide +kernel))
            have HB := Lib.hid (rsyms_any (HR6.out.mono hb7) hz hi1 hi2 (by omega) (by omega) (by decide +kernel) (by decide +kernel))
            have HC7 := Lib.hid (HC6.out.trans (Ch.of_below (T := fun _ => False) hb7) (fun _ h => h.elim))
            clear ho1 ho2 hb7 hi1 hi2 HR6 k6
            go_wp2_with fail
            refine HB.out.mono ?_
            clear HB
            rintro e w8 ⟨rfl, hrz, hc8⟩
            have HC8 := Lib.hid (HC7.out.trans hc8 (fun n hn => .inl hn))
            clear hc8
            cases hbk : Ip.symsP most (Bk.rowsL fixL) (Bk.rowsL fixD) s2 u q2 with
            | ok s3 q3 =>
              rw [hbk] at hrz
              have hblk : Ip.blockP (Ip.dynP most) most s2 1 u q2 = .ok s3 q3 := by unfold Ip.blockP; rw [if_neg (by decide), if_pos rfl]; exact hbk
              rcases hrz with ⟨v3, hr7⟩ | ⟨q7, bad, sz, ts, v7, hb, hr7⟩
              · have hmo := Ip.mono_blockP (fun s => Ip.mono_dynP most s) most s2 1 u q2 s3 q3 hblk
                rcases hx2 with rfl | rfl
                · have HI : Hid (UnpAt w u most w8 D B gr a cap 0 (u.length - q3 + 1)) := Lib.hid (.inl ⟨q3, s3, v3, hr7, .inl ⟨rfl, rfl, f, by omega, by rw [HSP.out, Ip.unp_next HNS.out rfl hblk]⟩⟩)
                  clear hr7
                  go_wp2
                  go_roundg (u.length - q3 + 1)
                  case measure => omega
                  case rel => exact ⟨0, rfl, HI, HC8⟩
                · have HI : Hid (UnpAt w u most w8 D B gr a cap 1 0) := Lib.hid (.inl ⟨q3, s3, v3, hr7, .inr ⟨by decide, rfl, by rw [HSP.out, Ip.unp_last HNS.out rfl hblk]⟩⟩)
                  clear hr7
                  go_wp2
                  go_roundg (0)
                  case measure => omega
                  case rel => exact ⟨1, rfl, HI, HC8⟩
              · have HD9 : Hid (∃ q bad sz ts v2, bad ≠ 0 ∧ Rn w8 D B gr a cap u q bad most sz ts v2) := Lib.hid ⟨_, bad, _, _, _, hb, hr7⟩
                clear hr7 hb
                go_wp2
                go_roundg (0)
                case measure => omega
                case rel => exact ⟨x, rfl, Lib.hid (.inr ⟨HD9.out, rfl⟩), HC8⟩
            | err n =>
              rw [hbk] at hrz
              obtain ⟨q7, bad, sz, ts, v7, hb, hr7⟩ : Rq w8 D B gr a cap u most (.err 1) := hrz.elim (fun h => h) (fun h => h)
              have HD9 : Hid (∃ q bad sz ts v2, bad ≠ 0 ∧ Rn w8 D B gr a cap u q bad most sz ts v2) := Lib.hid ⟨_, bad, _, _, _, hb, hr7⟩
              clear hr7 hb
              go_wp2
              go_roundg (0)
              case measure => omega
              case rel => exact ⟨x, rfl, Lib.hid (.inr ⟨HD9.out, rfl⟩), HC8⟩
          · have HLN2 := Lib.hid (HLN.out w6 D B gr a cap u q2 most s2 v6 hz hr6)
            clear hr6
            go_wp2_with fail
            refine HLN2.out.mono ?_
            clear HLN2
            rintro e w7 ⟨a1, n1, c1, a2, n2, c2, L, M, rfl, hi1, hi2, hn1, hn2, hc7, hor⟩
            have HC7 := Lib.hid (HC6.out.trans hc7 (fun n hn => .inl hn))
            clear hc7 k6
            rcases hor with ⟨q3', hbo, fL, fM, ⟨v7, hr7⟩⟩ | ⟨q7, bad, sz, ts, v7, hb, hr7⟩
            · have HB := Lib.hid (rsyms_any hr7 hz hi1 hi2 hn1 hn2 fL fM)
              clear hi1 hi2 hr7
              go_wp2_with fail
              refine HB.out.mono ?_
              clear HB
              rintro e w8 ⟨rfl, hrz, hc8⟩
              have HC8 := Lib.hid (HC7.out.trans hc8 (fun n hn => .inl hn))
              clear hc8
              cases hbk : Ip.symsP most (Bk.rowsL L) (Bk.rowsL M) s2 u q3' with
              | ok s3 q3 =>
                rw [hbk] at hrz
                have hblk : Ip.blockP (Ip.dynP most) most s2 2 u q2 = .ok s3 q3 := by unfold Ip.blockP; rw [if_neg (by decide), if_neg (by decide), if_pos rfl]; unfold Ip.dynP; rw [Ip.bind_ok hbo]; exact hbk
                rcases hrz with ⟨v3, hr7⟩ | ⟨q7, bad, sz, ts, v7, hb, hr7⟩
                · have hmo := Ip.mono_blockP (fun s => Ip.mono_dynP most s) most s2 2 u q2 s3 q3 hblk
                  rcases hx2 with rfl | rfl
                  · have HI : Hid (UnpAt w u most w8 D B gr a cap 0 (u.length - q3 + 1)) := Lib.hid (.inl ⟨q3, s3, v3, hr7, .inl ⟨rfl, rfl, f, by omega, by rw [HSP.out, Ip.unp_next HNS.out rfl hblk]⟩⟩)
                    clear hr7
                    go_wp2
                    go_roundg (u.length - q3 + 1)
                    case measure => omega
                    case rel => exact ⟨0, rfl, HI, HC8⟩
                  · have HI : Hid (UnpAt w u most w8 D B gr a cap 1 0) := Lib.hid (.inl ⟨q3, s3, v3, hr7, .inr ⟨by decide, rfl, by rw [HSP.out, Ip.unp_last HNS.out rfl hblk]⟩⟩)
                    clear hr7
                    go_wp2
                    go_roundg (0)
                    case measure => omega
                    case rel => exact ⟨1, rfl, HI, HC8⟩
                · have HD9 : Hid (∃ q bad sz ts v2, bad ≠ 0 ∧ Rn w8 D B gr a cap u q bad most sz ts v2) := Lib.hid ⟨_, bad, _, _, _, hb, hr7⟩
                  clear hr7 hb
                  go_wp2
                  go_roundg (0)
                  case measure => omega
                  case rel => exact ⟨x, rfl, Lib.hid (.inr ⟨HD9.out, rfl⟩), HC8⟩
              | err n =>
                rw [hbk] at hrz
                obtain ⟨q7, bad, sz, ts, v7, hb, hr7⟩ : Rq w8 D B gr a cap u most (.err 1) := hrz.elim (fun h => h) (fun h => h)
                have HD9 : Hid (∃ q bad sz ts v2, bad ≠ 0 ∧ Rn w8 D B gr a cap u q bad most sz ts v2) := Lib.hid ⟨_, bad, _, _, _, hb, hr7⟩
                clear hr7 hb
                go_wp2
                go_roundg (0)
                case measure => omega
                case rel => exact ⟨x, rfl, Lib.hid (.inr ⟨HD9.out, rfl⟩), HC8⟩
            · have HB := Lib.hid (rsyms_dead hr7 hb hi1 hi2 hn1 hn2)
              clear hi1 hi2 hr7
              have HBB2 := Lib.hid hb
              clear hb
              go_wp2_with fail
              refine HB.out.mono ?_
              clear HB
              rintro e w8 ⟨rfl, hr8, hc8⟩
              have HC8 := Lib.hid (HC7.out.trans hc8 (fun n hn => .inl hn))
              have hb := HBB2.out
              clear hc8
              have HD9 : Hid (∃ q bad sz ts v2, bad ≠ 0 ∧ Rn w8 D B gr a cap u q bad most sz ts v2) := Lib.hid ⟨_, bad, _, _, _, hb, hr8⟩
              clear hr8 hb
              go_wp2
              go_roundg (0)
              case measure => omega
              case rel => exact ⟨x, rfl, Lib.hid (.inr ⟨HD9.out, rfl⟩), HC8⟩
          · have HB := Lib.hid (rfail_any hr6 2 (by decide))
            clear hr6
            go_wp2_with fail
            refine HB.out.mono ?_
            clear HB
            rintro e w7 ⟨rfl, ⟨bad, hb, hr7⟩, hc7⟩
            have HC7 := Lib.hid (HC6.out.trans hc7 (fun n hn => .inl hn))
            clear hc7 k6
            have HD9 : Hid (∃ q bad sz ts v2, bad ≠ 0 ∧ Rn w7 D B gr a cap u q bad most sz ts v2) := Lib.hid ⟨_, bad, _, _, _, hb, hr7⟩
            clear hr7 hb
            go_wp2
            go_roundg (0)
            case measure => omega
            case rel => exact ⟨x, rfl, Lib.hid (.inr ⟨HD9.out, rfl⟩), HC7⟩
    · have k1 := hrn.cells.2.1
      have k2 := hrn.cells.2.2.1
      have k5 := hrn.cells.2.2.2.2.2
      have d0 : ((x : Int) == 0) = false := by simp; omega
      have hqu := hrn.hp
      have iq : IntKind.i64.wrap ((q : Int) + 7) = (q : Int) + 7 := IntWalk.i64_in _ ⟨by omega, by omega⟩
      have HP : Hid (∀ N, TkPost w most l (.returned (.tuple #[v2, .int .i64 (((q + 7) / 8 : Nat) : Int), .int .i64 0])) (wr.drewN N)) := Lib.hid (fun N => HFIN.out _ q s2 v2 (hrn.mono (dn_is wr N)) hsp (HCH.out.trans (Ch.of_below (T := fun _ => False) (dn_is wr N)) (fun _ h => h.elim)))
      have eq7 : (((q + 7) / 8 : Nat) : Int) = ((q : Int) + 7) / 8 := by omega
      rw [eq7] at HP
      clear hrn hsp HK eq7
      go_wp2
      go_quiet (fail)
      go_wp2
      go_ret3
      exact HP.out nq
    · have HB2 := Lib.hid hb
      by_cases hx0 : x = 0
      · subst hx0
        have d10 : (bad != 0) = true := by simpa using hb
        have d11 : (bad == 0) = false := by simpa using hb
        have k8 := hrn.cells.2.2.1
        have HP : Hid (∀ N, TkPost w most l (.returned (.tuple #[.slice none 0 0, .int .i64 0, .int .i64 bad])) (wr.drewN N)) := Lib.hid (fun N => ⟨(HCH.out.trans (Ch.of_below (T := fun _ => False) (dn_is _ N)) (fun _ h => h.elim)).below (Nat.le_refl _) (fun k hk => by rw [HDD.out] at hk; omega), _, _, bad, rfl, .inl hb⟩)
        clear hrn hb HCH
        go_wp2
        go_quiet (fail)
        go_wp2
        go_ret3
        exact HP.out nq
      · have d0 : ((x : Int) == 0) = false := by simp; omega
        have d10 : (bad != 0) = true := by simpa using hb
        have d11 : (bad == 0) = false := by simpa using hb
        have k8 := hrn.cells.2.2.1
        have HP : Hid (∀ N, TkPost w most l (.returned (.tuple #[.slice none 0 0, .int .i64 0, .int .i64 bad])) (wr.drewN N)) := Lib.hid (fun N => ⟨(HCH.out.trans (Ch.of_below (T := fun _ => False) (dn_is _ N)) (fun _ h => h.elim)).below (Nat.le_refl _) (fun k hk => by rw [HDD.out] at hk; omega), _, _, bad, rfl, .inl hb⟩)
        clear hrn hb HCH
        go_wp2
        go_quiet (fail)
        go_wp2
        go_ret3
        exact HP.out nq
end Go.Proofs.YtfgpmccmalddjaaDoor
end

section
namespace Go.Proofs.YtfgpmccmalddjaaDoor
namespace Ip
/-- One symbol's worth. -/
def grow1 (R : Nat → List Nat) (size : Nat) (ls : List Int) : Pr (List Int ⊕ List Int) := bind (rdP R) fun y => bind (runP y ls) (growK size ls)
/-- So many symbols' worth. -/
def Gr (R : Nat → List Nat) (size : Nat) (u : List Bool) (l2 : List Int) (q2 : Nat) : Nat → List Int → Nat → Prop
  | 0, ls, q => ls = l2 ∧ q = q2
  | k + 1, ls, q => ls.length < size ∧ ∃ l1 q1, grow1 R size ls u q = .ok (.inl l1) q1 ∧ (∃ x : Int × Nat, l1 = ls ++ List.replicate x.2 x.1 ∧ 1 ≤ x.2) ∧ l1.length ≤ size ∧ Gr R size u l2 q2 k l1 q1
theorem Gr.snoc {R : Nat → List Nat} {size : Nat} {u : List Bool} {l2 l3 : List Int} {q2 q3 : Nat} (hs : l2.length < size) (h1 : grow1 R size l2 u q2 = .ok (.inl l3) q3) (h2 : ∃ x : Int × Nat, l3 = l2 ++ List.replicate x.2 x.1 ∧ 1 ≤ x.2) (h3 : l3.length ≤ size) :
    ∀ k ls q, Gr R size u l2 q2 k ls q → Gr R size u l3 q3 (k + 1) ls q
  | 0, ls, q, h => by obtain ⟨rfl, rfl⟩ := h; exact ⟨hs, l3, q3, h1, h2, h3, rfl, rfl⟩
  | k + 1, ls, q, h => by
    obtain ⟨a, l1, q1, b, c, d, e⟩ := h
    exact ⟨a, l1, q1, b, c, d, Gr.snoc hs h1 h2 h3 k l1 q1 e⟩
theorem Gr.pre {R : Nat → List Nat} {size : Nat} {u : List Bool} {l2 : List Int} {q2 : Nat} : ∀ k ls q, Gr R size u l2 q2 k ls q → ls <+: l2 ∧ ls.length + k ≤ l2.length
  | 0, ls, q, h => by obtain ⟨rfl, rfl⟩ := h; exact ⟨List.prefix_refl _, by omega⟩
  | k + 1, ls, q, h => by
    obtain ⟨a, l1, q1, b, ⟨x, hx, hx1⟩, d, e⟩ := h
    have ih := Gr.pre k l1 q1 e
    have hl : l1.length = ls.length + x.2 := by rw [hx]; simp
    exact ⟨(hx ▸ List.prefix_append ls _ : ls <+: l1).trans ih.1, by omega⟩
theorem Gr.part {R : Nat → List Nat} {size n : Nat} {u : List Bool} {l2 : List Int} {q2 : Nat} (hn : n ≤ l2.length) : ∀ k ls q f, k < f → Gr R size u l2 q2 k ls q →
    ∃ lm qm k2, loop (growStep R size n) f ls u q = .ok lm qm ∧ Gr R size u l2 q2 k2 lm qm ∧ k2 ≤ k ∧ n ≤ lm.length
  | k, ls, q, f + 1, hf, h => by
    by_cases hl : n ≤ ls.length
    · refine ⟨ls, q, k, ?_, h, Nat.le_refl _, hl⟩
      show bind (growStep R size n ls) _ u q = _
      unfold growStep
      rw [if_pos hl]; rfl
    · cases k with
      | zero => obtain ⟨rfl, rfl⟩ := h; omega
      | succ k =>
        obtain ⟨a, l1, q1, b, c, d, e⟩ := h
        obtain ⟨lm, qm, k2, h1, h2, h3, h4⟩ := Gr.part hn k l1 q1 f (by omega) e
        refine ⟨lm, qm, k2, ?_, h2, by omega, h4⟩
        show bind (growStep R size n ls) _ u q = _
        unfold growStep
        rw [if_neg hl]
        change bind (grow1 R size ls) _ u q = _
        rw [bind_ok b]
        exact h1
theorem grow_two {R : Nat → List Nat} {size n : Nat} {u : List Bool} {l2 : List Int} {q0 q2 k : Nat} (h : Gr R size u l2 q2 k [] q0) (hl : l2.length = size) (hn : n ≤ size) (hs : size < 1000) :
    ∃ ls q1, growP R size n [] u q0 = .ok ls q1 ∧ growP R size size ls u q1 = .ok l2 q2 ∧ ls.take n = l2.take n := by
  have hk := (Gr.pre k [] q0 h).2
  obtain ⟨lm, qm, k2, h1, h2, h3, h4⟩ := Gr.part (n := n) (by omega) k [] q0 1000 (by simp at hk; omega) h
  obtain ⟨lx, qx, k3, g1, g2, g3, g4⟩ := Gr.part (n := size) (by omega) k2 lm qm 1000 (by simp at hk; omega) h2
  have p2 := Gr.pre k2 lm qm h2
  have p3 := Gr.pre k3 lx qx g2
  have hk3 : k3 = 0 := by omega
  subst hk3
  obtain ⟨rfl, rfl⟩ := g2
  refine ⟨lm, qm, h1, g1, ?_⟩
  obtain ⟨t, ht⟩ := p2.1
  rw [← ht, List.take_append_of_le_length h4]
/-- The books' lengths, when all goes well. -/
theorem books_is {u : List Bool} {p q1 q2 q3 q4 q5 n m c : Nat} {own : List Nat} {l2 : List Int} {k : Nat} (h1 : take 5 u p = .ok n q1) (hn : n + 257 ≤ 286) (h2 : take 5 u q1 = .ok m q2) (hm : m + 1 ≤ 30) (h3 : take 4 u q2 = .ok c q3) (h4 : numbers (List.replicate (c + 4) 3) u q3 = .ok own q4)
    (h5 : whole (place own own.length) = true) (h6 : Gr (Bk.rowsL (place own own.length)) ((n + 257) + (m + 1)) u l2 q5 k [] q4) (hl : l2.length = (n + 257) + (m + 1)) (h7 : litOk (l2.take (n + 257)) = true) (h8 : distOk (l2.drop (n + 257)) = true) :
    booksP u p = .ok (l2.take (n + 257), l2.drop (n + 257)) q5 := by
  obtain ⟨ls, q6, g1, g2, g3⟩ := grow_two (n := n + 257) h6 hl (by omega) (by omega)
  have e1 : sizesP u p = .ok (n + 257, m + 1) q2 := by
    unfold sizesP
    rw [bind_ok h1, if_neg (by omega), bind_ok h2, if_neg (by omega)]; rfl
  have e2 : seqP u q2 = .ok (place own own.length) q4 := by
    unfold seqP
    rw [bind_ok h3, bind_ok h4, if_pos h5]; rfl
  unfold booksP
  rw [bind_ok e1, bind_ok e2]
  dsimp only
  rw [bind_ok g1, g3, if_pos h7, bind_ok g2, if_pos h8]; rfl
/-- What a symbol comes to. -/
theorem grow1_is {R : Nat → List Nat} {size : Nat} {ls : List Int} {u : List Bool} {q r r2 : Nat} {y : Int} {x : Int × Nat} (h1 : rdP R u q = .ok y r) (h2 : runP y ls u r = .ok x r2) (h3 : ls.length + x.2 ≤ size) : grow1 R size ls u q = .ok (.inl (ls ++ List.replicate x.2 x.1)) r2 := by
  unfold grow1
  rw [bind_ok h1, bind_ok h2]
  unfold growK
  rw [if_neg (by omega)]; rfl
end Ip
end Go.Proofs.YtfgpmccmalddjaaDoor
end
