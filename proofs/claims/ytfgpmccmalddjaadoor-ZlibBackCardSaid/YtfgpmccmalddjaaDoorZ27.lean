/- The document's reader: a stored block. The document's bits of bytes: their contract. -/
import Derived.Test.YtfgpmccmalddjaaDoorZ26
set_option linter.unusedSimpArgs false
set_option linter.unusedVariables false
section
namespace Go.Proofs.YtfgpmccmalddjaaDoor
open Go.RowKit
attribute [local go_sem] Oper.semAt_some

namespace Ip
theorem addsP_snoc (most x : Nat) (xs : List Nat) : ∀ (s : Unp) (u : List Bool) (q : Nat), addsP most (xs ++ [x]) s u q = bind (addsP most xs s) (fun s' => bind (addP most (0, ((x : Nat) : Int)) s') pure) u q := by
  induction xs with
  | nil => intro s u q; rfl
  | cons y ys ih =>
    intro s u q
    show bind (addP most (0, ((y : Nat) : Int)) s) (addsP most (ys ++ [x])) u q = bind (bind (addP most (0, ((y : Nat) : Int)) s) (addsP most ys)) _ u q
    cases h : addP most (0, ((y : Nat) : Int)) s u q with
    | err n => rw [bind_err h, bind2_err h]
    | ok s' q' => rw [bind_ok h, bind2_ok h]; exact ih s' u q'
theorem adds_next {most x : Nat} {xs : List Nat} {s s1 s2 : Unp} {u : List Bool} {q r : Nat} (h1 : addsP most xs s u q = .ok s1 q) (h2 : addP most (0, ((x : Nat) : Int)) s1 u q = .ok s2 r) : addsP most (xs ++ [x]) s u q = .ok s2 r := by
  rw [addsP_snoc, bind_ok h1, bind_ok h2]; rfl
theorem addP_any {most : Nat} {t : Tok} {s s' : Unp} {u : List Bool} {q r q' : Nat} (h : addP most t s u q = .ok s' r) : r = q ∧ addP most t s u q' = .ok s' q' := by
  unfold addP at h ⊢
  split at h
  · rename_i h0
    rw [if_pos h0]; cases h; exact ⟨rfl, rfl⟩
  · cases h
theorem addsP_any {most : Nat} {xs : List Nat} : ∀ {s s' : Unp} {u : List Bool} {q r q' : Nat}, addsP most xs s u q = .ok s' r → r = q ∧ addsP most xs s u q' = .ok s' q' := by
  induction xs with
  | nil => intro s s' u q r q' h; cases h; exact ⟨rfl, rfl⟩
  | cons y ys ih =>
    intro s s' u q r q' h
    change bind (addP most (0, ((y : Nat) : Int)) s) (addsP most ys) u q = .ok s' r at h
    show r = q ∧ bind (addP most (0, ((y : Nat) : Int)) s) (addsP most ys) u q' = .ok s' q'
    cases h1 : addP most (0, ((y : Nat) : Int)) s u q with
    | err n => rw [bind_err h1] at h; cases h
    | ok s1 r1 =>
      rw [bind_ok h1] at h
      obtain ⟨rfl, h2⟩ := addP_any (q' := q') h1
      rw [bind_ok h2]
      exact ih h
theorem nums_next {u : List Bool} {q q1 q2 k x : Nat} {xs : List Nat} (h1 : numbers (List.replicate k 8) u q = .ok xs q1) (h2 : take 8 u q1 = .ok x q2) : numbers (List.replicate (k + 1) 8) u q = .ok (xs ++ [x]) q2 := by
  rw [List.replicate_succ', numbers_append, bind_ok h1]
  show bind (numbers [8]) _ u q1 = _
  have : numbers [8] u q1 = .ok [x] q2 := by rw [numbers_one, bind_ok h2]; rfl
  rw [bind_ok this]; rfl
theorem stored_is {most n m q1 q2 q3 : Nat} {xs : List Nat} {s s3 : Unp} {u : List Bool} {p : Nat} (h1 : take 16 u ((p + 7) / 8 * 8) = .ok n q1) (h2 : take 16 u q1 = .ok m q2) (hx : bits .xor .i64 ((n : Nat) : Int) ((m : Nat) : Int) = 65535) (hs : s.1.length + n ≤ most)
    (h3 : numbers (List.replicate n 8) u q2 = .ok xs q3) (h4 : addsP most xs s u q3 = .ok s3 q3) : storedP most s u p = .ok s3 q3 := by
  have e1 : numbers [16, 16] u ((p + 7) / 8 * 8) = .ok [n, m] q2 := by
    show bind (take 16) _ u _ = _
    rw [bind_ok h1]
    show bind (numbers [16]) _ u q1 = _
    have : numbers [16] u q1 = .ok [m] q2 := by rw [numbers_one, bind_ok h2]; rfl
    rw [bind_ok this]; rfl
  show bind (numbers [16, 16]) _ u ((p + 7) / 8 * 8) = _
  rw [bind_ok e1]
  show storedK most s n m u q2 = _
  unfold storedK
  rw [if_pos hx, if_pos (by omega), bind_ok h3, h4]
end Ip
section
variable {w : World} {D : Nat → Prop} {B gr : Nat} {a : Option Addr} {cap : Nat} {u : List Bool} {p : Nat} {most : Nat} {v : Value} {s : Unp}
set_option maxRecDepth 100000 in
set_option maxHeartbeats 4000000 in
theorem rstored_any (h : Rn w D B gr a cap u p 0 most s.1.length s.2 v) (hz : 0 < u.length) (h8 : 8 ∣ u.length) :
    Calls Tryd.prog 28 #[.pointer (some ⟨gr, 0, none⟩)] w (RzPost w D B gr a cap u most (Ip.storedP most s u p)) := by
  have hp := h.hp
  have hu := h.hu
  have hm4 := h.hm
  have hs4 := h.hs
  have hA : p ≤ (p + 7) / 8 * 8 ∧ (p + 7) / 8 * 8 ≤ u.length ∧ (p + 7) / 8 * 8 % 8 = 0 ∧ (p + 7) / 8 * 8 < p + 8 := by obtain ⟨c, hc⟩ := h8; omega
  have HST := Lib.hid (fun n m q1 q2 xs s3 q3 => @Ip.stored_is most n m q1 q2 q3 xs s s3 u p)
  generalize (p + 7) / 8 * 8 = A at *
  have HI := Lib.hid (And.intro h (Ch.refl w (fun k => ¬ D k)))
  clear h h8
  go_enter Tryd.func28, Tryd.ntmps28
  go_wp2
  go_loopg [] (A - p) (fun gk wr => ∃ p', gk = A - p' ∧ p ≤ p' ∧ p' ≤ A ∧ Hid (Rn wr D B gr a cap u p' 0 most s.1.length s.2 v ∧ Ch w wr (fun k => ¬ D k)))
  case atStart => exact ⟨p, rfl, Nat.le_refl _, hA.1, HI⟩
  case round =>
    obtain ⟨p', rfl, hp1, hp2, HK⟩ := hrel
    have k1 := HK.out.1.cells.2.1
    by_cases hlt : p' < A
    · have hmod : p' % 8 ≠ 0 := by omega
      have d0 : (((p' : Int) % 8) != 0) = true := by simp; omega
      have f1 := HK.out.1.free 1
      have i0 : IntKind.i64.wrap ((p' : Int) + 1) = (p' : Int) + 1 := IntWalk.i64_in _ ⟨by omega, by omega⟩
      have HK2 : Hid (Rn (wr.setCell ⟨gr, 1, none⟩ (.int .i64 ((p' : Int) + 1))) D B gr a cap u (p' + 1) 0 most s.1.length s.2 v ∧ Ch w (wr.setCell ⟨gr, 1, none⟩ (.int .i64 ((p' : Int) + 1))) (fun k => ¬ D k)) := Lib.hid (by
        have hr := HK.out.1
        have c1 : Ch wr (wr.setCell ⟨gr, 1, none⟩ (.int .i64 ((p' : Int) + 1))) (fun k => k = gr) := (Ch.refl wr (fun k => k = gr)).set (p := ⟨gr, 1, none⟩) (.inl rfl) _
        have hr1 := row_set hr.row 1 (.int .i64 ((p' : Int) + 1))
        have ht := hr.turn (q := p' + 1) (sz' := s.1.length) (bad' := 0) c1 (by rw [show ((p' + 1 : Nat) : Int) = (p' : Int) + 1 from by omega]; exact hr1) (by omega) hr.hs hr.ht
        exact ⟨ht.1, HK.out.2.trans ht.2 (fun n hn => .inl hn)⟩)
      clear HK hmod
      go_wp2
      go_roundg (A - (p' + 1))
      case measure => omega
      case rel => exact ⟨p' + 1, rfl, by omega, by omega, HK2⟩
    · obtain rfl : p' = A := by omega
      have d0 : (((p' : Int) % 8) != 0) = false := by simp; omega
      have HR := Lib.hid HK.out.1
      have HC1 := Lib.hid HK.out.2
      have HT := Lib.hid (rtake_any HK.out.1 16 (by omega) (.inl (by omega)))
      have HCELL := Lib.hid k1
      clear HK HI
      generalize wr = w1 at *
      have HT : Hid (Calls Tryd.prog 27 #[.pointer (some ⟨gr, 0, none⟩), .int .i64 16] w1 (RtPost w1 D B gr a cap u most s (fun n : Nat => .int .i64 (n : Nat)) (.int .i64 0) (Ip.take 16 u p'))) := Lib.hid HT.out
      go_wp2_with fail
      refine HT.out.mono ?_
      clear HT
      cases h1 : Ip.take 16 u p' with
      | err n =>
        rintro e w2 ⟨rfl, ⟨q2, bad, sz, ts, v2, hb, hr2⟩, hc2⟩
        have HD2 := Lib.hid (rtake_dead hr2 hb 16)
        have HD2 : Hid (Calls Tryd.prog 27 #[.pointer (some ⟨gr, 0, none⟩), .int .i64 16] w2 fun e w' => e = .returned (.int .i64 0) ∧ Rn w' D B gr a cap u q2 bad most sz ts v2 ∧ Ch w2 w' (fun k => ¬ D k)) := Lib.hid HD2.out
        have hc2' := HC1.out.trans hc2 (fun n hn => .inl hn)
        clear hr2 hc2 HCELL h1
        go_wp2_with fail
        refine HD2.out.mono ?_
        rintro e w3 ⟨rfl, hr3, hc3⟩
        have HC3 := Lib.hid (hc2'.trans hc3 (fun n hn => .inl hn))
        clear hc2' hc3 HD2
        have d9 : (bad == 0) = false := by simpa using hb
        have k8 := hr3.cells.2.2.1
        have HP : Hid (∀ N, (w3.drewN N).cell? ⟨gr, 2, none⟩ = some (.int .i64 bad) ∧ RzPost w D B gr a cap u most (Ip.storedP most s u p) (.returned (.tuple #[])) (w3.drewN N)) := Lib.hid (fun N => ⟨(hr3.mono (dn_is _ N)).cells.2.2.1, rfl, .inr ⟨_, bad, _, _, _, hb, hr3.mono (dn_is _ N)⟩, HC3.out.trans (Ch.of_below (T := fun _ => False) (dn_is _ N)) (fun _ h => h.elim)⟩)
        clear hr3 hb HC3
        go_wp2
        go_quiet (fail)
        have k9 := (HP.out nq).1
        go_wp2
        go_loop [4] (fun i => i = .int .i64 0) (fun _ => 0)
        case atStart => rfl
        case round =>
          subst hrel
          go_wp2
          go_end0
          exact (HP.out nq).2
      | ok n q1 =>
        rintro e w2 ⟨rfl, ⟨v2, hr2⟩, hc2⟩
        have hn := Ip.take_lt h1
        rw [show (2 : Nat) ^ 16 = 65536 from rfl] at hn
        have HT : Hid (Calls Tryd.prog 27 #[.pointer (some ⟨gr, 0, none⟩), .int .i64 16] w2 (RtPost w2 D B gr a cap u most s (fun n : Nat => .int .i64 (n : Nat)) (.int .i64 0) (Ip.take 16 u q1))) := Lib.hid (rtake_any hr2 16 (by omega) (.inl (by omega)))
        have HC2 := Lib.hid (HC1.out.trans hc2 (fun n hn => .inl hn))
        have H1 := Lib.hid h1
        have HN := Lib.hid hn
        clear hr2 hc2 HCELL h1 hn
        go_wp2_with fail
        refine HT.out.mono ?_
        clear HT
        cases h2 : Ip.take 16 u q1 with
        | err m =>
          rintro e w3 ⟨rfl, ⟨q3, bad, sz, ts, v3, hb, hr3⟩, hc3⟩
          have HC3 := Lib.hid (HC2.out.trans hc3 (fun n hn => .inl hn))
          clear hc3 h2
          have d9 : (bad == 0) = false := by simpa using hb
          have k8 := hr3.cells.2.2.1
          have HP : Hid (∀ N, (w3.drewN N).cell? ⟨gr, 2, none⟩ = some (.int .i64 bad) ∧ RzPost w D B gr a cap u most (Ip.storedP most s u p) (.returned (.tuple #[])) (w3.drewN N)) := Lib.hid (fun N => ⟨(hr3.mono (dn_is _ N)).cells.2.2.1, rfl, .inr ⟨_, bad, _, _, _, hb, hr3.mono (dn_is _ N)⟩, HC3.out.trans (Ch.of_below (T := fun _ => False) (dn_is _ N)) (fun _ h => h.elim)⟩)
          clear hr3 hb HC3
          go_wp2
          go_quiet (fail)
          have k9 := (HP.out nq).1
          go_wp2
          go_loop [4] (fun i => i = .int .i64 0) (fun _ => 0)
          case atStart => rfl
          case round =>
            subst hrel
            by_cases hn0 : 0 < n
            · have d11 : decide (0 < n) = true := by simpa using hn0
              have d12 : decide ((0 : Int) < (n : Int)) = true := by simp; omega
              go_wp2
              go_end0
              exact (HP.out nq).2
            · have d11 : decide (0 < n) = false := by simpa using hn0
              have d12 : decide ((0 : Int) < (n : Int)) = false := by simp; omega
              go_wp2
              go_end0
              exact (HP.out nq).2
        | ok m q2 =>
          rintro e w3 ⟨rfl, ⟨v3, hr3⟩, hc3⟩
          have hm := Ip.take_lt h2
          rw [show (2 : Nat) ^ 16 = 65536 from rfl] at hm
          have HC3 := Lib.hid (HC2.out.trans hc3 (fun n hn => .inl hn))
          have H2 := Lib.hid h2
          have k3 := hr3.cells.2.2.1
          have iw : IntKind.i64.wrap ((n : Int) + (m : Int)) = (n : Int) + (m : Int) := by have := HN.out; exact IntWalk.i64_in _ ⟨by omega, by omega⟩
          by_cases hx : n + m = 65535
          · have d5 : (((n : Int) + (m : Int)) != 65535) = false := by simp; omega
            have HXX : Hid (bits .xor .i64 ((n : Nat) : Int) ((m : Nat) : Int) = 65535) := Lib.hid (by
              have hn := HN.out
              rw [i64_xor_nat _ _ (by omega) (by omega), show m = 65535 - n by omega, xor_full n (by omega)]; rfl)
            have iw2 : IntKind.i64.wrap ((s.1.length : Int) + (n : Int)) = (s.1.length : Int) + (n : Int) := by have := HN.out; exact IntWalk.i64_in _ ⟨by omega, by omega⟩
            have k34 := hr3.cells.2.2.2.2.1
            have k33 := hr3.cells.2.2.2.1
            by_cases hbig : most < s.1.length + n
            · have d6 : decide ((most : Int) < (s.1.length : Int) + (n : Int)) = true := by simp; omega
              have HF := Lib.hid (fun N => rfail_any (hr3.mono (dn_is w3 N)) 4 (by decide))
              clear hr3 hc3 h2 hm hx
              go_wp2
              go_quiet (fail)
              go_wp2_with fail
              refine (HF.out _).mono ?_
              rintro e w4 ⟨rfl, ⟨bad, hb, hr4⟩, hc4⟩
              have HC4 : Hid (Ch w w4 (fun k => ¬ D k)) := Lib.hid ((HC3.out.trans (Ch.of_below (T := fun _ => False) (dn_is w3 _)) (fun _ h => h.elim)).trans hc4 (fun n hn => .inl hn))
              clear hc4 HF
              have d9 : (bad == 0) = false := by simpa using hb
              have k8 := hr4.cells.2.2.1
              have HP : Hid (∀ N, (w4.drewN N).cell? ⟨gr, 2, none⟩ = some (.int .i64 bad) ∧ RzPost w D B gr a cap u most (Ip.storedP most s u p) (.returned (.tuple #[])) (w4.drewN N)) := Lib.hid (fun N => ⟨(hr4.mono (dn_is _ N)).cells.2.2.1, rfl, .inr ⟨_, bad, _, _, _, hb, hr4.mono (dn_is _ N)⟩, HC4.out.trans (Ch.of_below (T := fun _ => False) (dn_is _ N)) (fun _ h => h.elim)⟩)
              clear hr4 hb HC4
              go_wp2
              go_loop [4] (fun i => i = .int .i64 0) (fun _ => 0)
              case atStart => rfl
              case round =>
                subst hrel
                by_cases hn0 : 0 < n
                · have d11 : decide (0 < n) = true := by simpa using hn0
                  have d12 : decide ((0 : Int) < (n : Int)) = true := by simp; omega
                  go_wp2
                  go_end0
                  exact (HP.out 0).2
                · have d11 : decide (0 < n) = false := by simpa using hn0
                  have d12 : decide ((0 : Int) < (n : Int)) = false := by simp; omega
                  go_wp2
                  go_end0
                  exact (HP.out 0).2
            · have d6 : decide ((most : Int) < (s.1.length : Int) + (n : Int)) = false := by simp; omega
              have HW : Hid (∀ N, Rn (w3.drewN N) D B gr a cap u q2 0 most s.1.length s.2 v3 ∧ Ch w (w3.drewN N) (fun k => ¬ D k)) := Lib.hid (fun N => ⟨hr3.mono (dn_is w3 N), HC3.out.trans (Ch.of_below (T := fun _ => False) (dn_is w3 N)) (fun _ h => h.elim)⟩)
              have HFIN : Hid (∀ xs s3 q3 w' v', Ip.numbers (List.replicate n 8) u q2 = .ok xs q3 → Ip.addsP most xs s u q2 = .ok s3 q2 → Rn w' D B gr a cap u q3 0 most s3.1.length s3.2 v' → Ch w w' (fun k => ¬ D k) → RzPost w D B gr a cap u most (Ip.storedP most s u p) (.returned (.tuple #[])) w') := Lib.hid (fun xs s3 q3 w' v' h3 h4 hr hc => by
                refine ⟨rfl, .inl ?_, hc⟩
                rw [HST.out n m q1 q2 xs s3 q3 H1.out H2.out HXX.out (by omega) h3 (Ip.addsP_any h4).2]
                exact ⟨v', hr⟩)
              clear hr3 hc3 h2 hm hx hbig
              go_wp2
              go_quiet (fail)
              have hw := HW.out nq
              clear HW HC3 HC2 HC1 HST
              revert hw
              generalize w3.drewN nq = w4
              intro hw
              have HI4 : Hid ((∃ xs s3 q3 v', Rn w4 D B gr a cap u q3 0 most s3.1.length s3.2 v' ∧ Ip.numbers (List.replicate 0 8) u q2 = .ok xs q3 ∧ Ip.addsP most xs s u q2 = .ok s3 q2 ∧ n + 1 = n - 0 + 1) ∨ ((∃ q bad sz ts v2, bad ≠ 0 ∧ Rn w4 D B gr a cap u q bad most sz ts v2) ∧ n + 1 = 0)) := Lib.hid (.inl ⟨[], s, q2, v3, hw.1, rfl, rfl, rfl⟩)
              have HC4 := Lib.hid hw.2
              clear hw k3 k34 k33
              go_wp2
              go_loopg [4] (n + 1) (fun gk i wr => ∃ k : Nat, k ≤ n ∧ i = .int .i64 k ∧ Hid ((∃ xs s3 q3 v', Rn wr D B gr a cap u q3 0 most s3.1.length s3.2 v' ∧ Ip.numbers (List.replicate k 8) u q2 = .ok xs q3 ∧ Ip.addsP most xs s u q2 = .ok s3 q2 ∧ gk = n - k + 1) ∨ ((∃ q bad sz ts v2, bad ≠ 0 ∧ Rn wr D B gr a cap u q bad most sz ts v2) ∧ gk = 0)) ∧ Hid (Ch w wr (fun k => ¬ D k)))
              case atStart => exact ⟨0, by omega, rfl, HI4, HC4⟩
              case round =>
                obtain ⟨k, hk, rfl, HK, HCH⟩ := hrel
                rcases HK.out with ⟨xs, s3, q3, v', hrn, h3, h4, rfl⟩ | ⟨⟨q, bad, sz, ts, v2, hb, hrn⟩, rfl⟩
                · have k2 := hrn.cells.2.2.1
                  by_cases hlt : k < n
                  · have HT : Hid (Calls Tryd.prog 27 #[.pointer (some ⟨gr, 0, none⟩), .int .i64 8] wr (RtPost wr D B gr a cap u most s3 (fun n : Nat => .int .i64 (n : Nat)) (.int .i64 0) (Ip.take 8 u q3))) := Lib.hid (rtake_any hrn 8 (by omega) (.inl (by omega)))
                    have H3 := Lib.hid h3
                    have H4 := Lib.hid h4
                    have hkn := HN.out
                    clear hrn h3 h4 HK HFIN
                    go_wp2_with fail
                    refine HT.out.mono ?_
                    clear HT
                    cases h5 : Ip.take 8 u q3 with
                    | err x =>
                      rintro e w6 ⟨rfl, ⟨q6, bad, sz, ts, v6, hb, hr6⟩, hc6⟩
                      have HPD := Lib.hid (rput_dead hr6 hb 0 0)
                      have HC6 := Lib.hid (HCH.out.trans hc6 (fun n hn => .inl hn))
                      have HB := Lib.hid hb
                      clear hr6 hc6 h5 hb
                      go_wp2_with fail
                      refine HPD.out.mono ?_
                      rintro e w7 ⟨rfl, hr7, hc7⟩
                      have HD7 : Hid (∃ q bad sz ts v2, bad ≠ 0 ∧ Rn w7 D B gr a cap u q bad most sz ts v2) := Lib.hid ⟨q6, bad, sz, ts, v6, HB.out, hr7⟩
                      have HC7 := Lib.hid (HC6.out.trans hc7 (fun n hn => .inl hn))
                      clear hr7 hc7 HPD HC6
                      go_wp2
                      go_roundg (0)
                      case measure => omega
                      case rel => exact ⟨k + 1, by omega, by go_num, Lib.hid (.inr ⟨HD7.out, rfl⟩), HC7⟩
                    | ok z q4 =>
                      rintro e w6 ⟨rfl, ⟨v6, hr6⟩, hc6⟩
                      have hz8 := Ip.take_lt h5
                      rw [show (2 : Nat) ^ 8 = 256 from rfl] at hz8
                      have HPT := Lib.hid (rput_lit hr6 hz8)
                      have HC6 := Lib.hid (HCH.out.trans hc6 (fun n hn => .inl hn))
                      have H5 := Lib.hid h5
                      clear hr6 hc6 h5 hz8
                      go_wp2_with fail
                      refine HPT.out.mono ?_
                      cases ha : Ip.addP most ((0 : Int), ((z : Nat) : Int)) s3 u q4 with
                      | err x =>
                        rintro e w7 ⟨rfl, ⟨q7, bad, sz, ts, v7, hb, hr7⟩, hc7⟩
                        have HD7 : Hid (∃ q bad sz ts v2, bad ≠ 0 ∧ Rn w7 D B gr a cap u q bad most sz ts v2) := Lib.hid ⟨q7, bad, sz, ts, v7, hb, hr7⟩
                        have HC7 := Lib.hid (HC6.out.trans hc7 (fun n hn => .inl hn))
                        clear hr7 hc7 HPT HC6 ha hb
                        go_wp2
                        go_roundg (0)
                        case measure => omega
                        case rel => exact ⟨k + 1, by omega, by go_num, Lib.hid (.inr ⟨HD7.out, rfl⟩), HC7⟩
                      | ok s4 q5 =>
                        rintro e w7 ⟨rfl, ⟨v7, hr7⟩, hc7⟩
                        obtain ⟨rfl, ha2⟩ := Ip.addP_any (q' := q2) ha
                        have HI7 : Hid ((∃ xs s3 q3 v', Rn w7 D B gr a cap u q3 0 most s3.1.length s3.2 v' ∧ Ip.numbers (List.replicate (k + 1) 8) u q2 = .ok xs q3 ∧ Ip.addsP most xs s u q2 = .ok s3 q2 ∧ n - (k + 1) + 1 = n - (k + 1) + 1) ∨ ((∃ q bad sz ts v2, bad ≠ 0 ∧ Rn w7 D B gr a cap u q bad most sz ts v2) ∧ n - (k + 1) + 1 = 0)) := Lib.hid (.inl ⟨xs ++ [z], s4, q5, v7, hr7, Ip.nums_next H3.out H5.out, Ip.adds_next H4.out ha2, rfl⟩)
                        have HC7 := Lib.hid (HC6.out.trans hc7 (fun n hn => .inl hn))
                        clear hr7 hc7 HPT HC6 ha ha2
                        go_wp2
                        go_roundg (n - (k + 1) + 1)
                        case measure => omega
                        case rel => exact ⟨k + 1, by omega, by go_num, Lib.hid (HI7.out.elim (fun h => .inl (by obtain ⟨a1, a2, a3, a4, a5, a6, a7, _⟩ := h; exact ⟨a1, a2, a3, a4, a5, a6, a7, rfl⟩)) (fun h => .inr h)), HC7⟩
                  · obtain rfl : k = n := by omega
                    have HP := Lib.hid (HFIN.out xs s3 q3 wr v' h3 h4 hrn HCH.out)
                    clear hrn h3 h4 HK HFIN
                    go_wp2
                    go_end0
                    exact HP.out
                · have k2 := hrn.cells.2.2.1
                  have d9 : (bad == 0) = false := by simpa using hb
                  have HP : Hid (RzPost w D B gr a cap u most (Ip.storedP most s u p) (.returned (.tuple #[])) wr) := Lib.hid ⟨rfl, .inr ⟨_, bad, _, _, _, hb, hrn⟩, HCH.out⟩
                  clear hb hrn HK HFIN
                  by_cases hlt : k < n
                  · go_wp2
                    go_end0
                    exact HP.out
                  · go_wp2
                    go_end0
                    exact HP.out
          · have d5 : (((n : Int) + (m : Int)) != 65535) = true := by simp; omega
            have HF := Lib.hid (rfail_any hr3 2 (by decide))
            clear hr3 hc3 h2 hm hx
            go_wp2_with fail
            refine HF.out.mono ?_
            rintro e w4 ⟨rfl, ⟨bad, hb, hr4⟩, hc4⟩
            have HC4 := Lib.hid (HC3.out.trans hc4 (fun n hn => .inl hn))
            clear hc4 HF
            have d9 : (bad == 0) = false := by simpa using hb
            have k8 := hr4.cells.2.2.1
            have HP : Hid (∀ N, (w4.drewN N).cell? ⟨gr, 2, none⟩ = some (.int .i64 bad) ∧ RzPost w D B gr a cap u most (Ip.storedP most s u p) (.returned (.tuple #[])) (w4.drewN N)) := Lib.hid (fun N => ⟨(hr4.mono (dn_is _ N)).cells.2.2.1, rfl, .inr ⟨_, bad, _, _, _, hb, hr4.mono (dn_is _ N)⟩, HC4.out.trans (Ch.of_below (T := fun _ => False) (dn_is _ N)) (fun _ h => h.elim)⟩)
            clear hr4 hb HC4
            go_wp2
            go_quiet (fail)
            have k9 := (HP.out nq).1
            go_wp2
            go_loop [4] (fun i => i = .int .i64 0) (fun _ => 0)
            case atStart => rfl
            case round =>
              subst hrel
              by_cases hn0 : 0 < n
              · have d11 : decide (0 < n) = true := by simpa using hn0
                have d12 : decide ((0 : Int) < (n : Int)) = true := by simp; omega
                go_wp2
                go_end0
                exact (HP.out nq).2
              · have d11 : decide (0 < n) = false := by simpa using hn0
                have d12 : decide ((0 : Int) < (n : Int)) = false := by simp; omega
                go_wp2
                go_end0
                exact (HP.out nq).2
end
end Go.Proofs.YtfgpmccmalddjaaDoor
end

section
namespace Go.Proofs.YtfgpmccmalddjaaDoor
open Go.RowKit

def BitsPost (w : World) (h : Bool) (l : List UInt8) (e : Ending) (w' : World) : Prop :=
  ∃ v, e = .returned v ∧ w'.ownsRow w.heap.size 3 1 v (8 * l.length) (ivs (bi (Bt.rbits h l))) ∧ Below w.heap.size w w'
theorem Bt.rbits_take (h : Bool) (l : List UInt8) (k : Nat) (hk : k < l.length) : Bt.rbits h (l.take (k + 1)) = Bt.rbits h (l.take k) ++ Bt.dg h (gb l k) 8 := by
  rw [take_succ_getD l k hk]; simp [Bt.rbits, gb]
set_option maxHeartbeats 1000000 in
theorem refBits_any (h : Bool) (a : Option Addr) (len cap : Nat) (l : List UInt8) (w : World) (H : Bs w a len cap l) (hl : len ≤ 1000000) :
    Calls Tryd.prog 26 #[.slice a len cap, .bool h] w (BitsPost w h l) := by
  have HL := Lib.hid H.hlen
  have H0 := Lib.hid H
  clear H
  go_enter Tryd.func26, Tryd.ntmps26
  go_wp2
  go_loopw [5, 6] (fun v i wr => ∃ k : Nat, k ≤ len ∧ i = .int .i64 k ∧ Below w.heap.size w wr ∧ Hid (wr.ownsRow w.heap.size 3 1 v (8 * k) (ivs (bi (Bt.rbits h (l.take k)))))) (fun _ i _ => len - (intOf i).toNat)
  case atStart => exact ⟨0, by omega, rfl, Below.refl _ _, Lib.hid (World.ownsRow_nil _ _ _ _)⟩
  case round =>
    obtain ⟨k, hk, rfl, hb, HO⟩ := hrel
    have hz := hb.size
    by_cases hlt : k < len
    · obtain ⟨b, off, rfl, hbl, hcell⟩ := (H0.out.mono hb).at' k hlt
      have hg := gb_lt l k
      have HT := Lib.hid (Bt.rbits_take h l k (by rw [HL.out]; exact hlt))
      generalize gb l k = x at *
      go_wp2_with fail
      refine (digits_any h x 8 _ (by omega) (by omega)).mono ?_
      rintro e w2 ⟨u, rfl, own2, hb2⟩
      have H2 := Lib.hid (own_below HO.out hb2)
      have hb3 := below_then hb hb2
      obtain ⟨ua, uc, rfl, his⟩ := own_is own2 (bi_wf _)
      have hsrc := his.src
      have hz3 := hb3.size
      clear own2 hb2 HO hb
      go_wp2_with (at_builtin; refine wpl_append tyI rfl _ _ rfl H2.out hsrc rfl rfl (by omega) (by omega) hz3 ?_)
      intro v3 w3 own3 hg3 _
      have hb4 : Below w.heap.size w w3 := hb3.grown hg3 hz3 (fun k hk => (H2.out.lt k hk).1)
      rw [← ivs_append, ← bi_append, ← HT.out, show 8 * k + 8 = 8 * (k + 1) by omega] at own3
      have H3 := Lib.hid own3
      clear own3 hg3 hsrc his H2 hb3
      go_wp2
      go_roundw
      case rel => exact ⟨k + 1, by omega, by go_num, hb4, H3⟩
      case measure => simp [intOf]; omega
    · obtain rfl : len = k := by omega
      go_wp2
      go_ret
      refine ⟨_, rfl, ?_, hb⟩
      have := HO.out
      rwa [List.take_of_length_le (by rw [HL.out]; exact Nat.le_refl _), ← HL.out] at this
end Go.Proofs.YtfgpmccmalddjaaDoor
end
