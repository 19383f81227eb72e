/- The document's reader: the lengths of kind 2. -/
import Derived.Test.YtfgpmccmalddjaaDoorZ28
import Derived.Deep.RegionHeld3
set_option linter.unusedSimpArgs false
set_option linter.unusedVariables false
section
namespace Go.Proofs.YtfgpmccmalddjaaDoor
open Go.RowKit
attribute [local go_sem] Oper.semAt_some

def orderI : List Int := [16, 17, 18, 0, 8, 7, 9, 6, 10, 5, 11, 4, 12, 3, 13, 2, 14, 1, 15]
theorem orderI_at : ∀ k, k < 19 → orderI.getD k 0 = ((Ip.order.getD k 0 : Nat) : Int) := by decide
theorem place_left (xs ys : List Nat) : ∀ k, k ≤ xs.length → Ip.place (xs ++ ys) k = Ip.place xs k
  | 0, _ => rfl
  | k + 1, h => by
    show (Ip.place (xs ++ ys) k).set _ _ = (Ip.place xs k).set _ _
    rw [place_left xs ys k (by omega)]
    simp only [List.getD]
    rw [List.getElem?_append_left (by omega)]
theorem place_next (xs : List Nat) (x k : Nat) (h : xs.length = k) : Ip.place (xs ++ [x]) (k + 1) = (Ip.place xs k).set (Ip.order.getD k 0) ((x : Nat) : Int) := by
  show (Ip.place (xs ++ [x]) k).set _ _ = _
  rw [place_left xs [x] k (by omega)]
  subst h
  simp [List.getD]
theorem Ip.nums3_next {u : List Bool} {q q1 q2 k x : Nat} {xs : List Nat} (h1 : Ip.numbers (List.replicate k 3) u q = .ok xs q1) (h2 : Ip.take 3 u q1 = .ok x q2) : Ip.numbers (List.replicate (k + 1) 3) u q = .ok (xs ++ [x]) q2 := by
  rw [List.replicate_succ', Ip.numbers_append, Ip.bind_ok h1]
  show Ip.bind (Ip.numbers [3]) _ u q1 = _
  have : Ip.numbers [3] u q1 = .ok [x] q2 := by rw [Ip.numbers_one, Ip.bind_ok h2]; rfl
  rw [Ip.bind_ok this]; rfl
theorem sparse_sum : ∀ l : List Int, (∀ x ∈ l, 0 ≤ x) → l.sum ≤ 1 → (Cn.sum l : Int) = 32768 * l.sum ∧ (∀ x ∈ l, x ≤ 1) ∧ 0 ≤ l.sum
  | [], _, _ => by simp [Cn.sum]
  | x :: l, h0, h1 => by
    have hx := h0 x (by simp)
    have hl : 0 ≤ l.sum := by
      clear h1
      have hh : ∀ y ∈ l, 0 ≤ y := fun y hy => h0 y (by simp [hy])
      clear h0 hx
      induction l with
      | nil => simp
      | cons y l ih => have := hh y (by simp); have := ih (fun z hz => hh z (by simp [hz])); simp only [List.sum_cons]; omega
    simp only [List.sum_cons] at h1 ⊢
    obtain ⟨e, hle, h0s⟩ := sparse_sum l (fun y hy => h0 y (by simp [hy])) (by omega)
    have ep : Cn.sum (x :: l) = Cn.part x + Cn.sum l := by simp [Cn.sum]
    have hx01 : x = 0 ∨ x = 1 := by omega
    refine ⟨?_, fun y hy => ?_, by omega⟩
    · rw [ep]
      rcases hx01 with rfl | rfl
      · have : Cn.part 0 = 0 := by decide
        omega
      · have : Cn.part 1 = 32768 := by decide
        omega
    · rcases List.mem_cons.1 hy with rfl | hy
      · omega
      · exact hle y hy
theorem sparse_free (l : List Int) (hn : l.length ≤ 512) (h0 : ∀ x ∈ l, 0 ≤ x) (h1 : l.sum ≤ 1) : Cn.freeB l = true := by
  obtain ⟨e, hle, hs⟩ := sparse_sum l h0 h1
  unfold Cn.freeB Cn.formB
  simp only [Bool.and_eq_true, decide_eq_true_eq, List.all_eq_true]
  exact ⟨⟨hn, fun x hx => by have := h0 x hx; have := hle x hx; omega⟩, by omega⟩
theorem Ip.above_ok {b x n r r2 : Nat} {u : List Bool} (h : Ip.take x u r = .ok n r2) : Ip.aboveP b x true u r = .ok (b + n) r2 := by
  unfold Ip.aboveP
  rw [if_pos rfl, Ip.bind_ok h]; rfl
section
variable {w : World} {D : Nat → Prop} {B gr : Nat} {a : Option Addr} {cap : Nat} {u : List Bool} {p : Nat} {most : Nat} {v : Value} {s : Unp}
theorem Rn.touch {bad : Int} {sz : Nat} {ts : List Tok} {w' : World} {x : Nat} (h : Rn w D B gr a cap u p bad most sz ts v) (c : Ch w w' (fun k => k = x)) (hx : D x) (hl : ∀ ad, a = some ad → ad.block ≠ x) : Rn w' D B gr a cap u p bad most sz ts v :=
  ⟨(c.block gr h.lt (fun e => (h.nd x hx).2.1 e.symm)).trans h.row, h.li.kept c (fun ad e => hl ad e), c.own h.own (fun k hk e => (h.nd x hx).2.2 (e ▸ hk)), fun ad e => ⟨(h.la ad e).1, (h.la ad e).2.1, Nat.lt_of_lt_of_le (h.la ad e).2.2 c.size⟩, h.vn, Nat.le_trans h.hB c.size, fun k hk => ⟨Nat.lt_of_lt_of_le (h.nd k hk).1 c.size, (h.nd k hk).2⟩, h.hp, h.hu, h.hm, h.hs, h.ht⟩
theorem Rn.keepT {bad : Int} {sz : Nat} {ts : List Tok} {w' : World} {T Z : Nat → Prop} (h : Rn w D B gr a cap u p bad most sz ts v) (c : Ch w w' T) (hT : ∀ k, T k → D k) (hl : ∀ ad, a = some ad → ¬ T ad.block) (hZ : ∀ k, Z k → D k ∨ (w.heap.size ≤ k ∧ k < w'.heap.size)) : Rn w' Z B gr a cap u p bad most sz ts v :=
  ⟨(c.block gr h.lt (fun e => (h.nd gr (hT gr e)).2.1 rfl)).trans h.row, h.li.kept c hl, c.own h.own (fun k hk e => (h.nd k (hT k e)).2.2 hk), fun ad e => ⟨(h.la ad e).1, (h.la ad e).2.1, Nat.lt_of_lt_of_le (h.la ad e).2.2 c.size⟩, h.vn, Nat.le_trans h.hB c.size, fun k hk => by
    rcases hZ k hk with hk | ⟨h1, h2⟩
    · exact ⟨Nat.lt_of_lt_of_le (h.nd k hk).1 c.size, (h.nd k hk).2⟩
    · exact ⟨h2, fun e => by have := h.lt; omega, fun e => by have := (h.own.lt k e).2; omega⟩, h.hp, h.hu, h.hm, h.hs, h.ht⟩
/-- A row of numbers beside the reader, in its zone. -/
structure Lr (w : World) (Z : Nat → Prop) (b6 : Nat) (vr : Value) (ls : List Int) : Prop where
  own : w.ownsRow b6 3 1 vr ls.length (ivs ls)
  len : ls.length ≤ 512
  wf : ∀ x ∈ ls, 0 ≤ x ∧ x ≤ 1000000
set_option maxRecDepth 100000 in
set_option maxHeartbeats 4000000 in
theorem rlen_any (h : Rn w D B gr a cap u p 0 most s.1.length s.2 v) (hz : 0 < u.length) :
    Calls Tryd.prog 31 #[.pointer (some ⟨gr, 0, none⟩)] w (LnPost w D B gr a cap u most s (Ip.booksP u p)) := by
  have hu := h.hu
  have HND := Lib.hid (fun k hk => (h.nd k hk).1)
  have HLA := Lib.hid (fun ad e => (h.la ad e).2.2)
  have HT : Hid (Calls Tryd.prog 27 #[.pointer (some ⟨gr, 0, none⟩), .int .i64 5] w (RtPost w D B gr a cap u most s (fun n : Nat => .int .i64 (n : Nat)) (.int .i64 0) (Ip.take 5 u p))) := Lib.hid (rtake_any h 5 (by omega) (.inl (by omega)))
  have HNIL : Hid (∀ w', Rq w' D B gr a cap u most (.err 1) → Ch w w' (fun k => ¬ D k) → LnPost w D B gr a cap u most s (Ip.booksP u p) (.returned (.tuple #[.slice none 0 0, .slice none 0 0])) w') := Lib.hid (fun w' h1 h2 =>
    ⟨none, 0, 0, none, 0, 0, [], [], rfl, Is.none0 _ _ _ (fun _ => rfl), Is.none0 _ _ _ (fun _ => rfl), by omega, by omega, h2, .inr h1⟩)
  clear h
  go_enter Tryd.func31, Tryd.ntmps31
  go_wp2_with fail
  refine HT.out.mono ?_
  clear HT
  cases h1 : Ip.take 5 u p with
  | err n0 =>
    rintro e w1 ⟨rfl, ⟨qd, bad, szd, tsd, vd, hb, hr⟩, hc⟩
    have HC := Lib.hid hc
    clear hc h1
    have HTD : Hid (Calls Tryd.prog 27 #[.pointer (some ⟨gr, 0, none⟩), .int .i64 5] w1 fun e w' => e = .returned (.int .i64 0) ∧ Rn w' D B gr a cap u qd bad most szd tsd vd ∧ Ch w1 w' (fun k => ¬ D k)) := Lib.hid (rtake_dead hr hb 5)
    clear hr
    go_wp2_with fail
    refine HTD.out.mono ?_
    rintro e w2 ⟨rfl, hr, hcd⟩
    have HC := Lib.hid (HC.out.trans hcd (fun n hn => .inl hn))
    clear hcd HTD
    have HTD : Hid (Calls Tryd.prog 27 #[.pointer (some ⟨gr, 0, none⟩), .int .i64 4] w2 fun e w' => e = .returned (.int .i64 0) ∧ Rn w' D B gr a cap u qd bad most szd tsd vd ∧ Ch w2 w' (fun k => ¬ D k)) := Lib.hid (rtake_dead hr hb 4)
    clear hr
    go_wp2_with fail
    refine HTD.out.mono ?_
    rintro e w3 ⟨rfl, hr, hcd⟩
    have HC := Lib.hid (HC.out.trans hcd (fun n hn => .inl hn))
    clear hcd HTD
    have d9 : (bad == 0) = false := by simpa using hb
    have d10 : (bad != 0) = true := by simpa using hb
    go_wp2_with (at_make; refine wpl_make_full tyI rfl _ _ rfl _ .i64 .i64 _ _ 19 rfl rfl rfl rfl (by omega) (by omega) (Nat.le_refl _) ?_)
    intro w8 own8 hg8
    have hb8 := below_then (below_alloc w3 _) ((Below.refl _ _).grown hg8 (Nat.le_refl _) (by simp))
    have k8 := (hr.mono hb8).cells.2.2.1
    have HP := Lib.hid (HNIL.out w8 ⟨_, bad, _, _, _, hb, hr.mono hb8⟩ (HC.out.trans (Ch.of_below (T := fun _ => False) hb8) (fun _ h => h.elim)))
    clear hb hr HC own8 hg8 hb8
    go_wp2
    go_loop [9] (fun i => i = .int .i64 0) (fun _ => 0)
    case atStart => rfl
    case round =>
      subst hrel
      go_wp2
      go_ret2
      exact HP.out
  | ok n q1 =>
    rintro e w1 ⟨rfl, ⟨v1, hr1⟩, hc1⟩
    have hn := Ip.take_lt h1
    rw [show (2 : Nat) ^ 5 = 32 from rfl] at hn
    have H1 := Lib.hid h1
    clear h1
    have in1 : IntKind.i64.wrap (257 + (n : Int)) = 257 + (n : Int) := IntWalk.i64_in _ ⟨by omega, by omega⟩
    by_cases hn2 : 286 < n + 257
    · have d1 : decide ((286 : Int) < 257 + (n : Int)) = true := by simp; omega
      have HF := Lib.hid (rfail_any hr1 2 (by decide))
      have hc1' := hc1
      clear hr1 hc1
      go_wp2_with fail
      refine HF.out.mono ?_
      rintro e w2 ⟨rfl, ⟨bad, hb, hr⟩, hcd⟩
      obtain ⟨qd, szd, tsd, vd, hr⟩ : ∃ qd szd tsd vd, Rn w2 D B gr a cap u qd bad most szd tsd vd := ⟨_, _, _, _, hr⟩
      have HC := Lib.hid (hc1'.trans hcd (fun n hn => .inl hn))
      clear hcd HF hc1' hn2 hn
      have HTD : Hid (Calls Tryd.prog 27 #[.pointer (some ⟨gr, 0, none⟩), .int .i64 5] w2 fun e w' => e = .returned (.int .i64 0) ∧ Rn w' D B gr a cap u qd bad most szd tsd vd ∧ Ch w2 w' (fun k => ¬ D k)) := Lib.hid (rtake_dead hr hb 5)
      clear hr
      go_wp2_with fail
      refine HTD.out.mono ?_
      rintro e w3 ⟨rfl, hr, hcd⟩
      have HC := Lib.hid (HC.out.trans hcd (fun n hn => .inl hn))
      clear hcd HTD
      have HTD : Hid (Calls Tryd.prog 27 #[.pointer (some ⟨gr, 0, none⟩), .int .i64 4] w3 fun e w' => e = .returned (.int .i64 0) ∧ Rn w' D B gr a cap u qd bad most szd tsd vd ∧ Ch w3 w' (fun k => ¬ D k)) := Lib.hid (rtake_dead hr hb 4)
      clear hr
      go_wp2_with fail
      refine HTD.out.mono ?_
      rintro e w4 ⟨rfl, hr, hcd⟩
      have HC := Lib.hid (HC.out.trans hcd (fun n hn => .inl hn))
      clear hcd HTD
      have d9 : (bad == 0) = false := by simpa using hb
      have d10 : (bad != 0) = true := by simpa using hb
      go_wp2_with (at_make; refine wpl_make_full tyI rfl _ _ rfl _ .i64 .i64 _ _ 19 rfl rfl rfl rfl (by omega) (by omega) (Nat.le_refl _) ?_)
      intro w8 own8 hg8
      have hb8 := below_then (below_alloc w4 _) ((Below.refl _ _).grown hg8 (Nat.le_refl _) (by simp))
      have k8 := (hr.mono hb8).cells.2.2.1
      have HP := Lib.hid (HNIL.out w8 ⟨_, bad, _, _, _, hb, hr.mono hb8⟩ (HC.out.trans (Ch.of_below (T := fun _ => False) hb8) (fun _ h => h.elim)))
      clear hb hr HC own8 hg8 hb8
      go_wp2
      go_loop [9] (fun i => i = .int .i64 0) (fun _ => 0)
      case atStart => rfl
      case round =>
        subst hrel
        go_wp2
        go_ret2
        exact HP.out
    · have d1 : decide ((286 : Int) < 257 + (n : Int)) = false := by simp; omega
      have HT : Hid (Calls Tryd.prog 27 #[.pointer (some ⟨gr, 0, none⟩), .int .i64 5] w1 (RtPost w1 D B gr a cap u most s (fun n : Nat => .int .i64 (n : Nat)) (.int .i64 0) (Ip.take 5 u q1))) := Lib.hid (rtake_any hr1 5 (by omega) (.inl (by omega)))
      have HC1 := Lib.hid hc1
      have HN := Lib.hid hn2
      clear hr1 hc1 hn2
      go_wp2_with fail
      refine HT.out.mono ?_
      clear HT
      cases h2 : Ip.take 5 u q1 with
      | err n0 =>
        rintro e w2 ⟨rfl, ⟨qd, bad, szd, tsd, vd, hb, hr⟩, hc⟩
        have HC := Lib.hid (HC1.out.trans hc (fun n hn => .inl hn))
        clear hc h2
        have HTD : Hid (Calls Tryd.prog 27 #[.pointer (some ⟨gr, 0, none⟩), .int .i64 4] w2 fun e w' => e = .returned (.int .i64 0) ∧ Rn w' D B gr a cap u qd bad most szd tsd vd ∧ Ch w2 w' (fun k => ¬ D k)) := Lib.hid (rtake_dead hr hb 4)
        clear hr
        go_wp2_with fail
        refine HTD.out.mono ?_
        rintro e w3 ⟨rfl, hr, hcd⟩
        have HC := Lib.hid (HC.out.trans hcd (fun n hn => .inl hn))
        clear hcd HTD
        have d9 : (bad == 0) = false := by simpa using hb
        have d10 : (bad != 0) = true := by simpa using hb
        go_wp2_with (at_make; refine wpl_make_full tyI rfl _ _ rfl _ .i64 .i64 _ _ 19 rfl rfl rfl rfl (by omega) (by omega) (Nat.le_refl _) ?_)
        intro w8 own8 hg8
        have hb8 := below_then (below_alloc w3 _) ((Below.refl _ _).grown hg8 (Nat.le_refl _) (by simp))
        have k8 := (hr.mono hb8).cells.2.2.1
        have HP := Lib.hid (HNIL.out w8 ⟨_, bad, _, _, _, hb, hr.mono hb8⟩ (HC.out.trans (Ch.of_below (T := fun _ => False) hb8) (fun _ h => h.elim)))
        clear hb hr HC own8 hg8 hb8
        go_wp2
        go_loop [9] (fun i => i = .int .i64 0) (fun _ => 0)
        case atStart => rfl
        case round =>
          subst hrel
          go_wp2
          go_ret2
          exact HP.out
      | ok m q2 =>
        rintro e w2 ⟨rfl, ⟨v2, hr2⟩, hc2⟩
        have hm := Ip.take_lt h2
        rw [show (2 : Nat) ^ 5 = 32 from rfl] at hm
        have H2 := Lib.hid h2
        clear h2
        have im1 : IntKind.i64.wrap (1 + (m : Int)) = 1 + (m : Int) := IntWalk.i64_in _ ⟨by omega, by omega⟩
        have HC2 := Lib.hid (HC1.out.trans hc2 (fun n hn => .inl hn))
        by_cases hm2 : 30 < m + 1
        · have d2 : decide ((30 : Int) < 1 + (m : Int)) = true := by simp; omega
          have HF := Lib.hid (rfail_any hr2 2 (by decide))
          clear hr2 hc2
          go_wp2_with fail
          refine HF.out.mono ?_
          rintro e w3 ⟨rfl, ⟨bad, hb, hr⟩, hcd⟩
          obtain ⟨qd, szd, tsd, vd, hr⟩ : ∃ qd szd tsd vd, Rn w3 D B gr a cap u qd bad most szd tsd vd := ⟨_, _, _, _, hr⟩
          have HC := Lib.hid (HC2.out.trans hcd (fun n hn => .inl hn))
          clear hcd HF hm2 hm hn
          have HTD : Hid (Calls Tryd.prog 27 #[.pointer (some ⟨gr, 0, none⟩), .int .i64 4] w3 fun e w' => e = .returned (.int .i64 0) ∧ Rn w' D B gr a cap u qd bad most szd tsd vd ∧ Ch w3 w' (fun k => ¬ D k)) := Lib.hid (rtake_dead hr hb 4)
          clear hr
          go_wp2_with fail
          refine HTD.out.mono ?_
          rintro e w4 ⟨rfl, hr, hcd⟩
          have HC := Lib.hid (HC.out.trans hcd (fun n hn => .inl hn))
          clear hcd HTD
          have d9 : (bad == 0) = false := by simpa using hb
          have d10 : (bad != 0) = true := by simpa using hb
          go_wp2_with (at_make; refine wpl_make_full tyI rfl _ _ rfl _ .i64 .i64 _ _ 19 rfl rfl rfl rfl (by omega) (by omega) (Nat.le_refl _) ?_)
          intro w8 own8 hg8
          have hb8 := below_then (below_alloc w4 _) ((Below.refl _ _).grown hg8 (Nat.le_refl _) (by simp))
          have k8 := (hr.mono hb8).cells.2.2.1
          have HP := Lib.hid (HNIL.out w8 ⟨_, bad, _, _, _, hb, hr.mono hb8⟩ (HC.out.trans (Ch.of_below (T := fun _ => False) hb8) (fun _ h => h.elim)))
          clear hb hr HC own8 hg8 hb8
          go_wp2
          go_loop [9] (fun i => i = .int .i64 0) (fun _ => 0)
          case atStart => rfl
          case round =>
            subst hrel
            go_wp2
            go_ret2
            exact HP.out
        · have d2 : decide ((30 : Int) < 1 + (m : Int)) = false := by simp; omega
          have HT : Hid (Calls Tryd.prog 27 #[.pointer (some ⟨gr, 0, none⟩), .int .i64 4] w2 (RtPost w2 D B gr a cap u most s (fun n : Nat => .int .i64 (n : Nat)) (.int .i64 0) (Ip.take 4 u q2))) := Lib.hid (rtake_any hr2 4 (by omega) (.inl (by omega)))
          have HM2 := Lib.hid hm2
          clear hr2 hc2 hm2 HC1
          go_wp2_with fail
          refine HT.out.mono ?_
          clear HT
          cases h3 : Ip.take 4 u q2 with
          | err n0 =>
            rintro e w3 ⟨rfl, ⟨qd, bad, szd, tsd, vd, hb, hr⟩, hc⟩
            have HC := Lib.hid (HC2.out.trans hc (fun n hn => .inl hn))
            clear hc h3
            have d9 : (bad == 0) = false := by simpa using hb
            have d10 : (bad != 0) = true := by simpa using hb
            go_wp2_with (at_make; refine wpl_make_full tyI rfl _ _ rfl _ .i64 .i64 _ _ 19 rfl rfl rfl rfl (by omega) (by omega) (Nat.le_refl _) ?_)
            intro w8 own8 hg8
            have hb8 := below_then (below_alloc w3 _) ((Below.refl _ _).grown hg8 (Nat.le_refl _) (by simp))
            have k8 := (hr.mono hb8).cells.2.2.1
            have HP := Lib.hid (HNIL.out w8 ⟨_, bad, _, _, _, hb, hr.mono hb8⟩ (HC.out.trans (Ch.of_below (T := fun _ => False) hb8) (fun _ h => h.elim)))
            clear hb hr HC own8 hg8 hb8
            go_wp2
            go_loop [9] (fun i => i = .int .i64 0) (fun _ => 0)
            case atStart => rfl
            case round =>
              subst hrel
              go_wp2
              go_ret2
              exact HP.out
          | ok c q3 =>
            rintro e w3 ⟨rfl, ⟨v3, hr3⟩, hc3⟩
            have hcl := Ip.take_lt h3
            rw [show (2 : Nat) ^ 4 = 16 from rfl] at hcl
            have H3 := Lib.hid h3
            have HC3 := Lib.hid (HC2.out.trans hc3 (fun n hn => .inl hn))
            clear h3 hc3 HC2
            have ic1 : IntKind.i64.wrap (4 + (c : Int)) = 4 + (c : Int) := IntWalk.i64_in _ ⟨by omega, by omega⟩
            have HLIT := Lib.hid (is_lit w3 orderI 19 3 #[Value.int .i64 16, .int .i64 17, .int .i64 18, .int .i64 0, .int .i64 8, .int .i64 7, .int .i64 9, .int .i64 6, .int .i64 10, .int .i64 5, .int .i64 11, .int .i64 4, .int .i64 12, .int .i64 3, .int .i64 13, .int .i64 2, .int .i64 14, .int .i64 1, .int .i64 15] rfl rfl (wf_small (by decide)))
            have HBL := Lib.hid (below_alloc w3 (.cells #[Value.int .i64 16, .int .i64 17, .int .i64 18, .int .i64 0, .int .i64 8, .int .i64 7, .int .i64 9, .int .i64 6, .int .i64 10, .int .i64 5, .int .i64 11, .int .i64 4, .int .i64 12, .int .i64 3, .int .i64 13, .int .i64 2, .int .i64 14, .int .i64 1, .int .i64 15] 3))
            have HLT : Hid (w3.heap.size < (w3.alloc (.cells #[Value.int .i64 16, .int .i64 17, .int .i64 18, .int .i64 0, .int .i64 8, .int .i64 7, .int .i64 9, .int .i64 6, .int .i64 10, .int .i64 5, .int .i64 11, .int .i64 4, .int .i64 12, .int .i64 3, .int .i64 13, .int .i64 2, .int .i64 14, .int .i64 1, .int .i64 15] 3)).heap.size) := Lib.hid (by simp)
            go_wp2_with (at_make; revert HLIT HBL HLT; generalize w3.alloc _ = w4; intro HLIT HBL HLT; refine wpl_make_full tyI rfl _ _ rfl _ .i64 .i64 _ _ 19 rfl rfl rfl rfl (by omega) (by omega) (Nat.le_refl _) ?_)
            intro w5 own5 hg5
            have hb5 : Below w4.heap.size w4 w5 := (Below.refl _ _).grown hg5 (Nat.le_refl _) (by simp)
            have own5b : w5.ownsRow w4.heap.size 3 1 (.slice (some ⟨w4.heap.size, 0, none⟩) 19 19) 19 (ivs (Ip.place [] 0)) := by
              have e2 := made_ints1 19
              rw [Nat.mul_one] at e2
              rw [show Ip.place [] 0 = List.replicate 19 0 from rfl, ← e2]; exact own5
            have hz5 : w4.heap.size < w5.heap.size := (own5.lt w4.heap.size rfl).2
            have hb35 := below_then HBL.out hb5
            obtain ⟨D1, hD1⟩ : ∃ D1 : Nat → Prop, D1 = fun k => D k ∨ (w3.heap.size ≤ k ∧ k < w5.heap.size) := ⟨_, rfl⟩
            have hr5 := hr3.new hb35
            rw [← hD1] at hr5
            have HW3 := Lib.hid HC3.out.size
            have HZ := Lib.hid (show (∀ k, D k → D1 k ∧ k < w.heap.size) ∧ D1 w3.heap.size ∧ D1 w4.heap.size ∧ w.heap.size ≤ w4.heap.size ∧ w3.heap.size ≠ w4.heap.size ∧ (∀ ad, a = some ad → ad.block ≠ w4.heap.size) ∧ (∀ k, D1 k → D k ∨ w.heap.size ≤ k) from by
              have h1 := HLT.out
              have h2 := HW3.out
              rw [hD1]
              exact ⟨fun k hk => ⟨.inl hk, HND.out k hk⟩, .inr ⟨Nat.le_refl _, by omega⟩, .inr ⟨by omega, hz5⟩, by omega, by omega, fun ad e => by have := HLA.out ad e; omega, fun k hk => hk.imp (fun h => h) (fun h => by omega)⟩)
            have HIO := Lib.hid (HLIT.out.mono hb5)
            have HI5 : Hid ((∃ xs q' v', Rn w5 D1 B gr a cap u q' 0 most s.1.length s.2 v' ∧ Ip.numbers (List.replicate 0 3) u q3 = .ok xs q' ∧ xs.length = 0 ∧ (∀ x ∈ xs, x < 8) ∧ w5.ownsRow w4.heap.size 3 1 (.slice (some ⟨w4.heap.size, 0, none⟩) 19 19) 19 (ivs (Ip.place xs 0)) ∧ (4 + c) + 1 = (4 + c) - 0 + 1) ∨ (Rq w5 D1 B gr a cap u most (.err 1) ∧ (4 + c) + 1 = 0)) := Lib.hid (.inl ⟨[], q3, v3, hr5, rfl, rfl, (fun x hx => by simp at hx), own5b, rfl⟩)
            have HC5 : Hid (Ch w5 w5 (fun k => ¬ D1 k ∨ k = w4.heap.size)) := Lib.hid (Ch.refl _ _)
            have HCW : Hid (Ch w w5 (fun k => ¬ D k)) := Lib.hid (HC3.out.trans (Ch.of_below (T := fun _ => False) hb35) (fun _ h => h.elim))
            clear hr3 own5 own5b hg5 hb5 hb35 hD1 hr5 HLIT HBL hz5 HLT
            generalize w4.heap.size = gl at *
            generalize w3.heap.size = g0 at *
            go_wp2
            go_loopg [9] ((4 + c) + 1) (fun gk i wr => ∃ k : Nat, k ≤ 4 + c ∧ i = .int .i64 k ∧ Hid ((∃ xs q' v', Rn wr D1 B gr a cap u q' 0 most s.1.length s.2 v' ∧ Ip.numbers (List.replicate k 3) u q3 = .ok xs q' ∧ xs.length = k ∧ (∀ x ∈ xs, x < 8) ∧ wr.ownsRow gl 3 1 (.slice (some ⟨gl, 0, none⟩) 19 19) 19 (ivs (Ip.place xs k)) ∧ gk = (4 + c) - k + 1) ∨ (Rq wr D1 B gr a cap u most (.err 1) ∧ gk = 0)) ∧ Hid (Ch w5 wr (fun k => ¬ D1 k ∨ k = gl)))
            case atStart => exact ⟨0, by omega, rfl, HI5, HC5⟩
            case round =>
              obtain ⟨k, hk, rfl, HK, HCH⟩ := hrel
              rcases HK.out with ⟨xs, q', v', hrn, hnu, hxl, hx8, how, rfl⟩ | ⟨⟨qd, bad, szd, tsd, vd, hb, hr⟩, rfl⟩
              · have k2 := hrn.cells.2.2.1
                by_cases hkc : k < 4 + c
                · have d5 : decide ((k : Int) < 4 + (c : Int)) = true := by simp; omega
                  have hio := HIO.out.kept HCH.out (fun ad e hh => by
                    cases e
                    rcases hh with hh | hh
                    · exact hh HZ.out.2.1
                    · exact HZ.out.2.2.2.2.1 hh)
                  obtain ⟨b, off, e, _, hcell⟩ := hio.at' k (by omega)
                  simp only [Option.some.injEq, Addr.mk.injEq, and_true] at e
                  obtain ⟨rfl, rfl⟩ := e
                  rw [orderI_at k (by omega), Nat.zero_add] at hcell
                  have ho := Ip.order_lt k (by omega)
                  have HNX := Lib.hid (fun x => place_next xs x k hxl)
                  have hpl := Ip.place_length xs k
                  generalize hoe : Ip.order.getD k 0 = o at *
                  clear hoe
                  have io0 : (0 : Int) ≤ (o : Int) := by omega
                  have io1 : (o : Int) < 19 := by omega
                  have ik0 : (0 : Int) ≤ (k : Int) := by omega
                  have ik1 : (k : Int) < 19 := by omega
                  have hgne := HZ.out.2.2.2.2.1
                  have hgne2 : ¬ gl = g0 := fun e => hgne e.symm
                  have HT : Hid (∀ N, Calls Tryd.prog 27 #[.pointer (some ⟨gr, 0, none⟩), .int .i64 3] (wr.drewN N) (RtPost (wr.drewN N) D1 B gr a cap u most s (fun n : Nat => .int .i64 (n : Nat)) (.int .i64 0) (Ip.take 3 u q'))) := Lib.hid (fun N => rtake_any (hrn.mono (dn_is wr N)) 3 (by omega) (.inl (by omega)))
                  have HKEEP : Hid (∀ N w6, Ch (wr.drewN N) w6 (fun k => ¬ D1 k) → w6.cell? ⟨g0, k, none⟩ = some (.int .i64 (o : Nat)) ∧ w6.ownsRow gl 3 1 (.slice (some ⟨gl, 0, none⟩) 19 19) 19 (ivs (Ip.place xs k)) ∧ Ch w5 w6 (fun k => ¬ D1 k ∨ k = gl)) := Lib.hid (fun N w6 hc => by
                    have hc2 : Ch wr w6 (fun k => ¬ D1 k) := (Ch.of_below (T := fun k => ¬ D1 k) (dn_is wr N)).trans hc (fun n hn => .inl hn)
                    have hlt := (hrn.nd g0 HZ.out.2.1).1
                    exact ⟨(World.cell?_of_block (a := ⟨g0, k, none⟩) (hc2.block g0 hlt (fun hn => hn HZ.out.2.1))).trans hcell, hc2.own how (fun j hj hn => by cases hj; exact hn HZ.out.2.2.1), HCH.out.trans hc2 (fun n hn => .inl (.inl hn))⟩)
                  have HNU := Lib.hid hnu
                  have HXL := Lib.hid hxl
                  have HX8 := Lib.hid hx8
                  clear hrn hnu how HK HI5 hpl hio hxl hx8
                  cases h4 : Ip.take 3 u q' with
                  | err n0 =>
                    rw [h4] at HT
                    go_wp2_with fail
                    go_region_held3 (fun w' => w'.cell? ⟨g0, k, none⟩ = some (.int .i64 (o : Nat))) (go_keep)
                      (first | (go_at_call 27; refine (HT.out _).mono ?_; rintro e w6 ⟨rfl, ⟨qd, bad, szd, tsd, vd, hb, hr⟩, hc6⟩; have HK6 := Lib.hid (HKEEP.out _ _ hc6); have t6 := HK6.out.1; have f6 := own_free HK6.out.2.1 o; obtain ⟨zz, t7⟩ : ∃ zz, w6.cell? ⟨gl, o, none⟩ = some zz := ⟨_, (HK6.out.2.1.cellAt o (by omega)).trans (by rw [ivs_get _ _ (by rw [Ip.place_length]; omega)])⟩))
                    have HD6 : Hid (Rq (w6.setCell ⟨gl, o, none⟩ (.int .i64 0)) D1 B gr a cap u most (.err 1)) := Lib.hid ⟨qd, bad, szd, tsd, vd, hb, hr.touch ((Ch.refl w6 (fun k => k = gl)).set (p := ⟨gl, o, none⟩) (.inl rfl) _) HZ.out.2.2.1 HZ.out.2.2.2.2.2.1⟩
                    have HC6 := Lib.hid (HK6.out.2.2.set (p := ⟨gl, o, none⟩) (.inl (.inr rfl)) (.int .i64 0))
                    clear hb hr hc6 HK6 t6 t7 f6 HT HKEEP
                    go_wp2
                    go_roundg (0)
                    case measure => omega
                    case rel => exact ⟨k + 1, by omega, by go_num, Lib.hid (.inr ⟨HD6.out, rfl⟩), HC6⟩
                  | ok x q5 =>
                    rw [h4] at HT
                    have hx7 := Ip.take_lt h4
                    rw [show (2 : Nat) ^ 3 = 8 from rfl] at hx7
                    go_wp2_with fail
                    go_region_held3 (fun w' => w'.cell? ⟨g0, k, none⟩ = some (.int .i64 (o : Nat))) (go_keep)
                      (first | (go_at_call 27; refine (HT.out _).mono ?_; rintro e w6 ⟨rfl, ⟨v6, hr⟩, hc6⟩; have HK6 := Lib.hid (HKEEP.out _ _ hc6); have t6 := HK6.out.1; have f6 := own_free HK6.out.2.1 o; obtain ⟨zz, t7⟩ : ∃ zz, w6.cell? ⟨gl, o, none⟩ = some zz := ⟨_, (HK6.out.2.1.cellAt o (by omega)).trans (by rw [ivs_get _ _ (by rw [Ip.place_length]; omega)])⟩))
                    have HI6 : Hid (∃ xs q' v', Rn (w6.setCell ⟨gl, o, none⟩ (.int .i64 (x : Nat))) D1 B gr a cap u q' 0 most s.1.length s.2 v' ∧ Ip.numbers (List.replicate (k + 1) 3) u q3 = .ok xs q' ∧ xs.length = k + 1 ∧ (∀ x ∈ xs, x < 8) ∧ (w6.setCell ⟨gl, o, none⟩ (.int .i64 (x : Nat))).ownsRow gl 3 1 (.slice (some ⟨gl, 0, none⟩) 19 19) 19 (ivs (Ip.place xs (k + 1)))) := Lib.hid ⟨xs ++ [x], q5, v6, hr.touch ((Ch.refl w6 (fun k => k = gl)).set (p := ⟨gl, o, none⟩) (.inl rfl) _) HZ.out.2.2.1 HZ.out.2.2.2.2.2.1, Ip.nums3_next HNU.out h4, by rw [List.length_append, HXL.out, List.length_singleton], fun y hy => by
                        rcases List.mem_append.1 hy with hy | hy
                        · exact HX8.out y hy
                        · simp at hy; omega, by
                        rw [HNX.out x]; exact own_set HK6.out.2.1 o _⟩
                    have HC6 := Lib.hid (HK6.out.2.2.set (p := ⟨gl, o, none⟩) (.inl (.inr rfl)) (.int .i64 (x : Nat)))
                    clear hr hc6 HK6 t6 t7 f6 HT HKEEP
                    go_wp2
                    go_roundg ((4 + c) - (k + 1) + 1)
                    case measure => omega
                    case rel => exact ⟨k + 1, by omega, by go_num, Lib.hid (.inl (by obtain ⟨b1, b2, b3, b4, b5, b6, b7, b8⟩ := HI6.out; exact ⟨b1, b2, b3, b4, b5, b6, b7, b8, rfl⟩)), HC6⟩
                · obtain rfl : k = 4 + c := by omega
                  have hpm := Ip.place_mem xs 7 (fun x hx => by have := hx8 x hx; omega) (by omega) (4 + c) (by omega)
                  have hpl := Ip.place_length xs (4 + c)
                  have hOWN : Hid (Ip.numbers (List.replicate (c + 4) 3) u q3 = .ok xs q' ∧ Ip.place xs xs.length = Ip.place xs (4 + c)) := Lib.hid ⟨by rw [Nat.add_comm c 4]; exact hnu, by rw [hxl]⟩
                  generalize Ip.place xs (4 + c) = l at *
                  obtain ⟨al, cl, e1, hI⟩ := own_is how (wf_small (fun x hx => by have := hpm x hx; omega))
                  simp only [Value.slice.injEq, true_and] at e1
                  obtain ⟨rfl, rfl⟩ := e1
                  have HWH := Lib.hid (refWhole_any _ 19 19 l wr hI (by omega))
                  have HCR : Hid (Ch w wr (fun k => ¬ D k)) := Lib.hid (HCW.out.trans HCH.out (fun n hn => hn.elim (fun hn => .inl (fun hd => hn (HZ.out.1 n hd).1)) (fun hn => .inr (by have := HZ.out.2.2.2.1; omega))))
                  have HRN := Lib.hid hrn
                  have HIS := Lib.hid hI
                  clear hnu hxl hx8 how hI hpm hpl hrn HK HI5 HCH
                  have dkc : decide (((4 + c : Nat) : Int) < 4 + (c : Int)) = false := by first | (simp; done) | (simp; omega)
                  go_wp2_with fail
                  refine HWH.out.mono ?_
                  rintro e w' ⟨rfl, rfl⟩
                  cases hw : Ip.whole l with
                  | false =>
                    have HF := Lib.hid (rfail_any HRN.out 2 (by decide))
                    clear HWH HRN
                    go_wp2_with fail
                    refine HF.out.mono ?_
                    rintro e w6 ⟨rfl, ⟨bad, hb, hr⟩, hcd⟩
                    have d10 : (bad != 0) = true := by simpa using hb
                    have k6 := hr.cells.2.2.1
                    have HP := Lib.hid (HNIL.out w6 ⟨_, bad, _, _, _, hb, hr.less (fun k hk => (HZ.out.1 k hk).1)⟩ (HCR.out.trans hcd (fun n hn => .inl (fun hd => hn (HZ.out.1 n hd).1))))
                    clear hb hr hcd HF
                    go_wp2
                    go_ret2
                    exact HP.out
                  | true =>
                    have hfr : Cn.freeB l = true := by
                      unfold Ip.whole at hw
                      rw [Bool.and_eq_true] at hw
                      exact hw.1
                    clear HWH
                    go_wp2_with fail
                    refine (refCodes_any _ 19 19 l _ HIS.out (by omega)).mono ?_
                    intro e w6 hp
                    obtain ⟨va, rfl, hba, hb6⟩ := bc_new hfr hp
                    clear hp
                    have HZB : Hid (∃ Zb : Nat → Prop, (∀ k, D1 k → Zb k) ∧ (∀ k, Zb k → D k ∨ w.heap.size ≤ k) ∧ (∀ k, Zb k → k < w6.heap.size) ∧ Bc w6 Zb va (Bk.rowsL l) ∧ Rn w6 Zb B gr a cap u q' 0 most s.1.length s.2 v') := Lib.hid (by
                      have hr6 := HRN.out.new hb6
                      have hwr := HCR.out.size
                      exact ⟨fun k => D1 k ∨ (wr.heap.size ≤ k ∧ k < w6.heap.size), fun k hk => .inl hk, fun k hk => hk.elim (fun h => HZ.out.2.2.2.2.2.2 k h) (fun h => .inr (by omega)), fun k hk => (hr6.nd k hk).1, hba.wide (fun k hk => .inr hk), hr6⟩)
                    obtain ⟨Zb, hZ1, hZ2, hZ3, hbc, hr6⟩ := HZB.out
                    have HZZ := Lib.hid (And.intro hZ1 (And.intro hZ2 hZ3))
                    have HBC := Lib.hid hbc
                    have HWL : Hid (∀ ad, a = some ad → ad.block < w6.heap.size ∧ ¬ w6.heap.size ≤ ad.block) := Lib.hid (fun ad e => by have := HLA.out ad e; have := HCR.out.size; have := hb6.size; omega)
                    have HC6 : Hid (Ch w w6 (fun k => ¬ D k)) := Lib.hid (HCR.out.trans (Ch.of_below (T := fun _ => False) hb6) (fun _ h => h.elim))
                    have hKS := Lib.hid (Ip.ks_free hfr)
                    have HWL2 := Lib.hid hw
                    clear hba hb6 HZB hZ1 hZ2 hZ3 hbc HRN hw hfr
                    obtain ⟨R, hR⟩ : ∃ R, R = Bk.rowsL l := ⟨_, rfl⟩
                    have HR := Lib.hid hR
                    rw [← hR] at HBC hKS
                    clear hR
                    obtain ⟨b6, hb6⟩ : ∃ b6, b6 = w6.heap.size := ⟨_, rfl⟩
                    have HB6 := Lib.hid hb6
                    have hn257 : n + 257 ≤ 286 := by have := HN.out; omega
                    have hm30 : m + 1 ≤ 30 := by have := HM2.out; omega
                    obtain ⟨size, hsz⟩ : ∃ size, size = (n + 257) + (m + 1) := ⟨_, rfl⟩
                    have iab : IntKind.i64.wrap (257 + (n : Int) + (1 + (m : Int))) = 257 + (n : Int) + (1 + (m : Int)) := IntWalk.i64_in _ ⟨by omega, by omega⟩
                    have HI6 : Hid (∃ ls, Lr w6 Zb b6 (.slice none 0 0) ls ∧ ((∃ q4 v4 kk, Rn w6 (fun k => Zb k ∨ (Value.slice none 0 0).ownBlock = some k) B gr a cap u q4 0 most s.1.length s.2 v4 ∧ Ip.Gr R size u ls q4 kk [] q' ∧ ls.length ≤ size ∧ size + 1 = size - ls.length + 1) ∨ (Rq w6 D B gr a cap u most (.err 1) ∧ size + 1 = 0))) := Lib.hid ⟨[], ⟨World.ownsRow_nil _ _ _ _, by simp, by simp⟩, .inl ⟨q', v', 0, hr6.less (fun k hk => hk.elim (fun h => h) (fun h => by simp [Value.ownBlock] at h)), ⟨rfl, rfl⟩, Nat.zero_le _, by simp⟩⟩
                    have HC66 : Hid (Ch w6 w6 (fun k => ¬ Zb k)) := Lib.hid (Ch.refl _ _)
                    clear hr6 hb6
                    go_wp2
                    go_loopg [11] (size + 1) (fun gk vr wr => Hid (∃ ls, Lr wr Zb b6 vr ls ∧ ((∃ q4 v4 kk, Rn wr (fun k => Zb k ∨ vr.ownBlock = some k) B gr a cap u q4 0 most s.1.length s.2 v4 ∧ Ip.Gr R size u ls q4 kk [] q' ∧ ls.length ≤ size ∧ gk = size - ls.length + 1) ∨ (Rq wr D B gr a cap u most (.err 1) ∧ gk = 0))) ∧ Hid (Ch w6 wr (fun k => ¬ Zb k)))
                    case atStart => exact ⟨HI6, HC66⟩
                    case round =>
                      obtain ⟨HK, HCH6⟩ := hrel
                      obtain ⟨ls, HL0, hor⟩ := HK.out
                      obtain ⟨aa, cc, rfl, his⟩ := own_is HL0.own (wf_small (fun x hx => by have := HL0.wf x hx; omega))
                      have HCW6 : Hid (Ch w wr (fun k => ¬ D k)) := Lib.hid (HC6.out.trans HCH6.out (fun k hk => .inl (fun hd => hk (HZZ.out.1 k (HZ.out.1 k hd).1))))
                      have hl5 := HL0.len
                      rcases hor with ⟨q4, v4, kk, hrn, hgr, hle, rfl⟩ | ⟨hd, rfl⟩
                      · by_cases hlt : ls.length < size
                        · have d5 : decide ((ls.length : Int) < 257 + (n : Int) + (1 + (m : Int))) = true := by simp; omega
                          have k3 := hrn.cells.2.2.1
                          have HBW : Bc wr (fun k => Zb k ∨ (Value.slice aa ls.length cc).ownBlock = some k) va R := (HBC.out.kept HCH6.out (fun k hk hn => hn hk)).wide (fun k hk => .inl hk)
                          have HS := Lib.hid (rsym_bc hrn hz HBW)
                          have HKP : Hid (∀ w7, Ch wr w7 (fun k => ¬ (fun k => Zb k ∨ (Value.slice aa ls.length cc).ownBlock = some k) k) → Lr w7 Zb b6 (.slice aa ls.length cc) ls ∧ Ch w6 w7 (fun k => ¬ Zb k)) := Lib.hid (fun w7 hc => ⟨⟨hc.own HL0.own (fun k hk hn => hn (.inr hk)), HL0.len, HL0.wf⟩, HCH6.out.trans hc (fun k hk => .inl (fun hz => hk (.inl hz)))⟩)
                          have HGR := Lib.hid hgr
                          have HIS2 := Lib.hid his
                          have HWF := Lib.hid HL0.wf
                          clear hrn HK his HBW HL0 hgr
                          go_wp2_with fail
                          refine HS.out.mono ?_
                          clear HS
                          cases hx : Ip.rdP R u q4 with
                          | err n0 =>
                            rintro e w7 ⟨rfl, ⟨qd, bad, szd, tsd, vd, hb, hr⟩, hcw⟩
                            have d10 : (bad != 0) = true := by simpa using hb
                            have d9 : (bad == 0) = false := by simpa using hb
                            have k7 := hr.cells.2.2.1
                            have HK7 := Lib.hid (HKP.out w7 hcw)
                            have HD7 : Hid (Rq w7 D B gr a cap u most (.err 1)) := Lib.hid ⟨_, bad, _, _, _, hb, hr.less (fun k hk => .inl (HZZ.out.1 k (HZ.out.1 k hk).1))⟩
                            have d6 : decide (257 + (n : Int) + (1 + (m : Int)) < (ls.length : Int)) = false := by simp; omega
                            clear hb hr hcw
                            go_wp2
                            go_loop [11, 15] (fun v i => v = .slice aa ls.length cc ∧ i = .int .i64 0) (fun _ _ => 0)
                            case atStart => exact ⟨rfl, rfl⟩
                            case round =>
                              obtain ⟨rfl, rfl⟩ := hrel
                              go_wp2
                              go_roundg (0)
                              case measure => omega
                              case rel => exact ⟨Lib.hid ⟨ls, HK7.out.1, .inr ⟨HD7.out, rfl⟩⟩, Lib.hid HK7.out.2⟩
                          | ok y r =>
                            rintro e w7 ⟨rfl, ⟨v7, hr⟩, hcw⟩
                            have hy0 := Ip.rdP_sym hKS.out hx
                            by_cases h16 : y = 16
                            · subst h16
                              by_cases hnil : ls = []
                              · subst hnil
                                have HF := Lib.hid (rfail_any hr 2 (by decide))
                                have HC7 : Hid (Ch w w7 (fun k => ¬ D k)) := Lib.hid (HCW6.out.trans hcw (fun k hk => .inl (fun hd => hk (.inl (HZZ.out.1 k (HZ.out.1 k hd).1)))))
                                clear hr hcw
                                go_wp2_with fail
                                refine HF.out.mono ?_
                                rintro e w8 ⟨rfl, ⟨bad, hb, hr⟩, hc8⟩
                                have HP := Lib.hid (HNIL.out w8 ⟨_, bad, _, _, _, hb, hr.less (fun k hk => .inl (HZZ.out.1 k (HZ.out.1 k hk).1))⟩ (HC7.out.trans hc8 (fun k hk => .inl (fun hd => hk (.inl (HZZ.out.1 k (HZ.out.1 k hd).1))))))
                                clear hb hr hc8 HF
                                go_wp2
                                go_ret2
                                exact HP.out
                              · have hlp : 0 < ls.length := List.length_pos_iff.2 hnil
                                have hi7 := HIS2.out.kept hcw (fun ad e hn => hn (.inr (by subst e; rfl)))
                                obtain ⟨b9, off9, rfl, _, hc9⟩ := hi7.at' (ls.length - 1) (by omega)
                                have iw : IntKind.i64.wrap ((ls.length : Int) - 1) = ((ls.length - 1 : Nat) : Int) := by rw [IntWalk.i64_in _ ⟨by omega, by omega⟩]; omega
                                have il0 : (0 : Int) ≤ ((ls.length - 1 : Nat) : Int) := by omega
                                have il1 : ((ls.length - 1 : Nat) : Int) < (ls.length : Int) := by omega
                                have dl0 : ((ls.length : Int) == 0) = false := by simp; omega
                                have hxw := HWF.out _ (show ls.getD (ls.length - 1) 0 ∈ ls by simp only [List.getD]; rw [List.getElem?_eq_getElem (by omega)]; exact List.getElem_mem _)
                                have HRU : Hid (∀ c r2, Ip.aboveP 3 2 true u r = .ok c r2 → Ip.runP 16 ls u r = .ok (ls.getD (ls.length - 1) 0, c) r2) := Lib.hid (fun c r2 h => by
                                  unfold Ip.runP; rw [if_pos rfl, if_neg hnil, Ip.bind_ok h]; rfl)
                                have HT : Hid (Calls Tryd.prog 27 #[.pointer (some ⟨gr, 0, none⟩), .int .i64 2] w7 (RtPost w7 (fun k => Zb k ∨ (Value.slice (some ⟨b9, off9, none⟩) ls.length cc).ownBlock = some k) B gr a cap u most s (fun n : Nat => .int .i64 (n : Nat)) (.int .i64 0) (Ip.take 2 u r))) := Lib.hid (rtake_any hr 2 (by omega) (.inl (by omega)))
                                generalize ls.getD (ls.length - 1) 0 = x9 at *
                                have hcw7 := hcw
                                clear hr hcw hi7
                                go_wp2_with fail
                                refine HT.out.mono ?_
                                clear HT
                                cases ht : Ip.take 2 u r with
                                | err n0 =>
                                  rintro e w8 ⟨rfl, ⟨qd, bad, szd, tsd, vd, hb, hr⟩, hc8⟩
                                  have hcw := hcw7.trans hc8 (fun n hn => .inl hn)
                                  clear hc8 hcw7
                                  have d10 : (bad != 0) = true := by simpa using hb
                                  have d9 : (bad == 0) = false := by simpa using hb
                                  have k7 := hr.cells.2.2.1
                                  have HK7 := Lib.hid (HKP.out w8 hcw)
                                  have HD7 : Hid (Rq w8 D B gr a cap u most (.err 1)) := Lib.hid ⟨_, bad, _, _, _, hb, hr.less (fun k hk => .inl (HZZ.out.1 k (HZ.out.1 k hk).1))⟩
                                  have d6 : decide (257 + (n : Int) + (1 + (m : Int)) < (ls.length : Int)) = false := by simp; omega
                                  clear hb hr hcw
                                  go_wp2
                                  go_loop [11, 15] (fun v i => v = .slice (some ⟨b9, off9, none⟩) ls.length cc ∧ i = .int .i64 0) (fun _ _ => 0)
                                  case atStart => exact ⟨rfl, rfl⟩
                                  case round =>
                                    obtain ⟨rfl, rfl⟩ := hrel
                                    go_wp2
                                    go_roundg (0)
                                    case measure => omega
                                    case rel => exact ⟨Lib.hid ⟨ls, HK7.out.1, .inr ⟨HD7.out, rfl⟩⟩, Lib.hid HK7.out.2⟩
                                | ok t r2 =>
                                  rintro e w8 ⟨rfl, ⟨v8, hr⟩, hc8⟩
                                  have hcw := hcw7.trans hc8 (fun n hn => .inl hn)
                                  have ht8 := Ip.take_lt ht
                                  rw [show (2 : Nat) ^ 2 = 4 from rfl] at ht8
                                  have it : IntKind.i64.wrap (3 + (t : Int)) = 3 + (t : Int) := IntWalk.i64_in _ ⟨by omega, by omega⟩
                                  have HG1 : Hid (ls.length + (3 + t) ≤ size → Ip.grow1 R size ls u q4 = .ok (.inl (ls ++ List.replicate (3 + t) x9)) r2) := Lib.hid (fun h => Ip.grow1_is (x := (x9, 3 + t)) hx (HRU.out _ _ (Ip.above_ok ht)) h)
                                  clear hc8 hcw7
                                  have HK7 := HKP.out w8 hcw
                                  have hsz6 := HK7.2.size
                                  have HJ0 : Hid (Lr w8 Zb b6 (.slice (some ⟨b9, off9, none⟩) ls.length cc) (ls ++ List.replicate 0 (x9)) ∧ Rn w8 (fun k => Zb k ∨ (Value.slice (some ⟨b9, off9, none⟩) ls.length cc).ownBlock = some k) B gr a cap u r2 0 most s.1.length s.2 v8 ∧ Ch w6 w8 (fun k => ¬ Zb k)) := Lib.hid ⟨by rw [List.replicate_zero, List.append_nil]; exact HK7.1, hr, HK7.2⟩
                                  clear hr hcw HK7
                                  go_wp2
                                  go_loopg [11, 15] (3 + t) (fun gk vr i wr => ∃ j : Nat, j ≤ 3 + t ∧ gk = 3 + t - j ∧ i = .int .i64 j ∧ Hid (Lr wr Zb b6 vr (ls ++ List.replicate j (x9)) ∧ Rn wr (fun k => Zb k ∨ vr.ownBlock = some k) B gr a cap u r2 0 most s.1.length s.2 v8 ∧ Ch w6 wr (fun k => ¬ Zb k)))
                                  case atStart => exact ⟨0, by omega, by omega, rfl, HJ0⟩
                                  case round =>
                                    obtain ⟨j, hj, rfl, rfl, HJ⟩ := hrel
                                    have kk2 := HJ.out.2.1.cells.2.2.1
                                    have hll : (ls ++ List.replicate j (x9)).length = ls.length + j := by simp
                                    have hown := HJ.out.1.own
                                    rw [hll] at hown
                                    obtain ⟨a9, c9, rfl, _⟩ := own_is hown (wf_small (fun x hx => by have := HJ.out.1.wf x hx; omega))
                                    have hb6l : w6.heap.size ≤ b6 ∧ b6 ≤ w6.heap.size := by rw [HB6.out]; exact ⟨Nat.le_refl _, Nat.le_refl _⟩
                                    have hsz9 := HJ.out.2.2.size
                                    by_cases hjn : j < 3 + t
                                    · have d7 : decide ((j : Int) < 3 + (t : Int)) = true := by first | (simp; done) | (simp; omega)
                                      have H1 := Lib.hid (hown.alloc (.cells #[Value.int .i64 (x9)] 3))
                                      have hsrc := src_int wr (x9)
                                      have hbaz : b6 ≤ (wr.alloc (.cells #[Value.int .i64 (x9)] 3)).heap.size := by simp; omega
                                      clear hown hll
                                      go_wp2_with (at_builtin; refine wpl_append2 tyI rfl _ _ rfl H1.out hsrc rfl rfl (by omega) (by omega) (by omega) hbaz ?_)
                                      intro v9 w9 own9 st9
                                      have ch9 : Ch wr w9 (fun k => (Value.slice a9 (ls.length + j) c9).ownBlock = some k) := (Ch.of_below (below_alloc wr _)).trans (Ch.step st9) (fun n hn => .inl hn)
                                      have ff9 := st9.block
                                      have HJ9 : Hid (Lr w9 Zb b6 v9 (ls ++ List.replicate (j + 1) (x9)) ∧ Rn w9 (fun k => Zb k ∨ v9.ownBlock = some k) B gr a cap u r2 0 most s.1.length s.2 v8 ∧ Ch w6 w9 (fun k => ¬ Zb k)) := Lib.hid (by
                                        have hz9 := (H1.out.lt)
                                        refine ⟨⟨?_, by simp; omega, fun x hx => ?_⟩, HJ.out.2.1.keepT ch9 (fun k hk => .inr hk) (fun ad e hh => ?_) (fun k hk => ?_), HJ.out.2.2.trans ch9 (fun k hk => .inr ?_)⟩
                                        · rw [List.replicate_succ', ← List.append_assoc, ivs_append]
                                          have e9 : (ls ++ List.replicate j (x9) ++ [x9]).length = ls.length + j + 1 := by simp; omega
                                          rw [e9]; exact own9
                                        · rcases List.mem_append.1 hx with hx | hx
                                          · exact HJ.out.1.wf x (List.mem_append.2 (.inl hx))
                                          · rw [List.mem_replicate] at hx; omega
                                        · have := (hz9 _ hh).1
                                          have := HWL.out ad e
                                          omega
                                        · rcases hk with hk | hk
                                          · exact .inl (.inl hk)
                                          · rcases ff9 k hk with h | h
                                            · exact .inl (.inr h)
                                            · exact .inr ⟨by simp at h; omega, (own9.lt k hk).2⟩
                                        · have := (hz9 _ hk).1
                                          omega)
                                      clear own9 st9 ch9 ff9 hsrc H1 HJ hbaz
                                      go_wp2
                                      go_roundg (3 + t - (j + 1))
                                      case measure => omega
                                      case rel => exact ⟨j + 1, by omega, rfl, by go_num, HJ9⟩
                                    · obtain rfl : j = 3 + t := by omega
                                      have HL9 := Lib.hid HJ.out.1
                                      by_cases hbg : size < ls.length + (3 + t)
                                      · have d8 : decide (257 + (n : Int) + (1 + (m : Int)) < ((ls.length + (3 + t) : Nat) : Int)) = true := by simp; omega
                                        have HF := Lib.hid (rfail_any HJ.out.2.1 2 (by decide))
                                        have HC9 := Lib.hid HJ.out.2.2
                                        clear HJ hown hll
                                        go_wp2_with fail
                                        refine HF.out.mono ?_
                                        rintro e w9 ⟨rfl, ⟨bad, hb, hr⟩, hcd⟩
                                        have HI9 : Hid (∃ ls2, Lr w9 Zb b6 (.slice a9 (ls.length + (3 + t)) c9) ls2 ∧ Rq w9 D B gr a cap u most (.err 1)) := Lib.hid ⟨ls ++ List.replicate (3 + t) (x9), ⟨hcd.own HL9.out.own (fun k hk hn => hn (.inr hk)), HL9.out.len, HL9.out.wf⟩, _, bad, _, _, _, hb, hr.less (fun k hk => .inl (HZZ.out.1 k (HZ.out.1 k hk).1))⟩
                                        have HC10 : Hid (Ch w6 w9 (fun k => ¬ Zb k)) := Lib.hid (HC9.out.trans hcd (fun k hk => .inl (fun hz => hk (.inl hz))))
                                        clear hb hr hcd HF HL9 HC9
                                        go_wp2
                                        go_roundg (0)
                                        case measure => omega
                                        case rel => exact ⟨Lib.hid (by obtain ⟨x1, x2, x3⟩ := HI9.out; exact ⟨x1, x2, .inr ⟨x3, rfl⟩⟩), HC10⟩
                                      · have d8 : decide (257 + (n : Int) + (1 + (m : Int)) < ((ls.length + (3 + t) : Nat) : Int)) = false := by simp; omega
                                        have HI9 : Hid (∃ ls2, ls2.length = ls.length + (3 + t) ∧ Lr wr Zb b6 (.slice a9 (ls.length + (3 + t)) c9) ls2 ∧ ∃ q4 v4 kk, Rn wr (fun k => Zb k ∨ (Value.slice a9 (ls.length + (3 + t)) c9).ownBlock = some k) B gr a cap u q4 0 most s.1.length s.2 v4 ∧ Ip.Gr R size u ls2 q4 kk [] q' ∧ ls2.length ≤ size) := Lib.hid ⟨ls ++ List.replicate (3 + t) (x9), by simp, HL9.out, r2, v8, kk + 1, HJ.out.2.1, Ip.Gr.snoc hlt (HG1.out (by omega)) ⟨(x9, 3 + t), rfl, by show 1 ≤ 3 + t; omega⟩ (by simp; omega) kk [] q' HGR.out, by simp; omega⟩
                                        have HC10 := Lib.hid HJ.out.2.2
                                        clear HJ HL9 hown hll
                                        go_wp2
                                        go_roundg (size - (ls.length + (3 + t)) + 1)
                                        case measure => omega
                                        case rel => exact ⟨Lib.hid (by obtain ⟨x1, x2, x3, x4, x5, x6, x7, x8, x9⟩ := HI9.out; exact ⟨x1, x3, .inl ⟨x4, x5, x6, x7, x8, x9, by rw [x2]⟩⟩), HC10⟩
                            · by_cases h17 : y = 17
                              · subst h17
                                have HT : Hid (Calls Tryd.prog 27 #[.pointer (some ⟨gr, 0, none⟩), .int .i64 3] w7 (RtPost w7 (fun k => Zb k ∨ (Value.slice aa ls.length cc).ownBlock = some k) B gr a cap u most s (fun n : Nat => .int .i64 (n : Nat)) (.int .i64 0) (Ip.take 3 u r))) := Lib.hid (rtake_any hr 3 (by omega) (.inl (by omega)))
                                have hcw7 := hcw
                                clear hr hcw
                                go_wp2_with fail
                                refine HT.out.mono ?_
                                clear HT
                                cases ht : Ip.take 3 u r with
                                | err n0 =>
                                  rintro e w8 ⟨rfl, ⟨qd, bad, szd, tsd, vd, hb, hr⟩, hc8⟩
                                  have hcw := hcw7.trans hc8 (fun n hn => .inl hn)
                                  clear hc8 hcw7
                                  have d10 : (bad != 0) = true := by simpa using hb
                                  have d9 : (bad == 0) = false := by simpa using hb
                                  have k7 := hr.cells.2.2.1
                                  have HK7 := Lib.hid (HKP.out w8 hcw)
                                  have HD7 : Hid (Rq w8 D B gr a cap u most (.err 1)) := Lib.hid ⟨_, bad, _, _, _, hb, hr.less (fun k hk => .inl (HZZ.out.1 k (HZ.out.1 k hk).1))⟩
                                  have d6 : decide (257 + (n : Int) + (1 + (m : Int)) < (ls.length : Int)) = false := by simp; omega
                                  clear hb hr hcw
                                  go_wp2
                                  go_loop [11, 15] (fun v i => v = .slice aa ls.length cc ∧ i = .int .i64 0) (fun _ _ => 0)
                                  case atStart => exact ⟨rfl, rfl⟩
                                  case round =>
                                    obtain ⟨rfl, rfl⟩ := hrel
                                    go_wp2
                                    go_roundg (0)
                                    case measure => omega
                                    case rel => exact ⟨Lib.hid ⟨ls, HK7.out.1, .inr ⟨HD7.out, rfl⟩⟩, Lib.hid HK7.out.2⟩
                                | ok t r2 =>
                                  rintro e w8 ⟨rfl, ⟨v8, hr⟩, hc8⟩
                                  have hcw := hcw7.trans hc8 (fun n hn => .inl hn)
                                  have ht8 := Ip.take_lt ht
                                  rw [show (2 : Nat) ^ 3 = 8 from rfl] at ht8
                                  have it : IntKind.i64.wrap (3 + (t : Int)) = 3 + (t : Int) := IntWalk.i64_in _ ⟨by omega, by omega⟩
                                  have HG1 : Hid (ls.length + (3 + t) ≤ size → Ip.grow1 R size ls u q4 = .ok (.inl (ls ++ List.replicate (3 + t) 0)) r2) := Lib.hid (fun h => Ip.grow1_is (x := (0, 3 + t)) hx (by unfold Ip.runP; rw [if_neg (by decide), if_pos rfl, Ip.bind_ok (Ip.above_ok ht)]; rfl) h)
                                  clear hc8 hcw7
                                  have HK7 := HKP.out w8 hcw
                                  have hsz6 := HK7.2.size
                                  have HJ0 : Hid (Lr w8 Zb b6 (.slice aa ls.length cc) (ls ++ List.replicate 0 (0)) ∧ Rn w8 (fun k => Zb k ∨ (Value.slice aa ls.length cc).ownBlock = some k) B gr a cap u r2 0 most s.1.length s.2 v8 ∧ Ch w6 w8 (fun k => ¬ Zb k)) := Lib.hid ⟨by rw [List.replicate_zero, List.append_nil]; exact HK7.1, hr, HK7.2⟩
                                  clear hr hcw HK7
                                  go_wp2
                                  go_loopg [11, 15] (3 + t) (fun gk vr i wr => ∃ j : Nat, j ≤ 3 + t ∧ gk = 3 + t - j ∧ i = .int .i64 j ∧ Hid (Lr wr Zb b6 vr (ls ++ List.replicate j (0)) ∧ Rn wr (fun k => Zb k ∨ vr.ownBlock = some k) B gr a cap u r2 0 most s.1.length s.2 v8 ∧ Ch w6 wr (fun k => ¬ Zb k)))
                                  case atStart => exact ⟨0, by omega, by omega, rfl, HJ0⟩
                                  case round =>
                                    obtain ⟨j, hj, rfl, rfl, HJ⟩ := hrel
                                    have kk2 := HJ.out.2.1.cells.2.2.1
                                    have hll : (ls ++ List.replicate j (0)).length = ls.length + j := by simp
                                    have hown := HJ.out.1.own
                                    rw [hll] at hown
                                    obtain ⟨a9, c9, rfl, _⟩ := own_is hown (wf_small (fun x hx => by have := HJ.out.1.wf x hx; omega))
                                    have hb6l : w6.heap.size ≤ b6 ∧ b6 ≤ w6.heap.size := by rw [HB6.out]; exact ⟨Nat.le_refl _, Nat.le_refl _⟩
                                    have hsz9 := HJ.out.2.2.size
                                    by_cases hjn : j < 3 + t
                                    · have d7 : decide ((j : Int) < 3 + (t : Int)) = true := by first | (simp; done) | (simp; omega)
                                      have H1 := Lib.hid (hown.alloc (.cells #[Value.int .i64 (0)] 3))
                                      have hsrc := src_int wr (0)
                                      have hbaz : b6 ≤ (wr.alloc (.cells #[Value.int .i64 (0)] 3)).heap.size := by simp; omega
                                      clear hown hll
                                      go_wp2_with (at_builtin; refine wpl_append2 tyI rfl _ _ rfl H1.out hsrc rfl rfl (by omega) (by omega) (by omega) hbaz ?_)
                                      intro v9 w9 own9 st9
                                      have ch9 : Ch wr w9 (fun k => (Value.slice a9 (ls.length + j) c9).ownBlock = some k) := (Ch.of_below (below_alloc wr _)).trans (Ch.step st9) (fun n hn => .inl hn)
                                      have ff9 := st9.block
                                      have HJ9 : Hid (Lr w9 Zb b6 v9 (ls ++ List.replicate (j + 1) (0)) ∧ Rn w9 (fun k => Zb k ∨ v9.ownBlock = some k) B gr a cap u r2 0 most s.1.length s.2 v8 ∧ Ch w6 w9 (fun k => ¬ Zb k)) := Lib.hid (by
                                        have hz9 := (H1.out.lt)
                                        refine ⟨⟨?_, by simp; omega, fun x hx => ?_⟩, HJ.out.2.1.keepT ch9 (fun k hk => .inr hk) (fun ad e hh => ?_) (fun k hk => ?_), HJ.out.2.2.trans ch9 (fun k hk => .inr ?_)⟩
                                        · rw [List.replicate_succ', ← List.append_assoc, ivs_append]
                                          have e9 : (ls ++ List.replicate j (0) ++ [0]).length = ls.length + j + 1 := by simp; omega
                                          rw [e9]; exact own9
                                        · rcases List.mem_append.1 hx with hx | hx
                                          · exact HJ.out.1.wf x (List.mem_append.2 (.inl hx))
                                          · rw [List.mem_replicate] at hx; omega
                                        · have := (hz9 _ hh).1
                                          have := HWL.out ad e
                                          omega
                                        · rcases hk with hk | hk
                                          · exact .inl (.inl hk)
                                          · rcases ff9 k hk with h | h
                                            · exact .inl (.inr h)
                                            · exact .inr ⟨by simp at h; omega, (own9.lt k hk).2⟩
                                        · have := (hz9 _ hk).1
                                          omega)
                                      clear own9 st9 ch9 ff9 hsrc H1 HJ hbaz
                                      go_wp2
                                      go_roundg (3 + t - (j + 1))
                                      case measure => omega
                                      case rel => exact ⟨j + 1, by omega, rfl, by go_num, HJ9⟩
                                    · obtain rfl : j = 3 + t := by omega
                                      have HL9 := Lib.hid HJ.out.1
                                      by_cases hbg : size < ls.length + (3 + t)
                                      · have d8 : decide (257 + (n : Int) + (1 + (m : Int)) < ((ls.length + (3 + t) : Nat) : Int)) = true := by simp; omega
                                        have HF := Lib.hid (rfail_any HJ.out.2.1 2 (by decide))
                                        have HC9 := Lib.hid HJ.out.2.2
                                        clear HJ hown hll
                                        go_wp2_with fail
                                        refine HF.out.mono ?_
                                        rintro e w9 ⟨rfl, ⟨bad, hb, hr⟩, hcd⟩
                                        have HI9 : Hid (∃ ls2, Lr w9 Zb b6 (.slice a9 (ls.length + (3 + t)) c9) ls2 ∧ Rq w9 D B gr a cap u most (.err 1)) := Lib.hid ⟨ls ++ List.replicate (3 + t) (0), ⟨hcd.own HL9.out.own (fun k hk hn => hn (.inr hk)), HL9.out.len, HL9.out.wf⟩, _, bad, _, _, _, hb, hr.less (fun k hk => .inl (HZZ.out.1 k (HZ.out.1 k hk).1))⟩
                                        have HC10 : Hid (Ch w6 w9 (fun k => ¬ Zb k)) := Lib.hid (HC9.out.trans hcd (fun k hk => .inl (fun hz => hk (.inl hz))))
                                        clear hb hr hcd HF HL9 HC9
                                        go_wp2
                                        go_roundg (0)
                                        case measure => omega
                                        case rel => exact ⟨Lib.hid (by obtain ⟨x1, x2, x3⟩ := HI9.out; exact ⟨x1, x2, .inr ⟨x3, rfl⟩⟩), HC10⟩
                                      · have d8 : decide (257 + (n : Int) + (1 + (m : Int)) < ((ls.length + (3 + t) : Nat) : Int)) = false := by simp; omega
                                        have HI9 : Hid (∃ ls2, ls2.length = ls.length + (3 + t) ∧ Lr wr Zb b6 (.slice a9 (ls.length + (3 + t)) c9) ls2 ∧ ∃ q4 v4 kk, Rn wr (fun k => Zb k ∨ (Value.slice a9 (ls.length + (3 + t)) c9).ownBlock = some k) B gr a cap u q4 0 most s.1.length s.2 v4 ∧ Ip.Gr R size u ls2 q4 kk [] q' ∧ ls2.length ≤ size) := Lib.hid ⟨ls ++ List.replicate (3 + t) (0), by simp, HL9.out, r2, v8, kk + 1, HJ.out.2.1, Ip.Gr.snoc hlt (HG1.out (by omega)) ⟨(0, 3 + t), rfl, by show 1 ≤ 3 + t; omega⟩ (by simp; omega) kk [] q' HGR.out, by simp; omega⟩
                                        have HC10 := Lib.hid HJ.out.2.2
                                        clear HJ HL9 hown hll
                                        go_wp2
                                        go_roundg (size - (ls.length + (3 + t)) + 1)
                                        case measure => omega
                                        case rel => exact ⟨Lib.hid (by obtain ⟨x1, x2, x3, x4, x5, x6, x7, x8, x9⟩ := HI9.out; exact ⟨x1, x3, .inl ⟨x4, x5, x6, x7, x8, x9, by rw [x2]⟩⟩), HC10⟩
                              · by_cases h18 : y = 18
                                · subst h18
                                  have HT : Hid (Calls Tryd.prog 27 #[.pointer (some ⟨gr, 0, none⟩), .int .i64 7] w7 (RtPost w7 (fun k => Zb k ∨ (Value.slice aa ls.length cc).ownBlock = some k) B gr a cap u most s (fun n : Nat => .int .i64 (n : Nat)) (.int .i64 0) (Ip.take 7 u r))) := Lib.hid (rtake_any hr 7 (by omega) (.inl (by omega)))
                                  have hcw7 := hcw
                                  clear hr hcw
                                  go_wp2_with fail
                                  refine HT.out.mono ?_
                                  clear HT
                                  cases ht : Ip.take 7 u r with
                                  | err n0 =>
                                    rintro e w8 ⟨rfl, ⟨qd, bad, szd, tsd, vd, hb, hr⟩, hc8⟩
                                    have hcw := hcw7.trans hc8 (fun n hn => .inl hn)
                                    clear hc8 hcw7
                                    have d10 : (bad != 0) = true := by simpa using hb
                                    have d9 : (bad == 0) = false := by simpa using hb
                                    have k7 := hr.cells.2.2.1
                                    have HK7 := Lib.hid (HKP.out w8 hcw)
                                    have HD7 : Hid (Rq w8 D B gr a cap u most (.err 1)) := Lib.hid ⟨_, bad, _, _, _, hb, hr.less (fun k hk => .inl (HZZ.out.1 k (HZ.out.1 k hk).1))⟩
                                    have d6 : decide (257 + (n : Int) + (1 + (m : Int)) < (ls.length : Int)) = false := by simp; omega
                                    clear hb hr hcw
                                    go_wp2
                                    go_loop [11, 15] (fun v i => v = .slice aa ls.length cc ∧ i = .int .i64 0) (fun _ _ => 0)
                                    case atStart => exact ⟨rfl, rfl⟩
                                    case round =>
                                      obtain ⟨rfl, rfl⟩ := hrel
                                      go_wp2
                                      go_roundg (0)
                                      case measure => omega
                                      case rel => exact ⟨Lib.hid ⟨ls, HK7.out.1, .inr ⟨HD7.out, rfl⟩⟩, Lib.hid HK7.out.2⟩
                                  | ok t r2 =>
                                    rintro e w8 ⟨rfl, ⟨v8, hr⟩, hc8⟩
                                    have hcw := hcw7.trans hc8 (fun n hn => .inl hn)
                                    have ht8 := Ip.take_lt ht
                                    rw [show (2 : Nat) ^ 7 = 128 from rfl] at ht8
                                    have it : IntKind.i64.wrap (11 + (t : Int)) = 11 + (t : Int) := IntWalk.i64_in _ ⟨by omega, by omega⟩
                                    have HG1 : Hid (ls.length + (11 + t) ≤ size → Ip.grow1 R size ls u q4 = .ok (.inl (ls ++ List.replicate (11 + t) 0)) r2) := Lib.hid (fun h => Ip.grow1_is (x := (0, 11 + t)) hx (by unfold Ip.runP; rw [if_neg (by decide), if_neg (by decide), if_pos rfl, Ip.bind_ok (Ip.above_ok ht)]; rfl) h)
                                    clear hc8 hcw7
                                    have HK7 := HKP.out w8 hcw
                                    have hsz6 := HK7.2.size
                                    have HJ0 : Hid (Lr w8 Zb b6 (.slice aa ls.length cc) (ls ++ List.replicate 0 (0)) ∧ Rn w8 (fun k => Zb k ∨ (Value.slice aa ls.length cc).ownBlock = some k) B gr a cap u r2 0 most s.1.length s.2 v8 ∧ Ch w6 w8 (fun k => ¬ Zb k)) := Lib.hid ⟨by rw [List.replicate_zero, List.append_nil]; exact HK7.1, hr, HK7.2⟩
                                    clear hr hcw HK7
                                    go_wp2
                                    go_loopg [11, 15] (11 + t) (fun gk vr i wr => ∃ j : Nat, j ≤ 11 + t ∧ gk = 11 + t - j ∧ i = .int .i64 j ∧ Hid (Lr wr Zb b6 vr (ls ++ List.replicate j (0)) ∧ Rn wr (fun k => Zb k ∨ vr.ownBlock = some k) B gr a cap u r2 0 most s.1.length s.2 v8 ∧ Ch w6 wr (fun k => ¬ Zb k)))
                                    case atStart => exact ⟨0, by omega, by omega, rfl, HJ0⟩
                                    case round =>
                                      obtain ⟨j, hj, rfl, rfl, HJ⟩ := hrel
                                      have kk2 := HJ.out.2.1.cells.2.2.1
                                      have hll : (ls ++ List.replicate j (0)).length = ls.length + j := by simp
                                      have hown := HJ.out.1.own
                                      rw [hll] at hown
                                      obtain ⟨a9, c9, rfl, _⟩ := own_is hown (wf_small (fun x hx => by have := HJ.out.1.wf x hx; omega))
                                      have hb6l : w6.heap.size ≤ b6 ∧ b6 ≤ w6.heap.size := by rw [HB6.out]; exact ⟨Nat.le_refl _, Nat.le_refl _⟩
                                      have hsz9 := HJ.out.2.2.size
                                      by_cases hjn : j < 11 + t
                                      · have d7 : decide ((j : Int) < 11 + (t : Int)) = true := by first | (simp; done) | (simp; omega)
                                        have H1 := Lib.hid (hown.alloc (.cells #[Value.int .i64 (0)] 3))
                                        have hsrc := src_int wr (0)
                                        have hbaz : b6 ≤ (wr.alloc (.cells #[Value.int .i64 (0)] 3)).heap.size := by simp; omega
                                        clear hown hll
                                        go_wp2_with (at_builtin; refine wpl_append2 tyI rfl _ _ rfl H1.out hsrc rfl rfl (by omega) (by omega) (by omega) hbaz ?_)
                                        intro v9 w9 own9 st9
                                        have ch9 : Ch wr w9 (fun k => (Value.slice a9 (ls.length + j) c9).ownBlock = some k) := (Ch.of_below (below_alloc wr _)).trans (Ch.step st9) (fun n hn => .inl hn)
                                        have ff9 := st9.block
                                        have HJ9 : Hid (Lr w9 Zb b6 v9 (ls ++ List.replicate (j + 1) (0)) ∧ Rn w9 (fun k => Zb k ∨ v9.ownBlock = some k) B gr a cap u r2 0 most s.1.length s.2 v8 ∧ Ch w6 w9 (fun k => ¬ Zb k)) := Lib.hid (by
                                          have hz9 := (H1.out.lt)
                                          refine ⟨⟨?_, by simp; omega, fun x hx => ?_⟩, HJ.out.2.1.keepT ch9 (fun k hk => .inr hk) (fun ad e hh => ?_) (fun k hk => ?_), HJ.out.2.2.trans ch9 (fun k hk => .inr ?_)⟩
                                          · rw [List.replicate_succ', ← List.append_assoc, ivs_append]
                                            have e9 : (ls ++ List.replicate j (0) ++ [0]).length = ls.length + j + 1 := by simp; omega
                                            rw [e9]; exact own9
                                          · rcases List.mem_append.1 hx with hx | hx
                                            · exact HJ.out.1.wf x (List.mem_append.2 (.inl hx))
                                            · rw [List.mem_replicate] at hx; omega
                                          · have := (hz9 _ hh).1
                                            have := HWL.out ad e
                                            omega
                                          · rcases hk with hk | hk
                                            · exact .inl (.inl hk)
                                            · rcases ff9 k hk with h | h
                                              · exact .inl (.inr h)
                                              · exact .inr ⟨by simp at h; omega, (own9.lt k hk).2⟩
                                          · have := (hz9 _ hk).1
                                            omega)
                                        clear own9 st9 ch9 ff9 hsrc H1 HJ hbaz
                                        go_wp2
                                        go_roundg (11 + t - (j + 1))
                                        case measure => omega
                                        case rel => exact ⟨j + 1, by omega, rfl, by go_num, HJ9⟩
                                      · obtain rfl : j = 11 + t := by omega
                                        have HL9 := Lib.hid HJ.out.1
                                        by_cases hbg : size < ls.length + (11 + t)
                                        · have d8 : decide (257 + (n : Int) + (1 + (m : Int)) < ((ls.length + (11 + t) : Nat) : Int)) = true := by simp; omega
                                          have HF := Lib.hid (rfail_any HJ.out.2.1 2 (by decide))
                                          have HC9 := Lib.hid HJ.out.2.2
                                          clear HJ hown hll
                                          go_wp2_with fail
                                          refine HF.out.mono ?_
                                          rintro e w9 ⟨rfl, ⟨bad, hb, hr⟩, hcd⟩
                                          have HI9 : Hid (∃ ls2, Lr w9 Zb b6 (.slice a9 (ls.length + (11 + t)) c9) ls2 ∧ Rq w9 D B gr a cap u most (.err 1)) := Lib.hid ⟨ls ++ List.replicate (11 + t) (0), ⟨hcd.own HL9.out.own (fun k hk hn => hn (.inr hk)), HL9.out.len, HL9.out.wf⟩, _, bad, _, _, _, hb, hr.less (fun k hk => .inl (HZZ.out.1 k (HZ.out.1 k hk).1))⟩
                                          have HC10 : Hid (Ch w6 w9 (fun k => ¬ Zb k)) := Lib.hid (HC9.out.trans hcd (fun k hk => .inl (fun hz => hk (.inl hz))))
                                          clear hb hr hcd HF HL9 HC9
                                          go_wp2
                                          go_roundg (0)
                                          case measure => omega
                                          case rel => exact ⟨Lib.hid (by obtain ⟨x1, x2, x3⟩ := HI9.out; exact ⟨x1, x2, .inr ⟨x3, rfl⟩⟩), HC10⟩
                                        · have d8 : decide (257 + (n : Int) + (1 + (m : Int)) < ((ls.length + (11 + t) : Nat) : Int)) = false := by simp; omega
                                          have HI9 : Hid (∃ ls2, ls2.length = ls.length + (11 + t) ∧ Lr wr Zb b6 (.slice a9 (ls.length + (11 + t)) c9) ls2 ∧ ∃ q4 v4 kk, Rn wr (fun k => Zb k ∨ (Value.slice a9 (ls.length + (11 + t)) c9).ownBlock = some k) B gr a cap u q4 0 most s.1.length s.2 v4 ∧ Ip.Gr R size u ls2 q4 kk [] q' ∧ ls2.length ≤ size) := Lib.hid ⟨ls ++ List.replicate (11 + t) (0), by simp, HL9.out, r2, v8, kk + 1, HJ.out.2.1, Ip.Gr.snoc hlt (HG1.out (by omega)) ⟨(0, 11 + t), rfl, by show 1 ≤ 11 + t; omega⟩ (by simp; omega) kk [] q' HGR.out, by simp; omega⟩
                                          have HC10 := Lib.hid HJ.out.2.2
                                          clear HJ HL9 hown hll
                                          go_wp2
                                          go_roundg (size - (ls.length + (11 + t)) + 1)
                                          case measure => omega
                                          case rel => exact ⟨Lib.hid (by obtain ⟨x1, x2, x3, x4, x5, x6, x7, x8, x9⟩ := HI9.out; exact ⟨x1, x3, .inl ⟨x4, x5, x6, x7, x8, x9, by rw [x2]⟩⟩), HC10⟩
                                · have d16 : (y == 16) = false := by simpa using h16
                                  have d17 : (y == 17) = false := by simpa using h17
                                  have d18 : (y == 18) = false := by simpa using h18
                                  have HG1 : Hid (ls.length + 1 ≤ size → Ip.grow1 R size ls u q4 = .ok (.inl (ls ++ List.replicate 1 y)) r) := Lib.hid (fun h => Ip.grow1_is (x := (y, 1)) hx (by unfold Ip.runP; rw [if_neg h16, if_neg h17, if_neg h18]; rfl) h)
                                  have HK7 := HKP.out w7 hcw
                                  have hsz6 := HK7.2.size
                                  have HJ0 : Hid (Lr w7 Zb b6 (.slice aa ls.length cc) (ls ++ List.replicate 0 (y)) ∧ Rn w7 (fun k => Zb k ∨ (Value.slice aa ls.length cc).ownBlock = some k) B gr a cap u r 0 most s.1.length s.2 v7 ∧ Ch w6 w7 (fun k => ¬ Zb k)) := Lib.hid ⟨by rw [List.replicate_zero, List.append_nil]; exact HK7.1, hr, HK7.2⟩
                                  clear hr hcw HK7
                                  go_wp2
                                  go_loopg [11, 15] (1) (fun gk vr i wr => ∃ j : Nat, j ≤ 1 ∧ gk = 1 - j ∧ i = .int .i64 j ∧ Hid (Lr wr Zb b6 vr (ls ++ List.replicate j (y)) ∧ Rn wr (fun k => Zb k ∨ vr.ownBlock = some k) B gr a cap u r 0 most s.1.length s.2 v7 ∧ Ch w6 wr (fun k => ¬ Zb k)))
                                  case atStart => exact ⟨0, by omega, by omega, rfl, HJ0⟩
                                  case round =>
                                    obtain ⟨j, hj, rfl, rfl, HJ⟩ := hrel
                                    have kk2 := HJ.out.2.1.cells.2.2.1
                                    have hll : (ls ++ List.replicate j (y)).length = ls.length + j := by simp
                                    have hown := HJ.out.1.own
                                    rw [hll] at hown
                                    obtain ⟨a9, c9, rfl, _⟩ := own_is hown (wf_small (fun x hx => by have := HJ.out.1.wf x hx; omega))
                                    have hb6l : w6.heap.size ≤ b6 ∧ b6 ≤ w6.heap.size := by rw [HB6.out]; exact ⟨Nat.le_refl _, Nat.le_refl _⟩
                                    have hsz9 := HJ.out.2.2.size
                                    by_cases hjn : j < 1
                                    · have d7 : decide ((j : Int) < 1) = true := by first | (simp; done) | (simp; omega)
                                      have H1 := Lib.hid (hown.alloc (.cells #[Value.int .i64 (y)] 3))
                                      have hsrc := src_int wr (y)
                                      have hbaz : b6 ≤ (wr.alloc (.cells #[Value.int .i64 (y)] 3)).heap.size := by simp; omega
                                      clear hown hll
                                      go_wp2_with (at_builtin; refine wpl_append2 tyI rfl _ _ rfl H1.out hsrc rfl rfl (by omega) (by omega) (by omega) hbaz ?_)
                                      intro v9 w9 own9 st9
                                      have ch9 : Ch wr w9 (fun k => (Value.slice a9 (ls.length + j) c9).ownBlock = some k) := (Ch.of_below (below_alloc wr _)).trans (Ch.step st9) (fun n hn => .inl hn)
                                      have ff9 := st9.block
                                      have HJ9 : Hid (Lr w9 Zb b6 v9 (ls ++ List.replicate (j + 1) (y)) ∧ Rn w9 (fun k => Zb k ∨ v9.ownBlock = some k) B gr a cap u r 0 most s.1.length s.2 v7 ∧ Ch w6 w9 (fun k => ¬ Zb k)) := Lib.hid (by
                                        have hz9 := (H1.out.lt)
                                        refine ⟨⟨?_, by simp; omega, fun x hx => ?_⟩, HJ.out.2.1.keepT ch9 (fun k hk => .inr hk) (fun ad e hh => ?_) (fun k hk => ?_), HJ.out.2.2.trans ch9 (fun k hk => .inr ?_)⟩
                                        · rw [List.replicate_succ', ← List.append_assoc, ivs_append]
                                          have e9 : (ls ++ List.replicate j (y) ++ [y]).length = ls.length + j + 1 := by simp; omega
                                          rw [e9]; exact own9
                                        · rcases List.mem_append.1 hx with hx | hx
                                          · exact HJ.out.1.wf x (List.mem_append.2 (.inl hx))
                                          · rw [List.mem_replicate] at hx; omega
                                        · have := (hz9 _ hh).1
                                          have := HWL.out ad e
                                          omega
                                        · rcases hk with hk | hk
                                          · exact .inl (.inl hk)
                                          · rcases ff9 k hk with h | h
                                            · exact .inl (.inr h)
                                            · exact .inr ⟨by simp at h; omega, (own9.lt k hk).2⟩
                                        · have := (hz9 _ hk).1
                                          omega)
                                      clear own9 st9 ch9 ff9 hsrc H1 HJ hbaz
                                      go_wp2
                                      go_roundg (1 - (j + 1))
                                      case measure => omega
                                      case rel => exact ⟨j + 1, by omega, rfl, by go_num, HJ9⟩
                                    · obtain rfl : j = 1 := by omega
                                      have HL9 := Lib.hid HJ.out.1
                                      by_cases hbg : size < ls.length + (1)
                                      · exact absurd hbg (by omega)
                                      · have d8 : decide (257 + (n : Int) + (1 + (m : Int)) < ((ls.length + (1) : Nat) : Int)) = false := by simp; omega
                                        have HI9 : Hid (∃ ls2, ls2.length = ls.length + (1) ∧ Lr wr Zb b6 (.slice a9 (ls.length + (1)) c9) ls2 ∧ ∃ q4 v4 kk, Rn wr (fun k => Zb k ∨ (Value.slice a9 (ls.length + (1)) c9).ownBlock = some k) B gr a cap u q4 0 most s.1.length s.2 v4 ∧ Ip.Gr R size u ls2 q4 kk [] q' ∧ ls2.length ≤ size) := Lib.hid ⟨ls ++ List.replicate (1) (y), by simp, HL9.out, r, v7, kk + 1, HJ.out.2.1, Ip.Gr.snoc hlt (HG1.out (by omega)) ⟨(y, 1), rfl, by show 1 ≤ 1; omega⟩ (by simp; omega) kk [] q' HGR.out, by simp; omega⟩
                                        have HC10 := Lib.hid HJ.out.2.2
                                        clear HJ HL9 hown hll
                                        go_wp2
                                        go_roundg (size - (ls.length + (1)) + 1)
                                        case measure => omega
                                        case rel => exact ⟨Lib.hid (by obtain ⟨x1, x2, x3, x4, x5, x6, x7, x8, x9⟩ := HI9.out; exact ⟨x1, x3, .inl ⟨x4, x5, x6, x7, x8, x9, by rw [x2]⟩⟩), HC10⟩
                        · have hls : ls.length = (n + 257) + (m + 1) := by omega
                          obtain ⟨A, hA⟩ : ∃ A : Nat, A = n + 257 := ⟨_, rfl⟩
                          have eA : 257 + (n : Int) = (A : Int) := by omega
                          have d5 : decide ((ls.length : Int) < (A : Int) + (1 + (m : Int))) = false := by simp; omega
                          have iabA : IntKind.i64.wrap ((A : Int) + (1 + (m : Int))) = (A : Int) + (1 + (m : Int)) := IntWalk.i64_in _ ⟨by omega, by omega⟩
                          obtain ⟨b9, off9, rfl, _, _⟩ := his.at' 0 (by omega)
                          have hcc := his.hle
                          have hpre : Is .i64 wr (some ⟨b9, off9, none⟩) A cc (ls.take A) := his.pre A (by omega)
                          have hsuf : Is .i64 wr (some ⟨b9, off9 + A, none⟩) (ls.length - A) (cc - A) (ls.drop A) := his.suf A (by omega)
                          obtain ⟨b8, off8, e8, _, c256⟩ := his.at' 256 (by omega)
                          simp only [Option.some.injEq, Addr.mk.injEq, and_true] at e8
                          obtain ⟨rfl, rfl⟩ := e8
                          have HZV : Hid ((Value.slice (some ⟨b9, off9, none⟩) ls.length cc).ownBlock = some b9) := Lib.hid rfl
                          have HSLI := Lib.hid (And.intro hpre hsuf)
                          have HFAIL : Hid (∀ w9 N, (∃ q bad sz ts v, bad ≠ 0 ∧ Rn w9 (fun k => Zb k ∨ (Value.slice (some ⟨b9, off9, none⟩) ls.length cc).ownBlock = some k) B gr a cap u q bad most sz ts v) → Ch wr w9 (fun k => ¬ (Zb k ∨ (Value.slice (some ⟨b9, off9, none⟩) ls.length cc).ownBlock = some k)) → LnPost w D B gr a cap u most s (Ip.booksP u p) (.returned (.tuple #[.slice (some ⟨b9, off9, none⟩) A cc, .slice (some ⟨b9, off9 + A, none⟩) (ls.length - A) (cc - A)])) (w9.drewN N)) := Lib.hid (fun w9 N hd hc => by
                            obtain ⟨q, bad, sz, ts, v, hb, hr⟩ := hd
                            refine ⟨_, _, _, _, _, _, _, _, rfl, (HSLI.out.1.kept hc (fun ad e hn => hn (.inr (by cases e; rfl)))).mono (dn_is w9 N), (HSLI.out.2.kept hc (fun ad e hn => hn (.inr (by cases e; rfl)))).mono (dn_is w9 N), by omega, by omega, (HCW6.out.trans hc (fun k hk => .inl (fun hd => hk (.inl (HZZ.out.1 k (HZ.out.1 k hd).1))))).trans (Ch.of_below (T := fun _ => False) (dn_is w9 N)) (fun _ h => h.elim), .inr ⟨q, bad, sz, ts, v, hb, (hr.less (fun k hk => .inl (HZZ.out.1 k (HZ.out.1 k hk).1))).mono (dn_is w9 N)⟩⟩)
                          have HGOOD : Hid (Ip.litOk (ls.take A) = true → Ip.distOk (ls.drop A) = true → ∀ N, LnPost w D B gr a cap u most s (Ip.booksP u p) (.returned (.tuple #[.slice (some ⟨b9, off9, none⟩) A cc, .slice (some ⟨b9, off9 + A, none⟩) (ls.length - A) (cc - A)])) (wr.drewN N)) := Lib.hid (fun hlo hdo N => by
                            have hbk := Ip.books_is (p := p) H1.out (by omega) H2.out (by omega) H3.out hOWN.out.1 (by rw [hOWN.out.2]; exact HWL2.out) (by rw [hOWN.out.2, ← HR.out, ← hsz]; exact hgr) (by omega) (by rw [← hA]; exact hlo) (by rw [← hA]; exact hdo)
                            rw [← hA] at hbk
                            have hf1 : Cn.freeB (ls.take A) = true := by
                              unfold Ip.litOk Ip.whole at hlo
                              simp only [Bool.and_eq_true] at hlo
                              exact hlo.1.1
                            have hf2 : Cn.freeB (ls.drop A) = true := by
                              unfold Ip.distOk at hdo
                              simp only [Bool.and_eq_true] at hdo
                              exact hdo.1
                            refine ⟨_, _, _, _, _, _, _, _, rfl, HSLI.out.1.mono (dn_is wr N), HSLI.out.2.mono (dn_is wr N), by omega, by omega, HCW6.out.trans (Ch.of_below (T := fun _ => False) (dn_is wr N)) (fun _ h => h.elim), .inl ⟨q4, hbk, hf1, hf2, v4, (hrn.less (fun k hk => .inl (HZZ.out.1 k (HZ.out.1 k hk).1))).mono (dn_is wr N)⟩⟩)
                          have HW1 := Lib.hid (refWhole_any _ A cc (ls.take A) wr hpre (by omega))
                          have HW2 := Lib.hid (refWhole_any _ (ls.length - A) (cc - A) (ls.drop A) wr hsuf (by omega))
                          have HS2 := Lib.hid (refSum_any _ (ls.length - A) (cc - A) (ls.drop A) wr hsuf (by omega) (fun x hx => HL0.wf x (List.mem_of_mem_drop hx)))
                          have HSP2 : Hid ((ls.drop A).sum ≤ 1 → Cn.freeB (ls.drop A) = true) := Lib.hid (fun h => sparse_free _ (by simp; omega) (fun x hx => (HL0.wf x (List.mem_of_mem_drop hx)).1) h)
                          have k3 := hrn.cells.2.2.1
                          have ia0 : (0 : Int) ≤ (A : Int) := by omega
                          have ia1 : (A : Int) ≤ (ls.length : Int) := by omega
                          have ia2 : (A : Int) ≤ (cc : Int) := by omega
                          have il1 : (256 : Int) < (ls.length : Int) := by omega
                          have hne9 : ¬ cc = A := by omega
                          have HL256 : Hid (∀ b, (ls.getD 256 0 == 0) = b → (ls.take A).getD 256 0 = ls.getD 256 0) := Lib.hid (fun b _ => by simp only [List.getD]; rw [List.getElem?_take, if_pos (by omega)])
                          have HA9 := Lib.hid hA
                          clear his hpre hsuf HK HL0 hgr hA iab hls hle hlt hl5 hcc
                          generalize ls.getD 256 0 = x256 at *
                          go_wp2_with fail
                          refine HW1.out.mono ?_
                          rintro e w' ⟨rfl, rfl⟩
                          cases hw1 : Ip.whole (ls.take A) with
                          | false =>
                            have HF := Lib.hid (rfail_any hrn 2 (by decide))
                            clear hrn
                            go_wp2_with fail
                            refine HF.out.mono ?_
                            rintro e w9 ⟨rfl, ⟨bad, hb, hr⟩, hcd⟩
                            have HP := Lib.hid (fun N => HFAIL.out w9 N ⟨_, bad, _, _, _, hb, hr⟩ hcd)
                            clear hb hr hcd HF
                            go_wp2
                            go_quiet (fail)
                            go_wp2
                            go_ret2
                            exact HP.out nq
                          | true =>
                            by_cases hx0 : x256 = 0
                            · have dx : (x256 == 0) = true := by simpa using hx0
                              clear hx0
                              have HF := Lib.hid (rfail_any hrn 2 (by decide))
                              clear hrn
                              go_wp2_with fail
                              refine HF.out.mono ?_
                              rintro e w9 ⟨rfl, ⟨bad, hb, hr⟩, hcd⟩
                              have HP := Lib.hid (fun N => HFAIL.out w9 N ⟨_, bad, _, _, _, hb, hr⟩ hcd)
                              clear hb hr hcd HF
                              go_wp2
                              go_quiet (fail)
                              go_wp2
                              go_ret2
                              exact HP.out nq
                            · have dx : (x256 == 0) = false := by simpa using hx0
                              have hlo : Ip.litOk (ls.take A) = true := by
                                unfold Ip.litOk
                                rw [hw1, HL256.out _ dx]
                                simp [hx0]
                              clear hx0
                              go_wp2_with fail
                              refine HW2.out.mono ?_
                              rintro e w' ⟨rfl, rfl⟩
                              cases hw2 : Ip.whole (ls.drop A) with
                              | true =>
                                have hdo : Ip.distOk (ls.drop A) = true := by
                                  unfold Ip.whole at hw2
                                  rw [Bool.and_eq_true] at hw2
                                  unfold Ip.distOk
                                  rw [hw2.1, hw2.2]; rfl
                                have HP := Lib.hid (HGOOD.out hlo hdo)
                                clear hrn
                                go_wp2
                                go_quiet (fail)
                                go_wp2
                                go_ret2
                                exact HP.out nq
                              | false =>
                                go_wp2_with fail
                                refine HS2.out.mono ?_
                                rintro e w' ⟨rfl, rfl⟩
                                by_cases hs1 : 1 < (ls.drop A).sum
                                · have ds : decide (1 < (ls.drop A).sum) = true := by simpa using hs1
                                  clear hs1
                                  have HF := Lib.hid (rfail_any hrn 2 (by decide))
                                  clear hrn
                                  go_wp2_with fail
                                  refine HF.out.mono ?_
                                  rintro e w9 ⟨rfl, ⟨bad, hb, hr⟩, hcd⟩
                                  have HP := Lib.hid (fun N => HFAIL.out w9 N ⟨_, bad, _, _, _, hb, hr⟩ hcd)
                                  clear hb hr hcd HF
                                  go_wp2
                                  go_quiet (fail)
                                  go_wp2
                                  go_ret2
                                  exact HP.out nq
                                · have ds : decide (1 < (ls.drop A).sum) = false := by simpa using hs1
                                  have hdo : Ip.distOk (ls.drop A) = true := by
                                    unfold Ip.distOk
                                    rw [HSP2.out (by omega)]
                                    simp; omega
                                  clear hs1
                                  have HP := Lib.hid (HGOOD.out hlo hdo)
                                  clear hrn
                                  go_wp2
                                  go_quiet (fail)
                                  go_wp2
                                  go_ret2
                                  exact HP.out nq
                      · obtain ⟨qd, bad, szd, tsd, vd, hb, hr⟩ := hd
                        have d10 : (bad != 0) = true := by simpa using hb
                        have d9 : (bad == 0) = false := by simpa using hb
                        have k3 := hr.cells.2.2.1
                        have HP := Lib.hid (HNIL.out wr ⟨_, bad, _, _, _, hb, hr⟩ HCW6.out)
                        clear hb hr HK HL0 his
                        by_cases hlt : ls.length < size
                        · have d5 : decide ((ls.length : Int) < 257 + (n : Int) + (1 + (m : Int))) = true := by simp; omega
                          go_wp2
                          go_ret2
                          exact HP.out
                        · have d5 : decide ((ls.length : Int) < 257 + (n : Int) + (1 + (m : Int))) = false := by simp; omega
                          go_wp2
                          go_ret2
                          exact HP.out
              · have d10 : (bad != 0) = true := by simpa using hb
                have d9 : (bad == 0) = false := by simpa using hb
                have k2 := hr.cells.2.2.1
                have HP := Lib.hid (HNIL.out wr ⟨_, bad, _, _, _, hb, hr.less (fun k hk => (HZ.out.1 k hk).1)⟩ (HCW.out.trans HCH.out (fun n hn => hn.elim (fun hn => .inl (fun hd => hn (HZ.out.1 n hd).1)) (fun hn => .inr (by have := HZ.out.2.2.2.1; omega)))))
                clear hb hr HK
                by_cases hkc : k < 4 + c
                · have d5 : decide ((k : Int) < 4 + (c : Int)) = true := by simp; omega
                  go_wp2
                  go_ret2
                  exact HP.out
                · have d5 : decide ((k : Int) < 4 + (c : Int)) = false := by simp; omega
                  go_wp2
                  go_ret2
                  exact HP.out
end
end Go.Proofs.YtfgpmccmalddjaaDoor
end
