/- block.Runs: its contract. What the runs of lengths stand for. block.newHeader: its contract. -/
import Derived.Test.YtpoilaappcjbeaaGreatDoorZ22
import Derived.Deep.RegionHeld3
set_option linter.unusedSimpArgs false
set_option linter.unusedVariables false
section
namespace Go.Proofs.YtpoilaappcjbeaaGreatDoor
open Go.RowKit

theorem wf_rg (t : Tok) (h : 0 ≤ t.1 ∧ t.1 ≤ 18 ∧ 0 ≤ t.2 ∧ t.2 ≤ 127) : (Lit.int .i64 t.1).wf = true ∧ (Lit.int .i64 t.2).wf = true := by
  obtain ⟨y, x⟩ := t
  simp only at h
  simp only [Lit.wf, IntKind.min, IntKind.max, IntKind.signed, IntKind.bits, Bool.and_eq_true, decide_eq_true_eq, if_true]
  simp; omega
def Bl.RuPost (w : World) (r : Option (List Tok)) (e : Ending) (w' : World) : Prop :=
  Below w.heap.size w w' ∧ match r with
  | none => e = .returned (.tuple #[.slice none 0 0, .iface 51 (.int .i64 6)])
  | some rs => ∃ v, e = .returned (.tuple #[v, .nilIface]) ∧ w'.ownsRow w.heap.size 132 2 v rs.length (tks rs)
theorem Bl.RuPost.no {w w' : World} {r : Option (List Tok)} (h : r = none) (hb : Below w.heap.size w w') : Bl.RuPost w r (.returned (.tuple #[.slice none 0 0, .iface 51 (.int .i64 6)])) w' := by
  subst h; exact ⟨hb, rfl⟩
theorem stretch_any (y : Int) (c : Nat) (w : World) (h0 : 0 ≤ y) (h15 : y ≤ 15) (hc : 1 ≤ c) (hc2 : c ≤ 3000) : Calls Tryz.prog 104 #[.int .i64 y, .int .i64 (c : Nat)] w (Bl.StPost w y c) := by
  by_cases e : y = 0
  · subst e; exact stretch_zero c w hc2
  · obtain ⟨m, rfl⟩ : ∃ m, c = m + 1 := ⟨c - 1, by omega⟩
    exact stretch_pos y (m + 1) m w h0 h15 (by omega) rfl hc2
set_option maxRecDepth 100000 in
set_option maxHeartbeats 4000000 in
theorem runs_any (a : Option Addr) (len cap : Nat) (l : List Int) (w : World) (h : Is .i64 w a len cap l) (hr : len ≤ 3000) :
    Calls Tryz.prog 85 #[.slice a len cap] w (Bl.RuPost w (Bl.ru [] l)) := by
  have H := Lib.hid h
  obtain ⟨R, hR⟩ : ∃ R, Bl.ru [] l = R := ⟨_, rfl⟩
  have HR := Lib.hid hR
  rw [hR]
  clear h hR
  go_enter Tryz.func85, Tryz.ntmps85
  go_wp2
  go_loopw [0, 4] (fun lv ov wr => ∃ (a' : Option Addr) (n c' : Nat) (m : List Int) (rs : List Tok), lv = .slice a' n c' ∧ n ≤ 3000 ∧ Hid (Is .i64 w a' n c' m) ∧ Hid (Bl.ru rs m = R) ∧ Hid (wr.ownsRow w.heap.size 132 2 ov rs.length (tks rs)) ∧ Hid (rs.length + n ≤ 3000) ∧ Hid (Below w.heap.size w wr)) (fun lv _ _ => match lv with | .slice _ n _ => n | _ => 0)
  case atStart => exact ⟨a, len, cap, l, [], rfl, hr, H, HR, Lib.hid (World.ownsRow_nil _ _ _ _), Lib.hid (by simpa using hr), Lib.hid (Below.refl _ _)⟩
  case round =>
    clear H HR
    obtain ⟨a', n, c', m, rs, rfl, hn, H, HR, HO, HLN, HB⟩ := hrel
    by_cases hn0 : 0 < n
    · obtain ⟨b1, off1, rfl, _, c0⟩ := (H.out.mono HB.out).at' 0 hn0
      rw [Nat.add_zero] at c0
      have hml : m.length = n := H.out.hlen
      have HM := Lib.hid hml
      have d0 : decide (0 < n) = true := decide_eq_true hn0
      have HAL : Hid (Calls Tryz.prog 103 #[.slice (some ⟨b1, off1, none⟩) n c'] wr.drew (Bl.AlPost wr.drew n m)) := Lib.hid (alike_any _ n c' m wr.drew ((H.out.mono HB.out).mono (drewN_is wr 1)) hn)
      obtain ⟨y, hy⟩ : ∃ y, m.getD 0 0 = y := ⟨_, rfl⟩
      have HY := Lib.hid hy
      rw [hy] at c0
      clear hml hy
      go_wp2_with fail
      go_region_held3 (fun w' => w'.cell? ⟨b1, off1, none⟩ = some (.int .i64 y)) (go_keep)
        (first | (go_at_call 103; refine HAL.out.mono ?_; rintro e w' ⟨c, rfl, hcl, hcp, hsm, hmx, d2, rfl⟩; have c0 : (wr.drew.drewN d2).cell? ⟨b1, off1, none⟩ = some (.int .i64 y) := c0))
      have HO2 := Lib.hid (own_below HO.out (drewN_is wr (1 + d2)))
      have HB2 := Lib.hid (below_then HB.out (drewN_is wr (1 + d2)))
      have hcp := hcp hn0
      have HC : Hid (Bl.al m = c) := Lib.hid (Bl.al_eq (by rw [HM.out]; exact hcl) hsm (fun h => hmx (by rw [HM.out] at h; exact h)))
      have hcap : n ≤ c' := H.out.hle
      clear HO HB HAL hsm hmx
      revert HO2 HB2
      generalize World.drewN wr (1 + d2) = wq
      intro HO2 HB2
      by_cases hbad : ¬ (0 ≤ y ∧ y < 16)
      · have HP := Lib.hid (Bl.RuPost.no (r := R) (by rw [← HR.out]; exact Bl.ru_bad rs (by rw [HM.out]; omega) (by rw [HY.out]; exact hbad)) HB2.out)
        by_cases h1 : y < 0
        · have d1 : decide (y < 0) = true := decide_eq_true h1
          clear hbad HR HM HY HC HO2 HB2 HLN
          go_wp2
          go_ret2
          exact HP.out
        · have d1 : decide (y < 0) = false := decide_eq_false h1
          have d2 : decide (16 ≤ y) = true := decide_eq_true (by omega)
          clear hbad HR HM HY HC HO2 HB2 HLN
          go_wp2
          go_ret2
          exact HP.out
      have d1 : decide (y < 0) = false := decide_eq_false (by omega)
      have d2 : decide (16 ≤ y) = false := decide_eq_false (by omega)
      have HST := Lib.hid (stretch_any y c wq (by omega) (by omega) (by omega) (by omega))
      have HR2 : Hid (Bl.ru (rs ++ Bl.stF y c) (m.drop c) = R) := Lib.hid (by
        rw [← HR.out, Bl.ru_step rs (l := m) (by rw [HM.out]; omega) (by rw [HY.out]; omega), HC.out, HY.out])
      have hhi : (c : Int) ≤ (n : Int) := by omega
      clear hbad HR
      go_wp2_with fail
      refine HST.out.mono ?_
      rintro e w6 ⟨v6, rs6, rfl, own6, hgot, heq, hb6⟩
      have hz6 := hb6.size
      have hwf : ∀ i, i < rs6.length → (Lit.int .i64 (rs6.getD i (0, 0)).1).wf = true ∧ (Lit.int .i64 (rs6.getD i (0, 0)).2).wf = true := fun i hi => by
        exact wf_rg _ (hgot.rg (rs6.getD i (0, 0)) (by simp [List.getD, List.getElem?_eq_getElem hi]))
      obtain ⟨a6, c6, rfl, hts⟩ := own_rs2 own6 hwf
      have hsrc := hts.src
      have HO7 := own_below HO2.out hb6
      have HB7 := Lib.hid (below_then HB2.out hb6)
      have hz := HB7.out.size
      have hle6 := hgot.le
      have hlr := HLN.out
      have HQ : Hid (rs6 = Bl.stF y c) := Lib.hid heq
      clear heq hgot hwf own6 HST HO2 HB2
      go_wp2_with (at_builtin; refine wpl_append tyR rfl _ _ rfl HO7 hsrc rfl rfl (by omega) (by omega) (by omega) ?_)
      intro v' w' own' hg' _
      have HB8 := Lib.hid (HB7.out.grown hg' hz (fun r e => (HO7.lt r e).1))
      rw [← tks_append] at own'
      have HO8 : Hid (w'.ownsRow w.heap.size 132 2 v' (rs ++ rs6).length (tks (rs ++ rs6))) := Lib.hid (by rw [List.length_append]; exact own')
      have HR8 : Hid (Bl.ru (rs ++ rs6) (m.drop c) = R) := Lib.hid (by rw [HQ.out]; exact HR2.out)
      have HS8 : Hid (Is .i64 w (if c' = c then some ⟨b1, off1, none⟩ else some ⟨b1, off1 + c, none⟩) (n - c) (c' - c) (m.drop c)) := Lib.hid (by
        split
        · have e1 : n - c = 0 := by omega
          have e2 : m.drop c = [] := List.drop_eq_nil_of_le (by rw [HM.out]; omega)
          rw [e1, e2]
          exact Is.none0 w _ _ (fun h => by simp at h)
        · exact H.out.suf c hcl)
      have HL8 : Hid ((rs ++ rs6).length + (n - c) ≤ 3000) := Lib.hid (by rw [List.length_append]; omega)
      clear own' hg' HO7 HB7 hsrc hts HR2 HQ HLN HM HC HY H
      go_wp2
      go_roundw
      case rel => exact ⟨_, n - c, _, _, _, rfl, by omega, HS8, HR8, HO8, HL8, HB8⟩
      case measure => simp; omega
    · obtain rfl : n = 0 := by omega
      obtain rfl : m = [] := List.eq_nil_of_length_eq_zero H.out.hlen
      have HP : Hid (Bl.RuPost w R (.returned (.tuple #[u4, .nilIface])) wr) := Lib.hid (by
        rw [← HR.out, Bl.ru_end]
        exact ⟨HB.out, _, rfl, HO.out⟩)
      clear HR HO HB H HLN
      go_wp2
      go_ret2
      exact HP.out
end Go.Proofs.YtpoilaappcjbeaaGreatDoor
end

section
namespace Go.Proofs.YtpoilaappcjbeaaGreatDoor
open Go.RowKit

namespace Bl
theorem reps_zeros {s : Int} {b t : Nat} (hs : s = 17 ∨ s = 18) (hb : base s = b) (ht : top s = (t : Int)) (hb1 : 1 ≤ b) : ∀ (f r d : Nat) (rs : List (Int × Int)), Got 0 d rs → ∃ e, e + (repsF s b t f r).2 = r ∧ Got 0 (d + e) (rs ++ (repsF s b t f r).1)
  | 0, r, d, rs, h => ⟨0, by simp [repsF], by simpa [repsF] using h⟩
  | f + 1, r, d, rs, h => by
    rw [repsF]
    by_cases hr : r < b
    · rw [if_pos hr]; exact ⟨0, by simp, by simpa using h⟩
    · rw [if_neg hr]
      have hg := Got.zeros (s := s) (z := min (r - b) t) h hs (by rw [ht]; omega)
      rw [hb] at hg
      obtain ⟨e, h1, h2⟩ := reps_zeros hs hb ht hb1 f (r - (b + min (r - b) t)) _ _ hg
      refine ⟨b + min (r - b) t + e, by simp only; omega, ?_⟩
      rw [List.append_assoc, Nat.add_assoc] at h2
      exact h2
theorem reps_again {y : Int} : ∀ (f r d : Nat) (rs : List (Int × Int)), Got y d rs → 1 ≤ d → ∃ e, e + (repsF 16 3 3 f r).2 = r ∧ Got y (d + e) (rs ++ (repsF 16 3 3 f r).1)
  | 0, r, d, rs, h, _ => ⟨0, by simp [repsF], by simpa [repsF] using h⟩
  | f + 1, r, d, rs, h, hd => by
    rw [repsF]
    by_cases hr : r < 3
    · rw [if_pos hr]; exact ⟨0, by simp, by simpa using h⟩
    · rw [if_neg hr]
      have hg := Got.again (z := min (r - 3) 3) h hd (by omega)
      obtain ⟨e, h1, h2⟩ := reps_again f (r - (3 + min (r - 3) 3)) _ _ hg (by omega)
      refine ⟨3 + min (r - 3) 3 + e, by simp only; omega, ?_⟩
      rw [List.append_assoc, Nat.add_assoc] at h2
      exact h2
/-- A stretch's runs stand for it. -/
theorem stF_got {y : Int} {c : Nat} (h0 : 0 ≤ y) (h15 : y ≤ 15) (hc : 1 ≤ c) : Got y c (stF y c) := by
  unfold stF
  by_cases hy : y = 0
  · subst hy
    rw [if_pos rfl]
    obtain ⟨e1, h1, g1⟩ := reps_zeros (s := 18) (b := 11) (t := 127) (.inr rfl) rfl rfl (by omega) c c 0 [] (Got.nil 0)
    obtain ⟨e2, h2, g2⟩ := reps_zeros (s := 17) (b := 3) (t := 7) (.inl rfl) rfl rfl (by omega) (repsF 18 11 127 c c).2 (repsF 18 11 127 c c).2 _ _ g1
    have g3 := Got.rest (by omega) (by omega) (repsF 17 3 7 (repsF 18 11 127 c c).2 (repsF 18 11 127 c c).2).2 g2
    have e3 : 0 + e1 + e2 + (repsF 17 3 7 (repsF 18 11 127 c c).2 (repsF 18 11 127 c c).2).2 = c := by omega
    rw [e3] at g3
    exact g3
  · rw [if_neg hy]
    have g0 : Got y 1 [(y, 0)] := by simpa using (Got.nil y).lit h0 h15
    obtain ⟨e1, h1, g1⟩ := reps_again (y := y) (c - 1) (c - 1) 1 _ g0 (Nat.le_refl _)
    have g3 := Got.rest h0 h15 (repsF 16 3 3 (c - 1) (c - 1)).2 g1
    have e3 : 1 + e1 + (repsF 16 3 3 (c - 1) (c - 1)).2 = c := by omega
    rw [e3] at g3
    exact g3
/-- The runs of lengths stand for them, and are no more than they are. -/
theorem rn_back : ∀ (f : Nat) (l : List Int), l.length ≤ f → match rn f l with
    | none => ∃ x ∈ l, ¬ (0 ≤ x ∧ x ≤ 15)
    | some rs => In l ∧ (∀ o, unrL o rs = some (o ++ l)) ∧ rs.length ≤ l.length ∧ Rg rs
  | 0, l, h => by
    obtain rfl : l = [] := List.eq_nil_of_length_eq_zero (by omega)
    exact ⟨fun x hx => by simp at hx, fun o => by simp [unrL], Nat.le_refl _, fun t ht => by simp at ht⟩
  | f + 1, l, h => by
    rw [rn]
    by_cases h0 : l.length = 0
    · rw [if_pos h0]
      obtain rfl : l = [] := List.eq_nil_of_length_eq_zero h0
      exact ⟨fun x hx => by simp at hx, fun o => by simp [unrL], Nat.le_refl _, fun t ht => by simp at ht⟩
    · rw [if_neg h0]
      have hp := al_pos (l := l) (by omega)
      have hle := al_le l
      have hsm := al_same l
      have htd := List.take_append_drop (al l) l
      by_cases hy : 0 ≤ l.getD 0 0 ∧ l.getD 0 0 < 16
      · rw [if_pos hy]
        have ih := rn_back f (l.drop (al l)) (by simp; omega)
        have hg := stF_got (y := l.getD 0 0) (c := al l) hy.1 (by omega) hp
        cases h1 : rn f (l.drop (al l)) with
        | none =>
          rw [h1] at ih
          obtain ⟨x, hx, hb⟩ := ih
          exact ⟨x, List.mem_of_mem_drop hx, hb⟩
        | some rs =>
          rw [h1] at ih
          obtain ⟨i1, i2, i3, i4⟩ := ih
          refine ⟨fun x hx => ?_, fun o => ?_, ?_, hg.rg.append i4⟩
          · rw [← htd] at hx
            rcases List.mem_append.1 hx with h2 | h2
            · rw [hsm, List.mem_replicate] at h2
              rw [h2.2]; omega
            · exact i1 x h2
          · rw [unrL_append, hg.un o]
            show unrL _ rs = _
            rw [i2, List.append_assoc, ← hsm, htd]
          · have := hg.le
            rw [List.length_append]
            rw [List.length_drop] at i3
            omega
      · rw [if_neg hy]
        refine ⟨l.getD 0 0, ?_, by omega⟩
        simp [List.getD, List.getElem?_eq_getElem (show 0 < l.length by omega)]
theorem ru_back (l : List Int) : match ru [] l with
    | none => ∃ x ∈ l, ¬ (0 ≤ x ∧ x ≤ 15)
    | some rs => In l ∧ unrL [] rs = some l ∧ rs.length ≤ l.length ∧ Rg rs := by
  have h := rn_back l.length l (Nat.le_refl _)
  have e : ru [] l = rn l.length l := by unfold ru; simp
  rw [e]
  cases h1 : rn l.length l with
  | none => rw [h1] at h; exact h
  | some rs => rw [h1] at h; exact ⟨h.1, by simpa using h.2.1 [], h.2.2.1, h.2.2.2⟩
theorem ru_ex : ru [] [0, 0, 0, 0, 5, 5, 5, 5, 5] = some [(17, 1), (5, 0), (16, 1)] := by decide +kernel
end Bl
end Go.Proofs.YtpoilaappcjbeaaGreatDoor
end

section
namespace Go.Proofs.YtpoilaappcjbeaaGreatDoor
open Go.RowKit

namespace Bc
/-- What the listed variable holds. -/
def Oo (W : World) : Prop := ∀ r, r < 19 → W.cell? ⟨0, r, none⟩ = some (.int .i64 (order.getD r 0 : Nat))
theorem Oo.mono {w w' : World} (h : Oo w) (hz : 0 < w.heap.size) (hb : Below w.heap.size w w') : Oo w' := fun r hr => (hb.cell (p := ⟨0, r, none⟩) hz).trans (h r hr)
theorem shn_same (l : List Int) (least : Nat) : ∀ n, n ≤ l.length → shn l least n ≤ n := fun n _ => shn_le l least n
theorem _root_.Go.Proofs.YtpoilaappcjbeaaGreatDoor.Ts2.kept {w w' : World} {T : Nat → Prop} {a : Option Addr} {len cap : Nat} {l : List Tok} (h : Ts2 w a len cap l) (c : Ch w w' T) (hn : ∀ ad, a = some ad → ¬ T ad.block) : Ts2 w' a len cap l :=
  ⟨h.hlen, h.hle, h.hnil, fun i hi => by
    obtain ⟨b, off, e, hlt, c0, c1⟩ := h.at' i hi
    have hb := c.block b hlt (hn _ e)
    exact ⟨b, off, e, Nat.lt_of_lt_of_le hlt c.size, by rw [World.cell?_of_block (w := w) hb]; exact c0, by rw [World.cell?_of_block (w := w) hb]; exact c1⟩, h.wf⟩
def ownR (R : List Int) (k : Nat) : List Int := (order.take k).map fun i => R.getD i 0
theorem ownR_next (R : List Int) (k : Nat) (h : k < 19) : ownR R (k + 1) = ownR R k ++ [R.getD (order.getD k 0) 0] := by
  have hl : k < order.length := h
  unfold ownR
  rw [List.take_succ_eq_append_getElem hl, List.map_append]; simp [List.getD, List.getElem?_eq_getElem hl]
theorem ownR_length (R : List Int) : (ownR R 19).length = 19 := by unfold ownR; rw [List.length_map]; rfl
theorem ownR_get (R : List Int) (i : Nat) (h : i < 19) : (ownR R 19).getD i 0 = R.getD (order.getD i 0) 0 := by
  have hl : i < order.length := h
  have e : order.take 19 = order := List.take_of_length_le (by decide)
  unfold ownR
  rw [e]
  simp [List.getD, List.getElem?_map, List.getElem?_eq_getElem hl]
theorem ownR_all (R : List Int) : ownR R 19 = order.map fun i => R.getD i 0 := by
  unfold ownR; rw [List.take_of_length_le (by decide)]
theorem own_eq (L D : List Int) (rs : List Tok) : (hdOf L D rs).own = (ownR (hdOf L D rs).R 19).take (shn (ownR (hdOf L D rs).R 19) 4 19) := by
  show short (order.map fun i => (hdOf L D rs).R.getD i 0) 4 = _
  rw [← ownR_all]
  unfold short
  rw [ownR_length]
theorem own_len (L D : List Int) (rs : List Tok) : (hdOf L D rs).own.length = shn (ownR (hdOf L D rs).R 19) 4 19 := by
  rw [own_eq, List.length_take, ownR_length]
  have := shn_le (ownR (hdOf L D rs).R 19) 4 19
  omega
theorem order_lt : ∀ k, k < 19 → order.getD k 0 < 19 := by decide
def ordA : Array Value := #[.int .i64 16, .int .i64 17, .int .i64 18, .int .i64 0, .int .i64 8, .int .i64 7, .int .i64 9, .int .i64 6, .int .i64 10, .int .i64 5, .int .i64 11, .int .i64 4, .int .i64 12, .int .i64 3, .int .i64 13, .int .i64 2, .int .i64 14, .int .i64 1, .int .i64 15]
theorem ordA_get : ∀ k, k < 19 → ordA[k]? = some (.int .i64 (order.getD k 0 : Nat)) := by
  intro k hk
  match k, hk with
  | 0, _ => rfl
  | 1, _ => rfl
  | 2, _ => rfl
  | 3, _ => rfl
  | 4, _ => rfl
  | 5, _ => rfl
  | 6, _ => rfl
  | 7, _ => rfl
  | 8, _ => rfl
  | 9, _ => rfl
  | 10, _ => rfl
  | 11, _ => rfl
  | 12, _ => rfl
  | 13, _ => rfl
  | 14, _ => rfl
  | 15, _ => rfl
  | 16, _ => rfl
  | 17, _ => rfl
  | 18, _ => rfl
  | k + 19, h => omega
theorem index_order : ∀ (k : Nat), k < 19 → ∀ (w : World), (Instr.index 135 (.agg ordA) (.int .i64 (k : Nat))).run Tryz.prog w = .ok (.int .i64 (order.getD k 0 : Nat)) w
  | 0, _, _ => by kernel_rfl
  | 1, _, _ => by kernel_rfl
  | 2, _, _ => by kernel_rfl
  | 3, _, _ => by kernel_rfl
  | 4, _, _ => by kernel_rfl
  | 5, _, _ => by kernel_rfl
  | 6, _, _ => by kernel_rfl
  | 7, _, _ => by kernel_rfl
  | 8, _, _ => by kernel_rfl
  | 9, _, _ => by kernel_rfl
  | 10, _, _ => by kernel_rfl
  | 11, _, _ => by kernel_rfl
  | 12, _, _ => by kernel_rfl
  | 13, _, _ => by kernel_rfl
  | 14, _, _ => by kernel_rfl
  | 15, _, _ => by kernel_rfl
  | 16, _, _ => by kernel_rfl
  | 17, _, _ => by kernel_rfl
  | 18, _, _ => by kernel_rfl
  | k + 19, h, _ => absurd h (by omega)
theorem load_order {W : World} (h : Oo W) : (loadVar 135 ⟨0, 0, none⟩).run Tryz.prog W = .ok (.agg ordA) W := by
  have hl : (loadCells ⟨0, 0, none⟩ ordA.toList.length).run Tryz.prog W = .ok ordA.toList.toArray W :=
    run_loadCells_list (P := Tryz.prog) W ⟨0, 0, none⟩ ordA.toList (fun j v hv => by
      have hj : j < 19 := (List.getElem?_eq_some_iff.1 hv).1
      rw [Addr.add_mid, Nat.zero_add, h j hj, ← ordA_get j hj]
      simpa using hv)
  have hi : (Tryz.prog.info? 135).map (·.size) = some 19 := by kernel_rfl
  cases hq : Tryz.prog.info? 135 with
  | none => simp [hq] at hi
  | some i =>
    have hs : i.size = 19 := by simpa [hq] using hi
    have hagg : (isAgg 135).run Tryz.prog W = .ok true W := by
      unfold isAgg
      rw [Sem.run_bind, run_underlying Tryz.underlying135 W]
      rfl
    have e19 : ordA.toList.length = 19 := rfl
    rw [e19] at hl
    simp [loadVar, Sem.run_bind, hagg, sizeOf, typeInfo, hq, hs, hl]
/-- The header in memory. -/
def HdIs (w : World) (B hb : Nat) (h : Hd) : Prop :=
  ∃ ra rcap oa oc ca cc la m d g, w.heap[hb]? = some (.cells #[.int .i64 (h.ll.length : Nat), .int .i64 (h.dl.length : Nat), .slice ra h.rs.length rcap, .slice ca 19 cc, .slice la m d, .pointer (some ⟨g, 0, none⟩), .func (.func 88) #[] #[], .slice oa h.own.length oc] 137 (0, 0)) ∧
    Ts2 w ra h.rs.length rcap h.rs ∧ (∀ ad, ra = some ad → B ≤ ad.block) ∧ Is .i64 w oa h.own.length oc h.own ∧ (∀ ad, oa = some ad → B ≤ ad.block) ∧ Is .i64 w ca 19 cc h.C ∧ Is .i64 w la m d h.R ∧ Bw w (fun j => B ≤ j) g h.R ∧ B ≤ hb
def HdPost (w : World) (h : Hd) (e : Ending) (w' : World) : Prop := ∃ hb, e = .returned (.tuple #[.pointer (some ⟨hb, 0, none⟩), .nilIface]) ∧ HdIs w' w.heap.size hb h ∧ Below w.heap.size w w'
theorem two_concat (w : World) (a1 a2 : Option Addr) (n1 n2 c1 c2 : Nat) (l1 l2 : List Int) (I1 : Is .i64 w a1 n1 c1 l1) (I2 : Is .i64 w a2 n2 c2 l2) (h1 : 1 ≤ n1) (h2 : n1 + n2 ≤ 1000000) (hw : Wf (l1 ++ l2)) :
    Calls Tryz.prog 86 #[.slice (some ⟨w.heap.size, 0, none⟩) 2 2] (w.alloc (.cells #[.slice a1 n1 c1, .slice a2 n2 c2] 53)) (fun e w' => ∃ a cap, e = .returned (.slice a (n1 + n2) cap) ∧ Is .i64 w' a (n1 + n2) cap (l1 ++ l2) ∧ Below w.heap.size w w') := by
  have hb := below_alloc w (.cells #[.slice a1 n1 c1, .slice a2 n2 c2] 53)
  have hrow := heap_alloc_last w (.cells #[.slice a1 n1 c1, .slice a2 n2 c2] 53)
  have e1 := I1.hlen
  have e2 := I2.hlen
  obtain ⟨ps, hps⟩ : ∃ ps : List Cp, ps = [(a1, n1, c1, l1), (a2, n2, c2, l2)] := ⟨_, rfl⟩
  have hcat : cat ps 2 = l1 ++ l2 := by
    subst hps
    unfold cat
    simp only [List.take_succ_cons, List.take_zero, List.flatMap_cons, List.flatMap_nil, List.append_nil]
  have hC : CatParts (w.alloc (.cells #[.slice a1 n1 c1, .slice a2 n2 c2] 53)) w.heap.size ps := by
    intro k a la ca l hk
    subst hps
    rw [cell_of_row _ _ _ _ _ (0, 0) hrow]
    match k, hk with
    | 0, hk => cases hk; exact ⟨rfl, I1.mono hb⟩
    | 1, hk => cases hk; exact ⟨rfl, I2.mono hb⟩
    | k + 2, hk => simp at hk
  have hl : (cat ps 2).length = n1 + n2 := by rw [hcat, List.length_append, e1, e2]
  refine (concat_all w.heap.size 2 ps _ (by simp) (by subst hps; rfl) hC (by omega) (by rw [hl]; omega) (by rw [hl]; omega)).mono ?_
  rintro e w' ⟨v, rfl, hown, hb2⟩
  rw [hcat, List.length_append, e1, e2] at hown
  obtain ⟨a, cap, rfl, hI⟩ := own_is hown hw
  exact ⟨a, cap, rfl, hI, below_then hb hb2⟩
theorem co_rc (rs : List Tok) (h : rs.length ≤ 100000) : Co (rc rs rs.length) 7 := by
  have h1 := rc_in rs rs.length (Nat.le_refl _)
  have hl := h1.1
  exact ⟨fun k _ => (h1.2 k).1, fun k _ => by have := (h1.2 k).2; omega, by omega, by omega, by rw [hl]; omega, by rw [hl]; omega, by
    have := used_le (rc rs rs.length)
    rw [hl] at this
    have : (2 : Nat) ^ 7 = 128 := rfl
    omega⟩
set_option maxRecDepth 100000 in
set_option maxHeartbeats 2000000 in
theorem header_any (L D : List Int) (rs : List Tok) (hL : Bl.In L) (hD : Bl.In D) (hL1 : 257 ≤ L.length) (hL2 : L.length ≤ 300) (hD1 : 1 ≤ D.length) (hD2 : D.length ≤ 300) (hrs : Bl.ru [] (short L 257 ++ short D 1) = some rs)
    (a b : Option Addr) (n c m d : Nat) (w : World) (hi : Is .i64 w a n c L) (hj : Is .i64 w b m d D) (hoo : Oo w) (hz : 0 < w.heap.size) :
    Calls Tryz.prog 59 #[.slice a n c, .slice b m d] w (HdPost w (hdOf L D rs)) := by
  have hn := hi.hlen
  have hm := hj.hlen
  subst hn
  subst hm
  have p1 := shn_ge L 257 L.length hL1
  have p2 := shn_le L 257 L.length
  have q1 := shn_ge D 1 D.length hD1
  have q2 := shn_le D 1 D.length
  have HS1 := Lib.hid (shorten_any a L.length c L 257 w hi (by omega) (by omega))
  have HS2 := Lib.hid (shorten_any b D.length d D 1 w hj (by omega) (by omega))
  have I1 : Is .i64 w a (shn L 257 L.length) c (short L 257) := hi.pre _ p2
  have I2 : Is .i64 w b (shn D 1 D.length) d (short D 1) := hj.pre _ q2
  have hin : Bl.In (short L 257 ++ short D 1) := fun x hx => by
    rcases List.mem_append.1 hx with h | h
    · exact hL x (List.mem_of_mem_take h)
    · exact hD x (List.mem_of_mem_take h)
  have HCC := Lib.hid (two_concat w a b _ _ c d _ _ I1 I2 (by omega) (by omega) hin.wf)
  have HLL : Hid ((hdOf L D rs).ll.length = shn L 257 L.length ∧ (hdOf L D rs).dl.length = shn D 1 D.length) := Lib.hid ⟨I1.hlen, I2.hlen⟩
  have HRS := Lib.hid hrs
  have HOO := Lib.hid (And.intro hoo hz)
  have hsum : shn L 257 L.length + shn D 1 D.length ≤ 600 := by omega
  clear hi hj I1 I2 hin hL hD hoo hz hrs p1 q1
  generalize shn L 257 L.length = n1 at *
  generalize shn D 1 D.length = n2 at *
  go_enter Tryz.func59, Tryz.ntmps59
  go_wp2_with fail
  refine HS1.out.mono ?_
  rintro e w' ⟨rfl, rfl⟩
  go_wp2_with fail
  refine HS2.out.mono ?_
  rintro e w' ⟨rfl, rfl⟩
  go_wp2_with fail
  refine HCC.out.mono ?_
  rintro e w1 ⟨a1, c1, rfl, i1, hb1⟩
  have HRU := runs_any a1 (n1 + n2) c1 _ w1 i1 (by omega)
  rw [HRS.out] at HRU
  have HRU2 := Lib.hid HRU
  have HB1 := Lib.hid hb1
  clear HRU i1 hb1 HCC HS1 HS2
  go_wp2_with fail
  refine HRU2.out.mono ?_
  rintro e w2 ⟨hb2, v2, rfl, own2⟩
  have hrg : Bl.Rg rs := by
    have := Bl.ru_back (short L 257 ++ short D 1)
    rw [HRS.out] at this
    exact this.2.2.2
  have hrl : rs.length ≤ 600 := by
    have := Bl.ru_back (short L 257 ++ short D 1)
    rw [HRS.out] at this
    have h1 := this.2.2.1
    have h2 : (short L 257).length = n1 := HLL.out.1
    have h3 : (short D 1).length = n2 := HLL.out.2
    rw [List.length_append, h2, h3] at h1
    omega
  have hwfr : ∀ i, i < rs.length → (Lit.int .i64 (rs.getD i (0, 0)).1).wf = true ∧ (Lit.int .i64 (rs.getD i (0, 0)).2).wf = true := fun i hi => wf_rg _ (hrg (rs.getD i (0, 0)) (by simp [List.getD, List.getElem?_eq_getElem hi]))
  have HRG : Hid (∀ i, i < rs.length → 0 ≤ (rs.getD i (0, 0)).1 ∧ (rs.getD i (0, 0)).1 ≤ 18) := Lib.hid (fun i hi => by
    have := hrg (rs.getD i (0, 0)) (by simp [List.getD, List.getElem?_eq_getElem hi]); omega)
  obtain ⟨a2, c2', rfl, hts⟩ := own_rs2 own2 hwfr
  have HTL : Hid (∀ ad, a2 = some ad → w.heap.size ≤ ad.block) := Lib.hid (fun ad e => by
    subst e
    have := (own2.lt ad.block rfl).1
    have := HB1.out.size
    omega)
  have HTS := Lib.hid hts
  have HB2 := Lib.hid (below_then HB1.out hb2)
  obtain ⟨w3, m3, o3, gr3⟩ := mk_ints w2 w.heap.size 19 HB2.out.size (by omega)
  have hb3 : Below w2.heap.size w2 w3 := (Below.refl _ _).grown gr3 (Nat.le_refl _) (by simp)
  have m3' : (Instr.makeSlice 53 (.int .i64 19) (.int .i64 19)).run Tryz.prog w2 = .ok (.slice (some ⟨w2.heap.size, 0, none⟩) 19 19) w3 := m3
  have HO3 : Hid (w3.ownsRow w.heap.size 3 1 (.slice (some ⟨w2.heap.size, 0, none⟩) 19 19) 19 (ivs (rc rs 0))) := Lib.hid o3
  have HT3 := Lib.hid (hts.mono hb3)
  have HB3 := Lib.hid (below_then HB2.out hb3)
  have HGQ : Hid (∀ ad, a2 = some ad → ¬ ad.block = w2.heap.size) := Lib.hid (fun ad e h => by
    subst e
    have := (own2.lt ad.block rfl).2
    omega)
  have HGL : Hid (w.heap.size ≤ w2.heap.size) := Lib.hid HB2.out.size
  clear m3 o3 gr3 hb3 own2 hb2 hts hrg hwfr HB1 HRU2 HTS HB2
  go_wp2
  clear m3'
  generalize w2.heap.size = gq at *
  go_loopw [34] (fun iv wr => ∃ k : Nat, k ≤ rs.length ∧ iv = .int .i64 k ∧ Hid (wr.ownsRow w.heap.size 3 1 (.slice (some ⟨gq, 0, none⟩) 19 19) 19 (ivs (rc rs k))) ∧ Hid (Ch w3 wr (fun j => j = gq))) (fun iv _ => rs.length - (intOf iv).toNat)
  case atStart => exact ⟨0, by omega, rfl, HO3, Lib.hid (Ch.refl _ _)⟩
  case round =>
    obtain ⟨k, hk, rfl, HO, HC⟩ := hrel
    clear HO3
    by_cases hlt : k < rs.length
    · have hT : Ts2 wr a2 rs.length c2' rs := HT3.out.kept HC.out HGQ.out
      obtain ⟨bt, ot, rfl, _, t0, t1⟩ := hT.at' k hlt
      have hr := HRG.out k hlt
      have HN := Lib.hid (rc_next rs k hlt)
      have hin := rc_in rs k hk
      clear hT
      generalize rs.getD k (0, 0) = t at *
      obtain ⟨x, y⟩ := t
      simp only at t0 t1 hr HN
      obtain ⟨j, rfl⟩ := Int.eq_ofNat_of_zero_le hr.1
      have hj : j < 19 := by omega
      rw [Int.toNat_natCast] at HN
      have hal := below_alloc wr (.cells #[.int .i64 (j : Nat), .int .i64 y] 132)
      have HOA := Lib.hid (own_below HO.out hal)
      have hl19 : (rc rs k).length = 19 := hin.1
      have cj : (wr.alloc (.cells #[.int .i64 (j : Nat), .int .i64 y] 132)).cell? ⟨gq, j, none⟩ = some (.int .i64 ((rc rs k).getD j 0)) := by rw [HOA.out.cellAt j (by omega), ivs_get _ _ (by omega)]
      have fj := Pa.own_fz HOA.out j
      have hv := hin.2 j
      have HCA := Lib.hid (HC.out.alloc (.cells #[.int .i64 (j : Nat), .int .i64 y] 132))
      have HOB : Hid ((((wr.alloc (.cells #[.int .i64 (j : Nat), .int .i64 y] 132)).setCell ⟨gq, j, none⟩ (.int .i64 ((rc rs k).getD j 0 + 1)))).ownsRow w.heap.size 3 1 (.slice (some ⟨gq, 0, none⟩) 19 19) 19 (ivs (rc rs (k + 1)))) := Lib.hid (by
        have := own_set HOA.out j ((rc rs k).getD j 0 + 1)
        rw [HN.out]; exact this)
      have HCB := Lib.hid (HCA.out.set (p := ⟨gq, j, none⟩) (.inl rfl) (.int .i64 ((rc rs k).getD j 0 + 1)))
      have dj : decide (j < 19) = true := decide_eq_true hj
      clear hin HOA HCA hal hl19 HN HO HC
      generalize (rc rs k).getD j 0 = z at *
      go_wp2
      go_roundw
      case rel => exact ⟨k + 1, by omega, by go_num, HOB, HCB⟩
      case measure => simp [intOf]; omega
    · obtain rfl : rs.length = k := by omega
      have HCO := Lib.hid (co_rc rs (by omega))
      have hin := rc_in rs rs.length (Nat.le_refl _)
      have hiC := is_of_own HO.out (hin.wf (by omega)) 0 19 19 (by omega) (by omega)
      rw [List.drop_zero, List.take_of_length_le (by rw [hin.1]; omega)] at hiC
      have HIC : Hid (Is .i64 wr (some ⟨gq, 0, none⟩) 19 19 (hdOf L D rs).C) := Lib.hid hiC
      have HCM : Hid (Calls Tryz.prog 87 #[.slice (some ⟨gq, 0, none⟩) 19 19, .int .i64 7] wr (CmPost wr 19 (hdOf L D rs).R)) := Lib.hid (complete_any HCO.out _ 19 19 wr hiC)
      have HRF : Hid (Cn.freeB (hdOf L D rs).R = true ∧ Wf (hdOf L D rs).R ∧ (hdOf L D rs).R.length = 19 ∧ (∀ i, i < 19 → 0 ≤ (hdOf L D rs).R.getD i 0 ∧ (hdOf L D rs).R.getD i 0 ≤ 7)) := Lib.hid ⟨HCO.out.cfree, HCO.out.cwf, by show (cmpl _ _).length = 19; rw [cmpl_length]; exact hin.1, fun i hi => by
        have h := HCO.out.range i (by rw [hin.1]; exact hi)
        exact ⟨h.1, by have h2 := h.2.1; show (cmpl (rc rs rs.length) 7).getD i 0 ≤ 7; omega⟩⟩
      have HBW := Lib.hid (HB3.out.trans (HC.out.below HB3.out.size (fun j e => by subst e; exact HGL.out)))
      have HTW := Lib.hid (HT3.out.kept HC.out HGQ.out)
      clear hin hiC HCO HO HC HT3 HB3 HGQ HRG
      go_wp2_with fail
      refine HCM.out.mono ?_
      rintro e w4 ⟨v4, rfl, own4, hb4⟩
      obtain ⟨la, lc, rfl, hil⟩ := own_is own4 HRF.out.2.1
      have HN4 := newTable_any .run (some ⟨gq, 0, none⟩) 19 19 la 19 lc (hdOf L D rs).R w4 hil HRF.out.1 (by omega)
      unfold TabPost fvK at HN4
      have HN := Lib.hid HN4
      have HIL := Lib.hid hil
      have HI4 := Lib.hid (HIC.out.mono hb4)
      have HT4 := Lib.hid (HTW.out.mono hb4)
      have HB4 := Lib.hid (below_then HBW.out hb4)
      clear HN4 hil own4 hb4 HCM HIC HTW HBW
      go_wp2_with fail
      refine HN.out.mono ?_
      rintro e w5 ⟨gb, rfl, hbw, hb5⟩
      unfold tbV fvK
      have HA5 := Lib.hid (below_alloc w5 (.cells #[.slice (some ⟨gq, 0, none⟩) 19 19, .slice la 19 lc, .pointer (some ⟨gb, 0, none⟩), .func (.func 88) #[] #[]] 84))
      have HRT := Lib.hid (heap_alloc_last w5 (.cells #[.slice (some ⟨gq, 0, none⟩) 19 19, .slice la 19 lc, .pointer (some ⟨gb, 0, none⟩), .func (.func 88) #[] #[]] 84))
      have HBW : Hid (Bw w5 (fun j => w.heap.size ≤ j) gb (hdOf L D rs).R) := Lib.hid (hbw.wide (fun j hj => by have := HB4.out.size; omega))
      have HIL5 := Lib.hid (HIL.out.mono hb5)
      have HI5 := Lib.hid (HI4.out.mono hb5)
      have HT5 := Lib.hid (HT4.out.mono hb5)
      have HB5 := Lib.hid (below_then HB4.out hb5)
      clear hbw hb5 HIL HI4 HT4 HB4 HN
      have HQT : Hid (w5.heap.size < (w5.alloc (.cells #[.slice (some ⟨gq, 0, none⟩) 19 19, .slice la 19 lc, .pointer (some ⟨gb, 0, none⟩), .func (.func 88) #[] #[]] 84)).heap.size ∧ w.heap.size ≤ w5.heap.size) := Lib.hid ⟨by simp, HB5.out.size⟩
      have HLD := load_order (HOO.out.1.mono HOO.out.2 (below_then HB5.out HA5.out))
      go_wp2_with (refine wpl_load rfl 135 (.global 0) rfl ⟨0, 0, none⟩ rfl _ HLD ?_)
      clear HLD
      revert HA5 HRT HQT
      generalize w5.alloc (.cells #[.slice (some ⟨gq, 0, none⟩) 19 19, .slice la 19 lc, .pointer (some ⟨gb, 0, none⟩), .func (.func 88) #[] #[]] 84) = w6
      intro HA5 HRT HQT
      have HO0 : Hid (w6.ownsRow w6.heap.size 3 1 (.slice none 0 0) 0 (ivs (ownR (hdOf L D rs).R 0))) := Lib.hid (World.ownsRow_nil _ _ _ _)
      have HIL6 := Lib.hid (HIL5.out.mono HA5.out)
      go_loopw [13, 64] (fun ov iv wr => ∃ k : Nat, k ≤ 19 ∧ iv = .int .i64 k ∧ Hid (wr.ownsRow w6.heap.size 3 1 ov k (ivs (ownR (hdOf L D rs).R k))) ∧ Hid (Below w6.heap.size w6 wr)) (fun _ iv _ => 19 - (intOf iv).toNat)
      case atStart => exact ⟨0, by omega, rfl, HO0, Lib.hid (Below.refl _ _)⟩
      case round =>
        obtain ⟨k, hk, rfl, HO, HB⟩ := hrel
        clear HO0
        by_cases hlt : k < 19
        · have hix := index_order k hlt
          have HNX := Lib.hid (ownR_next (hdOf L D rs).R k hlt)
          have hj : order.getD k 0 < 19 := order_lt k hlt
          obtain ⟨b1, o1, rfl, _, t0⟩ := (HIL6.out.mono HB.out).at' _ hj
          generalize order.getD k 0 = j at *
          have dk : decide ((k : Int) < 19) = true := decide_eq_true (by omega)
          have dj : decide (j < 19) = true := decide_eq_true hj
          generalize (hdOf L D rs).R.getD j 0 = z at *
          have hz := HB.out.size
          go_wp2_with (at_builtin; refine wpl_append tyI rfl _ _ rfl (own_below HO.out (below_alloc wr (.cells #[.int .i64 z] 3))) (src_int wr z) rfl rfl (by omega) (by omega) (by simp; omega) ?_)
          intro v' w' own' hg' _
          have HB7 := Lib.hid ((below_then HB.out (below_alloc wr (.cells #[.int .i64 z] 3))).grown hg' (by simp; omega) (fun r e => (HO.out.lt r e).1))
          have HO7 : Hid (w'.ownsRow w6.heap.size 3 1 v' (k + 1) (ivs (ownR (hdOf L D rs).R (k + 1)))) := Lib.hid (by rw [HNX.out, ivs_append]; exact own')
          clear own' hg' HO HB HNX hix t0
          go_wp2
          go_roundw
          case rel => exact ⟨k + 1, by omega, by go_num, HO7, HB7⟩
          case measure => simp [intOf]; omega
        · obtain rfl : k = 19 := by omega
          have hwo : Wf (ownR (hdOf L D rs).R 19) := small_wf (fun i hi => by
            have h19 : i < 19 := by rw [ownR_length] at hi; exact hi
            rw [ownR_get _ i h19]
            have := HRF.out.2.2.2 _ (order_lt i h19)
            omega)
          obtain ⟨oa, oc, hov, hio⟩ := own_is HO.out hwo
          have HOA : Hid (∀ ad, oa = some ad → w6.heap.size ≤ ad.block) := Lib.hid (fun ad e => by
            subst e
            exact (HO.out.lt ad.block (by rw [hov]; rfl)).1)
          subst hov
          have HSH := Lib.hid (fun w' (hb : Below wr.heap.size wr w') => shorten_any oa 19 oc _ 4 w' (hio.mono hb) (by omega) (by omega))
          have HIO := Lib.hid hio
          have hrt := (HB.out.block w5.heap.size (by exact HQT.out.1)).trans HRT.out
          have c0 := cell_of_row _ _ 0 _ _ (0, 0) hrt
          have c1 := cell_of_row _ _ 1 _ _ (0, 0) hrt
          have c2 := cell_of_row _ _ 2 _ _ (0, 0) hrt
          have c3 := cell_of_row _ _ 3 _ _ (0, 0) hrt
          simp only [List.getElem?_toArray, List.getElem?_cons_zero, List.getElem?_cons_succ] at c0 c1 c2 c3
          clear hwo hio hrt HO
          go_wp2_with fail
          go_region_held3 (fun w' => w'.cell? ⟨w5.heap.size, 0, none⟩ = some (.slice (some ⟨gq, 0, none⟩) 19 19) ∧ w'.cell? ⟨w5.heap.size, 1, none⟩ = some (.slice la 19 lc) ∧ w'.cell? ⟨w5.heap.size, 2, none⟩ = some (.pointer (some ⟨gb, 0, none⟩)) ∧ w'.cell? ⟨w5.heap.size, 3, none⟩ = some (.func (.func 88) #[] #[])) (go_keep)
            (first | (go_at_call 84; refine (HSH.out _ (Below.drew (Below.refl _ _))).mono ?_; rintro e w' ⟨rfl, rfl⟩))
          have HP : Hid (HdPost w (hdOf L D rs) (.returned (.tuple #[.pointer (some ⟨wr.heap.size, 0, none⟩), .nilIface])) (wr.alloc (.cells #[.int .i64 (n1 : Nat), .int .i64 (n2 : Nat), .slice a2 rs.length c2', .slice (some ⟨gq, 0, none⟩) 19 19, .slice la 19 lc, .pointer (some ⟨gb, 0, none⟩), .func (.func 88) #[] #[], .slice oa (shn (ownR (hdOf L D rs).R 19) 4 19) oc] 137)).drew) := Lib.hid (by
            have hb : Below wr.heap.size wr (wr.alloc (.cells #[.int .i64 (n1 : Nat), .int .i64 (n2 : Nat), .slice a2 rs.length c2', .slice (some ⟨gq, 0, none⟩) 19 19, .slice la 19 lc, .pointer (some ⟨gb, 0, none⟩), .func (.func 88) #[] #[], .slice oa (shn (ownR (hdOf L D rs).R 19) 4 19) oc] 137)).drew := Below.drew (below_alloc wr _)
            have b6 := below_then HB5.out HA5.out
            have bw := below_then b6 HB.out
            have s1 := HB5.out.size
            have s2 := HA5.out.size
            have s3 := HB.out.size
            refine ⟨_, rfl, ⟨a2, c2', oa, oc, _, _, la, 19, lc, gb, ?_, ((HT5.out.mono HA5.out).mono HB.out).mono hb, HTL.out, ?_, fun ad e => by have := HOA.out ad e; omega, ((HI5.out.mono HA5.out).mono HB.out).mono hb, (HIL6.out.mono HB.out).mono hb, ((HBW.out.mono HA5.out).mono HB.out).mono hb, by omega⟩, below_then bw hb⟩
            · have hr := heap_alloc_last wr (.cells #[.int .i64 (n1 : Nat), .int .i64 (n2 : Nat), .slice a2 rs.length c2', .slice (some ⟨gq, 0, none⟩) 19 19, .slice la 19 lc, .pointer (some ⟨gb, 0, none⟩), .func (.func 88) #[] #[], .slice oa (shn (ownR (hdOf L D rs).R 19) 4 19) oc] 137)
              have e1 := own_len L D rs
              rw [HLL.out.1, HLL.out.2, e1]
              exact hr
            · have e2 := own_eq L D rs
              have hle := shn_le (ownR (hdOf L D rs).R 19) 4 19
              have hI := (HIO.out.pre _ hle).mono hb
              rw [← e2] at hI
              rw [show (hdOf L D rs).own.length = shn (ownR (hdOf L D rs).R 19) 4 19 from hI.hlen]
              exact hI)
          go_wp2
          go_ret2
          exact HP.out
end Bc
end Go.Proofs.YtpoilaappcjbeaaGreatDoor
end
