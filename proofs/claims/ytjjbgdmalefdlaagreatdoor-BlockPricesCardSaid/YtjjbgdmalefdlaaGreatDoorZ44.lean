/- block.Runs: its contract. -/
import Derived.Test.YtjjbgdmalefdlaaGreatDoorZ13
import Derived.Test.YtjjbgdmalefdlaaGreatDoorZ22
import Derived.Test.YtjjbgdmalefdlaaGreatDoorZ26
import Derived.Test.YtjjbgdmalefdlaaGreatDoorZ28
import Derived.Deep.RegionHeld3
set_option linter.unusedSimpArgs false
set_option linter.unusedVariables false
section
namespace Go.Proofs.YtjjbgdmalefdlaaGreatDoor
open Go.RowKit

theorem wf_rg (t : Tok) (h : 0 ≤ t.1 ∧ t.1 ≤ 18 ∧ 0 ≤ t.2 ∧ t.2 ≤ 127) : (Lit.int .i64 t.1).wf = true ∧ (Lit.int .i64 t.2).wf = true := by
  obtain ⟨y, x⟩ := t
  simp only at h
  simp only [Lit.wf, IntKind.min, IntKind.max, IntKind.signed, IntKind.bits, Bool.and_eq_true, decide_eq_true_eq, if_true]
  simp; omega
def Bl.RuPost (w : World) (r : Option (List Tok)) (e : Ending) (w' : World) : Prop :=
  Below w.heap.size w w' ∧ match r with
  | none => e = .returned (.tuple #[.slice none 0 0, .iface 51 (.int .i64 6)])
  | some rs => ∃ v, e = .returned (.tuple #[v, .nilIface]) ∧ w'.ownsRow w.heap.size 132 2 v rs.length (tks rs)
theorem Bl.RuPost.no {w w' : World} {r : Option (List Tok)} (h : r = none) (hb : Below w.heap.size w w') : Bl.RuPost w r (.returned (.tuple #[.slice none 0 0, .iface 51 (.int .i64 6)])) w' := by
  subst h; exact ⟨hb, rfl⟩
theorem stretch_any (y : Int) (c : Nat) (w : World) (h0 : 0 ≤ y) (h15 : y ≤ 15) (hc : 1 ≤ c) (hc2 : c ≤ 3000) : Calls Tryz.prog 104 #[.int .i64 y, .int .i64 (c : Nat)] w (Bl.StPost w y c) := by
  by_cases e : y = 0
  · subst e; exact stretch_zero c w hc2
  · obtain ⟨m, rfl⟩ : ∃ m, c = m + 1 := ⟨c - 1, by omega⟩
    exact stretch_pos y (m + 1) m w h0 h15 (by omega) rfl hc2
set_option maxRecDepth 100000 in
set_option maxHeartbeats 4000000 in
theorem runs_any (a : Option Addr) (len cap : Nat) (l : List Int) (w : World) (h : Is .i64 w a len cap l) (hr : len ≤ 3000) :
    Calls Tryz.prog 85 #[.slice a len cap] w (Bl.RuPost w (Bl.ru [] l)) := by
  have H := Lib.hid h
  obtain ⟨R, hR⟩ : ∃ R, Bl.ru [] l = R := ⟨_, rfl⟩
  have HR := Lib.hid hR
  rw [hR]
  clear h hR
  go_enter Tryz.func85, Tryz.ntmps85
  go_wp2
  go_loopw [0, 4] (fun lv ov wr => ∃ (a' : Option Addr) (n c' : Nat) (m : List Int) (rs : List Tok), lv = .slice a' n c' ∧ n ≤ 3000 ∧ Hid (Is .i64 w a' n c' m) ∧ Hid (Bl.ru rs m = R) ∧ Hid (wr.ownsRow w.heap.size 132 2 ov rs.length (tks rs)) ∧ Hid (rs.length + n ≤ 3000) ∧ Hid (Below w.heap.size w wr)) (fun lv _ _ => match lv with | .slice _ n _ => n | _ => 0)
  case atStart => exact ⟨a, len, cap, l, [], rfl, hr, H, HR, Lib.hid (World.ownsRow_nil _ _ _ _), Lib.hid (by simpa using hr), Lib.hid (Below.refl _ _)⟩
  case round =>
    clear H HR
    obtain ⟨a', n, c', m, rs, rfl, hn, H, HR, HO, HLN, HB⟩ := hrel
    by_cases hn0 : 0 < n
    · obtain ⟨b1, off1, rfl, _, c0⟩ := (H.out.mono HB.out).at' 0 hn0
      rw [Nat.add_zero] at c0
      have hml : m.length = n := H.out.hlen
      have HM := Lib.hid hml
      have d0 : decide (0 < n) = true := decide_eq_true hn0
      have HAL : Hid (Calls Tryz.prog 103 #[.slice (some ⟨b1, off1, none⟩) n c'] wr.drew (Bl.AlPost wr.drew n m)) := Lib.hid (alike_any _ n c' m wr.drew ((H.out.mono HB.out).mono (drewN_is wr 1)) hn)
      obtain ⟨y, hy⟩ : ∃ y, m.getD 0 0 = y := ⟨_, rfl⟩
      have HY := Lib.hid hy
      rw [hy] at c0
      clear hml hy
      go_wp2_with fail
      go_region_held3 (fun w' => w'.cell? ⟨b1, off1, none⟩ = some (.int .i64 y)) (go_keep)
        (first | (go_at_call 103; refine HAL.out.mono ?_; rintro e w' ⟨c, rfl, hcl, hcp, hsm, hmx, d2, rfl⟩; have c0 : (wr.drew.drewN d2).cell? ⟨b1, off1, none⟩ = some (.int .i64 y) := c0))
      have HO2 := Lib.hid (own_below HO.out (drewN_is wr (1 + d2)))
      have HB2 := Lib.hid (below_then HB.out (drewN_is wr (1 + d2)))
      have hcp := hcp hn0
      have HC : Hid (Bl.al m = c) := Lib.hid (Bl.al_eq (by rw [HM.out]; exact hcl) hsm (fun h => hmx (by rw [HM.out] at h; exact h)))
      have hcap : n ≤ c' := H.out.hle
      clear HO HB HAL hsm hmx
      revert HO2 HB2
      generalize World.drewN wr (1 + d2) = wq
      intro HO2 HB2
      by_cases hbad : ¬ (0 ≤ y ∧ y < 16)
      · have HP := Lib.hid (Bl.RuPost.no (r := R) (by rw [← HR.out]; exact Bl.ru_bad rs (by rw [HM.out]; omega) (by rw [HY.out]; exact hbad)) HB2.out)
        by_cases h1 : y < 0
        · have d1 : decide (y < 0) = true := decide_eq_true h1
          clear hbad HR HM HY HC HO2 HB2 HLN
          go_wp2
          go_ret2
          exact HP.out
        · have d1 : decide (y < 0) = false := decide_eq_false h1
          have d2 : decide (16 ≤ y) = true := decide_eq_true (by omega)
          clear hbad HR HM HY HC HO2 HB2 HLN
          go_wp2
          go_ret2
          exact HP.out
      have d1 : decide (y < 0) = false := decide_eq_false (by omega)
      have d2 : decide (16 ≤ y) = false := decide_eq_false (by omega)
      have HST := Lib.hid (stretch_any y c wq (by omega) (by omega) (by omega) (by omega))
      have HR2 : Hid (Bl.ru (rs ++ Bl.stF y c) (m.drop c) = R) := Lib.hid (by
        rw [← HR.out, Bl.ru_step rs (l := m) (by rw [HM.out]; omega) (by rw [HY.out]; omega), HC.out, HY.out])
      have hhi : (c : Int) ≤ (n : Int) := by omega
      clear hbad HR
      go_wp2_with fail
      refine HST.out.mono ?_
      rintro e w6 ⟨v6, rs6, rfl, own6, hgot, heq, hb6⟩
      have hz6 := hb6.size
      have hwf : ∀ i, i < rs6.length → (Lit.int .i64 (rs6.getD i (0, 0)).1).wf = true ∧ (Lit.int .i64 (rs6.getD i (0, 0)).2).wf = true := fun i hi => by
        exact wf_rg _ (hgot.rg (rs6.getD i (0, 0)) (by simp [List.getD, List.getElem?_eq_getElem hi]))
      obtain ⟨a6, c6, rfl, hts⟩ := own_rs2 own6 hwf
      have hsrc := hts.src
      have HO7 := own_below HO2.out hb6
      have HB7 := Lib.hid (below_then HB2.out hb6)
      have hz := HB7.out.size
      have hle6 := hgot.le
      have hlr := HLN.out
      have HQ : Hid (rs6 = Bl.stF y c) := Lib.hid heq
      clear heq hgot hwf own6 HST HO2 HB2
      go_wp2_with (at_builtin; refine wpl_append tyR rfl _ _ rfl HO7 hsrc rfl rfl (by omega) (by omega) (by omega) ?_)
      intro v' w' own' hg' _
      have HB8 := Lib.hid (HB7.out.grown hg' hz (fun r e => (HO7.lt r e).1))
      rw [← tks_append] at own'
      have HO8 : Hid (w'.ownsRow w.heap.size 132 2 v' (rs ++ rs6).length (tks (rs ++ rs6))) := Lib.hid (by rw [List.length_append]; exact own')
      have HR8 : Hid (Bl.ru (rs ++ rs6) (m.drop c) = R) := Lib.hid (by rw [HQ.out]; exact HR2.out)
      have HS8 : Hid (Is .i64 w (if c' = c then some ⟨b1, off1, none⟩ else some ⟨b1, off1 + c, none⟩) (n - c) (c' - c) (m.drop c)) := Lib.hid (by
        split
        · have e1 : n - c = 0 := by omega
          have e2 : m.drop c = [] := List.drop_eq_nil_of_le (by rw [HM.out]; omega)
          rw [e1, e2]
          exact Is.none0 w _ _ (fun h => by simp at h)
        · exact H.out.suf c hcl)
      have HL8 : Hid ((rs ++ rs6).length + (n - c) ≤ 3000) := Lib.hid (by rw [List.length_append]; omega)
      clear own' hg' HO7 HB7 hsrc hts HR2 HQ HLN HM HC HY H
      go_wp2
      go_roundw
      case rel => exact ⟨_, n - c, _, _, _, rfl, by omega, HS8, HR8, HO8, HL8, HB8⟩
      case measure => simp; omega
    · obtain rfl : n = 0 := by omega
      obtain rfl : m = [] := List.eq_nil_of_length_eq_zero H.out.hlen
      have HP : Hid (Bl.RuPost w R (.returned (.tuple #[u4, .nilIface])) wr) := Lib.hid (by
        rw [← HR.out, Bl.ru_end]
        exact ⟨HB.out, _, rfl, HO.out⟩)
      clear HR HO HB H HLN
      go_wp2
      go_ret2
      exact HP.out
end Go.Proofs.YtjjbgdmalefdlaaGreatDoor
end
