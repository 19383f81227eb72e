/- block.Unruns: its contract. Made by gen_blkun.py. -/
import Derived.Test.YtnpgnmghkooonaaBlkRun
import Derived.Test.YtnpgnmghkooonaaBlkRefUn
import Derived.Deep.QuietTactic
import Derived.BigQuiet
import Derived.Test.YtnpgnmghkooonaaDrewN
namespace Go.Proofs.Ytnpgnmghkooonaa
open Go.RowKit

def Bl.UnPost (w : World) (r : Option (List Int)) (e : Ending) (w' : World) : Prop :=
  Below w.heap.size w w' ∧ match r with
  | none => e = .returned (.tuple #[.slice none 0 0, .iface 33 (.int .i64 6)])
  | some o => ∃ v, e = .returned (.tuple #[v, .nilIface]) ∧ w'.ownsRow w.heap.size 3 1 v o.length (ivs o)
theorem Bl.UnPost.no {w w' : World} {r : Option (List Int)} (h : r = none) (hb : Below w.heap.size w w') : Bl.UnPost w r (.returned (.tuple #[.slice none 0 0, .iface 33 (.int .i64 6)])) w' := by
  subst h; exact ⟨hb, rfl⟩
theorem below_drewN {w w' : World} (h : Below w.heap.size w w') (n : Nat) : Below w.heap.size w (w'.drewN n) := below_then h (drewN_is w' n)
set_option maxRecDepth 100000 in
set_option maxHeartbeats 4000000 in
theorem unruns_any (a : Option Addr) (n c : Nat) (rs : List Tok) (w : World) (h : Ts2 w a n c rs) (hn : n ≤ 3000) :
    Calls Try.prog 11 #[.slice a n c] w (Bl.UnPost w (Bl.unr (fun k => rs.getD k (0, 0)) n)) := by
  have H := Lib.hid h
  obtain ⟨F, hF⟩ : ∃ F : Nat → Int × Int, (fun k => rs.getD k (0, 0)) = F := ⟨_, rfl⟩
  have HF : Hid (∀ k, rs.getD k (0, 0) = F k) := Lib.hid (fun k => by rw [← hF])
  rw [hF]
  clear h hF
  go_enter Try.func11, Try.ntmps11
  go_wp2
  go_loopw [4, 13] (fun ov iv wr => ∃ (k : Nat) (o : List Int), k ≤ n ∧ iv = .int .i64 k ∧ Hid (Bl.unr F k = some o) ∧ Hid (wr.ownsRow w.heap.size 3 1 ov o.length (ivs o)) ∧ Hid (Below w.heap.size w wr)) (fun _ iv _ => n - (intOf iv).toNat)
  case atStart => exact ⟨0, [], by omega, rfl, Lib.hid rfl, Lib.hid (World.ownsRow_nil _ _ _ _), Lib.hid (Below.refl _ _)⟩
  case round =>
    obtain ⟨k, o, hk, rfl, HU, HO, HB⟩ := hrel
    obtain ⟨ao, co, rfl⟩ := own_slice1 HO.out
    by_cases hlt : k < n
    · obtain ⟨b1, off1, rfl, _, t1, t2⟩ := (H.out.mono HB.out).at' k hlt
      obtain ⟨w1, w2⟩ := H.out.wf k hlt
      have hFk := HF.out k
      rw [hFk] at t1 t2 w1 w2
      obtain ⟨y, hy⟩ : ∃ y, (F k).1 = y := ⟨_, rfl⟩
      obtain ⟨x, hx⟩ : ∃ x, (F k).2 = x := ⟨_, rfl⟩
      have hFk : F k = (y, x) := by rw [← hy, ← hx]
      rw [hy] at t1 w1
      rw [hx] at t2 w2
      have HST : Hid (Bl.unr F (k + 1) = Bl.stp o (y, x)) := Lib.hid (by rw [Bl.unr_next HU.out, hFk])
      have HNO : Hid (Bl.stp o (y, x) = none → Bl.unr F n = none) := Lib.hid (fun h => Bl.unr_no HU.out (by rw [hFk]; exact h) hlt)
      obtain ⟨HIN, hol⟩ := Bl.unr_in HU.out
      have HIN := Lib.hid HIN
      have hol : o.length ≤ 414000 := by omega
      clear hFk HU hy hx
      have HW1 := Lib.hid w1
      have HW2 := Lib.hid w2
      have hb1 := below_alloc wr (.cells #[.int .i64 y, .int .i64 x] 29)
      have hrow : (wr.alloc (.cells #[.int .i64 y, .int .i64 x] 29)).heap[wr.heap.size]? = some (.cells #[.int .i64 y, .int .i64 x] 29 (0, 0)) := heap_alloc_last wr _
      have c0 : (wr.alloc (.cells #[.int .i64 y, .int .i64 x] 29)).cell? ⟨wr.heap.size, 0, none⟩ = some (.int .i64 y) := by rw [cell_of_row _ _ _ _ _ (0, 0) hrow]; rfl
      have c1 : (wr.alloc (.cells #[.int .i64 y, .int .i64 x] 29)).cell? ⟨wr.heap.size, 1, none⟩ = some (.int .i64 x) := by rw [cell_of_row _ _ _ _ _ (0, 0) hrow]; rfl
      have HB1 := Lib.hid (below_then HB.out hb1)
      have HO1 := Lib.hid (own_below HO.out hb1)
      have HRB := Lib.hid (runBase_any y (wr.alloc (.cells #[.int .i64 y, .int .i64 x] 29)))
      clear w1 w2 hb1 hrow HB HO
      by_cases hbad : ¬ (0 ≤ y ∧ y ≤ 18)
      · have HP : Hid (∀ d, Bl.UnPost w (Bl.unr F n) (.returned (.tuple #[.slice none 0 0, .iface 33 (.int .i64 6)])) ((wr.alloc (.cells #[.int .i64 y, .int .i64 x] 29)).drewN d)) := Lib.hid (fun d => Bl.UnPost.no (HNO.out (Bl.stp_no (fun h => hbad ⟨h.1, h.2.1⟩))) (below_drewN HB1.out d))
        have er : Bl.rb y = .tuple #[.int .i64 0, .int .i64 0, .bool false] := by unfold Bl.rb; rw [if_neg hbad]
        rw [er] at HRB
        clear HNO HST HB1 HO1 H HF er hbad
        go_wp2_with fail
        refine HRB.out.mono ?_
        rintro e w5 ⟨rfl, rfl⟩
        go_wp2_with fail
        go_quiet (fail)
        go_wp2
        go_ret2
        exact HP.out _
      · have h1 : 0 ≤ y := by omega
        have h2 : y ≤ 18 := by omega
        have er : Bl.rb y = .tuple #[.int .i64 (Bl.base y : Nat), .int .i64 (Bl.bits y : Nat), .bool true] := by unfold Bl.rb; rw [if_pos ⟨h1, h2⟩]
        rw [er] at HRB
        clear er hbad
        by_cases h3 : x < 0
        · have HP : Hid (∀ d, Bl.UnPost w (Bl.unr F n) (.returned (.tuple #[.slice none 0 0, .iface 33 (.int .i64 6)])) ((wr.alloc (.cells #[.int .i64 y, .int .i64 x] 29)).drewN d)) := Lib.hid (fun d => Bl.UnPost.no (HNO.out (Bl.stp_no (fun h => by omega))) (below_drewN HB1.out d))
          have d3 : decide (x < 0) = true := decide_eq_true h3
          clear HNO HST HB1 HO1 H HF h3
          go_wp2_with fail
          refine HRB.out.mono ?_
          rintro e w5 ⟨rfl, rfl⟩
          go_wp2_with fail
          go_quiet (fail)
          go_wp2
          go_ret2
          exact HP.out _
        · obtain ⟨z, rfl⟩ := Int.eq_ofNat_of_zero_le (show 0 ≤ x by omega)
          have d3 : decide (((z : Nat) : Int) < 0) = false := decide_eq_false (by omega)
          clear h3
          by_cases e6 : y = 16
          · subst e6
            by_cases h0 : o.length = 0
            · have HP : Hid (∀ d, Bl.UnPost w (Bl.unr F n) (.returned (.tuple #[.slice none 0 0, .iface 33 (.int .i64 6)])) ((wr.alloc (.cells #[.int .i64 16, .int .i64 (z : Nat)] 29)).drewN d)) := Lib.hid (fun d => Bl.UnPost.no (HNO.out (by unfold Bl.stp; rw [if_neg (fun h => h.2 rfl h0)])) (below_drewN HB1.out d))
              have eo : o = [] := List.eq_nil_of_length_eq_zero h0
              subst eo
              simp only [List.length_nil] at *
              have HRB2 : Hid (Calls Try.prog 15 #[.int .i64 16] (wr.alloc (.cells #[.int .i64 16, .int .i64 (z : Nat)] 29)) fun e w' => e = .returned (.tuple #[.int .i64 3, .int .i64 2, .bool true]) ∧ (wr.alloc (.cells #[.int .i64 16, .int .i64 (z : Nat)] 29)) = w') := HRB
              clear HRB HNO HST HB1 HO1 H HF
              by_cases h4 : ((z : Nat) : Int) ≤ 3
              · have d5 : decide (4 ≤ ((z : Nat) : Int)) = false := decide_eq_false (by omega)
                go_wp2_with fail
                refine HRB2.out.mono ?_
                rintro e w5 ⟨rfl, rfl⟩
                go_wp2_with fail
                go_quiet (fail)
                go_wp2
                go_ret2
                exact HP.out _
              · have d5 : decide (4 ≤ ((z : Nat) : Int)) = true := decide_eq_true (by omega)
                go_wp2_with fail
                refine HRB2.out.mono ?_
                rintro e w5 ⟨rfl, rfl⟩
                go_wp2_with fail
                go_quiet (fail)
                go_wp2
                go_ret2
                exact HP.out _
            · obtain ⟨q, hq⟩ : ∃ q, o.length = q + 1 := ⟨o.length - 1, by omega⟩
              have hne : (16 : Int) = 16 → o.length ≠ 0 := fun _ => h0
              have HV : Hid (Bl.val o 16 = o.getD q 0) := Lib.hid (by unfold Bl.val; rw [if_pos rfl, hq]; rfl)
              obtain ⟨g, hg⟩ : ∃ g, ao = some ⟨g, 0, none⟩ := by
                rcases own_nil_or HO1.out with ⟨_, h0'⟩ | ⟨g, cap, h0', _⟩
                · exact absurd h0' h0
                · simp only [Value.slice.injEq] at h0'; exact ⟨g, h0'.1⟩
              subst hg
              have cq : (wr.alloc (.cells #[.int .i64 16, .int .i64 (z : Nat)] 29)).cell? ⟨g, q, none⟩ = some (.int .i64 (o.getD q 0)) := by
                rw [HO1.out.cellAt q (by omega), ivs_get _ _ (by omega)]
              have HL := Lib.hid hq
              rw [hq] at HO1
              rw [hq]
              have hq2 : q ≤ 414000 := by omega
              have i0 : (0 : Int) ≤ (q : Int) := by omega
              have i1 : (q : Int) < (q : Int) + 1 := by omega
              have dq : (((q : Nat) : Int) + 1 == 0) = false := by simp; omega
              clear hq h0
              generalize o.getD q 0 = vq at *
              rw [show ((Bl.base 16 : Nat) : Int) = 3 by rfl, show ((Bl.bits 16 : Nat) : Int) = 2 by rfl] at HRB
              by_cases h4 : ((z : Nat) : Int) ≤ 3
              · have HY := Lib.hid (Bl.stp_yes (o := o) (y := 16) (x := ((z : Nat) : Int)) ⟨by omega, by omega, by omega, by simpa [Bl.top] using h4⟩ hne)
                have hz : z ≤ 3 := by omega
                obtain ⟨N, hN⟩ : ∃ N, 3 + z = N := ⟨_, rfl⟩
                have HY2 : Hid (Bl.unr F (k + 1) = some (o ++ List.replicate N (vq))) := Lib.hid (by rw [HST.out, HY.out, HV.out, ← hN]; congr 3)
                have hN2 : N ≤ 138 := by omega
                have d5 : decide (4 ≤ ((z : Nat) : Int)) = false := decide_eq_false (by omega)
                have HN := Lib.hid hN
                clear HST HNO HY HV hN
                go_wp2_with fail
                refine HRB.out.mono ?_
                rintro e w5 ⟨rfl, rfl⟩
                clear HRB
                go_wp2_with fail
                go_quiet (fail)
                go_wp2_with fail
                have eN : (3 + ((z : Nat) : Int)) = ((N : Nat) : Int) := by have := HN.out; omega
                rw [eN]
                have HO2 : Hid (∀ d, ((wr.alloc (.cells #[.int .i64 (16), .int .i64 (z : Nat)] 29)).drewN d).ownsRow w.heap.size 3 1 (.slice (some ⟨g, 0, none⟩) (q + 1) co) (q + 1) (ivs o)) := Lib.hid (fun d => own_below HO1.out (drewN_is _ d))
                have HB2 : Hid (∀ d, Below w.heap.size w ((wr.alloc (.cells #[.int .i64 (16), .int .i64 (z : Nat)] 29)).drewN d)) := Lib.hid (fun d => below_drewN HB1.out d)
                clear eN t1 t2 c0 c1 d3 d5 HIN HW1 HW2 h4 hz HO1 HB1 cq dq
                go_loopw [4, 69] (fun u kk wx => ∃ j : Nat, j ≤ N ∧ kk = .int .i64 j ∧ Hid (wx.ownsRow w.heap.size 3 1 u (q + 1 + j) (ivs (o ++ List.replicate j (vq)))) ∧ Hid (Below w.heap.size w wx)) (fun _ kk _ => N - (intOf kk).toNat)
                case atStart => exact ⟨0, by omega, rfl, Lib.hid (by have := HO2.out; simpa using this _), Lib.hid (HB2.out _)⟩
                case round =>
                  obtain ⟨j, hj, rfl, HJ, HBJ⟩ := hrel
                  clear HO2 HB2
                  by_cases hjl : j < N
                  · have hsrc := src_int wr (vq)
                    have hzj := HBJ.out.size
                    go_wp2_with (at_builtin; refine wpl_append tyI rfl _ _ rfl (own_below HJ.out (below_alloc wr _)) hsrc rfl rfl (by omega) (by omega) (by simp; omega) ?_)
                    intro v' w' own' hg' _
                    have HB5 : Hid (Below w.heap.size w w') := Lib.hid ((below_then HBJ.out (below_alloc wr _)).grown hg' (by simp; omega) (fun r e => (HJ.out.lt r e).1))
                    rw [← ivs_append, ← Bl.rep_next] at own'
                    have HO5 := Lib.hid own'
                    clear own' hg' hsrc HJ HBJ hzj
                    go_wp2
                    go_roundw
                    case rel => exact ⟨j + 1, by omega, by go_num, HO5, HB5⟩
                    case measure => simp [intOf]; omega
                  · obtain rfl : N = j := by omega
                    have HO5 : Hid (wr.ownsRow w.heap.size 3 1 u4 (o ++ List.replicate N (vq)).length (ivs (o ++ List.replicate N (vq)))) := Lib.hid (by rw [List.length_append, List.length_replicate, HL.out]; exact HJ.out)
                    go_wp2
                    go_roundw
                    case rel => exact ⟨k + 1, _, by omega, by go_num, HY2, HO5, HBJ⟩
                    case measure => simp [intOf]; omega
              · have HP : Hid (∀ d, Bl.UnPost w (Bl.unr F n) (.returned (.tuple #[.slice none 0 0, .iface 33 (.int .i64 6)])) ((wr.alloc (.cells #[.int .i64 16, .int .i64 (z : Nat)] 29)).drewN d)) := Lib.hid (fun d => Bl.UnPost.no (HNO.out (Bl.stp_no (o := o) (y := 16) (x := ((z : Nat) : Int)) (fun h => h4 (by simpa [Bl.top] using h.2.2.2)))) (below_drewN HB1.out d))
                have d5 : decide (4 ≤ ((z : Nat) : Int)) = true := decide_eq_true (by omega)
                clear HNO HST HB1 HO1 H HF HV
                go_wp2_with fail
                refine HRB.out.mono ?_
                rintro e w5 ⟨rfl, rfl⟩
                clear HRB
                go_wp2_with fail
                go_quiet (fail)
                go_wp2
                go_ret2
                exact HP.out _
          · have d6 : (y == 16) = false := by simpa using e6
            have hne : y = 16 → o.length ≠ 0 := fun e => absurd e e6
            obtain ⟨L, hL⟩ : ∃ L, o.length = L := ⟨_, rfl⟩
            rw [hL] at HO1
            rw [hL]
            have HL := Lib.hid hL
            have hL2 : L ≤ 414000 := by omega
            clear hL
            by_cases e7 : y = 17
            · subst e7
              have HV : Hid (Bl.val o 17 = 0) := Lib.hid rfl
              rw [show ((Bl.base 17 : Nat) : Int) = 3 by rfl, show ((Bl.bits 17 : Nat) : Int) = 3 by rfl] at HRB
              by_cases h4 : ((z : Nat) : Int) ≤ 7
              · have HY := Lib.hid (Bl.stp_yes (o := o) (y := 17) (x := ((z : Nat) : Int)) ⟨by omega, by omega, by omega, by simpa [Bl.top] using h4⟩ hne)
                have hz : z ≤ 7 := by omega
                obtain ⟨N, hN⟩ : ∃ N, 3 + z = N := ⟨_, rfl⟩
                have HY2 : Hid (Bl.unr F (k + 1) = some (o ++ List.replicate N (0))) := Lib.hid (by rw [HST.out, HY.out, HV.out, ← hN]; congr 3)
                have hN2 : N ≤ 138 := by omega
                have d5 : decide (8 ≤ ((z : Nat) : Int)) = false := decide_eq_false (by omega)
                have HN := Lib.hid hN
                clear HST HNO HY HV hN
                go_wp2_with fail
                refine HRB.out.mono ?_
                rintro e w5 ⟨rfl, rfl⟩
                clear HRB
                go_wp2_with fail
                go_quiet (fail)
                go_wp2_with fail
                have eN : (3 + ((z : Nat) : Int)) = ((N : Nat) : Int) := by have := HN.out; omega
                rw [eN]
                have HO2 : Hid (∀ d, ((wr.alloc (.cells #[.int .i64 (17), .int .i64 (z : Nat)] 29)).drewN d).ownsRow w.heap.size 3 1 (.slice ao (L) co) (L) (ivs o)) := Lib.hid (fun d => own_below HO1.out (drewN_is _ d))
                have HB2 : Hid (∀ d, Below w.heap.size w ((wr.alloc (.cells #[.int .i64 (17), .int .i64 (z : Nat)] 29)).drewN d)) := Lib.hid (fun d => below_drewN HB1.out d)
                clear eN t1 t2 c0 c1 d3 d5 HIN HW1 HW2 h4 hz HO1 HB1
                go_loopw [4, 69] (fun u kk wx => ∃ j : Nat, j ≤ N ∧ kk = .int .i64 j ∧ Hid (wx.ownsRow w.heap.size 3 1 u (L + j) (ivs (o ++ List.replicate j (0)))) ∧ Hid (Below w.heap.size w wx)) (fun _ kk _ => N - (intOf kk).toNat)
                case atStart => exact ⟨0, by omega, rfl, Lib.hid (by have := HO2.out; simpa using this _), Lib.hid (HB2.out _)⟩
                case round =>
                  obtain ⟨j, hj, rfl, HJ, HBJ⟩ := hrel
                  clear HO2 HB2
                  by_cases hjl : j < N
                  · have hsrc := src_int wr (0)
                    have hzj := HBJ.out.size
                    go_wp2_with (at_builtin; refine wpl_append tyI rfl _ _ rfl (own_below HJ.out (below_alloc wr _)) hsrc rfl rfl (by omega) (by omega) (by simp; omega) ?_)
                    intro v' w' own' hg' _
                    have HB5 : Hid (Below w.heap.size w w') := Lib.hid ((below_then HBJ.out (below_alloc wr _)).grown hg' (by simp; omega) (fun r e => (HJ.out.lt r e).1))
                    rw [← ivs_append, ← Bl.rep_next] at own'
                    have HO5 := Lib.hid own'
                    clear own' hg' hsrc HJ HBJ hzj
                    go_wp2
                    go_roundw
                    case rel => exact ⟨j + 1, by omega, by go_num, HO5, HB5⟩
                    case measure => simp [intOf]; omega
                  · obtain rfl : N = j := by omega
                    have HO5 : Hid (wr.ownsRow w.heap.size 3 1 u4 (o ++ List.replicate N (0)).length (ivs (o ++ List.replicate N (0)))) := Lib.hid (by rw [List.length_append, List.length_replicate, HL.out]; exact HJ.out)
                    go_wp2
                    go_roundw
                    case rel => exact ⟨k + 1, _, by omega, by go_num, HY2, HO5, HBJ⟩
                    case measure => simp [intOf]; omega
              · have HP : Hid (∀ d, Bl.UnPost w (Bl.unr F n) (.returned (.tuple #[.slice none 0 0, .iface 33 (.int .i64 6)])) ((wr.alloc (.cells #[.int .i64 17, .int .i64 (z : Nat)] 29)).drewN d)) := Lib.hid (fun d => Bl.UnPost.no (HNO.out (Bl.stp_no (o := o) (y := 17) (x := ((z : Nat) : Int)) (fun h => h4 (by simpa [Bl.top] using h.2.2.2)))) (below_drewN HB1.out d))
                have d5 : decide (8 ≤ ((z : Nat) : Int)) = true := decide_eq_true (by omega)
                clear HNO HST HB1 HO1 H HF HV
                go_wp2_with fail
                refine HRB.out.mono ?_
                rintro e w5 ⟨rfl, rfl⟩
                clear HRB
                go_wp2_with fail
                go_quiet (fail)
                go_wp2
                go_ret2
                exact HP.out _
            · have d7 : (y == 17) = false := by simpa using e7
              by_cases e8 : y = 18
              · subst e8
                have HV : Hid (Bl.val o 18 = 0) := Lib.hid rfl
                rw [show ((Bl.base 18 : Nat) : Int) = 11 by rfl, show ((Bl.bits 18 : Nat) : Int) = 7 by rfl] at HRB
                by_cases h4 : ((z : Nat) : Int) ≤ 127
                · have HY := Lib.hid (Bl.stp_yes (o := o) (y := 18) (x := ((z : Nat) : Int)) ⟨by omega, by omega, by omega, by simpa [Bl.top] using h4⟩ hne)
                  have hz : z ≤ 127 := by omega
                  obtain ⟨N, hN⟩ : ∃ N, 11 + z = N := ⟨_, rfl⟩
                  have HY2 : Hid (Bl.unr F (k + 1) = some (o ++ List.replicate N (0))) := Lib.hid (by rw [HST.out, HY.out, HV.out, ← hN]; congr 3)
                  have hN2 : N ≤ 138 := by omega
                  have d5 : decide (128 ≤ ((z : Nat) : Int)) = false := decide_eq_false (by omega)
                  have HN := Lib.hid hN
                  clear HST HNO HY HV hN
                  go_wp2_with fail
                  refine HRB.out.mono ?_
                  rintro e w5 ⟨rfl, rfl⟩
                  clear HRB
                  go_wp2_with fail
                  go_quiet (fail)
                  go_wp2_with fail
                  have eN : (11 + ((z : Nat) : Int)) = ((N : Nat) : Int) := by have := HN.out; omega
                  rw [eN]
                  have HO2 : Hid (∀ d, ((wr.alloc (.cells #[.int .i64 (18), .int .i64 (z : Nat)] 29)).drewN d).ownsRow w.heap.size 3 1 (.slice ao (L) co) (L) (ivs o)) := Lib.hid (fun d => own_below HO1.out (drewN_is _ d))
                  have HB2 : Hid (∀ d, Below w.heap.size w ((wr.alloc (.cells #[.int .i64 (18), .int .i64 (z : Nat)] 29)).drewN d)) := Lib.hid (fun d => below_drewN HB1.out d)
                  clear eN t1 t2 c0 c1 d3 d5 HIN HW1 HW2 h4 hz HO1 HB1
                  go_loopw [4, 69] (fun u kk wx => ∃ j : Nat, j ≤ N ∧ kk = .int .i64 j ∧ Hid (wx.ownsRow w.heap.size 3 1 u (L + j) (ivs (o ++ List.replicate j (0)))) ∧ Hid (Below w.heap.size w wx)) (fun _ kk _ => N - (intOf kk).toNat)
                  case atStart => exact ⟨0, by omega, rfl, Lib.hid (by have := HO2.out; simpa using this _), Lib.hid (HB2.out _)⟩
                  case round =>
                    obtain ⟨j, hj, rfl, HJ, HBJ⟩ := hrel
                    clear HO2 HB2
                    by_cases hjl : j < N
                    · have hsrc := src_int wr (0)
                      have hzj := HBJ.out.size
                      go_wp2_with (at_builtin; refine wpl_append tyI rfl _ _ rfl (own_below HJ.out (below_alloc wr _)) hsrc rfl rfl (by omega) (by omega) (by simp; omega) ?_)
                      intro v' w' own' hg' _
                      have HB5 : Hid (Below w.heap.size w w') := Lib.hid ((below_then HBJ.out (below_alloc wr _)).grown hg' (by simp; omega) (fun r e => (HJ.out.lt r e).1))
                      rw [← ivs_append, ← Bl.rep_next] at own'
                      have HO5 := Lib.hid own'
                      clear own' hg' hsrc HJ HBJ hzj
                      go_wp2
                      go_roundw
                      case rel => exact ⟨j + 1, by omega, by go_num, HO5, HB5⟩
                      case measure => simp [intOf]; omega
                    · obtain rfl : N = j := by omega
                      have HO5 : Hid (wr.ownsRow w.heap.size 3 1 u4 (o ++ List.replicate N (0)).length (ivs (o ++ List.replicate N (0)))) := Lib.hid (by rw [List.length_append, List.length_replicate, HL.out]; exact HJ.out)
                      go_wp2
                      go_roundw
                      case rel => exact ⟨k + 1, _, by omega, by go_num, HY2, HO5, HBJ⟩
                      case measure => simp [intOf]; omega
                · have HP : Hid (∀ d, Bl.UnPost w (Bl.unr F n) (.returned (.tuple #[.slice none 0 0, .iface 33 (.int .i64 6)])) ((wr.alloc (.cells #[.int .i64 18, .int .i64 (z : Nat)] 29)).drewN d)) := Lib.hid (fun d => Bl.UnPost.no (HNO.out (Bl.stp_no (o := o) (y := 18) (x := ((z : Nat) : Int)) (fun h => h4 (by simpa [Bl.top] using h.2.2.2)))) (below_drewN HB1.out d))
                  have d5 : decide (128 ≤ ((z : Nat) : Int)) = true := decide_eq_true (by omega)
                  clear HNO HST HB1 HO1 H HF HV
                  go_wp2_with fail
                  refine HRB.out.mono ?_
                  rintro e w5 ⟨rfl, rfl⟩
                  clear HRB
                  go_wp2_with fail
                  go_quiet (fail)
                  go_wp2
                  go_ret2
                  exact HP.out _
              · have d8 : (y == 18) = false := by simpa using e8
                have d9 : decide (y < 16) = true := decide_eq_true (by omega)
                have HV : Hid (Bl.val o y = y) := Lib.hid (by unfold Bl.val; rw [if_neg e6, if_pos (by omega)])
                have htop : Bl.top y = 0 := by unfold Bl.top; rw [if_neg e6, if_neg e7, if_neg e8]
                have hbase : Bl.base y = 1 := by unfold Bl.base; rw [if_neg e6, if_neg e7, if_neg e8]
                have hbits : Bl.bits y = 0 := by unfold Bl.bits; rw [if_neg e6, if_neg e7, if_neg e8]
                rw [show ((Bl.base y : Nat) : Int) = 1 by rw [hbase]; rfl, show ((Bl.bits y : Nat) : Int) = 0 by rw [hbits]; rfl] at HRB
                by_cases h4 : ((z : Nat) : Int) ≤ 0
                · have HY := Lib.hid (Bl.stp_yes (o := o) (y := y) (x := ((z : Nat) : Int)) ⟨by omega, by omega, by omega, by rw [htop]; exact h4⟩ hne)
                  have hz : z ≤ 0 := by omega
                  obtain ⟨N, hN⟩ : ∃ N, 1 + z = N := ⟨_, rfl⟩
                  have HY2 : Hid (Bl.unr F (k + 1) = some (o ++ List.replicate N (y))) := Lib.hid (by rw [HST.out, HY.out, HV.out, ← hN]; rw [hbase]; congr 3)
                  have hN2 : N ≤ 138 := by omega
                  have d5 : decide (1 ≤ ((z : Nat) : Int)) = false := decide_eq_false (by omega)
                  have HN := Lib.hid hN
                  clear HST HNO HY HV hN
                  go_wp2_with fail
                  refine HRB.out.mono ?_
                  rintro e w5 ⟨rfl, rfl⟩
                  clear HRB
                  go_wp2_with fail
                  go_quiet (fail)
                  go_wp2_with fail
                  have eN : (1 + ((z : Nat) : Int)) = ((N : Nat) : Int) := by have := HN.out; omega
                  rw [eN]
                  have HO2 : Hid (∀ d, ((wr.alloc (.cells #[.int .i64 (y), .int .i64 (z : Nat)] 29)).drewN d).ownsRow w.heap.size 3 1 (.slice ao (L) co) (L) (ivs o)) := Lib.hid (fun d => own_below HO1.out (drewN_is _ d))
                  have HB2 : Hid (∀ d, Below w.heap.size w ((wr.alloc (.cells #[.int .i64 (y), .int .i64 (z : Nat)] 29)).drewN d)) := Lib.hid (fun d => below_drewN HB1.out d)
                  clear eN t1 t2 c0 c1 d3 d5 HIN HW1 HW2 h4 hz HO1 HB1 d6 d7 d8 d9 hne e6 e7 e8 h1 h2 htop hbase hbits
                  go_loopw [4, 69] (fun u kk wx => ∃ j : Nat, j ≤ N ∧ kk = .int .i64 j ∧ Hid (wx.ownsRow w.heap.size 3 1 u (L + j) (ivs (o ++ List.replicate j (y)))) ∧ Hid (Below w.heap.size w wx)) (fun _ kk _ => N - (intOf kk).toNat)
                  case atStart => exact ⟨0, by omega, rfl, Lib.hid (by have := HO2.out; simpa using this _), Lib.hid (HB2.out _)⟩
                  case round =>
                    obtain ⟨j, hj, rfl, HJ, HBJ⟩ := hrel
                    clear HO2 HB2
                    by_cases hjl : j < N
                    · have hsrc := src_int wr (y)
                      have hzj := HBJ.out.size
                      go_wp2_with (at_builtin; refine wpl_append tyI rfl _ _ rfl (own_below HJ.out (below_alloc wr _)) hsrc rfl rfl (by omega) (by omega) (by simp; omega) ?_)
                      intro v' w' own' hg' _
                      have HB5 : Hid (Below w.heap.size w w') := Lib.hid ((below_then HBJ.out (below_alloc wr _)).grown hg' (by simp; omega) (fun r e => (HJ.out.lt r e).1))
                      rw [← ivs_append, ← Bl.rep_next] at own'
                      have HO5 := Lib.hid own'
                      clear own' hg' hsrc HJ HBJ hzj
                      go_wp2
                      go_roundw
                      case rel => exact ⟨j + 1, by omega, by go_num, HO5, HB5⟩
                      case measure => simp [intOf]; omega
                    · obtain rfl : N = j := by omega
                      have HO5 : Hid (wr.ownsRow w.heap.size 3 1 u4 (o ++ List.replicate N (y)).length (ivs (o ++ List.replicate N (y)))) := Lib.hid (by rw [List.length_append, List.length_replicate, HL.out]; exact HJ.out)
                      go_wp2
                      go_roundw
                      case rel => exact ⟨k + 1, _, by omega, by go_num, HY2, HO5, HBJ⟩
                      case measure => simp [intOf]; omega
                · have HP : Hid (∀ d, Bl.UnPost w (Bl.unr F n) (.returned (.tuple #[.slice none 0 0, .iface 33 (.int .i64 6)])) ((wr.alloc (.cells #[.int .i64 y, .int .i64 (z : Nat)] 29)).drewN d)) := Lib.hid (fun d => Bl.UnPost.no (HNO.out (Bl.stp_no (o := o) (y := y) (x := ((z : Nat) : Int)) (fun h => h4 (by rw [← htop]; exact h.2.2.2)))) (below_drewN HB1.out d))
                  have d5 : decide (1 ≤ ((z : Nat) : Int)) = true := decide_eq_true (by omega)
                  clear HNO HST HB1 HO1 H HF HV
                  go_wp2_with fail
                  refine HRB.out.mono ?_
                  rintro e w5 ⟨rfl, rfl⟩
                  clear HRB
                  go_wp2_with fail
                  go_quiet (fail)
                  go_wp2
                  go_ret2
                  exact HP.out _
    · obtain rfl : n = k := by omega
      have HP : Hid (Bl.UnPost w (Bl.unr F n) (.returned (.tuple #[.slice ao o.length co, .nilIface])) wr) := Lib.hid (by rw [HU.out]; exact ⟨HB.out, _, rfl, HO.out⟩)
      clear HU HO HB H HF
      go_wp2
      go_ret2
      exact HP.out
end Go.Proofs.Ytnpgnmghkooonaa
