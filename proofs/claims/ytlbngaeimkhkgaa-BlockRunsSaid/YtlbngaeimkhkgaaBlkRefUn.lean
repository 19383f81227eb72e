/- The document's lengths of runs: its contract. Made by gen_blkref.py. -/
import Derived.Test.YtlbngaeimkhkgaaBlkMath
import Derived.Test.YtlbngaeimkhkgaaCh
namespace Go.Proofs.Ytlbngaeimkhkgaa
open Go.RowKit

def Bl.UnrPost (w : World) (r : Option (List Int)) (e : Ending) (w' : World) : Prop :=
  Below w.heap.size w w' ∧ match r with
  | none => e = .returned (.tuple #[.slice none 0 0, .bool false])
  | some o => ∃ v, e = .returned (.tuple #[v, .bool true]) ∧ w'.ownsRow w.heap.size 3 1 v o.length (ivs o)
theorem Bl.UnrPost.no {w w' : World} {r : Option (List Int)} (h : r = none) (hb : Below w.heap.size w w') : Bl.UnrPost w r (.returned (.tuple #[.slice none 0 0, .bool false])) w' := by
  subst h; exact ⟨hb, rfl⟩
theorem own_slice1 {w : World} {base n : Nat} {v : Value} {l : List Int} (h : w.ownsRow base 3 1 v n (ivs l)) : ∃ a cap, v = .slice a n cap := by
  rcases own_nil_or h with ⟨rfl, rfl⟩ | ⟨g, cap, rfl, _⟩
  · exact ⟨none, 0, rfl⟩
  · exact ⟨_, cap, rfl⟩
set_option maxRecDepth 100000 in
set_option maxHeartbeats 4000000 in
theorem refUnr_any (a b : Option Addr) (n c m c' : Nat) (ss es : List Int) (w : World) (h : Is .i64 w a n c ss) (h' : Is .i64 w b m c' es) (hm : n ≤ m) (hn : n ≤ 3000) (F : Nat → Int × Int) (hF : ∀ k, k < n → F k = (ss.getD k 0, es.getD k 0)) :
    Calls Try.prog 8 #[.slice a n c, .slice b m c'] w (Bl.UnrPost w (Bl.unr F n)) := by
  have H := Lib.hid h
  have H' := Lib.hid h'
  have HF := Lib.hid hF
  clear h h' hF
  go_enter Try.func8, Try.ntmps8
  go_wp2
  go_loopw [6, 7] (fun ov iv wr => ∃ (k : Nat) (o : List Int), k ≤ n ∧ iv = .int .i64 k ∧ Hid (Bl.unr F k = some o) ∧ Hid (wr.ownsRow w.heap.size 3 1 ov o.length (ivs o)) ∧ Hid (Below w.heap.size w wr)) (fun _ iv _ => n - (intOf iv).toNat)
  case atStart => exact ⟨0, [], by omega, rfl, Lib.hid rfl, Lib.hid (World.ownsRow_nil _ _ _ _), Lib.hid (Below.refl _ _)⟩
  case round =>
    obtain ⟨k, o, hk, rfl, HU, HO, HB⟩ := hrel
    obtain ⟨ao, co, rfl⟩ := own_slice1 HO.out
    by_cases hlt : k < n
    · obtain ⟨b1, off1, rfl, _, t1⟩ := (H.out.mono HB.out).at' k hlt
      obtain ⟨b2, off2, rfl, _, t2⟩ := (H'.out.mono HB.out).at' k (by omega)
      have hlm : k < m := by omega
      have w1 := H.out.getW k hlt
      have w2 := H'.out.getW k hlm
      have hFk := HF.out k hlt
      generalize ss.getD k 0 = y at *
      generalize es.getD k 0 = x at *
      have HST : Hid (Bl.unr F (k + 1) = Bl.stp o (y, x)) := Lib.hid (by rw [Bl.unr_next HU.out, hFk])
      have HNO : Hid (Bl.stp o (y, x) = none → Bl.unr F n = none) := Lib.hid (fun h => Bl.unr_no HU.out (by rw [hFk]; exact h) hlt)
      obtain ⟨HIN, hol⟩ := Bl.unr_in HU.out
      have HIN := Lib.hid HIN
      have hol : o.length ≤ 414000 := by omega
      clear hFk HU
      have HW1 := Lib.hid w1
      have HW2 := Lib.hid w2
      clear w1 w2
      by_cases hbad : ¬ (0 ≤ y ∧ y ≤ 18 ∧ 0 ≤ x)
      · have HP := Lib.hid (Bl.UnrPost.no (HNO.out (Bl.stp_no (fun h => hbad ⟨h.1, h.2.1, h.2.2.1⟩))) HB.out)
        clear HO HNO HST HB H H' HF
        by_cases h1 : y < 0
        · have d1 : decide (y < 0) = true := decide_eq_true h1
          clear hbad h1
          go_wp2
          go_ret2
          exact HP.out
        · have d1 : decide (y < 0) = false := decide_eq_false h1
          by_cases h2 : 18 < y
          · have d2 : decide (18 < y) = true := decide_eq_true h2
            clear hbad
            go_wp2
            go_ret2
            exact HP.out
          · have d2 : decide (18 < y) = false := decide_eq_false h2
            have d3 : decide (x < 0) = true := decide_eq_true (by omega)
            clear hbad
            go_wp2
            go_ret2
            exact HP.out
      · have h1 : 0 ≤ y := by omega
        have h2 : y ≤ 18 := by omega
        obtain ⟨z, rfl⟩ := Int.eq_ofNat_of_zero_le (show 0 ≤ x by omega)
        have d1 : decide (y < 0) = false := decide_eq_false (by omega)
        have d2 : decide (18 < y) = false := decide_eq_false (by omega)
        have d3 : decide (((z : Nat) : Int) < 0) = false := decide_eq_false (by omega)
        clear hbad
        by_cases e6 : y = 16
        · subst e6
          by_cases h0 : o.length = 0
          · have HP := Lib.hid (Bl.UnrPost.no (HNO.out (by unfold Bl.stp; rw [if_neg (fun h => h.2 rfl h0)])) HB.out)
            have eo : o = [] := List.eq_nil_of_length_eq_zero h0
            subst eo
            simp only [List.length_nil] at *
            clear HO HNO HST HB H H' HF
            go_wp2
            go_ret2
            exact HP.out
          · obtain ⟨q, hq⟩ : ∃ q, o.length = q + 1 := ⟨o.length - 1, by omega⟩
            have HOQ := HO
            rw [hq] at HOQ
            have hne : (16 : Int) = 16 → o.length ≠ 0 := fun _ => h0
            have HV : Hid (Bl.val o 16 = o.getD q 0) := Lib.hid (by unfold Bl.val; rw [if_pos rfl, hq]; rfl)
            obtain ⟨g, hg⟩ : ∃ g, ao = some ⟨g, 0, none⟩ := by
              rcases own_nil_or HO.out with ⟨_, h0'⟩ | ⟨g, cap, h0', _⟩
              · exact absurd h0' h0
              · simp only [Value.slice.injEq] at h0'; exact ⟨g, h0'.1⟩
            subst hg
            have cq : wr.cell? ⟨g, q, none⟩ = some (.int .i64 (o.getD q 0)) := by
              rw [HO.out.cellAt q (by omega), ivs_get _ _ (by omega)]
            rw [hq]
            have HVI := Lib.hid (HIN.out.get q)
            have hq2 : q ≤ 414000 := by omega
            have i0 : (0 : Int) ≤ (q : Int) := by omega
            have i1 : (q : Int) < (q : Int) + 1 := by omega
            have HO := HOQ
            have HL := Lib.hid hq
            clear hq h0 HOQ
            generalize o.getD q 0 = vq at *
            by_cases h4 : ((z : Nat) : Int) ≤ 3
            · have HY := Lib.hid (Bl.stp_yes (o := o) (y := 16) (x := ((z : Nat) : Int)) ⟨by omega, by omega, by omega, by simpa [Bl.top] using h4⟩ hne)
              have hz : z ≤ 3 := by omega
              obtain ⟨N, hN⟩ : ∃ N, 3 + z = N := ⟨_, rfl⟩
              have HY2 : Hid (Bl.unr F (k + 1) = some (o ++ List.replicate N (vq))) := Lib.hid (by rw [HST.out, HY.out, HV.out, ← hN]; congr 3)
              have hN2 : N ≤ 138 := by omega
              have d5 : decide (3 < ((z : Nat) : Int)) = false := decide_eq_false (by omega)
              have HN := Lib.hid hN
              clear HST HNO HY HV hN
              go_wp2_with fail
              have eN : (3 + ((z : Nat) : Int)) = ((N : Nat) : Int) := by have := HN.out; omega
              rw [eN]
              clear eN
              clear t1 t2 cq d1 d2 d3 d5 HIN HW1 HW2 h4 hz
              go_loopw [6, 13] (fun u kk wx => ∃ j : Nat, j ≤ N ∧ kk = .int .i64 j ∧ Hid (wx.ownsRow w.heap.size 3 1 u (q + 1 + j) (ivs (o ++ List.replicate j (vq)))) ∧ Hid (Below w.heap.size w wx)) (fun _ kk _ => N - (intOf kk).toNat)
              case atStart => exact ⟨0, by omega, rfl, Lib.hid (by simpa using HO.out), HB⟩
              case round =>
                obtain ⟨j, hj, rfl, HJ, HBJ⟩ := hrel
                by_cases hjl : j < N
                · have hsrc := src_int wr (vq)
                  have hzj := HBJ.out.size
                  go_wp2_with (at_builtin; refine wpl_append tyI rfl _ _ rfl (own_below HJ.out (below_alloc wr _)) hsrc rfl rfl (by omega) (by omega) (by simp; omega) ?_)
                  intro v' w' own' hg' _
                  have HB5 : Hid (Below w.heap.size w w') := Lib.hid ((below_then HBJ.out (below_alloc wr _)).grown hg' (by simp; omega) (fun r e => (HJ.out.lt r e).1))
                  rw [← ivs_append, ← Bl.rep_next] at own'
                  have HO5 := Lib.hid own'
                  clear own' hg' hsrc HJ HBJ hzj
                  go_wp2
                  go_roundw
                  case rel => exact ⟨j + 1, by omega, by go_num, HO5, HB5⟩
                  case measure => simp [intOf]; omega
                · obtain rfl : N = j := by omega
                  have HO5 : Hid (wr.ownsRow w.heap.size 3 1 u6 (o ++ List.replicate N (vq)).length (ivs (o ++ List.replicate N (vq)))) := Lib.hid (by rw [List.length_append, List.length_replicate, HL.out]; exact HJ.out)
                  go_wp2
                  go_roundw
                  case rel => exact ⟨k + 1, _, by omega, by go_num, HY2, HO5, HBJ⟩
                  case measure => simp [intOf]; omega
            · have HP := Lib.hid (Bl.UnrPost.no (HNO.out (Bl.stp_no (o := o) (y := 16) (x := ((z : Nat) : Int)) (fun h => h4 (by simpa [Bl.top] using h.2.2.2)))) HB.out)
              have d5 : decide (3 < ((z : Nat) : Int)) = true := decide_eq_true (by omega)
              clear HO HNO HST HB H H' HF HV
              go_wp2
              go_ret2
              exact HP.out
        · have d6 : (y == 16) = false := by simpa using e6
          have hne : y = 16 → o.length ≠ 0 := fun e => absurd e e6
          obtain ⟨L, hL⟩ : ∃ L, o.length = L := ⟨_, rfl⟩
          rw [hL] at HO
          rw [hL]
          have HL := Lib.hid hL
          have hL2 : L ≤ 414000 := by omega
          clear hL
          by_cases e7 : y = 17
          · subst e7
            have HV : Hid (Bl.val o 17 = 0) := Lib.hid rfl
            by_cases h4 : ((z : Nat) : Int) ≤ 7
            · have HY := Lib.hid (Bl.stp_yes (o := o) (y := 17) (x := ((z : Nat) : Int)) ⟨by omega, by omega, by omega, by simpa [Bl.top] using h4⟩ hne)
              have hz : z ≤ 7 := by omega
              obtain ⟨N, hN⟩ : ∃ N, 3 + z = N := ⟨_, rfl⟩
              have HY2 : Hid (Bl.unr F (k + 1) = some (o ++ List.replicate N (0))) := Lib.hid (by rw [HST.out, HY.out, HV.out, ← hN]; congr 3)
              have hN2 : N ≤ 138 := by omega
              have d5 : decide (7 < ((z : Nat) : Int)) = false := decide_eq_false (by omega)
              have HN := Lib.hid hN
              clear HST HNO HY HV hN
              go_wp2_with fail
              have eN : (3 + ((z : Nat) : Int)) = ((N : Nat) : Int) := by have := HN.out; omega
              rw [eN]
              clear eN
              clear t1 t2  d1 d2 d3 d5 HIN HW1 HW2 h4 hz
              go_loopw [6, 13] (fun u kk wx => ∃ j : Nat, j ≤ N ∧ kk = .int .i64 j ∧ Hid (wx.ownsRow w.heap.size 3 1 u (L + j) (ivs (o ++ List.replicate j (0)))) ∧ Hid (Below w.heap.size w wx)) (fun _ kk _ => N - (intOf kk).toNat)
              case atStart => exact ⟨0, by omega, rfl, Lib.hid (by simpa using HO.out), HB⟩
              case round =>
                obtain ⟨j, hj, rfl, HJ, HBJ⟩ := hrel
                by_cases hjl : j < N
                · have hsrc := src_int wr (0)
                  have hzj := HBJ.out.size
                  go_wp2_with (at_builtin; refine wpl_append tyI rfl _ _ rfl (own_below HJ.out (below_alloc wr _)) hsrc rfl rfl (by omega) (by omega) (by simp; omega) ?_)
                  intro v' w' own' hg' _
                  have HB5 : Hid (Below w.heap.size w w') := Lib.hid ((below_then HBJ.out (below_alloc wr _)).grown hg' (by simp; omega) (fun r e => (HJ.out.lt r e).1))
                  rw [← ivs_append, ← Bl.rep_next] at own'
                  have HO5 := Lib.hid own'
                  clear own' hg' hsrc HJ HBJ hzj
                  go_wp2
                  go_roundw
                  case rel => exact ⟨j + 1, by omega, by go_num, HO5, HB5⟩
                  case measure => simp [intOf]; omega
                · obtain rfl : N = j := by omega
                  have HO5 : Hid (wr.ownsRow w.heap.size 3 1 u6 (o ++ List.replicate N (0)).length (ivs (o ++ List.replicate N (0)))) := Lib.hid (by rw [List.length_append, List.length_replicate, HL.out]; exact HJ.out)
                  go_wp2
                  go_roundw
                  case rel => exact ⟨k + 1, _, by omega, by go_num, HY2, HO5, HBJ⟩
                  case measure => simp [intOf]; omega
            · have HP := Lib.hid (Bl.UnrPost.no (HNO.out (Bl.stp_no (o := o) (y := 17) (x := ((z : Nat) : Int)) (fun h => h4 (by simpa [Bl.top] using h.2.2.2)))) HB.out)
              have d5 : decide (7 < ((z : Nat) : Int)) = true := decide_eq_true (by omega)
              clear HO HNO HST HB H H' HF HV
              go_wp2
              go_ret2
              exact HP.out
          · have d7 : (y == 17) = false := by simpa using e7
            by_cases e8 : y = 18
            · subst e8
              have HV : Hid (Bl.val o 18 = 0) := Lib.hid rfl
              by_cases h4 : ((z : Nat) : Int) ≤ 127
              · have HY := Lib.hid (Bl.stp_yes (o := o) (y := 18) (x := ((z : Nat) : Int)) ⟨by omega, by omega, by omega, by simpa [Bl.top] using h4⟩ hne)
                have hz : z ≤ 127 := by omega
                obtain ⟨N, hN⟩ : ∃ N, 11 + z = N := ⟨_, rfl⟩
                have HY2 : Hid (Bl.unr F (k + 1) = some (o ++ List.replicate N (0))) := Lib.hid (by rw [HST.out, HY.out, HV.out, ← hN]; congr 3)
                have hN2 : N ≤ 138 := by omega
                have d5 : decide (127 < ((z : Nat) : Int)) = false := decide_eq_false (by omega)
                have HN := Lib.hid hN
                clear HST HNO HY HV hN
                go_wp2_with fail
                have eN : (11 + ((z : Nat) : Int)) = ((N : Nat) : Int) := by have := HN.out; omega
                rw [eN]
                clear eN
                clear t1 t2  d1 d2 d3 d5 HIN HW1 HW2 h4 hz
                go_loopw [6, 13] (fun u kk wx => ∃ j : Nat, j ≤ N ∧ kk = .int .i64 j ∧ Hid (wx.ownsRow w.heap.size 3 1 u (L + j) (ivs (o ++ List.replicate j (0)))) ∧ Hid (Below w.heap.size w wx)) (fun _ kk _ => N - (intOf kk).toNat)
                case atStart => exact ⟨0, by omega, rfl, Lib.hid (by simpa using HO.out), HB⟩
                case round =>
                  obtain ⟨j, hj, rfl, HJ, HBJ⟩ := hrel
                  by_cases hjl : j < N
                  · have hsrc := src_int wr (0)
                    have hzj := HBJ.out.size
                    go_wp2_with (at_builtin; refine wpl_append tyI rfl _ _ rfl (own_below HJ.out (below_alloc wr _)) hsrc rfl rfl (by omega) (by omega) (by simp; omega) ?_)
                    intro v' w' own' hg' _
                    have HB5 : Hid (Below w.heap.size w w') := Lib.hid ((below_then HBJ.out (below_alloc wr _)).grown hg' (by simp; omega) (fun r e => (HJ.out.lt r e).1))
                    rw [← ivs_append, ← Bl.rep_next] at own'
                    have HO5 := Lib.hid own'
                    clear own' hg' hsrc HJ HBJ hzj
                    go_wp2
                    go_roundw
                    case rel => exact ⟨j + 1, by omega, by go_num, HO5, HB5⟩
                    case measure => simp [intOf]; omega
                  · obtain rfl : N = j := by omega
                    have HO5 : Hid (wr.ownsRow w.heap.size 3 1 u6 (o ++ List.replicate N (0)).length (ivs (o ++ List.replicate N (0)))) := Lib.hid (by rw [List.length_append, List.length_replicate, HL.out]; exact HJ.out)
                    go_wp2
                    go_roundw
                    case rel => exact ⟨k + 1, _, by omega, by go_num, HY2, HO5, HBJ⟩
                    case measure => simp [intOf]; omega
              · have HP := Lib.hid (Bl.UnrPost.no (HNO.out (Bl.stp_no (o := o) (y := 18) (x := ((z : Nat) : Int)) (fun h => h4 (by simpa [Bl.top] using h.2.2.2)))) HB.out)
                have d5 : decide (127 < ((z : Nat) : Int)) = true := decide_eq_true (by omega)
                clear HO HNO HST HB H H' HF HV
                go_wp2
                go_ret2
                exact HP.out
            · have d8 : (y == 18) = false := by simpa using e8
              have HV : Hid (Bl.val o y = y) := Lib.hid (by unfold Bl.val; rw [if_neg e6, if_pos (by omega)])
              have htop : Bl.top y = 0 := by unfold Bl.top; rw [if_neg e6, if_neg e7, if_neg e8]
              have hbase : Bl.base y = 1 := by unfold Bl.base; rw [if_neg e6, if_neg e7, if_neg e8]
              by_cases h4 : ((z : Nat) : Int) ≤ 0
              · have HY := Lib.hid (Bl.stp_yes (o := o) (y := y) (x := ((z : Nat) : Int)) ⟨by omega, by omega, by omega, by rw [htop]; exact h4⟩ hne)
                have hz : z ≤ 0 := by omega
                obtain ⟨N, hN⟩ : ∃ N, 1 = N := ⟨_, rfl⟩
                have HY2 : Hid (Bl.unr F (k + 1) = some (o ++ List.replicate N (y))) := Lib.hid (by rw [HST.out, HY.out, HV.out, ← hN]; rw [hbase]; congr 3; omega)
                have hN2 : N ≤ 138 := by omega
                have d5 : decide (0 < z) = false := decide_eq_false (by omega)
                have HN := Lib.hid hN
                clear HST HNO HY HV hN
                go_wp2_with fail
                skip
                clear t1 t2  d1 d2 d3 d5 HIN HW1 HW2 h4 hz d6 d7 d8 hne e6 e7 e8 h1 h2 htop hbase
                go_loopw [6, 13] (fun u kk wx => ∃ j : Nat, j ≤ N ∧ kk = .int .i64 j ∧ Hid (wx.ownsRow w.heap.size 3 1 u (L + j) (ivs (o ++ List.replicate j (y)))) ∧ Hid (Below w.heap.size w wx)) (fun _ kk _ => N - (intOf kk).toNat)
                case atStart => exact ⟨0, by omega, rfl, Lib.hid (by simpa using HO.out), HB⟩
                case round =>
                  obtain ⟨j, hj, rfl, HJ, HBJ⟩ := hrel
                  by_cases hjl : j < N
                  · have hsrc := src_int wr (y)
                    have hzj := HBJ.out.size
                    have dj : decide ((j : Int) < 1) = true := decide_eq_true (by have := HN.out; omega)
                    go_wp2_with (at_builtin; refine wpl_append tyI rfl _ _ rfl (own_below HJ.out (below_alloc wr _)) hsrc rfl rfl (by omega) (by omega) (by simp; omega) ?_)
                    intro v' w' own' hg' _
                    have HB5 : Hid (Below w.heap.size w w') := Lib.hid ((below_then HBJ.out (below_alloc wr _)).grown hg' (by simp; omega) (fun r e => (HJ.out.lt r e).1))
                    rw [← ivs_append, ← Bl.rep_next] at own'
                    have HO5 := Lib.hid own'
                    clear own' hg' hsrc HJ HBJ hzj dj
                    go_wp2
                    go_roundw
                    case rel => exact ⟨j + 1, by omega, by go_num, HO5, HB5⟩
                    case measure => simp [intOf]; omega
                  · obtain rfl : N = j := by omega
                    have HO5 : Hid (wr.ownsRow w.heap.size 3 1 u6 (o ++ List.replicate N (y)).length (ivs (o ++ List.replicate N (y)))) := Lib.hid (by rw [List.length_append, List.length_replicate, HL.out]; exact HJ.out)
                    have dj : decide ((N : Int) < 1) = false := decide_eq_false (by have := HN.out; omega)
                    go_wp2
                    go_roundw
                    case rel => exact ⟨k + 1, _, by omega, by go_num, HY2, HO5, HBJ⟩
                    case measure => simp [intOf]; omega
              · have HP := Lib.hid (Bl.UnrPost.no (HNO.out (Bl.stp_no (o := o) (y := y) (x := ((z : Nat) : Int)) (fun h => h4 (by rw [← htop]; exact h.2.2.2)))) HB.out)
                have d5 : decide (0 < ((z : Nat) : Int)) = true := decide_eq_true (by omega)
                clear HO HNO HST HB H H' HF HV
                go_wp2
                go_ret2
                exact HP.out
    · obtain rfl : n = k := by omega
      have HP : Hid (Bl.UnrPost w (Bl.unr F n) (.returned (.tuple #[.slice ao o.length co, .bool true])) wr) := Lib.hid (by rw [HU.out]; exact ⟨HB.out, _, rfl, HO.out⟩)
      clear HU HO HB H H' HF
      go_wp2
      go_ret2
      exact HP.out
end Go.Proofs.Ytlbngaeimkhkgaa
