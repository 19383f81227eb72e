/- block.stretch: its contract. Made by gen_blkstretch.py. A slice of ints, cut off. block.Runs: its contract. What the runs of lengths stand for. Tokens, and what they come to: their type. -/
import Derived.Test.YtpoilaappcjbeaaGreatDoorZ3
import Derived.Deep.RegionHeld3
set_option linter.unusedSimpArgs false
set_option linter.unusedVariables false
section
namespace Go.Proofs.YtpoilaappcjbeaaGreatDoor
open Go.RowKit

def Bl.StPost (w : World) (y : Int) (c : Nat) (e : Ending) (w' : World) : Prop :=
  ∃ v rs, e = .returned v ∧ w'.ownsRow w.heap.size 132 2 v rs.length (tks rs) ∧ Bl.Got y c rs ∧ rs = Bl.stF y c ∧ Below w.heap.size w w'
theorem own_runs1 {w : World} {base n : Nat} {v : Value} {l : List Tok} (h : w.ownsRow base 132 2 v n (tks l)) : ∃ a cap, v = .slice a n cap := by
  rcases own_nil_or h with ⟨rfl, rfl⟩ | ⟨g, cap, rfl, _⟩
  · exact ⟨none, 0, rfl⟩
  · exact ⟨_, cap, rfl⟩
set_option maxRecDepth 100000 in
set_option maxHeartbeats 4000000 in
theorem stretch_zero (c : Nat) (w : World) (hc2 : c ≤ 3000) : Calls Tryz.prog 104 #[.int .i64 0, .int .i64 (c : Nat)] w (Bl.StPost w 0 c) := by
  have hb0 := below_alloc w (.cells #[.int .i64 18, .int .i64 17] 3)
  have hrow : (w.alloc (.cells #[.int .i64 18, .int .i64 17] 3)).heap[w.heap.size]? = some (.cells #[.int .i64 18, .int .i64 17] 3 (0, 0)) := heap_alloc_last w _
  have c0 : (w.alloc (.cells #[.int .i64 18, .int .i64 17] 3)).cell? ⟨w.heap.size, 0, none⟩ = some (.int .i64 18) := by rw [cell_of_row _ _ _ _ _ (0, 0) hrow]; rfl
  have c1 : (w.alloc (.cells #[.int .i64 18, .int .i64 17] 3)).cell? ⟨w.heap.size, 1, none⟩ = some (.int .i64 17) := by rw [cell_of_row _ _ _ _ _ (0, 0) hrow]; rfl
  have HB0 := Lib.hid hb0
  have HC0 := Lib.hid c0
  have HC1 := Lib.hid c1
  have HG : Hid (w.heap.size < (w.alloc (.cells #[.int .i64 18, .int .i64 17] 3)).heap.size) := Lib.hid (by simp)
  clear hb0 hrow c0 c1
  go_enter Tryz.func104, Tryz.ntmps104
  go_wp2
  revert HB0 HC0 HC1 HG
  generalize World.alloc _ _ = w0
  intro HB0 HC0 HC1 HG
  go_loopw [1, 5, 26] (fun cv ov iv wr => ∃ (i d r : Nat) (rs : List Tok), i ≤ 2 ∧ iv = .int .i64 i ∧ cv = .int .i64 (r : Nat) ∧ Hid (d + r = c) ∧ Hid (Bl.zs c i = (rs, r)) ∧ Hid (Bl.Got (0) d rs) ∧ Hid (wr.ownsRow w0.heap.size 132 2 ov rs.length (tks rs)) ∧ Hid (Below w0.heap.size w0 wr)) (fun _ _ iv _ => 2 - (intOf iv).toNat)
  case atStart => exact ⟨0, 0, c, [], by omega, rfl, rfl, Lib.hid (by omega), Lib.hid rfl, Lib.hid (Bl.Got.nil 0), Lib.hid (World.ownsRow_nil _ _ _ _), Lib.hid (Below.refl _ _)⟩
  case round =>
    obtain ⟨i, d, r, rs, hi, rfl, rfl, HS, HE, HGT, HO, HB⟩ := hrel
    obtain ⟨va, vc, rfl⟩ := own_runs1 HO.out
    by_cases hi0 : i = 0
    · subst hi0
      have ck : wr.cell? ⟨w.heap.size, 0, none⟩ = some (.int .i64 18) := (HB.out.cell (p := ⟨w.heap.size, 0, none⟩) HG.out).trans HC0.out
      have hrl : r ≤ 3000 := by have := HS.out; omega
      have HRB := Lib.hid (runBase_any 18 wr)
      rw [show Bl.rb 18 = .tuple #[.int .i64 11, .int .i64 7, .bool true] from rfl] at HRB
      go_wp2_with fail
      refine HRB.out.mono ?_
      rintro e w5 ⟨rfl, rfl⟩
      clear HRB ck
      go_wp2_with fail
      go_loopw [1, 5, 12] (fun cv ov xv wx => ∃ (d r : Nat) (rs : List Tok), cv = .int .i64 (r : Nat) ∧ Hid (d + r = c) ∧ Hid (Bl.go 18 11 127 rs r = (Bl.zs c) 1) ∧ Hid (Bl.Got (0) d rs) ∧ Hid (wx.ownsRow w0.heap.size 132 2 ov rs.length (tks rs)) ∧ Hid (Below w0.heap.size w0 wx)) (fun cv _ _ _ => (intOf cv).toNat)
      case atStart => exact ⟨d, r, rs, rfl, HS, Lib.hid (by rw [show (Bl.zs c) 1 = Bl.go 18 11 127 ((Bl.zs c) 0).1 ((Bl.zs c) 0).2 from rfl, HE.out]), HGT, HO, HB⟩
      case round =>
        clear HS HE HGT HO HB hrl
        obtain ⟨d, r, rs, rfl, HS, HE, HGT, HO, HB⟩ := hrel
        have hrl : r ≤ 3000 := by have := HS.out; omega
        have hmx : rs.length ≤ 3000 := by have := HGT.out.le; have := HS.out; omega
        by_cases hb : 11 ≤ r
        · obtain ⟨q, rfl⟩ : ∃ q, r = q + 11 := ⟨r - 11, by omega⟩
          by_cases hq : (q : Int) ≤ 127
          · have hmin : min (q : Int) 127 = (q : Int) := by omega
            have hsrc := src_run wr ((18 : Int), ((q : Nat) : Int))
            have hz := HB.out.size
            have HG2 : Hid (Bl.Got (0) (d + (11 + q)) (rs ++ [(18, ((q : Nat) : Int))])) := Lib.hid (Bl.Got.zeros (s := 18) (z := q) HGT.out (by omega) (by show (((q : Nat)) : Int) ≤ 127; omega))
            have HE2 : Hid (Bl.go 18 11 127 (rs ++ [((18 : Int), ((q : Nat) : Int))]) 0 = (Bl.zs c) 1) := Lib.hid (by rw [← HE.out]; exact (Bl.go_step 18 (by omega) rs _ q 0 (by omega) (by omega) (by omega)).symm)
            have HS2 : Hid ((d + (11 + q)) + 0 = c) := Lib.hid (by have := HS.out; omega)
            go_wp2_with (at_builtin; refine wpl_append tyR rfl _ _ rfl (own_below HO.out (below_alloc wr _)) hsrc rfl rfl (by omega) (by omega) (by simp; omega) ?_)
            intro v' w' own' hg' _
            have HB5 : Hid (Below w0.heap.size w0 w') := Lib.hid ((below_then HB.out (below_alloc wr _)).grown hg' (by simp; omega) (fun r e => (HO.out.lt r e).1))
            rw [← tks_append] at own'
            have HO5 : Hid (w'.ownsRow w0.heap.size 132 2 v' (rs ++ [((18 : Int), ((q : Nat) : Int))]).length (tks (rs ++ [((18 : Int), ((q : Nat) : Int))]))) := Lib.hid (by rw [List.length_append]; exact own')
            clear own' hg' hsrc HO HB hz HGT HS HE
            go_wp2
            go_roundw
            case rel => exact ⟨_, 0, _, by first | go_num | (congr 1; omega), HS2, HE2, HG2, HO5, HB5⟩
            case measure => simp [intOf]; omega
          · have hmin : min (q : Int) 127 = 127 := by omega
            obtain ⟨p, rfl⟩ : ∃ p, q = p + 127 := ⟨q - 127, by omega⟩
            have hsrc := src_run wr ((18 : Int), (127 : Int))
            have hz := HB.out.size
            have HG2 : Hid (Bl.Got (0) (d + (11 + 127)) (rs ++ [(18, (127 : Int))])) := Lib.hid (Bl.Got.zeros (s := 18) (z := 127) HGT.out (by omega) (by show (((127 : Nat)) : Int) ≤ 127; omega))
            have HE2 : Hid (Bl.go 18 11 127 (rs ++ [((18 : Int), (127 : Int))]) p = (Bl.zs c) 1) := Lib.hid (by rw [← HE.out]; exact (Bl.go_step 18 (by omega) rs _ 127 p (by omega) (by omega) (by omega)).symm)
            have HS2 : Hid ((d + (11 + 127)) + p = c) := Lib.hid (by have := HS.out; omega)
            go_wp2_with (at_builtin; refine wpl_append tyR rfl _ _ rfl (own_below HO.out (below_alloc wr _)) hsrc rfl rfl (by omega) (by omega) (by simp; omega) ?_)
            intro v' w' own' hg' _
            have HB5 : Hid (Below w0.heap.size w0 w') := Lib.hid ((below_then HB.out (below_alloc wr _)).grown hg' (by simp; omega) (fun r e => (HO.out.lt r e).1))
            rw [← tks_append] at own'
            have HO5 : Hid (w'.ownsRow w0.heap.size 132 2 v' (rs ++ [((18 : Int), (127 : Int))]).length (tks (rs ++ [((18 : Int), (127 : Int))]))) := Lib.hid (by rw [List.length_append]; exact own')
            clear own' hg' hsrc HO HB hz HGT HS HE
            go_wp2
            go_roundw
            case rel => exact ⟨_, p, _, by first | go_num | (congr 1; omega), HS2, HE2, HG2, HO5, HB5⟩
            case measure => simp [intOf]; omega
        · have db : decide (((11 : Nat) : Int) ≤ (r : Int)) = false := decide_eq_false (by omega)
          have db2 : decide ((11 : Int) ≤ (r : Int)) = false := decide_eq_false (by omega)
          go_wp2
          go_roundw
          case rel => exact ⟨1, d, r, rs, by omega, by go_num, rfl, HS, Lib.hid (by rw [← HE.out, Bl.go_end _ _ _ _ _ (by omega)]), HGT, HO, HB⟩
          case measure => simp [intOf]
    · by_cases hi1 : i = 1
      · subst hi1
        have ck : wr.cell? ⟨w.heap.size, 1, none⟩ = some (.int .i64 17) := (HB.out.cell (p := ⟨w.heap.size, 1, none⟩) HG.out).trans HC1.out
        have hrl : r ≤ 3000 := by have := HS.out; omega
        have HRB := Lib.hid (runBase_any 17 wr)
        rw [show Bl.rb 17 = .tuple #[.int .i64 3, .int .i64 3, .bool true] from rfl] at HRB
        go_wp2_with fail
        refine HRB.out.mono ?_
        rintro e w5 ⟨rfl, rfl⟩
        clear HRB ck
        go_wp2_with fail
        go_loopw [1, 5, 12] (fun cv ov xv wx => ∃ (d r : Nat) (rs : List Tok), cv = .int .i64 (r : Nat) ∧ Hid (d + r = c) ∧ Hid (Bl.go 17 3 7 rs r = (Bl.zs c) 2) ∧ Hid (Bl.Got (0) d rs) ∧ Hid (wx.ownsRow w0.heap.size 132 2 ov rs.length (tks rs)) ∧ Hid (Below w0.heap.size w0 wx)) (fun cv _ _ _ => (intOf cv).toNat)
        case atStart => exact ⟨d, r, rs, rfl, HS, Lib.hid (by rw [show (Bl.zs c) 2 = Bl.go 17 3 7 ((Bl.zs c) 1).1 ((Bl.zs c) 1).2 from rfl, HE.out]), HGT, HO, HB⟩
        case round =>
          clear HS HE HGT HO HB hrl
          obtain ⟨d, r, rs, rfl, HS, HE, HGT, HO, HB⟩ := hrel
          have hrl : r ≤ 3000 := by have := HS.out; omega
          have hmx : rs.length ≤ 3000 := by have := HGT.out.le; have := HS.out; omega
          by_cases hb : 3 ≤ r
          · obtain ⟨q, rfl⟩ : ∃ q, r = q + 3 := ⟨r - 3, by omega⟩
            by_cases hq : (q : Int) ≤ 7
            · have hmin : min (q : Int) 7 = (q : Int) := by omega
              have hsrc := src_run wr ((17 : Int), ((q : Nat) : Int))
              have hz := HB.out.size
              have HG2 : Hid (Bl.Got (0) (d + (3 + q)) (rs ++ [(17, ((q : Nat) : Int))])) := Lib.hid (Bl.Got.zeros (s := 17) (z := q) HGT.out (by omega) (by show (((q : Nat)) : Int) ≤ 7; omega))
              have HE2 : Hid (Bl.go 17 3 7 (rs ++ [((17 : Int), ((q : Nat) : Int))]) 0 = (Bl.zs c) 2) := Lib.hid (by rw [← HE.out]; exact (Bl.go_step 17 (by omega) rs _ q 0 (by omega) (by omega) (by omega)).symm)
              have HS2 : Hid ((d + (3 + q)) + 0 = c) := Lib.hid (by have := HS.out; omega)
              go_wp2_with (at_builtin; refine wpl_append tyR rfl _ _ rfl (own_below HO.out (below_alloc wr _)) hsrc rfl rfl (by omega) (by omega) (by simp; omega) ?_)
              intro v' w' own' hg' _
              have HB5 : Hid (Below w0.heap.size w0 w') := Lib.hid ((below_then HB.out (below_alloc wr _)).grown hg' (by simp; omega) (fun r e => (HO.out.lt r e).1))
              rw [← tks_append] at own'
              have HO5 : Hid (w'.ownsRow w0.heap.size 132 2 v' (rs ++ [((17 : Int), ((q : Nat) : Int))]).length (tks (rs ++ [((17 : Int), ((q : Nat) : Int))]))) := Lib.hid (by rw [List.length_append]; exact own')
              clear own' hg' hsrc HO HB hz HGT HS HE
              go_wp2
              go_roundw
              case rel => exact ⟨_, 0, _, by first | go_num | (congr 1; omega), HS2, HE2, HG2, HO5, HB5⟩
              case measure => simp [intOf]; omega
            · have hmin : min (q : Int) 7 = 7 := by omega
              obtain ⟨p, rfl⟩ : ∃ p, q = p + 7 := ⟨q - 7, by omega⟩
              have hsrc := src_run wr ((17 : Int), (7 : Int))
              have hz := HB.out.size
              have HG2 : Hid (Bl.Got (0) (d + (3 + 7)) (rs ++ [(17, (7 : Int))])) := Lib.hid (Bl.Got.zeros (s := 17) (z := 7) HGT.out (by omega) (by show (((7 : Nat)) : Int) ≤ 7; omega))
              have HE2 : Hid (Bl.go 17 3 7 (rs ++ [((17 : Int), (7 : Int))]) p = (Bl.zs c) 2) := Lib.hid (by rw [← HE.out]; exact (Bl.go_step 17 (by omega) rs _ 7 p (by omega) (by omega) (by omega)).symm)
              have HS2 : Hid ((d + (3 + 7)) + p = c) := Lib.hid (by have := HS.out; omega)
              go_wp2_with (at_builtin; refine wpl_append tyR rfl _ _ rfl (own_below HO.out (below_alloc wr _)) hsrc rfl rfl (by omega) (by omega) (by simp; omega) ?_)
              intro v' w' own' hg' _
              have HB5 : Hid (Below w0.heap.size w0 w') := Lib.hid ((below_then HB.out (below_alloc wr _)).grown hg' (by simp; omega) (fun r e => (HO.out.lt r e).1))
              rw [← tks_append] at own'
              have HO5 : Hid (w'.ownsRow w0.heap.size 132 2 v' (rs ++ [((17 : Int), (7 : Int))]).length (tks (rs ++ [((17 : Int), (7 : Int))]))) := Lib.hid (by rw [List.length_append]; exact own')
              clear own' hg' hsrc HO HB hz HGT HS HE
              go_wp2
              go_roundw
              case rel => exact ⟨_, p, _, by first | go_num | (congr 1; omega), HS2, HE2, HG2, HO5, HB5⟩
              case measure => simp [intOf]; omega
          · have db : decide (((3 : Nat) : Int) ≤ (r : Int)) = false := decide_eq_false (by omega)
            have db2 : decide ((3 : Int) ≤ (r : Int)) = false := decide_eq_false (by omega)
            go_wp2
            go_roundw
            case rel => exact ⟨2, d, r, rs, by omega, by go_num, rfl, HS, Lib.hid (by rw [← HE.out, Bl.go_end _ _ _ _ _ (by omega)]), HGT, HO, HB⟩
            case measure => simp [intOf]
      · obtain rfl : i = 2 := by omega
        have HST : Hid (rs ++ List.replicate r ((0 : Int), (0 : Int)) = Bl.stF 0 c) := Lib.hid (by unfold Bl.stF; rw [if_pos rfl, HE.out])
        have hrl : r ≤ 3000 := by have := HS.out; omega
        have hmx : rs.length ≤ 3000 := by have := HGT.out.le; have := HS.out; omega
        have HGR : Hid (Bl.Got 0 c (rs ++ List.replicate r (0, 0))) := Lib.hid (by rw [← HS.out]; exact Bl.Got.rest (by omega) (by omega) r HGT.out)
        have hrow5 : (wr.alloc (.cells #[.int .i64 0, .int .i64 0] 132)).heap[wr.heap.size]? = some (.cells #[.int .i64 0, .int .i64 0] 132 (0, 0)) := heap_alloc_last wr _
        have HRP := Lib.hid (repRun_any wr.heap.size (0, 0) r (wr.alloc (.cells #[.int .i64 0, .int .i64 0] 132)) (by rw [cell_of_row _ _ _ _ _ (0, 0) hrow5]; rfl) (by rw [cell_of_row _ _ _ _ _ (0, 0) hrow5]; rfl) (by simp) (by omega))
        have hb5 := below_alloc wr (.cells #[.int .i64 0, .int .i64 0] 132)
        have HB6 := Lib.hid (below_then HB.out hb5)
        have HO6 := Lib.hid (own_below HO.out hb5)
        clear hrow5 hb5 HO HB
        go_wp2_with fail
        refine HRP.out.mono ?_
        rintro e w6 ⟨v6, rfl, own6, hb6⟩
        obtain ⟨a6, c6, rfl, hts⟩ := own_rs2 own6 (fun i hi => by
          have e : (List.replicate r ((0 : Int), (0 : Int))).getD i (0, 0) = (0, 0) := by simp [List.getD, hi]
          rw [e]; exact ⟨by decide, by show (Lit.int .i64 0).wf = true; decide⟩)
        have hsrc := hts.src
        have HO7 := own_below HO6.out hb6
        have HB7 := Lib.hid (below_then HB6.out hb6)
        have hz := HB7.out.size
        have hl7 : rs.length + r ≤ 6000 := by omega
        go_wp2_with (at_builtin; refine wpl_append tyR rfl _ _ rfl HO7 hsrc rfl rfl (by omega) (by omega) (by omega) ?_)
        intro v' w' own' hg' _
        have hb8 := HB7.out.grown hg' hz (fun r e => (HO7.lt r e).1)
        have own8 := own_base own' (base' := w.heap.size) (fun g hg => Nat.le_trans HB0.out.size (own'.lt g hg).1)
        rw [← tks_append, ← (show (rs ++ List.replicate r ((0 : Int), (0 : Int))).length = rs.length + r by simp)] at own8
        have HP : Hid (Bl.StPost w 0 c (.returned v') w') := Lib.hid ⟨_, _, rfl, own8, HGR.out, HST.out, below_then HB0.out hb8⟩
        clear own' hg' own8 hb8 hsrc HO7 HB7 own6 hb6 HO6 HB6 HRP hts
        go_wp2
        go_ret
        exact HP.out
set_option maxRecDepth 100000 in
set_option maxHeartbeats 4000000 in
theorem stretch_pos (y : Int) (c m : Nat) (w : World) (h0 : 0 ≤ y) (h15 : y ≤ 15) (hy : 0 < y) (hc : c = m + 1) (hc2 : c ≤ 3000) : Calls Tryz.prog 104 #[.int .i64 y, .int .i64 ((m + 1 : Nat) : Int)] w (Bl.StPost w y c) := by
  have hwy : (Lit.int .i64 y).wf = true := Bl.In.wf (o := [y]) (fun x hx => by simp only [List.mem_singleton] at hx; subst hx; exact ⟨h0, h15⟩) y (by simp)
  have hb0 := below_alloc2 w (.cells #[.int .i64 18, .int .i64 17] 3) (.cells #[.int .i64 y, .int .i64 0] 132)
  have hsrc := src_run (w.alloc (.cells #[.int .i64 18, .int .i64 17] 3)) (y, 0)
  rw [show (w.alloc (.cells #[.int .i64 18, .int .i64 17] 3)).heap.size = w.heap.size + 1 from Array.size_push _] at hsrc
  have hm3 : m ≤ 3000 := by omega
  have d0 : decide ((0 : Int) < y) = true := decide_eq_true hy
  have HB0 := Lib.hid hb0
  have hz := hb0.size
  have HCM := Lib.hid hc
  clear hb0 hc
  go_enter Tryz.func104, Tryz.ntmps104
  go_wp2_with (at_builtin; refine wpl_append tyR rfl _ _ rfl (World.ownsRow_nil _ w.heap.size 132 2) hsrc rfl rfl (by omega) (by omega) hz ?_)
  intro v' w' own' hg' _
  have hb1 := HB0.out.grown hg' hz (by intro r e; simp [Value.ownBlock] at e)
  have hrow : (w'.alloc (.cells #[.int .i64 16] 3)).heap[w'.heap.size]? = some (.cells #[.int .i64 16] 3 (0, 0)) := heap_alloc_last w' _
  have c0 : (w'.alloc (.cells #[.int .i64 16] 3)).cell? ⟨w'.heap.size, 0, none⟩ = some (.int .i64 16) := by rw [cell_of_row _ _ _ _ _ (0, 0) hrow]; rfl
  have HC0 := Lib.hid c0
  have HBS := Lib.hid (below_then hb1 (below_alloc w' (.cells #[.int .i64 16] 3)))
  have HOS := Lib.hid (own_below own' (below_alloc w' (.cells #[.int .i64 16] 3)))
  clear HB0 hb1 own' hg' hsrc c0 hrow hz
  have HB0 : Hid (Below w.heap.size w w) := Lib.hid (Below.refl _ _)
  obtain ⟨gL, hgL⟩ : ∃ gL, w'.heap.size = gL := ⟨_, rfl⟩
  rw [hgL] at HC0
  go_wp2
  clear hgL
  revert HC0 HBS HOS
  generalize World.alloc _ _ = w0
  intro HBS HOS HC0
  go_loopw [1, 5, 26] (fun cv ov iv wr => ∃ (i d r : Nat) (rs : List Tok), i ≤ 1 ∧ iv = .int .i64 i ∧ cv = .int .i64 (r : Nat) ∧ Hid (d + r = c) ∧ Hid (Bl.ys y c i = (rs, r)) ∧ Hid (d ≥ 1 ∧ Bl.Got (y) d rs) ∧ Hid (wr.ownsRow w.heap.size 132 2 ov rs.length (tks rs)) ∧ Hid (Below w.heap.size w wr) ∧ Hid (i = 0 → wr.cell? ⟨gL, 0, none⟩ = some (.int .i64 16))) (fun _ _ iv _ => 1 - (intOf iv).toNat)
  case atStart => exact ⟨0, 1, m, [(y, 0)], by omega, rfl, rfl, Lib.hid (by have := HCM.out; omega), Lib.hid (by show ([(y, 0)], c - 1) = ([(y, 0)], m); rw [HCM.out]; rfl), Lib.hid ⟨by omega, by simpa using (Bl.Got.nil y).lit h0 h15⟩, HOS, HBS, Lib.hid (fun _ => HC0.out)⟩
  case round =>
    obtain ⟨i, d, r, rs, hi, rfl, rfl, HS, HE, HGT, HO, HB, HCK⟩ := hrel
    obtain ⟨va, vc, rfl⟩ := own_runs1 HO.out
    by_cases hi0 : i = 0
    · subst hi0
      have ck : wr.cell? ⟨gL, 0, none⟩ = some (.int .i64 16) := HCK.out rfl
      have hrl : r ≤ 3000 := by have := HS.out; omega
      have HRB := Lib.hid (runBase_any 16 wr)
      rw [show Bl.rb 16 = .tuple #[.int .i64 3, .int .i64 2, .bool true] from rfl] at HRB
      go_wp2_with fail
      refine HRB.out.mono ?_
      rintro e w5 ⟨rfl, rfl⟩
      clear HRB ck
      go_wp2_with fail
      go_loopw [1, 5, 12] (fun cv ov xv wx => ∃ (d r : Nat) (rs : List Tok), cv = .int .i64 (r : Nat) ∧ Hid (d + r = c) ∧ Hid (Bl.go 16 3 3 rs r = (Bl.ys y c) 1) ∧ Hid (d ≥ 1 ∧ Bl.Got (y) d rs) ∧ Hid (wx.ownsRow w.heap.size 132 2 ov rs.length (tks rs)) ∧ Hid (Below w.heap.size w wx)) (fun cv _ _ _ => (intOf cv).toNat)
      case atStart => exact ⟨d, r, rs, rfl, HS, Lib.hid (by rw [show (Bl.ys y c) 1 = Bl.go 16 3 3 ((Bl.ys y c) 0).1 ((Bl.ys y c) 0).2 from rfl, HE.out]), HGT, HO, HB⟩
      case round =>
        clear HS HE HGT HO HB hrl
        obtain ⟨d, r, rs, rfl, HS, HE, HGT, HO, HB⟩ := hrel
        have hrl : r ≤ 3000 := by have := HS.out; omega
        have hmx : rs.length ≤ 3000 := by have := HGT.out.2.le; have := HS.out; omega
        by_cases hb : 3 ≤ r
        · obtain ⟨q, rfl⟩ : ∃ q, r = q + 3 := ⟨r - 3, by omega⟩
          by_cases hq : (q : Int) ≤ 3
          · have hmin : min (q : Int) 3 = (q : Int) := by omega
            have hsrc := src_run wr ((16 : Int), ((q : Nat) : Int))
            have hz := HB.out.size
            have HG2 : Hid (d + (3 + q) ≥ 1 ∧ Bl.Got (y) (d + (3 + q)) (rs ++ [(16, ((q : Nat) : Int))])) := Lib.hid (⟨by have := HGT.out.1; omega, Bl.Got.again (z := q) HGT.out.2 HGT.out.1 (by omega)⟩)
            have HE2 : Hid (Bl.go 16 3 3 (rs ++ [((16 : Int), ((q : Nat) : Int))]) 0 = (Bl.ys y c) 1) := Lib.hid (by rw [← HE.out]; exact (Bl.go_step 16 (by omega) rs _ q 0 (by omega) (by omega) (by omega)).symm)
            have HS2 : Hid ((d + (3 + q)) + 0 = c) := Lib.hid (by have := HS.out; omega)
            go_wp2_with (at_builtin; refine wpl_append tyR rfl _ _ rfl (own_below HO.out (below_alloc wr _)) hsrc rfl rfl (by omega) (by omega) (by simp; omega) ?_)
            intro v' w' own' hg' _
            have HB5 : Hid (Below w.heap.size w w') := Lib.hid ((below_then HB.out (below_alloc wr _)).grown hg' (by simp; omega) (fun r e => (HO.out.lt r e).1))
            rw [← tks_append] at own'
            have HO5 : Hid (w'.ownsRow w.heap.size 132 2 v' (rs ++ [((16 : Int), ((q : Nat) : Int))]).length (tks (rs ++ [((16 : Int), ((q : Nat) : Int))]))) := Lib.hid (by rw [List.length_append]; exact own')
            clear own' hg' hsrc HO HB hz HGT HS HE
            go_wp2
            go_roundw
            case rel => exact ⟨_, 0, _, by first | go_num | (congr 1; omega), HS2, HE2, HG2, HO5, HB5⟩
            case measure => simp [intOf]; omega
          · have hmin : min (q : Int) 3 = 3 := by omega
            obtain ⟨p, rfl⟩ : ∃ p, q = p + 3 := ⟨q - 3, by omega⟩
            have hsrc := src_run wr ((16 : Int), (3 : Int))
            have hz := HB.out.size
            have HG2 : Hid (d + (3 + 3) ≥ 1 ∧ Bl.Got (y) (d + (3 + 3)) (rs ++ [(16, (3 : Int))])) := Lib.hid (⟨by have := HGT.out.1; omega, Bl.Got.again (z := 3) HGT.out.2 HGT.out.1 (by omega)⟩)
            have HE2 : Hid (Bl.go 16 3 3 (rs ++ [((16 : Int), (3 : Int))]) p = (Bl.ys y c) 1) := Lib.hid (by rw [← HE.out]; exact (Bl.go_step 16 (by omega) rs _ 3 p (by omega) (by omega) (by omega)).symm)
            have HS2 : Hid ((d + (3 + 3)) + p = c) := Lib.hid (by have := HS.out; omega)
            go_wp2_with (at_builtin; refine wpl_append tyR rfl _ _ rfl (own_below HO.out (below_alloc wr _)) hsrc rfl rfl (by omega) (by omega) (by simp; omega) ?_)
            intro v' w' own' hg' _
            have HB5 : Hid (Below w.heap.size w w') := Lib.hid ((below_then HB.out (below_alloc wr _)).grown hg' (by simp; omega) (fun r e => (HO.out.lt r e).1))
            rw [← tks_append] at own'
            have HO5 : Hid (w'.ownsRow w.heap.size 132 2 v' (rs ++ [((16 : Int), (3 : Int))]).length (tks (rs ++ [((16 : Int), (3 : Int))]))) := Lib.hid (by rw [List.length_append]; exact own')
            clear own' hg' hsrc HO HB hz HGT HS HE
            go_wp2
            go_roundw
            case rel => exact ⟨_, p, _, by first | go_num | (congr 1; omega), HS2, HE2, HG2, HO5, HB5⟩
            case measure => simp [intOf]; omega
        · have db : decide (((3 : Nat) : Int) ≤ (r : Int)) = false := decide_eq_false (by omega)
          have db2 : decide ((3 : Int) ≤ (r : Int)) = false := decide_eq_false (by omega)
          go_wp2
          go_roundw
          case rel => exact ⟨1, d, r, rs, by omega, by go_num, rfl, HS, Lib.hid (by rw [← HE.out, Bl.go_end _ _ _ _ _ (by omega)]), HGT, HO, HB, Lib.hid (fun h => by omega)⟩
          case measure => simp [intOf]
    · obtain rfl : i = 1 := by omega
      have HST : Hid (rs ++ List.replicate r ((y : Int), (0 : Int)) = Bl.stF y c) := Lib.hid (by unfold Bl.stF; rw [if_neg (by omega), HE.out])
      have hrl : r ≤ 3000 := by have := HS.out; omega
      have hmx : rs.length ≤ 3000 := by have := HGT.out.2.le; have := HS.out; omega
      have HGR : Hid (Bl.Got y c (rs ++ List.replicate r (y, 0))) := Lib.hid (by rw [← HS.out]; exact Bl.Got.rest h0 h15 r HGT.out.2)
      have hrow5 : (wr.alloc (.cells #[.int .i64 y, .int .i64 0] 132)).heap[wr.heap.size]? = some (.cells #[.int .i64 y, .int .i64 0] 132 (0, 0)) := heap_alloc_last wr _
      have HRP := Lib.hid (repRun_any wr.heap.size (y, 0) r (wr.alloc (.cells #[.int .i64 y, .int .i64 0] 132)) (by rw [cell_of_row _ _ _ _ _ (0, 0) hrow5]; rfl) (by rw [cell_of_row _ _ _ _ _ (0, 0) hrow5]; rfl) (by simp) (by omega))
      have hb5 := below_alloc wr (.cells #[.int .i64 y, .int .i64 0] 132)
      have HB6 := Lib.hid (below_then HB.out hb5)
      have HO6 := Lib.hid (own_below HO.out hb5)
      clear hrow5 hb5 HO HB
      go_wp2_with fail
      refine HRP.out.mono ?_
      rintro e w6 ⟨v6, rfl, own6, hb6⟩
      obtain ⟨a6, c6, rfl, hts⟩ := own_rs2 own6 (fun i hi => by
        have e : (List.replicate r ((y : Int), (0 : Int))).getD i (0, 0) = (y, 0) := by simp [List.getD, hi]
        rw [e]; exact ⟨hwy, by show (Lit.int .i64 0).wf = true; decide⟩)
      have hsrc := hts.src
      have HO7 := own_below HO6.out hb6
      have HB7 := Lib.hid (below_then HB6.out hb6)
      have hz := HB7.out.size
      have hl7 : rs.length + r ≤ 6000 := by omega
      go_wp2_with (at_builtin; refine wpl_append tyR rfl _ _ rfl HO7 hsrc rfl rfl (by omega) (by omega) (by omega) ?_)
      intro v' w' own' hg' _
      have hb8 := HB7.out.grown hg' hz (fun r e => (HO7.lt r e).1)
      have own8 := own_base own' (base' := w.heap.size) (fun g hg => Nat.le_trans HB0.out.size (own'.lt g hg).1)
      rw [← tks_append, ← (show (rs ++ List.replicate r ((y : Int), (0 : Int))).length = rs.length + r by simp)] at own8
      have HP : Hid (Bl.StPost w y c (.returned v') w') := Lib.hid ⟨_, _, rfl, own8, HGR.out, HST.out, below_then HB0.out hb8⟩
      clear own' hg' own8 hb8 hsrc HO7 HB7 own6 hb6 HO6 HB6 HRP hts
      go_wp2
      go_ret
      exact HP.out
end Go.Proofs.YtpoilaappcjbeaaGreatDoor
end

section
namespace Go.Proofs.YtpoilaappcjbeaaGreatDoor
open Go.RowKit

theorem Is.pre {k : IntKind} {w : World} {a : Option Addr} {len cap : Nat} {l : List Int} (h : Is k w a len cap l) (n : Nat) (hn : n ≤ len) : Is k w a n cap (l.take n) := by
  have h1 := h.hlen
  have h2 := h.hle
  refine ⟨by simp; omega, by omega, h.hnil, fun i hi => ?_, fun x hx => h.wf x (List.mem_of_mem_take hx)⟩
  obtain ⟨b, off, e, hb, hc⟩ := h.at' i (by omega)
  refine ⟨b, off, e, hb, ?_⟩
  rw [hc]
  simp [List.getD, List.getElem?_take, hi]
theorem Is.suf {k : IntKind} {w : World} {b off len cap : Nat} {l : List Int} (h : Is k w (some ⟨b, off, none⟩) len cap l) (n : Nat) (hn : n ≤ len) : Is k w (some ⟨b, off + n, none⟩) (len - n) (cap - n) (l.drop n) := by
  have h1 := h.hlen
  have h2 := h.hle
  refine ⟨by simp; omega, by omega, fun e => (by cases e), fun i hi => ?_, fun x hx => h.wf x (List.mem_of_mem_drop hx)⟩
  obtain ⟨b', off', e, hb, hc⟩ := h.at' (n + i) (by omega)
  simp only [Option.some.injEq, Addr.mk.injEq, and_true] at e
  obtain ⟨rfl, rfl⟩ := e
  refine ⟨b, off + n, rfl, hb, ?_⟩
  rw [Nat.add_assoc, hc]
  simp [List.getD, List.getElem?_drop]
theorem Is.none0 {k : IntKind} (w : World) (a : Option Addr) (cap : Nat) (h : a = none → cap = 0) : Is k w a 0 cap [] := ⟨rfl, Nat.zero_le _, h, fun i hi => absurd hi (by omega), fun n hn => by simp at hn⟩
end Go.Proofs.YtpoilaappcjbeaaGreatDoor
end

section
namespace Go.Proofs.YtpoilaappcjbeaaGreatDoor
open Go.RowKit

theorem wf_rg (t : Tok) (h : 0 ≤ t.1 ∧ t.1 ≤ 18 ∧ 0 ≤ t.2 ∧ t.2 ≤ 127) : (Lit.int .i64 t.1).wf = true ∧ (Lit.int .i64 t.2).wf = true := by
  obtain ⟨y, x⟩ := t
  simp only at h
  simp only [Lit.wf, IntKind.min, IntKind.max, IntKind.signed, IntKind.bits, Bool.and_eq_true, decide_eq_true_eq, if_true]
  simp; omega
def Bl.RuPost (w : World) (r : Option (List Tok)) (e : Ending) (w' : World) : Prop :=
  Below w.heap.size w w' ∧ match r with
  | none => e = .returned (.tuple #[.slice none 0 0, .iface 51 (.int .i64 6)])
  | some rs => ∃ v, e = .returned (.tuple #[v, .nilIface]) ∧ w'.ownsRow w.heap.size 132 2 v rs.length (tks rs)
theorem Bl.RuPost.no {w w' : World} {r : Option (List Tok)} (h : r = none) (hb : Below w.heap.size w w') : Bl.RuPost w r (.returned (.tuple #[.slice none 0 0, .iface 51 (.int .i64 6)])) w' := by
  subst h; exact ⟨hb, rfl⟩
theorem stretch_any (y : Int) (c : Nat) (w : World) (h0 : 0 ≤ y) (h15 : y ≤ 15) (hc : 1 ≤ c) (hc2 : c ≤ 3000) : Calls Tryz.prog 104 #[.int .i64 y, .int .i64 (c : Nat)] w (Bl.StPost w y c) := by
  by_cases e : y = 0
  · subst e; exact stretch_zero c w hc2
  · obtain ⟨m, rfl⟩ : ∃ m, c = m + 1 := ⟨c - 1, by omega⟩
    exact stretch_pos y (m + 1) m w h0 h15 (by omega) rfl hc2
set_option maxRecDepth 100000 in
set_option maxHeartbeats 4000000 in
theorem runs_any (a : Option Addr) (len cap : Nat) (l : List Int) (w : World) (h : Is .i64 w a len cap l) (hr : len ≤ 3000) :
    Calls Tryz.prog 85 #[.slice a len cap] w (Bl.RuPost w (Bl.ru [] l)) := by
  have H := Lib.hid h
  obtain ⟨R, hR⟩ : ∃ R, Bl.ru [] l = R := ⟨_, rfl⟩
  have HR := Lib.hid hR
  rw [hR]
  clear h hR
  go_enter Tryz.func85, Tryz.ntmps85
  go_wp2
  go_loopw [0, 4] (fun lv ov wr => ∃ (a' : Option Addr) (n c' : Nat) (m : List Int) (rs : List Tok), lv = .slice a' n c' ∧ n ≤ 3000 ∧ Hid (Is .i64 w a' n c' m) ∧ Hid (Bl.ru rs m = R) ∧ Hid (wr.ownsRow w.heap.size 132 2 ov rs.length (tks rs)) ∧ Hid (rs.length + n ≤ 3000) ∧ Hid (Below w.heap.size w wr)) (fun lv _ _ => match lv with | .slice _ n _ => n | _ => 0)
  case atStart => exact ⟨a, len, cap, l, [], rfl, hr, H, HR, Lib.hid (World.ownsRow_nil _ _ _ _), Lib.hid (by simpa using hr), Lib.hid (Below.refl _ _)⟩
  case round =>
    clear H HR
    obtain ⟨a', n, c', m, rs, rfl, hn, H, HR, HO, HLN, HB⟩ := hrel
    by_cases hn0 : 0 < n
    · obtain ⟨b1, off1, rfl, _, c0⟩ := (H.out.mono HB.out).at' 0 hn0
      rw [Nat.add_zero] at c0
      have hml : m.length = n := H.out.hlen
      have HM := Lib.hid hml
      have d0 : decide (0 < n) = true := decide_eq_true hn0
      have HAL : Hid (Calls Tryz.prog 103 #[.slice (some ⟨b1, off1, none⟩) n c'] wr.drew (Bl.AlPost wr.drew n m)) := Lib.hid (alike_any _ n c' m wr.drew ((H.out.mono HB.out).mono (drewN_is wr 1)) hn)
      obtain ⟨y, hy⟩ : ∃ y, m.getD 0 0 = y := ⟨_, rfl⟩
      have HY := Lib.hid hy
      rw [hy] at c0
      clear hml hy
      go_wp2_with fail
      go_region_held3 (fun w' => w'.cell? ⟨b1, off1, none⟩ = some (.int .i64 y)) (go_keep)
        (first | (go_at_call 103; refine HAL.out.mono ?_; rintro e w' ⟨c, rfl, hcl, hcp, hsm, hmx, d2, rfl⟩; have c0 : (wr.drew.drewN d2).cell? ⟨b1, off1, none⟩ = some (.int .i64 y) := c0))
      have HO2 := Lib.hid (own_below HO.out (drewN_is wr (1 + d2)))
      have HB2 := Lib.hid (below_then HB.out (drewN_is wr (1 + d2)))
      have hcp := hcp hn0
      have HC : Hid (Bl.al m = c) := Lib.hid (Bl.al_eq (by rw [HM.out]; exact hcl) hsm (fun h => hmx (by rw [HM.out] at h; exact h)))
      have hcap : n ≤ c' := H.out.hle
      clear HO HB HAL hsm hmx
      revert HO2 HB2
      generalize World.drewN wr (1 + d2) = wq
      intro HO2 HB2
      by_cases hbad : ¬ (0 ≤ y ∧ y < 16)
      · have HP := Lib.hid (Bl.RuPost.no (r := R) (by rw [← HR.out]; exact Bl.ru_bad rs (by rw [HM.out]; omega) (by rw [HY.out]; exact hbad)) HB2.out)
        by_cases h1 : y < 0
        · have d1 : decide (y < 0) = true := decide_eq_true h1
          clear hbad HR HM HY HC HO2 HB2 HLN
          go_wp2
          go_ret2
          exact HP.out
        · have d1 : decide (y < 0) = false := decide_eq_false h1
          have d2 : decide (16 ≤ y) = true := decide_eq_true (by omega)
          clear hbad HR HM HY HC HO2 HB2 HLN
          go_wp2
          go_ret2
          exact HP.out
      have d1 : decide (y < 0) = false := decide_eq_false (by omega)
      have d2 : decide (16 ≤ y) = false := decide_eq_false (by omega)
      have HST := Lib.hid (stretch_any y c wq (by omega) (by omega) (by omega) (by omega))
      have HR2 : Hid (Bl.ru (rs ++ Bl.stF y c) (m.drop c) = R) := Lib.hid (by
        rw [← HR.out, Bl.ru_step rs (l := m) (by rw [HM.out]; omega) (by rw [HY.out]; omega), HC.out, HY.out])
      have hhi : (c : Int) ≤ (n : Int) := by omega
      clear hbad HR
      go_wp2_with fail
      refine HST.out.mono ?_
      rintro e w6 ⟨v6, rs6, rfl, own6, hgot, heq, hb6⟩
      have hz6 := hb6.size
      have hwf : ∀ i, i < rs6.length → (Lit.int .i64 (rs6.getD i (0, 0)).1).wf = true ∧ (Lit.int .i64 (rs6.getD i (0, 0)).2).wf = true := fun i hi => by
        exact wf_rg _ (hgot.rg (rs6.getD i (0, 0)) (by simp [List.getD, List.getElem?_eq_getElem hi]))
      obtain ⟨a6, c6, rfl, hts⟩ := own_rs2 own6 hwf
      have hsrc := hts.src
      have HO7 := own_below HO2.out hb6
      have HB7 := Lib.hid (below_then HB2.out hb6)
      have hz := HB7.out.size
      have hle6 := hgot.le
      have hlr := HLN.out
      have HQ : Hid (rs6 = Bl.stF y c) := Lib.hid heq
      clear heq hgot hwf own6 HST HO2 HB2
      go_wp2_with (at_builtin; refine wpl_append tyR rfl _ _ rfl HO7 hsrc rfl rfl (by omega) (by omega) (by omega) ?_)
      intro v' w' own' hg' _
      have HB8 := Lib.hid (HB7.out.grown hg' hz (fun r e => (HO7.lt r e).1))
      rw [← tks_append] at own'
      have HO8 : Hid (w'.ownsRow w.heap.size 132 2 v' (rs ++ rs6).length (tks (rs ++ rs6))) := Lib.hid (by rw [List.length_append]; exact own')
      have HR8 : Hid (Bl.ru (rs ++ rs6) (m.drop c) = R) := Lib.hid (by rw [HQ.out]; exact HR2.out)
      have HS8 : Hid (Is .i64 w (if c' = c then some ⟨b1, off1, none⟩ else some ⟨b1, off1 + c, none⟩) (n - c) (c' - c) (m.drop c)) := Lib.hid (by
        split
        · have e1 : n - c = 0 := by omega
          have e2 : m.drop c = [] := List.drop_eq_nil_of_le (by rw [HM.out]; omega)
          rw [e1, e2]
          exact Is.none0 w _ _ (fun h => by simp at h)
        · exact H.out.suf c hcl)
      have HL8 : Hid ((rs ++ rs6).length + (n - c) ≤ 3000) := Lib.hid (by rw [List.length_append]; omega)
      clear own' hg' HO7 HB7 hsrc hts HR2 HQ HLN HM HC HY H
      go_wp2
      go_roundw
      case rel => exact ⟨_, n - c, _, _, _, rfl, by omega, HS8, HR8, HO8, HL8, HB8⟩
      case measure => simp; omega
    · obtain rfl : n = 0 := by omega
      obtain rfl : m = [] := List.eq_nil_of_length_eq_zero H.out.hlen
      have HP : Hid (Bl.RuPost w R (.returned (.tuple #[u4, .nilIface])) wr) := Lib.hid (by
        rw [← HR.out, Bl.ru_end]
        exact ⟨HB.out, _, rfl, HO.out⟩)
      clear HR HO HB H HLN
      go_wp2
      go_ret2
      exact HP.out
end Go.Proofs.YtpoilaappcjbeaaGreatDoor
end

section
namespace Go.Proofs.YtpoilaappcjbeaaGreatDoor
open Go.RowKit

namespace Bl
theorem reps_zeros {s : Int} {b t : Nat} (hs : s = 17 ∨ s = 18) (hb : base s = b) (ht : top s = (t : Int)) (hb1 : 1 ≤ b) : ∀ (f r d : Nat) (rs : List (Int × Int)), Got 0 d rs → ∃ e, e + (repsF s b t f r).2 = r ∧ Got 0 (d + e) (rs ++ (repsF s b t f r).1)
  | 0, r, d, rs, h => ⟨0, by simp [repsF], by simpa [repsF] using h⟩
  | f + 1, r, d, rs, h => by
    rw [repsF]
    by_cases hr : r < b
    · rw [if_pos hr]; exact ⟨0, by simp, by simpa using h⟩
    · rw [if_neg hr]
      have hg := Got.zeros (s := s) (z := min (r - b) t) h hs (by rw [ht]; omega)
      rw [hb] at hg
      obtain ⟨e, h1, h2⟩ := reps_zeros hs hb ht hb1 f (r - (b + min (r - b) t)) _ _ hg
      refine ⟨b + min (r - b) t + e, by simp only; omega, ?_⟩
      rw [List.append_assoc, Nat.add_assoc] at h2
      exact h2
theorem reps_again {y : Int} : ∀ (f r d : Nat) (rs : List (Int × Int)), Got y d rs → 1 ≤ d → ∃ e, e + (repsF 16 3 3 f r).2 = r ∧ Got y (d + e) (rs ++ (repsF 16 3 3 f r).1)
  | 0, r, d, rs, h, _ => ⟨0, by simp [repsF], by simpa [repsF] using h⟩
  | f + 1, r, d, rs, h, hd => by
    rw [repsF]
    by_cases hr : r < 3
    · rw [if_pos hr]; exact ⟨0, by simp, by simpa using h⟩
    · rw [if_neg hr]
      have hg := Got.again (z := min (r - 3) 3) h hd (by omega)
      obtain ⟨e, h1, h2⟩ := reps_again f (r - (3 + min (r - 3) 3)) _ _ hg (by omega)
      refine ⟨3 + min (r - 3) 3 + e, by simp only; omega, ?_⟩
      rw [List.append_assoc, Nat.add_assoc] at h2
      exact h2
/-- A stretch's runs stand for it. -/
theorem stF_got {y : Int} {c : Nat} (h0 : 0 ≤ y) (h15 : y ≤ 15) (hc : 1 ≤ c) : Got y c (stF y c) := by
  unfold stF
  by_cases hy : y = 0
  · subst hy
    rw [if_pos rfl]
    obtain ⟨e1, h1, g1⟩ := reps_zeros (s := 18) (b := 11) (t := 127) (.inr rfl) rfl rfl (by omega) c c 0 [] (Got.nil 0)
    obtain ⟨e2, h2, g2⟩ := reps_zeros (s := 17) (b := 3) (t := 7) (.inl rfl) rfl rfl (by omega) (repsF 18 11 127 c c).2 (repsF 18 11 127 c c).2 _ _ g1
    have g3 := Got.rest (by omega) (by omega) (repsF 17 3 7 (repsF 18 11 127 c c).2 (repsF 18 11 127 c c).2).2 g2
    have e3 : 0 + e1 + e2 + (repsF 17 3 7 (repsF 18 11 127 c c).2 (repsF 18 11 127 c c).2).2 = c := by omega
    rw [e3] at g3
    exact g3
  · rw [if_neg hy]
    have g0 : Got y 1 [(y, 0)] := by simpa using (Got.nil y).lit h0 h15
    obtain ⟨e1, h1, g1⟩ := reps_again (y := y) (c - 1) (c - 1) 1 _ g0 (Nat.le_refl _)
    have g3 := Got.rest h0 h15 (repsF 16 3 3 (c - 1) (c - 1)).2 g1
    have e3 : 1 + e1 + (repsF 16 3 3 (c - 1) (c - 1)).2 = c := by omega
    rw [e3] at g3
    exact g3
/-- The runs of lengths stand for them, and are no more than they are. -/
theorem rn_back : ∀ (f : Nat) (l : List Int), l.length ≤ f → match rn f l with
    | none => ∃ x ∈ l, ¬ (0 ≤ x ∧ x ≤ 15)
    | some rs => In l ∧ (∀ o, unrL o rs = some (o ++ l)) ∧ rs.length ≤ l.length ∧ Rg rs
  | 0, l, h => by
    obtain rfl : l = [] := List.eq_nil_of_length_eq_zero (by omega)
    exact ⟨fun x hx => by simp at hx, fun o => by simp [unrL], Nat.le_refl _, fun t ht => by simp at ht⟩
  | f + 1, l, h => by
    rw [rn]
    by_cases h0 : l.length = 0
    · rw [if_pos h0]
      obtain rfl : l = [] := List.eq_nil_of_length_eq_zero h0
      exact ⟨fun x hx => by simp at hx, fun o => by simp [unrL], Nat.le_refl _, fun t ht => by simp at ht⟩
    · rw [if_neg h0]
      have hp := al_pos (l := l) (by omega)
      have hle := al_le l
      have hsm := al_same l
      have htd := List.take_append_drop (al l) l
      by_cases hy : 0 ≤ l.getD 0 0 ∧ l.getD 0 0 < 16
      · rw [if_pos hy]
        have ih := rn_back f (l.drop (al l)) (by simp; omega)
        have hg := stF_got (y := l.getD 0 0) (c := al l) hy.1 (by omega) hp
        cases h1 : rn f (l.drop (al l)) with
        | none =>
          rw [h1] at ih
          obtain ⟨x, hx, hb⟩ := ih
          exact ⟨x, List.mem_of_mem_drop hx, hb⟩
        | some rs =>
          rw [h1] at ih
          obtain ⟨i1, i2, i3, i4⟩ := ih
          refine ⟨fun x hx => ?_, fun o => ?_, ?_, hg.rg.append i4⟩
          · rw [← htd] at hx
            rcases List.mem_append.1 hx with h2 | h2
            · rw [hsm, List.mem_replicate] at h2
              rw [h2.2]; omega
            · exact i1 x h2
          · rw [unrL_append, hg.un o]
            show unrL _ rs = _
            rw [i2, List.append_assoc, ← hsm, htd]
          · have := hg.le
            rw [List.length_append]
            rw [List.length_drop] at i3
            omega
      · rw [if_neg hy]
        refine ⟨l.getD 0 0, ?_, by omega⟩
        simp [List.getD, List.getElem?_eq_getElem (show 0 < l.length by omega)]
theorem ru_back (l : List Int) : match ru [] l with
    | none => ∃ x ∈ l, ¬ (0 ≤ x ∧ x ≤ 15)
    | some rs => In l ∧ unrL [] rs = some l ∧ rs.length ≤ l.length ∧ Rg rs := by
  have h := rn_back l.length l (Nat.le_refl _)
  have e : ru [] l = rn l.length l := by unfold ru; simp
  rw [e]
  cases h1 : rn l.length l with
  | none => rw [h1] at h; exact h
  | some rs => rw [h1] at h; exact ⟨h.1, by simpa using h.2.1 [], h.2.2.1, h.2.2.2⟩
theorem ru_ex : ru [] [0, 0, 0, 0, 5, 5, 5, 5, 5] = some [(17, 1), (5, 0), (16, 1)] := by decide +kernel
end Bl
end Go.Proofs.YtpoilaappcjbeaaGreatDoor
end

section
namespace Go.Proofs.YtpoilaappcjbeaaGreatDoor
open Go.RowKit

theorem tyT : RowTy Tryz.prog 23 59 (.agg #[.int .i64 0, .int .i64 0]) 2 16 := ⟨Tryz.underlying23, by kernel_rfl, rfl, by omega⟩
theorem src_tok (w : World) (t : Tok) : SrcRow (w.alloc (.cells #[.int .i64 t.1, .int .i64 t.2] 59)) (some ⟨w.heap.size, 0, none⟩) 1 1 (tks [t]) 2 :=
  src_new w #[.int .i64 t.1, .int .i64 t.2] 59 1 1 2 rfl (by intro u hu; simp at hu; rcases hu with rfl | rfl <;> rfl)
/-- A row of tokens of the call's own reads as its tokens. -/
theorem own_ts2 {w : World} {base n : Nat} {v : Value} {l : List Tok} (h : w.ownsRow base 59 2 v n (tks l)) (hw : ∀ i, i < n → (Lit.int .i64 (l.getD i (0, 0)).1).wf = true ∧ (Lit.int .i64 (l.getD i (0, 0)).2).wf = true) :
    ∃ a cap, v = .slice a n cap ∧ Ts2 w a n cap l := by
  have hn : l.length = n := by have := h.1; rw [tks_length] at this; omega
  rcases own_nil_or h with ⟨rfl, rfl⟩ | ⟨g, cap, rfl, hle, _⟩
  · exact ⟨none, 0, rfl, hn, Nat.le_refl _, fun _ => rfl, fun i hi => absurd hi (by omega), hw⟩
  · refine ⟨_, cap, rfl, hn, hle, fun e => by simp at e, fun i hi => ⟨g, 0, rfl, (h.lt g rfl).2, ?_⟩, hw⟩
    obtain ⟨t0, t1⟩ := tks_get l i (by omega)
    rw [Nat.zero_add, h.cellAt (i * 2) (by omega), h.cellAt (i * 2 + 1) (by omega)]
    exact ⟨t0, t1⟩
end Go.Proofs.YtpoilaappcjbeaaGreatDoor
end
