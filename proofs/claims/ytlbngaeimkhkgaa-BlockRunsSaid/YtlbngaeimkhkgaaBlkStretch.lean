/- block.stretch: its contract. Made by gen_blkstretch.py. -/
import Derived.Test.YtlbngaeimkhkgaaBlkReps
import Derived.Test.YtlbngaeimkhkgaaRepRun
import Derived.Test.YtlbngaeimkhkgaaIsLit
namespace Go.Proofs.Ytlbngaeimkhkgaa
open Go.RowKit

def Bl.StPost (w : World) (y : Int) (c : Nat) (e : Ending) (w' : World) : Prop :=
  ∃ v rs, e = .returned v ∧ w'.ownsRow w.heap.size 29 2 v rs.length (tks rs) ∧ Bl.Got y c rs ∧ rs = Bl.stF y c ∧ Below w.heap.size w w'
theorem own_runs1 {w : World} {base n : Nat} {v : Value} {l : List Tok} (h : w.ownsRow base 29 2 v n (tks l)) : ∃ a cap, v = .slice a n cap := by
  rcases own_nil_or h with ⟨rfl, rfl⟩ | ⟨g, cap, rfl, _⟩
  · exact ⟨none, 0, rfl⟩
  · exact ⟨_, cap, rfl⟩
set_option maxRecDepth 100000 in
set_option maxHeartbeats 4000000 in
theorem stretch_zero (c : Nat) (w : World) (hc2 : c ≤ 3000) : Calls Try.prog 11 #[.int .i64 0, .int .i64 (c : Nat)] w (Bl.StPost w 0 c) := by
  have hb0 := below_alloc w (.cells #[.int .i64 18, .int .i64 17] 3)
  have hrow : (w.alloc (.cells #[.int .i64 18, .int .i64 17] 3)).heap[w.heap.size]? = some (.cells #[.int .i64 18, .int .i64 17] 3 (0, 0)) := heap_alloc_last w _
  have c0 : (w.alloc (.cells #[.int .i64 18, .int .i64 17] 3)).cell? ⟨w.heap.size, 0, none⟩ = some (.int .i64 18) := by rw [cell_of_row _ _ _ _ _ (0, 0) hrow]; rfl
  have c1 : (w.alloc (.cells #[.int .i64 18, .int .i64 17] 3)).cell? ⟨w.heap.size, 1, none⟩ = some (.int .i64 17) := by rw [cell_of_row _ _ _ _ _ (0, 0) hrow]; rfl
  have HB0 := Lib.hid hb0
  have HC0 := Lib.hid c0
  have HC1 := Lib.hid c1
  have HG : Hid (w.heap.size < (w.alloc (.cells #[.int .i64 18, .int .i64 17] 3)).heap.size) := Lib.hid (by simp)
  clear hb0 hrow c0 c1
  go_enter Try.func11, Try.ntmps11
  go_wp2
  revert HB0 HC0 HC1 HG
  generalize World.alloc _ _ = w0
  intro HB0 HC0 HC1 HG
  go_loopw [1, 5, 26] (fun cv ov iv wr => ∃ (i d r : Nat) (rs : List Tok), i ≤ 2 ∧ iv = .int .i64 i ∧ cv = .int .i64 (r : Nat) ∧ Hid (d + r = c) ∧ Hid (Bl.zs c i = (rs, r)) ∧ Hid (Bl.Got (0) d rs) ∧ Hid (wr.ownsRow w0.heap.size 29 2 ov rs.length (tks rs)) ∧ Hid (Below w0.heap.size w0 wr)) (fun _ _ iv _ => 2 - (intOf iv).toNat)
  case atStart => exact ⟨0, 0, c, [], by omega, rfl, rfl, Lib.hid (by omega), Lib.hid rfl, Lib.hid (Bl.Got.nil 0), Lib.hid (World.ownsRow_nil _ _ _ _), Lib.hid (Below.refl _ _)⟩
  case round =>
    obtain ⟨i, d, r, rs, hi, rfl, rfl, HS, HE, HGT, HO, HB⟩ := hrel
    obtain ⟨va, vc, rfl⟩ := own_runs1 HO.out
    by_cases hi0 : i = 0
    · subst hi0
      have ck : wr.cell? ⟨w.heap.size, 0, none⟩ = some (.int .i64 18) := (HB.out.cell (p := ⟨w.heap.size, 0, none⟩) HG.out).trans HC0.out
      have hrl : r ≤ 3000 := by have := HS.out; omega
      have HRB := Lib.hid (runBase_any 18 wr)
      rw [show Bl.rb 18 = .tuple #[.int .i64 11, .int .i64 7, .bool true] from rfl] at HRB
      go_wp2_with fail
      refine HRB.out.mono ?_
      rintro e w5 ⟨rfl, rfl⟩
      clear HRB ck
      go_wp2_with fail
      go_loopw [1, 5, 12] (fun cv ov xv wx => ∃ (d r : Nat) (rs : List Tok), cv = .int .i64 (r : Nat) ∧ Hid (d + r = c) ∧ Hid (Bl.go 18 11 127 rs r = (Bl.zs c) 1) ∧ Hid (Bl.Got (0) d rs) ∧ Hid (wx.ownsRow w0.heap.size 29 2 ov rs.length (tks rs)) ∧ Hid (Below w0.heap.size w0 wx)) (fun cv _ _ _ => (intOf cv).toNat)
      case atStart => exact ⟨d, r, rs, rfl, HS, Lib.hid (by rw [show (Bl.zs c) 1 = Bl.go 18 11 127 ((Bl.zs c) 0).1 ((Bl.zs c) 0).2 from rfl, HE.out]), HGT, HO, HB⟩
      case round =>
        clear HS HE HGT HO HB hrl
        obtain ⟨d, r, rs, rfl, HS, HE, HGT, HO, HB⟩ := hrel
        have hrl : r ≤ 3000 := by have := HS.out; omega
        have hmx : rs.length ≤ 3000 := by have := HGT.out.le; have := HS.out; omega
        by_cases hb : 11 ≤ r
        · obtain ⟨q, rfl⟩ : ∃ q, r = q + 11 := ⟨r - 11, by omega⟩
          by_cases hq : (q : Int) ≤ 127
          · have hmin : min (q : Int) 127 = (q : Int) := by omega
            have hsrc := src_run wr ((18 : Int), ((q : Nat) : Int))
            have hz := HB.out.size
            have HG2 : Hid (Bl.Got (0) (d + (11 + q)) (rs ++ [(18, ((q : Nat) : Int))])) := Lib.hid (Bl.Got.zeros (s := 18) (z := q) HGT.out (by omega) (by show (((q : Nat)) : Int) ≤ 127; omega))
            have HE2 : Hid (Bl.go 18 11 127 (rs ++ [((18 : Int), ((q : Nat) : Int))]) 0 = (Bl.zs c) 1) := Lib.hid (by rw [← HE.out]; exact (Bl.go_step 18 (by omega) rs _ q 0 (by omega) (by omega) (by omega)).symm)
            have HS2 : Hid ((d + (11 + q)) + 0 = c) := Lib.hid (by have := HS.out; omega)
            go_wp2_with (at_builtin; refine wpl_append tyR rfl _ _ rfl (own_below HO.out (below_alloc wr _)) hsrc rfl rfl (by omega) (by omega) (by simp; omega) ?_)
            intro v' w' own' hg' _
            have HB5 : Hid (Below w0.heap.size w0 w') := Lib.hid ((below_then HB.out (below_alloc wr _)).grown hg' (by simp; omega) (fun r e => (HO.out.lt r e).1))
            rw [← tks_append] at own'
            have HO5 : Hid (w'.ownsRow w0.heap.size 29 2 v' (rs ++ [((18 : Int), ((q : Nat) : Int))]).length (tks (rs ++ [((18 : Int), ((q : Nat) : Int))]))) := Lib.hid (by rw [List.length_append]; exact own')
            clear own' hg' hsrc HO HB hz HGT HS HE
            go_wp2
            go_roundw
            case rel => exact ⟨_, 0, _, by first | go_num | (congr 1; omega), HS2, HE2, HG2, HO5, HB5⟩
            case measure => simp [intOf]; omega
          · have hmin : min (q : Int) 127 = 127 := by omega
            obtain ⟨p, rfl⟩ : ∃ p, q = p + 127 := ⟨q - 127, by omega⟩
            have hsrc := src_run wr ((18 : Int), (127 : Int))
            have hz := HB.out.size
            have HG2 : Hid (Bl.Got (0) (d + (11 + 127)) (rs ++ [(18, (127 : Int))])) := Lib.hid (Bl.Got.zeros (s := 18) (z := 127) HGT.out (by omega) (by show (((127 : Nat)) : Int) ≤ 127; omega))
            have HE2 : Hid (Bl.go 18 11 127 (rs ++ [((18 : Int), (127 : Int))]) p = (Bl.zs c) 1) := Lib.hid (by rw [← HE.out]; exact (Bl.go_step 18 (by omega) rs _ 127 p (by omega) (by omega) (by omega)).symm)
            have HS2 : Hid ((d + (11 + 127)) + p = c) := Lib.hid (by have := HS.out; omega)
            go_wp2_with (at_builtin; refine wpl_append tyR rfl _ _ rfl (own_below HO.out (below_alloc wr _)) hsrc rfl rfl (by omega) (by omega) (by simp; omega) ?_)
            intro v' w' own' hg' _
            have HB5 : Hid (Below w0.heap.size w0 w') := Lib.hid ((below_then HB.out (below_alloc wr _)).grown hg' (by simp; omega) (fun r e => (HO.out.lt r e).1))
            rw [← tks_append] at own'
            have HO5 : Hid (w'.ownsRow w0.heap.size 29 2 v' (rs ++ [((18 : Int), (127 : Int))]).length (tks (rs ++ [((18 : Int), (127 : Int))]))) := Lib.hid (by rw [List.length_append]; exact own')
            clear own' hg' hsrc HO HB hz HGT HS HE
            go_wp2
            go_roundw
            case rel => exact ⟨_, p, _, by first | go_num | (congr 1; omega), HS2, HE2, HG2, HO5, HB5⟩
            case measure => simp [intOf]; omega
        · have db : decide (((11 : Nat) : Int) ≤ (r : Int)) = false := decide_eq_false (by omega)
          have db2 : decide ((11 : Int) ≤ (r : Int)) = false := decide_eq_false (by omega)
          go_wp2
          go_roundw
          case rel => exact ⟨1, d, r, rs, by omega, by go_num, rfl, HS, Lib.hid (by rw [← HE.out, Bl.go_end _ _ _ _ _ (by omega)]), HGT, HO, HB⟩
          case measure => simp [intOf]
    · by_cases hi1 : i = 1
      · subst hi1
        have ck : wr.cell? ⟨w.heap.size, 1, none⟩ = some (.int .i64 17) := (HB.out.cell (p := ⟨w.heap.size, 1, none⟩) HG.out).trans HC1.out
        have hrl : r ≤ 3000 := by have := HS.out; omega
        have HRB := Lib.hid (runBase_any 17 wr)
        rw [show Bl.rb 17 = .tuple #[.int .i64 3, .int .i64 3, .bool true] from rfl] at HRB
        go_wp2_with fail
        refine HRB.out.mono ?_
        rintro e w5 ⟨rfl, rfl⟩
        clear HRB ck
        go_wp2_with fail
        go_loopw [1, 5, 12] (fun cv ov xv wx => ∃ (d r : Nat) (rs : List Tok), cv = .int .i64 (r : Nat) ∧ Hid (d + r = c) ∧ Hid (Bl.go 17 3 7 rs r = (Bl.zs c) 2) ∧ Hid (Bl.Got (0) d rs) ∧ Hid (wx.ownsRow w0.heap.size 29 2 ov rs.length (tks rs)) ∧ Hid (Below w0.heap.size w0 wx)) (fun cv _ _ _ => (intOf cv).toNat)
        case atStart => exact ⟨d, r, rs, rfl, HS, Lib.hid (by rw [show (Bl.zs c) 2 = Bl.go 17 3 7 ((Bl.zs c) 1).1 ((Bl.zs c) 1).2 from rfl, HE.out]), HGT, HO, HB⟩
        case round =>
          clear HS HE HGT HO HB hrl
          obtain ⟨d, r, rs, rfl, HS, HE, HGT, HO, HB⟩ := hrel
          have hrl : r ≤ 3000 := by have := HS.out; omega
          have hmx : rs.length ≤ 3000 := by have := HGT.out.le; have := HS.out; omega
          by_cases hb : 3 ≤ r
          · obtain ⟨q, rfl⟩ : ∃ q, r = q + 3 := ⟨r - 3, by omega⟩
            by_cases hq : (q : Int) ≤ 7
            · have hmin : min (q : Int) 7 = (q : Int) := by omega
              have hsrc := src_run wr ((17 : Int), ((q : Nat) : Int))
              have hz := HB.out.size
              have HG2 : Hid (Bl.Got (0) (d + (3 + q)) (rs ++ [(17, ((q : Nat) : Int))])) := Lib.hid (Bl.Got.zeros (s := 17) (z := q) HGT.out (by omega) (by show (((q : Nat)) : Int) ≤ 7; omega))
              have HE2 : Hid (Bl.go 17 3 7 (rs ++ [((17 : Int), ((q : Nat) : Int))]) 0 = (Bl.zs c) 2) := Lib.hid (by rw [← HE.out]; exact (Bl.go_step 17 (by omega) rs _ q 0 (by omega) (by omega) (by omega)).symm)
              have HS2 : Hid ((d + (3 + q)) + 0 = c) := Lib.hid (by have := HS.out; omega)
              go_wp2_with (at_builtin; refine wpl_append tyR rfl _ _ rfl (own_below HO.out (below_alloc wr _)) hsrc rfl rfl (by omega) (by omega) (by simp; omega) ?_)
              intro v' w' own' hg' _
              have HB5 : Hid (Below w0.heap.size w0 w') := Lib.hid ((below_then HB.out (below_alloc wr _)).grown hg' (by simp; omega) (fun r e => (HO.out.lt r e).1))
              rw [← tks_append] at own'
              have HO5 : Hid (w'.ownsRow w0.heap.size 29 2 v' (rs ++ [((17 : Int), ((q : Nat) : Int))]).length (tks (rs ++ [((17 : Int), ((q : Nat) : Int))]))) := Lib.hid (by rw [List.length_append]; exact own')
              clear own' hg' hsrc HO HB hz HGT HS HE
              go_wp2
              go_roundw
              case rel => exact ⟨_, 0, _, by first | go_num | (congr 1; omega), HS2, HE2, HG2, HO5, HB5⟩
              case measure => simp [intOf]; omega
            · have hmin : min (q : Int) 7 = 7 := by omega
              obtain ⟨p, rfl⟩ : ∃ p, q = p + 7 := ⟨q - 7, by omega⟩
              have hsrc := src_run wr ((17 : Int), (7 : Int))
              have hz := HB.out.size
              have HG2 : Hid (Bl.Got (0) (d + (3 + 7)) (rs ++ [(17, (7 : Int))])) := Lib.hid (Bl.Got.zeros (s := 17) (z := 7) HGT.out (by omega) (by show (((7 : Nat)) : Int) ≤ 7; omega))
              have HE2 : Hid (Bl.go 17 3 7 (rs ++ [((17 : Int), (7 : Int))]) p = (Bl.zs c) 2) := Lib.hid (by rw [← HE.out]; exact (Bl.go_step 17 (by omega) rs _ 7 p (by omega) (by omega) (by omega)).symm)
              have HS2 : Hid ((d + (3 + 7)) + p = c) := Lib.hid (by have := HS.out; omega)
              go_wp2_with (at_builtin; refine wpl_append tyR rfl _ _ rfl (own_below HO.out (below_alloc wr _)) hsrc rfl rfl (by omega) (by omega) (by simp; omega) ?_)
              intro v' w' own' hg' _
              have HB5 : Hid (Below w0.heap.size w0 w') := Lib.hid ((below_then HB.out (below_alloc wr _)).grown hg' (by simp; omega) (fun r e => (HO.out.lt r e).1))
              rw [← tks_append] at own'
              have HO5 : Hid (w'.ownsRow w0.heap.size 29 2 v' (rs ++ [((17 : Int), (7 : Int))]).length (tks (rs ++ [((17 : Int), (7 : Int))]))) := Lib.hid (by rw [List.length_append]; exact own')
              clear own' hg' hsrc HO HB hz HGT HS HE
              go_wp2
              go_roundw
              case rel => exact ⟨_, p, _, by first | go_num | (congr 1; omega), HS2, HE2, HG2, HO5, HB5⟩
              case measure => simp [intOf]; omega
          · have db : decide (((3 : Nat) : Int) ≤ (r : Int)) = false := decide_eq_false (by omega)
            have db2 : decide ((3 : Int) ≤ (r : Int)) = false := decide_eq_false (by omega)
            go_wp2
            go_roundw
            case rel => exact ⟨2, d, r, rs, by omega, by go_num, rfl, HS, Lib.hid (by rw [← HE.out, Bl.go_end _ _ _ _ _ (by omega)]), HGT, HO, HB⟩
            case measure => simp [intOf]
      · obtain rfl : i = 2 := by omega
        have HST : Hid (rs ++ List.replicate r ((0 : Int), (0 : Int)) = Bl.stF 0 c) := Lib.hid (by unfold Bl.stF; rw [if_pos rfl, HE.out])
        have hrl : r ≤ 3000 := by have := HS.out; omega
        have hmx : rs.length ≤ 3000 := by have := HGT.out.le; have := HS.out; omega
        have HGR : Hid (Bl.Got 0 c (rs ++ List.replicate r (0, 0))) := Lib.hid (by rw [← HS.out]; exact Bl.Got.rest (by omega) (by omega) r HGT.out)
        have hrow5 : (wr.alloc (.cells #[.int .i64 0, .int .i64 0] 29)).heap[wr.heap.size]? = some (.cells #[.int .i64 0, .int .i64 0] 29 (0, 0)) := heap_alloc_last wr _
        have HRP := Lib.hid (repRun_any wr.heap.size (0, 0) r (wr.alloc (.cells #[.int .i64 0, .int .i64 0] 29)) (by rw [cell_of_row _ _ _ _ _ (0, 0) hrow5]; rfl) (by rw [cell_of_row _ _ _ _ _ (0, 0) hrow5]; rfl) (by simp) (by omega))
        have hb5 := below_alloc wr (.cells #[.int .i64 0, .int .i64 0] 29)
        have HB6 := Lib.hid (below_then HB.out hb5)
        have HO6 := Lib.hid (own_below HO.out hb5)
        clear hrow5 hb5 HO HB
        go_wp2_with fail
        refine HRP.out.mono ?_
        rintro e w6 ⟨v6, rfl, own6, hb6⟩
        obtain ⟨a6, c6, rfl, hts⟩ := own_rs2 own6 (fun i hi => by
          have e : (List.replicate r ((0 : Int), (0 : Int))).getD i (0, 0) = (0, 0) := by simp [List.getD, hi]
          rw [e]; exact ⟨by decide, by show (Lit.int .i64 0).wf = true; decide⟩)
        have hsrc := hts.src
        have HO7 := own_below HO6.out hb6
        have HB7 := Lib.hid (below_then HB6.out hb6)
        have hz := HB7.out.size
        have hl7 : rs.length + r ≤ 6000 := by omega
        go_wp2_with (at_builtin; refine wpl_append tyR rfl _ _ rfl HO7 hsrc rfl rfl (by omega) (by omega) (by omega) ?_)
        intro v' w' own' hg' _
        have hb8 := HB7.out.grown hg' hz (fun r e => (HO7.lt r e).1)
        have own8 := own_base own' (base' := w.heap.size) (fun g hg => Nat.le_trans HB0.out.size (own'.lt g hg).1)
        rw [← tks_append, ← (show (rs ++ List.replicate r ((0 : Int), (0 : Int))).length = rs.length + r by simp)] at own8
        have HP : Hid (Bl.StPost w 0 c (.returned v') w') := Lib.hid ⟨_, _, rfl, own8, HGR.out, HST.out, below_then HB0.out hb8⟩
        clear own' hg' own8 hb8 hsrc HO7 HB7 own6 hb6 HO6 HB6 HRP hts
        go_wp2
        go_ret
        exact HP.out
set_option maxRecDepth 100000 in
set_option maxHeartbeats 4000000 in
theorem stretch_pos (y : Int) (c m : Nat) (w : World) (h0 : 0 ≤ y) (h15 : y ≤ 15) (hy : 0 < y) (hc : c = m + 1) (hc2 : c ≤ 3000) : Calls Try.prog 11 #[.int .i64 y, .int .i64 ((m + 1 : Nat) : Int)] w (Bl.StPost w y c) := by
  have hwy : (Lit.int .i64 y).wf = true := Bl.In.wf (o := [y]) (fun x hx => by simp only [List.mem_singleton] at hx; subst hx; exact ⟨h0, h15⟩) y (by simp)
  have hb0 := below_alloc2 w (.cells #[.int .i64 18, .int .i64 17] 3) (.cells #[.int .i64 y, .int .i64 0] 29)
  have hsrc := src_run (w.alloc (.cells #[.int .i64 18, .int .i64 17] 3)) (y, 0)
  rw [show (w.alloc (.cells #[.int .i64 18, .int .i64 17] 3)).heap.size = w.heap.size + 1 from Array.size_push _] at hsrc
  have hm3 : m ≤ 3000 := by omega
  have d0 : decide ((0 : Int) < y) = true := decide_eq_true hy
  have HB0 := Lib.hid hb0
  have hz := hb0.size
  have HCM := Lib.hid hc
  clear hb0 hc
  go_enter Try.func11, Try.ntmps11
  go_wp2_with (at_builtin; refine wpl_append tyR rfl _ _ rfl (World.ownsRow_nil _ w.heap.size 29 2) hsrc rfl rfl (by omega) (by omega) hz ?_)
  intro v' w' own' hg' _
  have hb1 := HB0.out.grown hg' hz (by intro r e; simp [Value.ownBlock] at e)
  have hrow : (w'.alloc (.cells #[.int .i64 16] 3)).heap[w'.heap.size]? = some (.cells #[.int .i64 16] 3 (0, 0)) := heap_alloc_last w' _
  have c0 : (w'.alloc (.cells #[.int .i64 16] 3)).cell? ⟨w'.heap.size, 0, none⟩ = some (.int .i64 16) := by rw [cell_of_row _ _ _ _ _ (0, 0) hrow]; rfl
  have HC0 := Lib.hid c0
  have HBS := Lib.hid (below_then hb1 (below_alloc w' (.cells #[.int .i64 16] 3)))
  have HOS := Lib.hid (own_below own' (below_alloc w' (.cells #[.int .i64 16] 3)))
  clear HB0 hb1 own' hg' hsrc c0 hrow hz
  have HB0 : Hid (Below w.heap.size w w) := Lib.hid (Below.refl _ _)
  obtain ⟨gL, hgL⟩ : ∃ gL, w'.heap.size = gL := ⟨_, rfl⟩
  rw [hgL] at HC0
  go_wp2
  clear hgL
  revert HC0 HBS HOS
  generalize World.alloc _ _ = w0
  intro HBS HOS HC0
  go_loopw [1, 5, 26] (fun cv ov iv wr => ∃ (i d r : Nat) (rs : List Tok), i ≤ 1 ∧ iv = .int .i64 i ∧ cv = .int .i64 (r : Nat) ∧ Hid (d + r = c) ∧ Hid (Bl.ys y c i = (rs, r)) ∧ Hid (d ≥ 1 ∧ Bl.Got (y) d rs) ∧ Hid (wr.ownsRow w.heap.size 29 2 ov rs.length (tks rs)) ∧ Hid (Below w.heap.size w wr) ∧ Hid (i = 0 → wr.cell? ⟨gL, 0, none⟩ = some (.int .i64 16))) (fun _ _ iv _ => 1 - (intOf iv).toNat)
  case atStart => exact ⟨0, 1, m, [(y, 0)], by omega, rfl, rfl, Lib.hid (by have := HCM.out; omega), Lib.hid (by show ([(y, 0)], c - 1) = ([(y, 0)], m); rw [HCM.out]; rfl), Lib.hid ⟨by omega, by simpa using (Bl.Got.nil y).lit h0 h15⟩, HOS, HBS, Lib.hid (fun _ => HC0.out)⟩
  case round =>
    obtain ⟨i, d, r, rs, hi, rfl, rfl, HS, HE, HGT, HO, HB, HCK⟩ := hrel
    obtain ⟨va, vc, rfl⟩ := own_runs1 HO.out
    by_cases hi0 : i = 0
    · subst hi0
      have ck : wr.cell? ⟨gL, 0, none⟩ = some (.int .i64 16) := HCK.out rfl
      have hrl : r ≤ 3000 := by have := HS.out; omega
      have HRB := Lib.hid (runBase_any 16 wr)
      rw [show Bl.rb 16 = .tuple #[.int .i64 3, .int .i64 2, .bool true] from rfl] at HRB
      go_wp2_with fail
      refine HRB.out.mono ?_
      rintro e w5 ⟨rfl, rfl⟩
      clear HRB ck
      go_wp2_with fail
      go_loopw [1, 5, 12] (fun cv ov xv wx => ∃ (d r : Nat) (rs : List Tok), cv = .int .i64 (r : Nat) ∧ Hid (d + r = c) ∧ Hid (Bl.go 16 3 3 rs r = (Bl.ys y c) 1) ∧ Hid (d ≥ 1 ∧ Bl.Got (y) d rs) ∧ Hid (wx.ownsRow w.heap.size 29 2 ov rs.length (tks rs)) ∧ Hid (Below w.heap.size w wx)) (fun cv _ _ _ => (intOf cv).toNat)
      case atStart => exact ⟨d, r, rs, rfl, HS, Lib.hid (by rw [show (Bl.ys y c) 1 = Bl.go 16 3 3 ((Bl.ys y c) 0).1 ((Bl.ys y c) 0).2 from rfl, HE.out]), HGT, HO, HB⟩
      case round =>
        clear HS HE HGT HO HB hrl
        obtain ⟨d, r, rs, rfl, HS, HE, HGT, HO, HB⟩ := hrel
        have hrl : r ≤ 3000 := by have := HS.out; omega
        have hmx : rs.length ≤ 3000 := by have := HGT.out.2.le; have := HS.out; omega
        by_cases hb : 3 ≤ r
        · obtain ⟨q, rfl⟩ : ∃ q, r = q + 3 := ⟨r - 3, by omega⟩
          by_cases hq : (q : Int) ≤ 3
          · have hmin : min (q : Int) 3 = (q : Int) := by omega
            have hsrc := src_run wr ((16 : Int), ((q : Nat) : Int))
            have hz := HB.out.size
            have HG2 : Hid (d + (3 + q) ≥ 1 ∧ Bl.Got (y) (d + (3 + q)) (rs ++ [(16, ((q : Nat) : Int))])) := Lib.hid (⟨by have := HGT.out.1; omega, Bl.Got.again (z := q) HGT.out.2 HGT.out.1 (by omega)⟩)
            have HE2 : Hid (Bl.go 16 3 3 (rs ++ [((16 : Int), ((q : Nat) : Int))]) 0 = (Bl.ys y c) 1) := Lib.hid (by rw [← HE.out]; exact (Bl.go_step 16 (by omega) rs _ q 0 (by omega) (by omega) (by omega)).symm)
            have HS2 : Hid ((d + (3 + q)) + 0 = c) := Lib.hid (by have := HS.out; omega)
            go_wp2_with (at_builtin; refine wpl_append tyR rfl _ _ rfl (own_below HO.out (below_alloc wr _)) hsrc rfl rfl (by omega) (by omega) (by simp; omega) ?_)
            intro v' w' own' hg' _
            have HB5 : Hid (Below w.heap.size w w') := Lib.hid ((below_then HB.out (below_alloc wr _)).grown hg' (by simp; omega) (fun r e => (HO.out.lt r e).1))
            rw [← tks_append] at own'
            have HO5 : Hid (w'.ownsRow w.heap.size 29 2 v' (rs ++ [((16 : Int), ((q : Nat) : Int))]).length (tks (rs ++ [((16 : Int), ((q : Nat) : Int))]))) := Lib.hid (by rw [List.length_append]; exact own')
            clear own' hg' hsrc HO HB hz HGT HS HE
            go_wp2
            go_roundw
            case rel => exact ⟨_, 0, _, by first | go_num | (congr 1; omega), HS2, HE2, HG2, HO5, HB5⟩
            case measure => simp [intOf]; omega
          · have hmin : min (q : Int) 3 = 3 := by omega
            obtain ⟨p, rfl⟩ : ∃ p, q = p + 3 := ⟨q - 3, by omega⟩
            have hsrc := src_run wr ((16 : Int), (3 : Int))
            have hz := HB.out.size
            have HG2 : Hid (d + (3 + 3) ≥ 1 ∧ Bl.Got (y) (d + (3 + 3)) (rs ++ [(16, (3 : Int))])) := Lib.hid (⟨by have := HGT.out.1; omega, Bl.Got.again (z := 3) HGT.out.2 HGT.out.1 (by omega)⟩)
            have HE2 : Hid (Bl.go 16 3 3 (rs ++ [((16 : Int), (3 : Int))]) p = (Bl.ys y c) 1) := Lib.hid (by rw [← HE.out]; exact (Bl.go_step 16 (by omega) rs _ 3 p (by omega) (by omega) (by omega)).symm)
            have HS2 : Hid ((d + (3 + 3)) + p = c) := Lib.hid (by have := HS.out; omega)
            go_wp2_with (at_builtin; refine wpl_append tyR rfl _ _ rfl (own_below HO.out (below_alloc wr _)) hsrc rfl rfl (by omega) (by omega) (by simp; omega) ?_)
            intro v' w' own' hg' _
            have HB5 : Hid (Below w.heap.size w w') := Lib.hid ((below_then HB.out (below_alloc wr _)).grown hg' (by simp; omega) (fun r e => (HO.out.lt r e).1))
            rw [← tks_append] at own'
            have HO5 : Hid (w'.ownsRow w.heap.size 29 2 v' (rs ++ [((16 : Int), (3 : Int))]).length (tks (rs ++ [((16 : Int), (3 : Int))]))) := Lib.hid (by rw [List.length_append]; exact own')
            clear own' hg' hsrc HO HB hz HGT HS HE
            go_wp2
            go_roundw
            case rel => exact ⟨_, p, _, by first | go_num | (congr 1; omega), HS2, HE2, HG2, HO5, HB5⟩
            case measure => simp [intOf]; omega
        · have db : decide (((3 : Nat) : Int) ≤ (r : Int)) = false := decide_eq_false (by omega)
          have db2 : decide ((3 : Int) ≤ (r : Int)) = false := decide_eq_false (by omega)
          go_wp2
          go_roundw
          case rel => exact ⟨1, d, r, rs, by omega, by go_num, rfl, HS, Lib.hid (by rw [← HE.out, Bl.go_end _ _ _ _ _ (by omega)]), HGT, HO, HB, Lib.hid (fun h => by omega)⟩
          case measure => simp [intOf]
    · obtain rfl : i = 1 := by omega
      have HST : Hid (rs ++ List.replicate r ((y : Int), (0 : Int)) = Bl.stF y c) := Lib.hid (by unfold Bl.stF; rw [if_neg (by omega), HE.out])
      have hrl : r ≤ 3000 := by have := HS.out; omega
      have hmx : rs.length ≤ 3000 := by have := HGT.out.2.le; have := HS.out; omega
      have HGR : Hid (Bl.Got y c (rs ++ List.replicate r (y, 0))) := Lib.hid (by rw [← HS.out]; exact Bl.Got.rest h0 h15 r HGT.out.2)
      have hrow5 : (wr.alloc (.cells #[.int .i64 y, .int .i64 0] 29)).heap[wr.heap.size]? = some (.cells #[.int .i64 y, .int .i64 0] 29 (0, 0)) := heap_alloc_last wr _
      have HRP := Lib.hid (repRun_any wr.heap.size (y, 0) r (wr.alloc (.cells #[.int .i64 y, .int .i64 0] 29)) (by rw [cell_of_row _ _ _ _ _ (0, 0) hrow5]; rfl) (by rw [cell_of_row _ _ _ _ _ (0, 0) hrow5]; rfl) (by simp) (by omega))
      have hb5 := below_alloc wr (.cells #[.int .i64 y, .int .i64 0] 29)
      have HB6 := Lib.hid (below_then HB.out hb5)
      have HO6 := Lib.hid (own_below HO.out hb5)
      clear hrow5 hb5 HO HB
      go_wp2_with fail
      refine HRP.out.mono ?_
      rintro e w6 ⟨v6, rfl, own6, hb6⟩
      obtain ⟨a6, c6, rfl, hts⟩ := own_rs2 own6 (fun i hi => by
        have e : (List.replicate r ((y : Int), (0 : Int))).getD i (0, 0) = (y, 0) := by simp [List.getD, hi]
        rw [e]; exact ⟨hwy, by show (Lit.int .i64 0).wf = true; decide⟩)
      have hsrc := hts.src
      have HO7 := own_below HO6.out hb6
      have HB7 := Lib.hid (below_then HB6.out hb6)
      have hz := HB7.out.size
      have hl7 : rs.length + r ≤ 6000 := by omega
      go_wp2_with (at_builtin; refine wpl_append tyR rfl _ _ rfl HO7 hsrc rfl rfl (by omega) (by omega) (by omega) ?_)
      intro v' w' own' hg' _
      have hb8 := HB7.out.grown hg' hz (fun r e => (HO7.lt r e).1)
      have own8 := own_base own' (base' := w.heap.size) (fun g hg => Nat.le_trans HB0.out.size (own'.lt g hg).1)
      rw [← tks_append, ← (show (rs ++ List.replicate r ((y : Int), (0 : Int))).length = rs.length + r by simp)] at own8
      have HP : Hid (Bl.StPost w y c (.returned v') w') := Lib.hid ⟨_, _, rfl, own8, HGR.out, HST.out, below_then HB0.out hb8⟩
      clear own' hg' own8 hb8 hsrc HO7 HB7 own6 hb6 HO6 HB6 HRP hts
      go_wp2
      go_ret
      exact HP.out
end Go.Proofs.Ytlbngaeimkhkgaa
