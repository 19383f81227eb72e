/- head.fieldSize, head.Take: their contracts. -/
import Derived.Test.YtbgaaocgdjkkeaaZ16
import Derived.Test.YtbgaaocgdjkkeaaZ20
import Derived.Test.YtbgaaocgdjkkeaaZ26
set_option linter.unusedSimpArgs false
set_option linter.unusedVariables false
section
namespace Go.Proofs.Ytbgaaocgdjkkeaa
open Go.RowKit

namespace Hd
theorem size_any (k : Nat) (w : World) : Calls Try.prog 61 #[.int .i64 (k : Nat)] w fun e w' => e = .returned (.int .i64 (sz k : Nat)) ∧ w = w' := by
  by_cases h : k < 2
  · have d : decide ((k : Int) < 2) = true := by simp; omega
    have HS : Hid (sz k = 4) := Lib.hid (by unfold sz; rw [if_pos h])
    go_enter Try.func61, Try.ntmps61
    go_wp2
    go_ret
    exact ⟨by rw [HS.out]; rfl, rfl⟩
  · have d : decide ((k : Int) < 2) = false := by simp; omega
    have HS : Hid (sz k = 1) := Lib.hid (by unfold sz; rw [if_neg h])
    go_enter Try.func61, Try.ntmps61
    go_wp2
    go_ret
    exact ⟨by rw [HS.out]; rfl, rfl⟩
def at7 (l : List UInt8) (k i : Nat) : Int := if i < k then (fv l i : Nat) else 0
def row7 (l : List UInt8) (k : Nat) : Array Value := #[.int .i64 (at7 l k 0), .int .i64 (at7 l k 1), .int .i64 (at7 l k 2), .int .i64 (at7 l k 3), .int .i64 (at7 l k 4), .int .i64 (at7 l k 5), .int .i64 (at7 l k 6)]
theorem row7_set (l : List UInt8) (k : Nat) (hk : k < 7) : (row7 l k).setIfInBounds k (.int .i64 (fv l k : Nat)) = row7 l (k + 1) := by
  match k, hk with
  | 0, _ => simp [row7, at7]
  | 1, _ => simp [row7, at7]
  | 2, _ => simp [row7, at7]
  | 3, _ => simp [row7, at7]
  | 4, _ => simp [row7, at7]
  | 5, _ => simp [row7, at7]
  | 6, _ => simp [row7, at7]
theorem row7_get (l : List UInt8) (k : Nat) (hk : k < 7) : ∃ x, (row7 l k)[k]? = some (.int .i64 x) := by
  match k, hk with
  | 0, _ => exact ⟨_, rfl⟩
  | 1, _ => exact ⟨_, rfl⟩
  | 2, _ => exact ⟨_, rfl⟩
  | 3, _ => exact ⟨_, rfl⟩
  | 4, _ => exact ⟨_, rfl⟩
  | 5, _ => exact ⟨_, rfl⟩
  | 6, _ => exact ⟨_, rfl⟩
/-- What Take answers. -/
def HtPost (w : World) (l : List UInt8) (e : Ending) (w' : World) : Prop := e = .returned (.tuple #[(take l).2.val, errV (take l).1]) ∧ Below w.heap.size w w'
theorem Below.heap_old {w w' : World} {g B : Nat} {o : Obj} (h : w.heap[g]? = some o) (hb : Below B w w') (hg : g < B) : w'.heap[g]? = some o := (hb.block g hg).trans h
set_option maxRecDepth 100000 in
set_option maxHeartbeats 2000000 in
theorem take_any (a : Option Addr) (len cap : Nat) (l : List UInt8) (w : World) (h : Bs w a len cap l) (hr : len ≤ 140737488355328) :
    Calls Try.prog 35 #[.slice a len cap] w (HtPost w l) := by
  have HL := Lib.hid h.hlen
  have HZ := Lib.hid (bx_new w zero)
  have HA := Lib.hid (below_alloc w (.cells #[.int .i64 0, .int .i64 0, .int .i64 0, .int .i64 0, .int .i64 0] 29))
  by_cases hl : len = 13
  rotate_left
  · have d0 : ((len : Int) != 13) = true := by simp; omega
    have HT := Lib.hid (take_len (l := l) (by rw [HL.out]; exact hl))
    clear hl h
    go_enter Try.func35, Try.ntmps35
    go_wp2
    refine bodyPost_ret (res_hd2 _ rfl _ _ w.heap.size zero _ rfl rfl ?_) rfl ⟨?_, ?_⟩
    · exact HZ.out
    · rw [HT.out]; rfl
    · exact HA.out
  obtain rfl := hl
  have H := Lib.hid h
  have HN := Lib.hid (heap_alloc_last (w.alloc (.cells #[.int .i64 0, .int .i64 0, .int .i64 0, .int .i64 0, .int .i64 0] 29)) (.cells (row7 l 0) 93))
  have HZ2 : Hid (Bx ((w.alloc (.cells #[.int .i64 0, .int .i64 0, .int .i64 0, .int .i64 0, .int .i64 0] 29)).alloc (.cells (row7 l 0) 93)) w.heap.size zero) := Lib.hid (HZ.out.below (below_alloc _ (.cells (row7 l 0) 93)))
  have HA2 := Lib.hid (HA.out.alloc (by simp) (.cells (row7 l 0) 93))
  rw [World.size_alloc] at HN
  clear h HZ HA
  go_enter Try.func35, Try.ntmps35
  go_wp2
  have e0 : row7 l 0 = #[.int .i64 0, .int .i64 0, .int .i64 0, .int .i64 0, .int .i64 0, .int .i64 0, .int .i64 0] := rfl
  rw [e0] at HN HZ2 HA2
  revert HN HZ2 HA2
  generalize (w.alloc _).alloc _ = w2
  intro HN HZ2 HA2
  rw [← e0] at HN
  clear e0
  go_loopw [5, 6, 7, 8, 9, 18] (fun v _ _ _ _ i wr => ∃ (k : Nat) (b : Option Addr) (c : Nat), k ≤ 7 ∧ i = .int .i64 (k : Nat) ∧ v = .slice b (13 - pos k) c ∧ Hid (Bs wr b (13 - pos k) c (l.drop (pos k))) ∧ Hid (wr.heap[w.heap.size + 1]? = some (.cells (row7 l k) 93 (0, 0))) ∧ Hid (Below (w.heap.size + 1) w2 wr) ∧ Hid (Below w.heap.size w wr)) (fun _ _ _ _ _ i _ => 7 - (intOf i).toNat)
  case atStart => exact ⟨0, a, cap, by omega, rfl, rfl, Lib.hid (H.out.mono HA2.out), HN, Lib.hid (Below.refl _ _), HA2⟩
  case round =>
    obtain ⟨k, b, c, hk, rfl, rfl, HB, HR, HW, HBW⟩ := hrel
    by_cases hlt : k < 7
    · have hp := pos_succ k
      have hp2 := pos_le (k := k + 1) (by omega)
      have hs := sz_pos k
      have HTK := Lib.hid (take_ok b (13 - pos k) c (sz k) (l.drop (pos k)) wr HB.out (by omega) hs.1 hs.2 (by omega))
      have HSZ := Lib.hid (fun w => size_any k w)
      have HFV : Hid (Pt.num ((l.drop (pos k)).take (sz k)) = fv l k) := Lib.hid rfl
      have HST := Lib.hid (row7_set l k hlt)
      have HPS : Hid (13 - pos k - sz k = 13 - pos (k + 1) ∧ (l.drop (pos k)).drop (sz k) = l.drop (pos (k + 1))) := Lib.hid ⟨by omega, by rw [List.drop_drop, hp]⟩
      have hlt1 : w.heap.size + 1 < wr.heap.size := (Array.getElem?_eq_some_iff.1 HR.out).1
      have HLT := Lib.hid hlt1
      obtain ⟨x0, hx0⟩ := row7_get l k hlt
      have HX0 := Lib.hid hx0
      clear hp hp2 hs hlt1 hx0
      generalize sz k = s at *
      go_wp2_with fail
      refine (HSZ.out _).mono ?_
      rintro e w' ⟨rfl, rfl⟩
      go_wp2_with fail
      refine HTK.out.mono ?_
      rintro e w3 ⟨v3, rfl, own3, hb3⟩
      rw [HFV.out]
      have own4 := ownsRow_setCell_other own3 (a := ⟨w.heap.size + 1, k, none⟩) (fun e => by have h1 := (own3.lt _ e).1; have h2 := HLT.out; simp only at h1; omega) (.int .i64 (fv l k : Nat))
      obtain ⟨b3, c3, rfl, hs3⟩ := own_bs own4 (by omega)
      rw [HPS.out.1, HPS.out.2] at hs3
      have HS4 := Lib.hid hs3
      have hrow3 := (hb3.block _ HLT.out).trans HR.out
      have y0 : w3.cell? ⟨w.heap.size + 1, k, none⟩ = some (.int .i64 x0) := (cell_of_row _ _ _ _ _ (0, 0) hrow3).trans HX0.out
      have f0 := frozen_of_row w3 (w.heap.size + 1) k _ _ hrow3
      have HR3 : Hid ((w3.setCell ⟨w.heap.size + 1, k, none⟩ (.int .i64 (fv l k : Nat))).heap[w.heap.size + 1]? = some (.cells (row7 l (k + 1)) 93 (0, 0))) := Lib.hid (by
        rw [heap_setCell_same w3 _ k _ _ _ hrow3, HST.out])
      have HW3 : Hid (Below (w.heap.size + 1) w2 (w3.setCell ⟨w.heap.size + 1, k, none⟩ (.int .i64 (fv l k : Nat)))) := Lib.hid ((HW.out.trans (hb3.mono (by have := HLT.out; omega))).setCell (p := ⟨w.heap.size + 1, k, none⟩) (Nat.le_refl _) _)
      have HBW3 : Hid (Below w.heap.size w (w3.setCell ⟨w.heap.size + 1, k, none⟩ (.int .i64 (fv l k : Nat)))) := Lib.hid ((below_then HBW.out hb3).setCell (p := ⟨w.heap.size + 1, k, none⟩) (by simp) _)
      rw [HPS.out.1]
      clear hb3 own3 own4 hs3 hrow3 HTK HSZ HFV HST HPS HX0
      go_wp2
      go_roundw
      case rel => exact ⟨k + 1, b3, c3, by omega, by go_num, rfl, HS4, HR3, HW3, HBW3⟩
      case measure => simp [intOf]; omega
    · obtain rfl : k = 7 := by omega
      have q4 : wr.cell? ⟨w.heap.size + 1, 4, none⟩ = some (.int .i64 (fv l 4 : Nat)) := (cell_of_row _ _ _ _ _ (0, 0) HR.out).trans rfl
      have q5 : wr.cell? ⟨w.heap.size + 1, 5, none⟩ = some (.int .i64 (fv l 5 : Nat)) := (cell_of_row _ _ _ _ _ (0, 0) HR.out).trans rfl
      have HZR : Hid (Bx wr w.heap.size zero) := Lib.hid ((HW.out.block w.heap.size (by omega)).trans HZ2.out)
      have z0 := HZR.out.cells
      have g0 := frozen_of_row wr w.heap.size 0 _ _ HZR.out
      have g1 := frozen_of_row wr w.heap.size 1 _ _ HZR.out
      have g2 := frozen_of_row wr w.heap.size 2 _ _ HZR.out
      have g3 := frozen_of_row wr w.heap.size 3 _ _ HZR.out
      have g4 := frozen_of_row wr w.heap.size 4 _ _ HZR.out
      obtain ⟨z0, z1, z2, z3, z4⟩ := z0
      have HSET := Lib.hid (fun x => bx_set HZR.out x)
      have HBST := Lib.hid (fun a b c d e => below_set5 (Nat.le_refl _) HBW.out a b c d e)
      simp only [zero] at z0 z1 z2 z3 z4
      by_cases h4 : fv l 4 = 0
      rotate_left
      · have d4 : (((fv l 4 : Nat) : Int) != 0) = true := by simp; omega
        have HT := Lib.hid (take_two (l := l) (.inl h4))
        clear h4
        go_wp2
        refine bodyPost_ret (res_hd2 _ rfl _ _ w.heap.size zero _ rfl rfl (HSET.out zero)) rfl ⟨by rw [HT.out]; rfl, HBST.out _ _ _ _ _⟩
      have d4 : (((fv l 4 : Nat) : Int) != 0) = false := by simp; omega
      by_cases h5 : fv l 5 = 0
      rotate_left
      · have d5 : (((fv l 5 : Nat) : Int) != 0) = true := by simp; omega
        have HT := Lib.hid (take_two (l := l) (.inr h5))
        clear h4 h5
        go_wp2
        refine bodyPost_ret (res_hd2 _ rfl _ _ w.heap.size zero _ rfl rfl (HSET.out zero)) rfl ⟨by rw [HT.out]; rfl, HBST.out _ _ _ _ _⟩
      have d5 : (((fv l 5 : Nat) : Int) != 0) = false := by simp; omega
      have q0 : wr.cell? ⟨w.heap.size + 1, 0, none⟩ = some (.int .i64 (fv l 0 : Nat)) := (cell_of_row _ _ _ _ _ (0, 0) HR.out).trans rfl
      have q1 : wr.cell? ⟨w.heap.size + 1, 1, none⟩ = some (.int .i64 (fv l 1 : Nat)) := (cell_of_row _ _ _ _ _ (0, 0) HR.out).trans rfl
      have q2 : wr.cell? ⟨w.heap.size + 1, 2, none⟩ = some (.int .i64 (fv l 2 : Nat)) := (cell_of_row _ _ _ _ _ (0, 0) HR.out).trans rfl
      have q3 : wr.cell? ⟨w.heap.size + 1, 3, none⟩ = some (.int .i64 (fv l 3 : Nat)) := (cell_of_row _ _ _ _ _ (0, 0) HR.out).trans rfl
      have q6 : wr.cell? ⟨w.heap.size + 1, 6, none⟩ = some (.int .i64 (fv l 6 : Nat)) := (cell_of_row _ _ _ _ _ (0, 0) HR.out).trans rfl
      have HTF := Lib.hid (fun h3 => take_fine (l := l) HL.out h4 h5 h3)
      have HTB := Lib.hid (fun h3 => take_bad (l := l) HL.out h4 h5 h3)
      have HCK := Lib.hid (fun w => check_any (dec l) w)
      have HBN := Lib.hid (bx_new wr (dec l))
      have HZN := Lib.hid (HZR.out.below (below_alloc wr (.cells #[.int .i64 (dec l).w, .int .i64 (dec l).h, .int .i64 (dec l).d, .int .i64 (dec l).c, .int .i64 (dec l).l] 29)))
      have HBA := Lib.hid (HBW.out.alloc HBW.out.size (.cells #[.int .i64 (dec l).w, .int .i64 (dec l).h, .int .i64 (dec l).d, .int .i64 (dec l).c, .int .i64 (dec l).l] 29))
      clear h4 h5 HSET HBST z0 z1 z2 z3 z4 g0 g1 g2 g3 g4
      obtain ⟨y, hy⟩ : ∃ y, dec l = y := ⟨_, rfl⟩
      have hy0 : ((fv l 0 : Nat) : Int) = y.w := by rw [← hy]; rfl
      have hy1 : ((fv l 1 : Nat) : Int) = y.h := by rw [← hy]; rfl
      have hy2 : ((fv l 2 : Nat) : Int) = y.d := by rw [← hy]; rfl
      have hy3 : ((fv l 3 : Nat) : Int) = y.c := by rw [← hy]; rfl
      have hy6 : ((fv l 6 : Nat) : Int) = y.l := by rw [← hy]; rfl
      rw [hy0] at q0
      rw [hy1] at q1
      rw [hy2] at q2
      rw [hy3] at q3
      rw [hy6] at q6
      rw [hy] at HTF HTB HCK HBN HZN HBA
      clear hy hy0 hy1 hy2 hy3 hy6
      generalize bad y = bd at *
      go_wp2_with fail
      refine (HCK.out _).mono ?_
      rintro e w5 ⟨rfl, hb5⟩
      have HN5 := Lib.hid (HBN.out.below hb5)
      have HZ5 := Lib.hid (HZN.out.below hb5)
      have HB5 := Lib.hid (below_then HBA.out hb5)
      obtain ⟨z0, z1, z2, z3, z4⟩ := HZ5.out.cells
      have g0 := frozen_of_row w5 w.heap.size 0 _ _ HZ5.out
      have g1 := frozen_of_row w5 w.heap.size 1 _ _ HZ5.out
      have g2 := frozen_of_row w5 w.heap.size 2 _ _ HZ5.out
      have g3 := frozen_of_row w5 w.heap.size 3 _ _ HZ5.out
      have g4 := frozen_of_row w5 w.heap.size 4 _ _ HZ5.out
      obtain ⟨n0, n1, n2, n3, n4⟩ := HN5.out.cells
      have HSET := Lib.hid (fun x => bx_set HZ5.out x)
      have HBST := Lib.hid (fun a b c d e => below_set5 (Nat.le_refl _) HB5.out a b c d e)
      simp only [zero] at z0 z1 z2 z3 z4
      clear hb5 HCK HBN HZN HBA
      by_cases hz : bd = 0
      · rw [errV_zero hz]
        have HT := Lib.hid (HTF.out hz)
        clear hz HTF HTB
        go_wp2
        refine bodyPost_ret (res_hd2 _ rfl _ _ w.heap.size y _ rfl rfl (HSET.out y)) rfl ⟨by rw [HT.out]; rfl, HBST.out _ _ _ _ _⟩
      · have HE := Lib.hid (errV_pos hz)
        rw [HE.out]
        have HT := Lib.hid (HTB.out hz)
        clear hz HTF HTB
        go_wp2
        refine bodyPost_ret (res_hd2 _ rfl _ _ w.heap.size zero _ rfl rfl (HSET.out zero)) rfl ⟨by rw [HT.out, HE.out]; rfl, HBST.out _ _ _ _ _⟩
end Hd
end Go.Proofs.Ytbgaaocgdjkkeaa
end
