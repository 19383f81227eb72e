/- burnishlaw08.alive: its contract. -/
import Derived.Test.YtedncnaeojomcaaDoorLzFinderOk
import Derived.Test.YtedncnaeojomcaaDoorLzLongest
namespace Go.Proofs.YtedncnaeojomcaaDoor
open Go.RowKit Go.Maps

theorem lastT_eq {b : Nat → Nat} {N t : Nat} {R : List (Nat × Nat)} (h : Lz.Rec b N t R) (h3 : 3 ≤ Lz.top R) : lastT R = (Lz.top R, Lz.far R (Lz.top R)) := by
  cases hl : R.getLast? with
  | none => rw [List.getLast?_eq_none_iff.1 hl, Lz.top_nil] at h3; omega
  | some z =>
    obtain ⟨us, rfl⟩ := List.getLast?_eq_some_iff.1 hl
    rw [lastT_snoc, Lz.far_last h, Lz.top_snoc]
abbrev exl : List UInt8 := [97, 98, 99, 97, 98, 99, 97, 98, 99]
instance matDec0 (b : Nat → Nat) (N t n f : Nat) : Decidable (Lz.Mat b N t n f) := by unfold Lz.Mat; infer_instance
theorem ex_mat : Lz.Mat (gb exl) 9 3 6 3 ∧ ¬ Lz.Mat (gb exl) 9 3 6 1 ∧ ¬ Lz.Mat (gb exl) 9 3 6 2 := by decide +kernel
theorem ex_lastT {R : List (Nat × Nat)} (h : Lz.Rec (gb exl) 9 3 R) : lastT R = (6, 3) ∧ Lz.top R = 6 ∧ Lz.far R 6 = 3 := by
  obtain ⟨h1, h2⟩ := Lz.mat_top h (by omega) ex_mat.1
  have h3 := Lz.top_le_L h (by omega)
  have hL : Lz.L 9 3 = 6 := by decide
  rw [hL] at h3
  have e : Lz.top R = 6 := by omega
  have hf := (Lz.far_some h (by omega : 3 ≤ 6) h1).1
  have h0 := hf.1
  have ef : Lz.far R 6 = 3 := by
    rcases (show Lz.far R 6 = 1 ∨ Lz.far R 6 = 2 ∨ Lz.far R 6 = 3 by omega) with h | h | h
    · rw [h] at hf; exact absurd hf ex_mat.2.1
    · rw [h] at hf; exact absurd hf ex_mat.2.2
    · exact h
  exact ⟨by rw [lastT_eq h (by omega), e, ef], e, ef⟩
set_option maxRecDepth 100000 in
set_option maxHeartbeats 4000000 in
theorem alive08_any (w : World) (hdb : Db w) (hdl : 0 < w.heap.size) :
    Calls Tryd.prog 10 #[] w fun e w' => e = .returned (.bool true) ∧ Below w.heap.size w w' := by
  have HDB : Hid (∀ w', Below w.heap.size w w' → Db w' ∧ 0 < w'.heap.size) := Lib.hid (fun w' hb => ⟨hdb.kept hb hdl, Nat.lt_of_lt_of_le hdl hb.size⟩)
  clear hdb hdl
  go_enter Tryd.func10, Tryd.ntmps10
  have kc := fun (w : World) (C : Array Value) (n c : Nat) => Lib.run_convert_bytes_const (P := Tryd.prog) w 22 5 C n c Tryd.underlying22 Tryd.underlying5
  go_wp2_with fail
  have hb0 := bs_new w _ rfl [97, 98, 99, 97, 98, 99, 97, 98, 99] 5 (9, 10) 9 rfl (by omega) _ rfl
  have hdb1 := HDB.out _ (below_alloc w (.cells (bvs [97, 98, 99, 97, 98, 99, 97, 98, 99]).toArray 5 (9, 10)))
  refine (newFinder_any _ 9 9 exl _ hb0 (by omega) (fun ad e => by cases e; simp) hdb1.1 hdb1.2).mono ?_
  rintro e w1 ⟨gf, eb, v, Rs, rfl, hfd, _, _, hb1⟩
  have HB1 := Lib.hid (below_then (below_alloc w _) hb1)
  have HL := Lib.hid (longest_any 3 hfd (by omega))
  have HLN := Lib.hid hfd
  have hval := (ex_lastT (by have := ra_rec hfd.recs (t := 3) (by omega); exact this : Lz.Rec (gb exl) 9 3 (ra Rs 3))).1
  rw [hval] at HL
  clear hb0 hb1 hdb1 hfd hval
  go_wp2_with fail
  refine HL.out.mono ?_
  rintro e w2 ⟨rfl, hb2⟩
  have HB2 := Lib.hid (below_then HB1.out hb2)
  have HLN2 := Lib.hid (HLN.out.below hb2)
  clear hb2 HL HLN
  go_wp2_with fail
  refine (len_any (HLN2.out.below (below_alloc w2 _))).mono ?_
  rintro e w3 ⟨rfl, rfl⟩
  go_wp2
  go_ret
  exact ⟨rfl, below_then HB2.out (below_alloc w2 _)⟩
end Go.Proofs.YtedncnaeojomcaaDoor
