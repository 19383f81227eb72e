/- burnishnum.Ints, CopyInts, KeptInts: their contracts. -/
import Derived.Test.YtbgaaocgdjkkeaaDoorInts
import Derived.Deep.QuietTactic
import Derived.BigQuiet
import Derived.Test.YtbgaaocgdjkkeaaDoorDrewN
namespace Go.Proofs.YtbgaaocgdjkkeaaDoor
open Go.RowKit

theorem ints_any (a b : Option Addr) (len cap len' cap' : Nat) (l m : List Int) (w : World) (h : Is .i64 w a len cap l) (h' : Is .i64 w b len' cap' m) (hr : len ≤ 140737488355328) (hr' : len' ≤ 140737488355328) :
    Calls Tryd.prog 23 #[.slice a len cap, .slice b len' cap'] w fun e w' => e = .returned (.bool (decide (l = m))) ∧ ∃ n, w' = w.drewN n := by
  have HL := Lib.hid h.hlen
  have HL' := Lib.hid h'.hlen
  have H := Lib.hid h
  have H' := Lib.hid h'
  clear h h'
  by_cases hne : len = len'
  · subst hne
    go_enter Tryd.func23, Tryd.ntmps23
    go_wp2
    go_loopw [13] (fun i wr => ∃ k : Nat, k ≤ len ∧ i = .int .i64 k ∧ (∃ n, wr = w.drewN n) ∧ Hid (l.take k = m.take k)) (fun i _ => len - (intOf i).toNat)
    case atStart => exact ⟨0, by omega, rfl, ⟨0, rfl⟩, Lib.hid (by simp)⟩
    case round =>
      obtain ⟨k, hk, rfl, ⟨dn, rfl⟩, HT⟩ := hrel
      by_cases hlt : k < len
      · obtain ⟨b1, off1, rfl, _, c1⟩ := H.out.at' k hlt
        obtain ⟨b2, off2, rfl, _, c2⟩ := H'.out.at' k hlt
        have hkl : k < l.length := by rw [HL.out]; exact hlt
        have hkm : k < m.length := by rw [HL'.out]; exact hlt
        have t1 : l.take (k + 1) = l.take k ++ [l.getD k 0] := by rw [List.take_succ_eq_append_getElem hkl]; simp [List.getD, List.getElem?_eq_getElem hkl]
        have t2 : m.take (k + 1) = m.take k ++ [m.getD k 0] := by rw [List.take_succ_eq_append_getElem hkm]; simp [List.getD, List.getElem?_eq_getElem hkm]
        have T1 := Lib.hid t1
        have T2 := Lib.hid t2
        have HLM := Lib.hid (show l = m → l.getD k 0 = m.getD k 0 from fun e => by rw [e])
        clear t1 t2 hkl hkm
        generalize l.getD k 0 = x at *
        generalize m.getD k 0 = y at *
        by_cases hxy : x = y
        · subst hxy
          go_wp2
          go_quiet (fail)
          go_wp2
          go_roundw
          case rel => exact ⟨k + 1, by omega, by go_num, ⟨_, rfl⟩, Lib.hid (by rw [T1.out, T2.out, HT.out])⟩
          case measure => simp [intOf]; omega
        · have dxy : (x != y) = true := by simpa using hxy
          have HF := Lib.hid (show decide (l = m) = false from decide_eq_false (fun e => hxy (HLM.out e)))
          clear hxy
          go_wp2
          go_quiet (fail)
          go_wp2
          go_ret
          exact ⟨by rw [HF.out]; rfl, _, drewN_two _ _ _⟩
      · obtain rfl : len = k := by omega
        have HF := Lib.hid (show decide (l = m) = true from decide_eq_true (by have := HT.out; rwa [List.take_of_length_le (by rw [HL.out]; exact Nat.le_refl _), List.take_of_length_le (by rw [HL'.out]; exact Nat.le_refl _)] at this))
        go_wp2
        go_ret
        exact ⟨by rw [HF.out]; rfl, _, rfl⟩
  · have dne : (len != len') = true := by simpa using hne
    have HF := Lib.hid (show decide (l = m) = false from decide_eq_false (fun e => hne (by rw [← HL.out, ← HL'.out, e])))
    have dni : ((len : Int) != (len' : Int)) = true := by simp; omega
    clear hne
    go_enter Tryd.func23, Tryd.ntmps23
    go_wp2
    go_ret
    exact ⟨by rw [HF.out]; rfl, 0, rfl⟩
def CopyIPost (w : World) (len : Nat) (l : List Int) (e : Ending) (w' : World) : Prop :=
  ∃ g, e = .returned (.slice (some ⟨g, 0, none⟩) len (len + 1)) ∧ w'.ownsRow w.heap.size 3 1 (.slice (some ⟨g, 0, none⟩) (len + 1) (len + 1)) (len + 1) (ivs (l ++ [-77])) ∧ Below w.heap.size w w'
set_option maxHeartbeats 400000 in
theorem copyI_any (a : Option Addr) (len cap : Nat) (l : List Int) (w : World) (h : Is .i64 w a len cap l) (hr : len * 8 ≤ 140737488351232) :
    Calls Tryd.prog 7 #[.slice a len cap] w (CopyIPost w len l) := by
  have HL := Lib.hid h.hlen
  go_enter Tryd.func7, Tryd.ntmps7
  go_wp2_with (at_make; refine wpl_make tyI rfl _ _ rfl w.heap.size .i64 .i64 _ (len + 1) rfl rfl (by omega) (by omega) (by omega) (Nat.le_refl _) ?_)
  intro w1 hown1 hg1
  have hb1 : Below w.heap.size w w1 := (Below.refl _ _).grown hg1 (Nat.le_refl _) (by simp)
  have hz1 := hb1.size
  have hs1 := (h.mono hb1).src
  go_wp2_with (at_builtin; refine wpl_fits tyI rfl _ _ rfl hown1 hs1 rfl rfl (by omega) ?_)
  intro w2 hown2 hg2
  have hb2 : Below w.heap.size w w2 := hb1.grown hg2 hz1 (by simp)
  have hz2 := hb2.size
  have hs2 : SrcRow (w2.alloc (.cells #[Value.int .i64 (-77)] 3)) (some ⟨w2.heap.size, 0, none⟩) 1 1 (ivs [-77]) 1 := src_int w2 (-77)
  go_wp2_with (at_builtin; refine wpl_fits tyI rfl _ _ rfl (hown2.alloc _) hs2 rfl rfl (by omega) ?_)
  intro w3 hown3 hg3
  have hb3 : Below w.heap.size w w3 := (hb2.alloc hz2 _).grown hg3 (by simp; omega) (by simp)
  rw [← ivs_append] at hown3
  clear hg1 hg2 hg3 hown1 hown2 hs1 hs2
  go_wp2
  go_ret
  exact ⟨_, rfl, hown3, hb3⟩
theorem wf_mark {l : List Int} (h : Wf l) : Wf (l ++ [-77]) := by
  intro n hn
  rcases List.mem_append.1 hn with h1 | h1
  · exact h n h1
  · simp only [List.mem_singleton] at h1
    subst h1; rfl
theorem keptI_any (g len : Nat) (a : Option Addr) (cap : Nat) (l : List Int) (w : World) (base : Nat) (hr : len * 8 ≤ 140737488351232) (hw : Wf l)
    (hown : w.ownsRow base 3 1 (.slice (some ⟨g, 0, none⟩) (len + 1) (len + 1)) (len + 1) (ivs (l ++ [-77]))) (h : Is .i64 w a len cap l) :
    Calls Tryd.prog 10 #[.slice (some ⟨g, 0, none⟩) len (len + 1), .slice a len cap] w fun e w' => e = .returned (.bool true) ∧ ∃ n, w' = w.drewN n := by
  have hlen := h.hlen
  have hm := is_of_own hown (l := l ++ [-77]) (wf_mark hw) 0 len (len + 1) (by omega) (by omega)
  rw [List.drop_zero, List.take_append_of_le_length (by omega), List.take_of_length_le (by omega)] at hm
  have e1 : w.cell? ⟨g, len, none⟩ = some (.int .i64 (-77)) := by
    rw [hown.cellAt len (by omega), ivs_get _ _ (by simp; omega)]; simp [← hlen]
  have HM := Lib.hid hm
  have HA := Lib.hid h
  clear hm hown hlen h
  go_enter Tryd.func10, Tryd.ntmps10
  go_wp2_with fail
  refine (ints_any _ _ _ _ _ _ l l w HM.out HA.out (by omega) (by omega)).mono ?_
  rintro e w' ⟨rfl, dn, rfl⟩
  rw [show decide (l = l) = true from decide_eq_true rfl]
  go_wp2
  go_ret
  exact ⟨rfl, _, rfl⟩
end Go.Proofs.YtbgaaocgdjkkeaaDoor
