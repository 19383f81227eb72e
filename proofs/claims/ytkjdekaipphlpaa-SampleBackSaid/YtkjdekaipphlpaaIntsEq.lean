/- burnishnum.Ints: its contract. -/
import Derived.Test.YtkjdekaipphlpaaInts
import Derived.Deep.QuietTactic
import Derived.BigQuiet
import Derived.Test.YtkjdekaipphlpaaDrewN
namespace Go.Proofs.Ytkjdekaipphlpaa
open Go.RowKit

theorem ints_any (a b : Option Addr) (len cap len' cap' : Nat) (l m : List Int) (w : World) (h : Is .i64 w a len cap l) (h' : Is .i64 w b len' cap' m) (hr : len ≤ 140737488355328) (hr' : len' ≤ 140737488355328) :
    Calls Try.prog 15 #[.slice a len cap, .slice b len' cap'] w fun e w' => e = .returned (.bool (decide (l = m))) ∧ ∃ n, w' = w.drewN n := by
  have HL := Lib.hid h.hlen
  have HL' := Lib.hid h'.hlen
  have H := Lib.hid h
  have H' := Lib.hid h'
  clear h h'
  by_cases hne : len = len'
  · subst hne
    go_enter Try.func15, Try.ntmps15
    go_wp2
    go_loopw [13] (fun i wr => ∃ k : Nat, k ≤ len ∧ i = .int .i64 k ∧ (∃ n, wr = w.drewN n) ∧ Hid (l.take k = m.take k)) (fun i _ => len - (intOf i).toNat)
    case atStart => exact ⟨0, by omega, rfl, ⟨0, rfl⟩, Lib.hid (by simp)⟩
    case round =>
      obtain ⟨k, hk, rfl, ⟨dn, rfl⟩, HT⟩ := hrel
      by_cases hlt : k < len
      · obtain ⟨b1, off1, rfl, _, c1⟩ := H.out.at' k hlt
        obtain ⟨b2, off2, rfl, _, c2⟩ := H'.out.at' k hlt
        have hkl : k < l.length := by rw [HL.out]; exact hlt
        have hkm : k < m.length := by rw [HL'.out]; exact hlt
        have t1 : l.take (k + 1) = l.take k ++ [l.getD k 0] := by rw [List.take_succ_eq_append_getElem hkl]; simp [List.getD, List.getElem?_eq_getElem hkl]
        have t2 : m.take (k + 1) = m.take k ++ [m.getD k 0] := by rw [List.take_succ_eq_append_getElem hkm]; simp [List.getD, List.getElem?_eq_getElem hkm]
        have T1 := Lib.hid t1
        have T2 := Lib.hid t2
        have HLM := Lib.hid (show l = m → l.getD k 0 = m.getD k 0 from fun e => by rw [e])
        clear t1 t2 hkl hkm
        generalize l.getD k 0 = x at *
        generalize m.getD k 0 = y at *
        by_cases hxy : x = y
        · subst hxy
          go_wp2
          go_quiet (fail)
          go_wp2
          go_roundw
          case rel => exact ⟨k + 1, by omega, by go_num, ⟨_, rfl⟩, Lib.hid (by rw [T1.out, T2.out, HT.out])⟩
          case measure => simp [intOf]; omega
        · have dxy : (x != y) = true := by simpa using hxy
          have HF := Lib.hid (show decide (l = m) = false from decide_eq_false (fun e => hxy (HLM.out e)))
          clear hxy
          go_wp2
          go_quiet (fail)
          go_wp2
          go_ret
          exact ⟨by rw [HF.out]; rfl, _, drewN_two _ _ _⟩
      · obtain rfl : len = k := by omega
        have HF := Lib.hid (show decide (l = m) = true from decide_eq_true (by have := HT.out; rwa [List.take_of_length_le (by rw [HL.out]; exact Nat.le_refl _), List.take_of_length_le (by rw [HL'.out]; exact Nat.le_refl _)] at this))
        go_wp2
        go_ret
        exact ⟨by rw [HF.out]; rfl, _, rfl⟩
  · have dne : (len != len') = true := by simpa using hne
    have HF := Lib.hid (show decide (l = m) = false from decide_eq_false (fun e => hne (by rw [← HL.out, ← HL'.out, e])))
    have dni : ((len : Int) != (len' : Int)) = true := by simp; omega
    clear hne
    go_enter Try.func15, Try.ntmps15
    go_wp2
    go_ret
    exact ⟨by rw [HF.out]; rfl, 0, rfl⟩
end Go.Proofs.Ytkjdekaipphlpaa
