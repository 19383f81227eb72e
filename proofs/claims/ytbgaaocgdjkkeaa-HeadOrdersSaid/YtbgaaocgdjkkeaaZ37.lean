/- burnishref13.in, power: their contracts. -/
import Derived.Test.YtbgaaocgdjkkeaaZ12
set_option linter.unusedSimpArgs false
set_option linter.unusedVariables false
section
namespace Go.Proofs.Ytbgaaocgdjkkeaa
open Go.RowKit

namespace Hd
def cat4 (cs : List (List UInt8)) : List UInt8 := cs.flatten
theorem cat4_len {cs : List (List UInt8)} (h : ∀ c ∈ cs, c.length = 4) : (cat4 cs).length = 4 * cs.length := by
  unfold cat4
  induction cs with
  | nil => rfl
  | cons c cs ih =>
    rw [List.flatten_cons, List.length_append, ih (fun x hx => h x (List.mem_cons_of_mem _ hx)), h c List.mem_cons_self, List.length_cons]; omega
theorem cat4_cut : ∀ {cs : List (List UInt8)} (_ : ∀ c ∈ cs, c.length = 4) (k : Nat), k < cs.length → ((cat4 cs).drop (4 * k)).take 4 = cs.getD k []
  | [], _, k, hk => by simp at hk
  | c :: cs, h, k, hk => by
    have hc : c.length = 4 := h c List.mem_cons_self
    have e : cat4 (c :: cs) = c ++ cat4 cs := by simp [cat4]
    rw [e]
    cases k with
    | zero => simp [List.take_append_of_le_length, hc]
    | succ k =>
      have := cat4_cut (fun x hx => h x (List.mem_cons_of_mem _ hx)) k (by simpa using hk)
      have e2 : (c ++ cat4 cs).drop (4 * (k + 1)) = (cat4 cs).drop (4 * k) := by
        rw [show 4 * (k + 1) = c.length + 4 * k by omega, List.drop_append]
        simp
      rw [e2, this]
      simp
theorem str_cut (l : List UInt8) (i j : Nat) : ((str l).extract i j).toList = (l.drop i).take (j - i) := by
  rw [ByteArray.toList_eq, ByteArray.data_extract]
  simp [str, List.extract_eq_take_drop]
def inP (cs : List (List UInt8)) (nm : List UInt8) : Bool := cs.contains nm
set_option maxHeartbeats 1000000 in
theorem in_any (nm : List UInt8) (cs : List (List UInt8)) (hc : ∀ c ∈ cs, c.length = 4) (hn : cs.length ≤ 1000) (w : World) :
    Calls Try.prog 41 #[.string (str nm), .string (str (cat4 cs))] w fun e w' => e = .returned (.bool (inP cs nm)) ∧ w = w' := by
  have hsz : (str (cat4 cs)).size = 4 * cs.length := by rw [str_size, cat4_len hc]
  have HC := Lib.hid hc
  clear hc
  go_enter Try.func41, Try.ntmps41
  go_wp2
  go_loop [5] (fun i => ∃ k : Nat, k ≤ cs.length ∧ i = .int .i64 (4 * k : Nat) ∧ Hid (∀ j, j < k → cs.getD j [] ≠ nm)) (fun i => 4 * cs.length - (intOf i).toNat)
  case atStart => exact ⟨0, by omega, rfl, Lib.hid (fun j hj => by omega)⟩
  case round =>
    obtain ⟨k, hk, rfl, HA⟩ := hrel
    by_cases hlt : k < cs.length
    · have hcut : ((str (cat4 cs)).extract (4 * k) (4 * k + 4)).toList = cs.getD k [] := by
        rw [str_cut, show 4 * k + 4 - 4 * k = 4 by omega, cat4_cut HC.out k hlt]
      have hks : cs.getD k [] = cs[k] := by simp [List.getD, List.getElem?_eq_getElem hlt]
      by_cases he : cs.getD k [] = nm
      · have e1 : (((str (cat4 cs)).extract (4 * k) (4 * k + 4)).toList == (str nm).toList) = true := by rw [hcut, str_list, he]; exact beq_self_eq_true _
        have HR : Hid (inP cs nm = true) := Lib.hid (by
          unfold inP
          rw [← he, hks]
          simp [List.getElem_mem hlt])
        clear hcut hks he HA
        go_wp2
        go_ret
        exact ⟨by rw [HR.out]; rfl, rfl⟩
      · have e1 : (((str (cat4 cs)).extract (4 * k) (4 * k + 4)).toList == (str nm).toList) = false := by rw [hcut, str_list]; simpa using he
        have HN : Hid (∀ j, j < k + 1 → cs.getD j [] ≠ nm) := Lib.hid (fun j hj => by
          rcases Nat.lt_succ_iff_lt_or_eq.1 hj with h1 | rfl
          · exact HA.out j h1
          · exact he)
        clear hcut hks he HA
        go_wp2
        go_round
        case rel => exact ⟨k + 1, by omega, by go_num, HN⟩
        case measure => simp [intOf]; omega
    · obtain rfl : k = cs.length := by omega
      have HR : Hid (inP cs nm = false) := Lib.hid (by
        unfold inP
        apply Bool.eq_false_iff.2
        intro hc
        obtain ⟨i, hi, e⟩ := List.getElem_of_mem (show nm ∈ cs by simpa using hc)
        exact HA.out i hi (by simp [List.getD, List.getElem?_eq_getElem hi, e]))
      have d1 : decide (4 * cs.length + 4 ≤ 4 * cs.length) = false := by simp
      clear HA
      go_wp2
      go_ret
      exact ⟨by rw [HR.out]; rfl, rfl⟩
def pw (n : Nat) : Nat := 2 ^ n
theorem power_any (n : Nat) (hn : n ≤ 60) (w : World) : Calls Try.prog 70 #[.int .i64 (n : Nat)] w fun e w' => e = .returned (.int .i64 (pw n : Nat)) ∧ w = w' := by
  go_enter Try.func70, Try.ntmps70
  go_wp2
  go_loop [3, 4] (fun v i => ∃ k p : Nat, k ≤ n ∧ i = .int .i64 (k : Nat) ∧ v = .int .i64 (p : Nat) ∧ Hid (p = 2 ^ k)) (fun _ i => n - (intOf i).toNat)
  case atStart => exact ⟨0, 1, by omega, rfl, rfl, Lib.hid rfl⟩
  case round =>
    obtain ⟨k, p, hk, rfl, rfl, HP⟩ := hrel
    by_cases hlt : k < n
    · have hp : p ≤ 1152921504606846976 := by rw [HP.out]; have := Nat.pow_le_pow_right (show 0 < 2 by omega) (show k ≤ 60 by omega); omega
      have HP2 : Hid (2 * p = 2 ^ (k + 1)) := Lib.hid (by rw [HP.out, Nat.pow_succ]; omega)
      clear HP
      go_wp2
      go_round
      case rel => exact ⟨k + 1, 2 * p, by omega, by go_num, by go_num, HP2⟩
      case measure => simp [intOf]; omega
    · obtain rfl : k = n := by omega
      go_wp2
      go_ret
      exact ⟨ret_int (by rw [HP.out]; rfl), rfl⟩
end Hd
end Go.Proofs.Ytbgaaocgdjkkeaa
end
