/-  -/
import Derived.Test.YtbgaaocgdjkkeaaZ1
import Derived.Test.YtbgaaocgdjkkeaaProg
import Derived.Laws.Rows
import Derived.Deep.WholeRow
set_option linter.unusedSimpArgs false
set_option linter.unusedVariables false
section
namespace Go.Proofs.Ytbgaaocgdjkkeaa
open Go.RowKit

theorem step_any (r : Nat) (w : World) (h : r < 4294967296) :
    Calls Try.prog 92 #[.int .u32 r] w fun e w' => e = .returned (.int .u32 (Crc.st r)) ∧ w = w' := by
  have ha : bits .and .u32 (r : Int) 1 = (r : Int) % 2 := by
    have := u32_and_nat r 1 h (by omega)
    rw [nat_mask1] at this
    have e : ((r % 2 : Nat) : Int) = (r : Int) % 2 := by omega
    rw [e] at this; exact this
  go_enter Try.func92, Try.ntmps92
  go_wp2
  all_goals go_ret
  all_goals exact ⟨ret_int (by first | exact Crc.st_odd h (by assumption) | exact Crc.st_even (by assumption)), rfl⟩

theorem afterFour_any (w : World) :
    Calls Try.prog 89 #[] w fun e w' => e = .returned (.agg (Crc.tab 16)) ∧ Below w.heap.size w w' := by
  have h0 : Crc.tab 0 = #[Value.int IntKind.u32 0, Value.int IntKind.u32 0, Value.int IntKind.u32 0, Value.int IntKind.u32 0,
          Value.int IntKind.u32 0, Value.int IntKind.u32 0, Value.int IntKind.u32 0, Value.int IntKind.u32 0,
          Value.int IntKind.u32 0, Value.int IntKind.u32 0, Value.int IntKind.u32 0, Value.int IntKind.u32 0,
          Value.int IntKind.u32 0, Value.int IntKind.u32 0, Value.int IntKind.u32 0, Value.int IntKind.u32 0] := rfl
  go_enter Try.func89, Try.ntmps89
  go_wp2
  rw [← h0]
  clear h0
  go_loopw [4] (fun i wr => ∃ k : Nat, k ≤ 16 ∧ i = .int .u32 k ∧ wr = (w.alloc (.cells (Crc.tab 0) 123)).alloc (.cells (Crc.tab k) 123)) (fun i _ => 16 - (intOf i).toNat)
  case atStart => exact ⟨0, by omega, rfl, rfl⟩
  case round =>
    obtain ⟨k, hk, rfl, rfl⟩ := hrel
    by_cases hlt : k < 16
    · have hx : k < 4294967296 := by omega
      have hlb : decide ((k : Int) < 16) = true := by simp; omega
      go_wp2
      go_loop [3, 8] (fun r j => ∃ m : Nat, m ≤ 4 ∧ j = .int .i64 m ∧ r = .int .u32 (Crc.stN m k)) (fun _ j => 4 - (intOf j).toNat)
      case atStart => exact ⟨0, by omega, rfl, rfl⟩
      case round =>
        obtain ⟨m, hm, rfl, rfl⟩ := hrel
        have hs := Crc.stN_lt hx m
        by_cases hm4 : m < 4
        · go_wp2_with (go_at_call 92; refine (step_any _ _ hs).mono ?_; rintro e w' ⟨rfl, rfl⟩)
          go_round
          case rel => exact ⟨m + 1, by omega, by go_num, rfl⟩
          case measure => simp [intOf]; omega
        · obtain rfl : m = 4 := by omega
          have hts := Crc.tab_size k
          obtain ⟨n, hn⟩ := Crc.tab_get' k k (by omega)
          go_wp2
          go_roundw
          case rel => exact ⟨k + 1, by omega, by go_num, by rw [Crc.tab_set k (by omega)]⟩
          case measure => simp [intOf]; omega
    · obtain rfl : k = 16 := by omega
      have hth : ((w.alloc (.cells (Crc.tab 0) 123)).alloc (.cells (Crc.tab 16) 123)).there w.heap.size 0 (Crc.tab 16).size :=
        there_of_heap (heap_alloc2_old _ _ _) (by rw [Crc.tab_size, Crc.tab_size]; omega)
      have hsz : (Try.prog.info? 123).map (·.size) = some (Crc.tab 16).size := by rw [Crc.tab_size]; kernel_rfl
      go_wp2_with (first
        | (refine wpList_load_row rfl 123 _ rfl (w.heap.size + 1) rfl 123 (Crc.tab 16) (0, 0) _ (heap_alloc2_new _ _ _) Try.underlying123 rfl hsz ?_)
        | (refine wpList_store_mid rfl 123 _ _ rfl w.heap.size 0 (Crc.tab 16) rfl rfl hth hsz (Crc.tab_one 16) ?_))
      refine bodyPost_ret (v := .agg (Crc.tab 16)) ?_ rfl ⟨rfl, below_setCells (Nat.le_refl _) _ _ _ (((Below.refl _ _).alloc (Nat.le_refl _) _).alloc (by simp) _)⟩
      have hl := World.rangeAt_setCells_same _ w.heap.size 0 (Crc.tab 16).toList (by simpa using hth)
      have hr := run_loadVar_mid (P := Try.prog) _ w.heap.size 0 123 (Crc.tab 16).toList _ hl Try.underlying123 rfl (by simpa using hsz)
      simp [results, Try.results89, asAddr, Act.put, hr]
end Go.Proofs.Ytbgaaocgdjkkeaa
end
