/- The helpers of layer 4's law: example and number. -/
import Derived.Test.YtnlbomijnldlmaaBitsMath
import Derived.Test.YtnlbomijnldlmaaRef04b
namespace Go.Proofs.Ytnlbomijnldlmaa
open Go.RowKit

theorem Cn.numH_take (l : List Bool) (k : Nat) (h : k < l.length) : Bt.numH (l.take (k + 1)) = 2 * Bt.numH (l.take k) + (l.getD k false).toNat := by
  rw [List.take_succ_eq_append_getElem h, Bt.numH_snoc]
  simp [List.getD, List.getElem?_eq_getElem h]
theorem Cn.numH_lt (l : List Bool) : Bt.numH l < 2 ^ l.length := by
  have := Bt.num_lt true l
  simpa [Bt.num] using this
theorem Cn.numH_small (l : List Bool) (h : l.length ≤ 32) : Bt.numH l < 4294967296 := by
  have h1 := Cn.numH_lt l
  have h2 : 2 ^ l.length ≤ 2 ^ 32 := Nat.pow_le_pow_right (by omega) h
  omega
theorem lawNumber_any (a : Option Addr) (len cap : Nat) (l : List Bool) (w : World) (H : Is .i64 w a len cap (bi l)) (hl : len ≤ 32) :
    Calls Try.prog 19 #[.slice a len cap] w fun e w' => e = .returned (.int .i64 (Bt.numH l : Nat)) ∧ w = w' := by
  have hlen : l.length = len := by have := H.hlen; rwa [bi_length] at this
  have HL := Lib.hid hlen
  clear hlen
  go_enter Try.func19, Try.ntmps19
  go_wp2
  go_loop [3, 8] (fun x i => ∃ j : Nat, j ≤ len ∧ i = .int .i64 j ∧ x = .int .i64 (Bt.numH (l.take j) : Nat)) (fun _ i => len - (intOf i).toNat)
  case atStart => exact ⟨0, by omega, rfl, rfl⟩
  case round =>
    obtain ⟨j, hj, rfl, rfl⟩ := hrel
    have hnl : Bt.numH (l.take j) < 4294967296 := Cn.numH_small _ (by rw [List.length_take]; omega)
    by_cases hlt : j < len
    · have HN := Lib.hid (Cn.numH_take l j (by rw [HL.out]; exact hlt))
      obtain ⟨b, off, rfl, hb, hcell⟩ := H.at' j hlt
      rw [bi_getD] at hcell
      have hbt : (l.getD j false).toNat < 2 := Bool.toNat_lt _
      generalize (l.getD j false).toNat = t at *
      generalize Bt.numH (l.take j) = q at *
      go_wp2
      go_round
      case rel => exact ⟨j + 1, by omega, by go_num, int_eq (by rw [HN.out]; omega)⟩
      case measure => simp [intOf]; omega
    · obtain rfl : len = j := by omega
      go_wp2
      go_ret
      exact ⟨ret_int (by rw [List.take_of_length_le (by rw [HL.out]; exact Nat.le_refl _)]), rfl⟩
/-- The chapter's lengths. -/
def Cn.ex : List Int := [3, 3, 3, 3, 3, 2, 4, 4]
def ExPost (w : World) (e : Ending) (w' : World) : Prop := ∃ a cap, e = .returned (.slice a 8 cap) ∧ Is .i64 w' a 8 cap Cn.ex ∧ Below w.heap.size w w' ∧ ∀ ad, a = some ad → w.heap.size ≤ ad.block
theorem example_any (w : World) : Calls Try.prog 11 #[] w (ExPost w) := by
  go_enter Try.func11, Try.ntmps11
  go_wp2
  go_ret
  refine ⟨_, 8, rfl, ⟨rfl, Nat.le_refl _, fun h => by simp at h, fun i hi => ⟨w.heap.size, 0, rfl, by simp, ?_⟩, fun n hn => ?_⟩, below_alloc _ _, fun ad e => by cases e; exact Nat.le_refl _⟩
  · rw [Nat.zero_add, World.cell?_alloc_at _ _ _ _ rfl]
    match i, hi with
    | 0, _ => rfl
    | 1, _ => rfl
    | 2, _ => rfl
    | 3, _ => rfl
    | 4, _ => rfl
    | 5, _ => rfl
    | 6, _ => rfl
    | 7, _ => rfl
    | i + 8, h => omega
  · simp only [Cn.ex, List.mem_cons, List.not_mem_nil, or_false] at hn
    rcases hn with rfl | rfl | rfl | rfl | rfl | rfl | rfl | rfl <;> rfl
end Go.Proofs.Ytnlbomijnldlmaa
