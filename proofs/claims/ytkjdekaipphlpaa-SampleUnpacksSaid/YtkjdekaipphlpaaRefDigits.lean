/- The document's digits: their contract. -/
import Derived.Test.YtkjdekaipphlpaaInts
import Derived.Test.YtkjdekaipphlpaaBitsMath
import Derived.Test.YtkjdekaipphlpaaNum
namespace Go.Proofs.Ytkjdekaipphlpaa
open Go.RowKit

def DigitsPost (w : World) (h : Bool) (n c : Nat) (e : Ending) (w' : World) : Prop :=
  ∃ v, e = .returned v ∧ w'.ownsRow w.heap.size 3 1 v c (ivs (bi (Bt.dg h n c))) ∧ Below w.heap.size w w'
theorem Bt.bit_mod (n j : Nat) : ((n / 2 ^ j % 2 : Nat) : Int) = ((n.testBit j).toNat : Int) := by
  rw [Nat.testBit_eq_decide_div_mod_eq]
  rcases Nat.mod_two_eq_zero_or_one (n / 2 ^ j) with h | h <;> simp [h]
theorem Bt.dg_low (n j : Nat) : Bt.dg false n (j + 1) = Bt.dg false n j ++ [n.testBit j] := by simp [Bt.dg, List.range_succ]
theorem Bt.dg_high (n j : Nat) : Bt.dg true n (j + 1) = [n.testBit j] ++ Bt.dg true n j := by
  simp only [Bt.dg, if_true, List.range_succ_eq_map, List.map_cons, List.map_map]
  simp only [List.singleton_append, List.cons.injEq]
  refine ⟨by congr 1, ?_⟩
  apply List.map_congr_left
  intro i _
  simp only [Function.comp]
  congr 1; omega
set_option maxHeartbeats 1000000 in
theorem digits_any (h : Bool) (n c : Nat) (w : World) (hc : c ≤ 32) (hn : n ≤ 9223372036854775807) :
    Calls Try.prog 32 #[.int .i64 n, .int .i64 c, .bool h] w (DigitsPost w h n c) := by
  go_enter Try.func32, Try.ntmps32
  go_wp2
  go_loopw [0, 7, 8] (fun x v i wr => ∃ j : Nat, j ≤ c ∧ i = .int .i64 j ∧ x = .int .i64 (n / 2 ^ j : Nat) ∧ Below w.heap.size w wr ∧ Hid (wr.ownsRow w.heap.size 3 1 v j (ivs (bi (Bt.dg h n j))))) (fun _ _ i _ => c - (intOf i).toNat)
  case atStart => exact ⟨0, by omega, rfl, by simp, Below.refl _ _, Lib.hid (World.ownsRow_nil _ _ _ _)⟩
  case round =>
    obtain ⟨j, hj, rfl, rfl, hb, HO⟩ := hrel
    have hz := hb.size
    have hle : n / 2 ^ j ≤ n := Nat.div_le_self _ _
    have HN := Lib.hid (show n / 2 ^ (j + 1) = n / 2 ^ j / 2 by rw [Nat.pow_succ, Nat.div_div_eq_div_mul])
    have HX := Lib.hid (show ((n / 2 ^ j : Nat) : Int) % 2 = ((n.testBit j).toNat : Int) by rw [← Bt.bit_mod]; omega)
    generalize n / 2 ^ j = q at *
    by_cases hlt : j < c
    · cases h
      · have hsrc : SrcRow (wr.alloc (.cells #[Value.int .i64 ((q : Int) % 2)] 3)) (some ⟨wr.heap.size, 0, none⟩) 1 1 (ivs (bi [n.testBit j])) 1 := by
          have := src_int wr ((q : Int) % 2)
          rw [HX.out] at this ⊢; exact this
        have H1 := Lib.hid (HO.out.alloc (.cells #[Value.int .i64 ((q : Int) % 2)] 3))
        go_wp2_with (at_builtin; refine wpl_append tyI rfl _ _ rfl H1.out hsrc rfl rfl (by omega) (by omega) (by simp; omega) ?_)
        intro v2 w2 own2 hg2 _
        have hb2 : Below w.heap.size w w2 := (hb.alloc hz _).grown hg2 (by simp; omega) (fun k hk => (H1.out.lt k hk).1)
        rw [← ivs_append, ← bi_append, ← Bt.dg_low] at own2
        have H2 := Lib.hid own2
        clear own2 hg2 hsrc H1 HO hb
        go_wp2
        go_roundw
        case rel => exact ⟨j + 1, by omega, by go_num, int_eq (by rw [HN.out]; omega), hb2, H2⟩
        case measure => simp [intOf]; omega
      · obtain ⟨va, vc, rfl, his⟩ := own_is HO.out (bi_wf _)
        have hsrc := (his.mono (below_alloc wr (.cells #[Value.int .i64 ((q : Int) % 2)] 3))).src
        have H1 := Lib.hid (own_int wr w.heap.size ((q : Int) % 2) hz)
        clear his
        go_wp2_with (at_builtin; refine wpl_append tyI rfl _ _ rfl H1.out hsrc rfl rfl (by omega) (by omega) (by simp; omega) ?_)
        intro v2 w2 own2 hg2 _
        have hb2 : Below w.heap.size w w2 := (hb.alloc hz _).grown hg2 (by simp; omega) (fun k hk => (H1.out.lt k hk).1)
        have e1 : ivs [(q : Int) % 2] = ivs (bi [n.testBit j]) := by rw [HX.out]; rfl
        rw [e1, ← ivs_append, ← bi_append, ← Bt.dg_high, Nat.add_comm 1 j] at own2
        have H2 := Lib.hid own2
        clear own2 hg2 hsrc H1 HO hb e1
        go_wp2
        go_roundw
        case rel => exact ⟨j + 1, by omega, by go_num, int_eq (by rw [HN.out]; omega), hb2, H2⟩
        case measure => simp [intOf]; omega
    · obtain rfl : c = j := by omega
      go_wp2
      go_ret
      exact ⟨_, rfl, HO.out, hb⟩
end Go.Proofs.Ytkjdekaipphlpaa
