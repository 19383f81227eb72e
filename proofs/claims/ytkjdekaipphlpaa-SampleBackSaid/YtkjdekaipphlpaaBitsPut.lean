/- (*Writer).Put: its contract. -/
import Derived.Test.YtkjdekaipphlpaaBitsAdd
namespace Go.Proofs.Ytkjdekaipphlpaa
open Go.RowKit

theorem put_no (w : World) (g : Nat) (n c : Int) (h : c < 0 ∨ 32 < c ∨ n < 0) :
    Calls Try.prog 28 #[.pointer (some ⟨g, 0, none⟩), .int .i64 n, .int .i64 c] w fun e w' => e = .returned (.iface 41 (.int .i64 7)) ∧ w = w' := by
  by_cases hc : c < 0 ∨ 32 < c
  · have HC := Lib.hid hc
    clear h hc
    go_enter Try.func28, Try.ntmps28
    go_wp2_with fail
    refine (isCount_no _ _ HC.out).mono ?_
    rintro e w' ⟨rfl, rfl⟩
    go_wp2
    go_ret
    exact ⟨rfl, rfl⟩
  · obtain ⟨k, rfl⟩ := Int.eq_ofNat_of_zero_le (show 0 ≤ c by omega)
    have hk : k ≤ 32 := by omega
    have d1 : decide (n < 0) = true := by simp; omega
    clear h hc
    go_enter Try.func28, Try.ntmps28
    go_wp2_with fail
    refine (isCount_yes k _ hk).mono ?_
    rintro e w' ⟨rfl, rfl⟩
    go_wp2
    go_ret
    exact ⟨rfl, rfl⟩
theorem wrap_pow (c : Nat) (h : c ≤ 32) : wrap64 (2 ^ c) = ((2 ^ c : Nat) : Int) := by
  have h1 := Bt.pow_le c 32 h
  rw [Bt.pow_cast]
  simp only [Nat.reducePow] at h1
  generalize 2 ^ c = x at *
  exact IntWalk.wrap64_in _ ⟨by omega, by omega⟩
theorem put_big (w : World) (g : Nat) (n c : Nat) (hc : c ≤ 32) (hn : 2 ^ c ≤ n) :
    Calls Try.prog 28 #[.pointer (some ⟨g, 0, none⟩), .int .i64 n, .int .i64 c] w fun e w' => e = .returned (.iface 41 (.int .i64 7)) ∧ w = w' := by
  have d1 : decide ((n : Int) < 0) = false := by simp
  have d2 : decide (wrap64 (2 ^ c) ≤ (n : Int)) = true := by rw [wrap_pow c hc]; exact decide_eq_true (Int.ofNat_le.2 hn)
  clear hn
  go_enter Try.func28, Try.ntmps28
  go_wp2_with fail
  refine (isCount_yes c _ hc).mono ?_
  rintro e w' ⟨rfl, rfl⟩
  go_wp2
  go_ret
  exact ⟨rfl, rfl⟩
def PutWPost (w : World) (B g : Nat) (h : Bool) (v : Value) (l : List Bool) (e : Ending) (w' : World) : Prop :=
  e = .returned .nilIface ∧ ∃ v', Wr w' B g h v' l ∧ Ch w w' (Wt g v) ∧ ∀ k, v'.ownBlock = some k → v.ownBlock = some k ∨ w.heap.size ≤ k
theorem putw_ok (w : World) (B g : Nat) (h : Bool) (v : Value) (l : List Bool) (n c : Nat) (H : Wr w B g h v l) (hB : B ≤ w.heap.size) (hc : c ≤ 32) (hn : n < 2 ^ c) (hl : l.length ≤ 1000000000000) :
    Calls Try.prog 28 #[.pointer (some ⟨g, 0, none⟩), .int .i64 n, .int .i64 c] w (PutWPost w B g h v (l ++ Bt.dg h n c)) := by
  have d1 : decide ((n : Int) < 0) = false := by simp
  have d2 : decide (wrap64 (2 ^ c) ≤ (n : Int)) = false := by rw [wrap_pow c hc]; exact decide_eq_false (fun h => by have := Int.ofNat_le.1 h; omega)
  have HN := Lib.hid hn
  clear hn
  go_enter Try.func28, Try.ntmps28
  go_wp2_with fail
  refine (isCount_yes c _ hc).mono ?_
  rintro e w' ⟨rfl, rfl⟩
  go_wp2_with fail
  refine (add_any _ B g h v l n c H hB hc HN.out hl).mono ?_
  rintro e w' ⟨rfl, v', h1, h2, h3⟩
  have HX := Lib.hid (show PutWPost w B g h v (l ++ Bt.dg h n c) (.returned .nilIface) w' from ⟨rfl, v', h1, h2, h3⟩)
  clear h1 h2 h3
  go_wp2
  go_ret
  exact HX.out
end Go.Proofs.Ytkjdekaipphlpaa
