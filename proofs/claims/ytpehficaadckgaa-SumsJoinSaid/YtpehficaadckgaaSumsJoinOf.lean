/- sums.Join and sums.rest: their contracts. -/
import Derived.Test.YtpehficaadckgaaProg
import Derived.Test.YtpehficaadckgaaAdlerMath
namespace Go.Proofs.Ytpehficaadckgaa
open Go.RowKit

theorem rest_any (n : Int) (w : World) (h0 : -9223372036854700000 ≤ n) (h1 : n ≤ 9223372036854700000) :
    Calls Try.prog 25 #[.int .i64 n] w fun e w' => e = .returned (.int .i64 (n % 65521)) ∧ w = w' := by
  have ht : n.tmod 65521 = if 0 ≤ n then n % 65521 else -((-n) % 65521) := by
    split
    · exact Int.tmod_eq_emod_of_nonneg (by assumption)
    · have := Int.neg_tmod (a := n) (b := 65521); rw [← Int.tmod_eq_emod_of_nonneg (by omega)]; omega
  have b1 : -65521 < n.tmod 65521 := by rw [ht]; split <;> omega
  have b2 : n.tmod 65521 < 65521 := by rw [ht]; split <;> omega
  have e : (n.tmod 65521 + 65521) % 65521 = n % 65521 := by rw [ht]; split <;> omega
  have H := Lib.hid e
  clear ht e
  go_enter Try.func25, Try.ntmps25
  go_wp2
  go_ret
  exact ⟨ret_int H.out, rfl⟩

theorem and16 {a : Int} (h0 : 0 ≤ a) (h1 : a < 4294967296) : bits .and .i64 a 65535 = a % 65536 := by
  have h := bits_mask .i64 62 (by decide) (fun n h0 h1 => IntWalk.i64_in _ ⟨by omega, by omega⟩) 16 (by decide) a h0 (by omega)
  simp only [Int.reducePow, Int.reduceSub] at h
  exact h
theorem or16 {a b : Int} (h0 : 0 ≤ a) (h1 : a < 65521) (h2 : 0 ≤ b) (h3 : b < 65521) : bits .or .i64 (a * 65536) b = a * 65536 + b :=
  bits_join .i64 62 (by decide) (fun n h0 h1 => IntWalk.i64_in _ ⟨by omega, by omega⟩) 16 (a * 65536) b (by omega) (by omega) (by omega) h2 (by omega) (by omega)
theorem mul_bd {x y : Int} (h1 : 0 ≤ x) (h2 : x ≤ 65521) (h3 : -1 ≤ y) (h4 : y ≤ 65536) : -65521 ≤ x * y ∧ x * y ≤ 4293984256 := by
  constructor
  · have := Int.mul_le_mul_of_nonneg_left h3 h1; omega
  · by_cases hy : 0 ≤ y
    · have := Int.mul_le_mul h2 h4 hy (by omega); omega
    · have : y = -1 := by omega
      subst this; omega

theorem join_any (a b n : Int) (w : World) (ha0 : 0 ≤ a) (ha : a < 4294967296) (hb0 : 0 ≤ b) (hb : b < 4294967296) (hn0 : 0 ≤ n) (hn : n ≤ 1073741824) :
    Calls Try.prog 15 #[.int .i64 a, .int .i64 b, .int .i64 n] w fun e w' => e = .returned (.int .i64 (Ad.join a b n)) ∧ w = w' := by
  have ea := and16 ha0 ha
  have eb := and16 hb0 hb
  obtain ⟨m1, m2⟩ := mul_bd (x := n % 65521) (y := a % 65536 - 1) (by omega) (by omega) (by omega) (by omega)
  go_enter Try.func15, Try.ntmps15
  go_wp2_with fail
  refine (rest_any _ _ (by omega) (by omega)).mono ?_
  rintro e w' ⟨rfl, rfl⟩
  go_wp2_with fail
  refine (rest_any _ _ (by omega) (by omega)).mono ?_
  rintro e w' ⟨rfl, rfl⟩
  have eo : bits .or .i64 (Ad.highOf a b n * 65536) (Ad.lowOf a b) = Ad.join a b n := or16 (by unfold Ad.highOf; omega) (by unfold Ad.highOf; omega) (by unfold Ad.lowOf; omega) (by unfold Ad.lowOf; omega)
  have h1 : 0 ≤ Ad.highOf a b n := by unfold Ad.highOf; omega
  have h2 : Ad.highOf a b n ≤ 65520 := by unfold Ad.highOf; omega
  change _ at h1
  rw [show (a / 65536 + b / 65536 + n % 65521 * (a % 65536 - 1)) % 65521 = Ad.highOf a b n from rfl, show (a % 65536 - 1 + b % 65536) % 65521 = Ad.lowOf a b from rfl]
  clear m1 m2 ea eb
  generalize Ad.highOf a b n = hi at *
  generalize Ad.lowOf a b = lo at *
  go_wp2
  go_ret
  exact ⟨rfl, rfl⟩
end Go.Proofs.Ytpehficaadckgaa
