/- lace.Place: its contract. -/
import Derived.Test.YtfdnjblbhbkndaaDoorLaidLc
import Derived.Test.YtfdnjblbhbkndaaDoorLcPass
namespace Go.Proofs.YtfdnjblbhbkndaaDoor
open Go.RowKit

namespace Lc
theorem of_ofG (p wd ht : Nat) : of p wd ht = ofG (px p) (pdx p) (py p) (pdy p) wd ht := rfl
theorem p_small : ∀ p, p < 7 → 0 < pdx p ∧ pdx p ≤ 8 ∧ px p ≤ 8 ∧ 0 < pdy p ∧ pdy p ≤ 8 ∧ py p ≤ 8 := by decide
theorem ofp_any (p wd ht : Nat) (hp : p < 7) (hw : wd ≤ 262144) (hh : ht ≤ 262144) (w : World) :
    Calls Tryd.prog 23 #[pval (px p) (pdx p) (py p) (pdy p), .int .i64 (wd : Nat), .int .i64 (ht : Nat)] w fun e w' => e = .returned (of p wd ht).val ∧ Below w.heap.size w w' := by
  obtain ⟨a, b, c, d, e, f⟩ := p_small p hp
  exact of_any _ _ _ _ wd ht a b c d e f hw hh w
theorem ret_two' {a b a' b' : Int} (h1 : a = a') (h2 : b = b') : Ending.returned (.tuple #[.int .i64 a, .int .i64 b]) = Ending.returned (.tuple #[.int .i64 a', .int .i64 b']) := by rw [h1, h2]
/-- Where a pass's pixel stands. -/
def plc (p c r : Int) : Int × Int := if 0 ≤ p ∧ p < 7 ∧ 0 ≤ c ∧ c < 65535 ∧ 0 ≤ r ∧ r < 65535 then ((px p.toNat + c.toNat * pdx p.toNat : Nat), (py p.toNat + r.toNat * pdy p.toNat : Nat)) else (-1, -1)
set_option maxRecDepth 100000 in
set_option maxHeartbeats 2000000 in
theorem Place_any (p c r : Int) (w : World) (h : Lp w) : Calls Tryd.prog 12 #[.int .i64 p, .int .i64 c, .int .i64 r] w fun e w' => e = .returned (.tuple #[.int .i64 (plc p c r).1, .int .i64 (plc p c r).2]) ∧ Below w.heap.size w w' := by
  have HPS := Lib.hid (fun n w => goodPass_any n w)
  obtain ⟨mn, hmn⟩ : ∃ mn, (if r < c then r else c) = mn := ⟨_, rfl⟩
  obtain ⟨mx, hmx⟩ : ∃ mx, (if c < r then r else c) = mx := ⟨_, rfl⟩
  by_cases hg : 0 ≤ p ∧ p < 7 ∧ 0 ≤ c ∧ c < 65535 ∧ 0 ≤ r ∧ r < 65535
  rotate_left
  · have HS := Lib.hid (show plc p c r = (-1, -1) from if_neg hg)
    generalize plc p c r = q at *
    have hb : isPass p = false ∨ (isPass p = true ∧ decide (mn < 0) = true) ∨ (isPass p = true ∧ decide (mn < 0) = false ∧ decide (65535 ≤ mx) = true) := by
      unfold isPass
      simp
      have e1 : mn < 0 ↔ c < 0 ∨ r < 0 := by rw [← hmn]; split <;> omega
      have e2 : 65535 ≤ mx ↔ 65535 ≤ c ∨ 65535 ≤ r := by rw [← hmx]; split <;> omega
      rw [e1, e2]
      omega
    clear hg h
    rcases hb with s1 | ⟨s1, s2⟩ | ⟨s1, s2, s3⟩
    all_goals
      go_enter Tryd.func12, Tryd.ntmps12
      go_wp2_with (go_at_call 21; refine (HPS.out _ _).mono ?_; rintro e w' ⟨rfl, rfl⟩)
      go_ret2
      exact ⟨by rw [HS.out]; rfl, Below.refl _ _⟩
  obtain ⟨g1, g2, g3, g4, g5, g6⟩ := id hg
  have HS0 := Lib.hid (show plc p c r = _ from if_pos hg)
  obtain ⟨a, rfl⟩ : ∃ a : Nat, p = (a : Int) := ⟨p.toNat, by omega⟩
  obtain ⟨x, rfl⟩ : ∃ x : Nat, c = (x : Int) := ⟨c.toNat, by omega⟩
  obtain ⟨y, rfl⟩ : ∃ y : Nat, r = (y : Int) := ⟨r.toNat, by omega⟩
  have HS : Hid (plc a x y = (((px a + x * pdx a : Nat) : Int), ((py a + y * pdy a : Nat) : Int))) := Lib.hid (by rw [HS0.out]; simp only [Int.toNat_natCast])
  clear hg HS0
  have s1 : isPass (a : Int) = true := by unfold isPass; simp; omega
  have t1 : decide ((x : Int) < 0) = false := by simp
  have t2 : decide ((y : Int) < 0) = false := by simp
  have t3 : decide ((65535 : Int) ≤ (x : Int)) = false := by simp; omega
  have t4 : decide ((65535 : Int) ≤ (y : Int)) = false := by simp; omega
  have ha : a < 7 := by omega
  obtain ⟨c0, c1, c2, c3⟩ := h.four a ha
  obtain ⟨q1, q2, q3, q4, q5, q6⟩ := p_small a ha
  have HPL := Lib.hid (fun w => place_any (px a) (pdx a) (py a) (pdy a) x y q3 q2 q6 q5 (by omega) (by omega) w)
  have d6 : (a : Int) < 7 := by omega
  generalize plc a x y = q at *
  generalize px a + x * pdx a = u at *
  generalize py a + y * pdy a = v at *
  clear g1 g2 g3 g4 g5 g6 h q1 q2 q3 q4 q5 q6 hmn hmx
  have hxy : (x < y ∧ ¬ y < x) ∨ (¬ x < y ∧ y < x) ∨ (¬ x < y ∧ ¬ y < x) := by omega
  rcases hxy with ⟨u1, u2⟩ | ⟨u1, u2⟩ | ⟨u1, u2⟩
  all_goals
    go_enter Tryd.func12, Tryd.ntmps12
    go_wp2_with (go_at_call 21; refine (HPS.out _ _).mono ?_; rintro e w' ⟨rfl, rfl⟩)
    refine (HPL.out _).mono ?_
    rintro e w2 ⟨rfl, hb2⟩
    go_wp2
    go_ret2
    exact ⟨by rw [HS.out]; rfl, hb2⟩
end Lc
end Go.Proofs.YtfdnjblbhbkndaaDoor
