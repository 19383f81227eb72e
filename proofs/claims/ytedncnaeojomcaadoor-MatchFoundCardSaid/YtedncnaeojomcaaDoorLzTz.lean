/- bits.TrailingZeros64: its contract, over the table that the program's text lays. -/
import Derived.Test.YtedncnaeojomcaaDoorRows
import Derived.Test.YtedncnaeojomcaaDoorProg
import Derived.Test.YtedncnaeojomcaaDoorBase
import Derived.Lib.EndianBits
import Derived.Test.YtedncnaeojomcaaDoorBitsMath
import Derived.Test.YtedncnaeojomcaaDoorOpen
import Derived.LaidLaws
import Derived.MakeChecks
import Derived.Stop.Joined
namespace Go.Proofs.YtedncnaeojomcaaDoor
open Go.ChangeShapes Go.WideShapes Go.ChangeAt Go.RowKit
namespace Lz
def dbt : List Nat := [0, 1, 56, 2, 57, 49, 28, 3, 61, 58, 42, 50, 38, 29, 17, 4, 62, 47, 59, 36, 45, 43, 51, 22, 53, 39, 33, 30, 24, 18, 12, 5, 63, 55, 48, 27, 60, 41, 37, 16, 46, 35, 44, 21, 52, 32, 23, 11, 54, 26, 40, 15, 34, 20, 31, 10, 25, 14, 19, 9, 13, 8, 7, 6]
theorem dbt_at : ∀ z, z < 64 → dbt.getD ((2 ^ z * 285870213051353865) % 18446744073709551616 / 288230376151711744) 64 = z := by decide
theorem dbt_in (q : Nat) (h : q < 18446744073709551616) : q / 288230376151711744 < 64 := by omega
/-- The lowest set bit. -/
theorem low_bit : ∀ (x : Nat), 0 < x → ∃ z, x % 2 ^ z = 0 ∧ x % 2 ^ (z + 1) ≠ 0 ∧ ∃ m, x = 2 ^ z * (2 * m + 1) := fun x => by
  induction x using Nat.strongRecOn with
  | ind x ih =>
    intro hx
    by_cases h : x % 2 = 1
    · exact ⟨0, by simp [Nat.mod_one], by simp [h], x / 2, by omega⟩
    · obtain ⟨z, h1, h2, m, hm⟩ := ih (x / 2) (by omega) (by omega)
      have hx2 : x = 2 * (x / 2) := by omega
      refine ⟨z + 1, ?_, ?_, m, ?_⟩
      · rw [hx2, Nat.pow_succ, Nat.mul_comm (2 ^ z) 2, Nat.mul_mod_mul_left, h1]
      · rw [hx2, Nat.pow_succ, Nat.mul_comm (2 ^ (z + 1)) 2, Nat.mul_mod_mul_left]; omega
      · rw [hx2, hm, Nat.pow_succ, Nat.mul_comm (2 ^ z) 2, Nat.mul_assoc]
theorem div_pow {z m i : Nat} (h : z < i) : 2 ^ z * (2 * m + 1) / 2 ^ i = (2 ^ z * (2 * m + 1) - 1) / 2 ^ i := by
  obtain ⟨j, rfl⟩ : ∃ j, i = z + (j + 1) := ⟨i - z - 1, by omega⟩
  have hp := Nat.pow_pos (n := z) (show 0 < 2 by omega)
  rw [Nat.pow_add, ← Nat.div_div_eq_div_mul, ← Nat.div_div_eq_div_mul, Nat.pow_succ, Nat.mul_comm (2 ^ j) 2, ← Nat.div_div_eq_div_mul, ← Nat.div_div_eq_div_mul]
  have e1 : 2 ^ z * (2 * m + 1) / 2 ^ z = 2 * m + 1 := Nat.mul_div_cancel_left _ hp
  have e2 : (2 ^ z * (2 * m + 1) - 1) / 2 ^ z = 2 * m := by
    have : 2 ^ z * (2 * m + 1) - 1 = (2 ^ z - 1) + 2 ^ z * (2 * m) := by rw [Nat.mul_add, Nat.mul_one]; omega
    rw [this, Nat.add_mul_div_left _ _ hp, Nat.div_eq_of_lt (by omega)]; omega
  rw [e1, e2]
  congr 1
  omega
theorem and_neg (x : Nat) (hx : 0 < x) (h64 : x < 18446744073709551616) : ∃ z, z < 64 ∧ x % 2 ^ z = 0 ∧ x % 2 ^ (z + 1) ≠ 0 ∧ x &&& (18446744073709551616 - x) = 2 ^ z := by
  obtain ⟨z, h1, h2, m, hm⟩ := low_bit x hx
  have hp := Nat.pow_pos (n := z) (show 0 < 2 by omega)
  have hz : z < 64 := by
    rcases Nat.lt_or_ge z 64 with h | h
    · exact h
    · exfalso
      have h3 : 2 ^ 64 ≤ 2 ^ z := Nat.pow_le_pow_right (by omega) h
      have h4 : 2 ^ z * 1 ≤ 2 ^ z * (2 * m + 1) := Nat.mul_le_mul_left _ (by omega)
      rw [← hm] at h4
      have h5 : (2 : Nat) ^ 64 = 18446744073709551616 := by decide
      omega
  refine ⟨z, hz, h1, h2, Nat.eq_of_testBit_eq (fun i => ?_)⟩
  have e64 : 18446744073709551616 - x = 2 ^ 64 - ((x - 1) + 1) := by
    have h5 : (2 : Nat) ^ 64 = 18446744073709551616 := by decide
    omega
  have hx64 : x - 1 < 2 ^ 64 := by
    have h5 : (2 : Nat) ^ 64 = 18446744073709551616 := by decide
    omega
  rw [e64, Nat.testBit_and, Nat.testBit_two_pow_sub_succ hx64, Nat.testBit_two_pow]
  rcases Nat.lt_trichotomy i z with h | h | h
  · have e : x.testBit i = false := by
      rw [Nat.testBit_eq_decide_div_mod_eq, hm]
      obtain ⟨j, rfl⟩ : ∃ j, z = i + (j + 1) := ⟨z - i - 1, by omega⟩
      have hi := Nat.pow_pos (n := i) (show 0 < 2 by omega)
      rw [Nat.pow_add, Nat.mul_assoc, Nat.mul_div_cancel_left _ hi, Nat.pow_succ, Nat.mul_comm (2 ^ j) 2, Nat.mul_assoc]
      simp
    rw [e, Bool.false_and, eq_comm, decide_eq_false_iff_not]
    omega
  · subst h
    have e : x.testBit i = true := by
      rw [Nat.testBit_eq_decide_div_mod_eq, hm, Nat.mul_div_cancel_left _ hp]
      simp
    have e2 : (x - 1).testBit i = false := by
      have : x - 1 = (2 ^ i - 1) + 2 ^ i * (2 * m) := by rw [hm, Nat.mul_add, Nat.mul_one]; omega
      rw [Nat.testBit_eq_decide_div_mod_eq, this, Nat.add_mul_div_left _ _ hp, Nat.div_eq_of_lt (by omega)]
      simp
    rw [e, e2]
    simp [hz]
  · have e : (x - 1).testBit i = x.testBit i := by
      rw [Nat.testBit_eq_decide_div_mod_eq, Nat.testBit_eq_decide_div_mod_eq, hm, div_pow h]
    rw [e]
    have : decide (z = i) = false := by simp; omega
    rw [this]
    cases x.testBit i <;> simp
end Lz
/-- The table, as the program's text lays it: a variable of the library's. -/
def Db (w : World) : Prop := ∀ i, i < 64 → w.cell? ⟨0, i, none⟩ = some (.int .u8 ((Lz.dbt.getD i 64 : Nat) : Int))
theorem Db.kept {w w' : World} (h : Db w) (c : Below w.heap.size w w') (hz : 0 < w.heap.size) : Db w' := fun i hi => by
  rw [c.cell (p := ⟨0, i, none⟩) hz]; exact h i hi
theorem laid_db : (Rows.laid_math_bits_deBruijn64tab : DataW Unit) = .agg (Lz.dbt.map fun n => .lit (.int .u8 ((n : Nat) : Int))) := by kernel_rfl
theorem db_of_laid {W : World} (h : laidMetH Tryd.prog [("math/bits.deBruijn64tab", Rows.laid_math_bits_deBruijn64tab)] W) : Db W ∧ 0 < W.heap.size := by
  rw [MakeChecks.laidMetH_plain _ _ _ (by kernel_rfl)] at h
  obtain ⟨ps, ⟨g, t, cs, fuel, p, q, hg, ht, hv, hd, _, _⟩, _, _⟩ := h
  obtain rfl := Option.some.inj ((show Tryd.prog.globalNamed "math/bits.deBruijn64tab" = some 0 by kernel_rfl).symm.trans hg)
  obtain rfl := Option.some.inj ((show (Tryd.prog.globals[0]?).map (·.type) = some 123 by kernel_rfl).symm.trans ht)
  obtain ⟨xs, m, _, ex, _, hl, hel⟩ := DataW.trod_array Tryd.underlying123 hd
  have c5 : Tryd.prog.cellsOf 5 = 1 := by kernel_rfl
  have hcell : Db W := fun r hr => by
    have hE := hel r hr
    rw [c5, Nat.mul_one, List.getElem?_eq_getElem (by omega)] at hE
    obtain ⟨z, e1, e2, _⟩ := DataW.trod_int Tryd.underlying5 hE
    have hlen : Lz.dbt.length = 64 := by rfl
    have e3 : (xs.map (·.1)) = Lz.dbt.map fun n => .lit (.int .u8 ((n : Nat) : Int)) := by
      have := (Prod.mk.inj ex).1
      rw [laid_db] at this
      exact (DataW.agg.inj this).symm
    have e4 : (xs.map (·.1))[r]? = (Lz.dbt.map fun n => (DataW.lit (.int .u8 ((n : Nat) : Int)) : DataW Unit))[r]? := by rw [e3]
    rw [List.getElem?_map, List.getElem?_map, List.getElem?_eq_getElem (by omega : r < xs.length), List.getElem?_eq_getElem (by omega : r < Lz.dbt.length), e2] at e4
    have hz : z = ((Lz.dbt.getD r 64 : Nat) : Int) := by
      simp only [Option.map_some, Option.some.injEq, DataW.lit.injEq, Lit.int.injEq, true_and] at e4
      rw [e4, List.getD, List.getElem?_eq_getElem (by omega : r < Lz.dbt.length)]; rfl
    rw [World.var?_cell hg hv r, ← hz]
    have : cs.toList[r]? = some (.int .u8 z) := by
      have h0 : ((cs.toList.drop r).take 1)[0]? = some (.int .u8 z) := by rw [e1]; rfl
      simpa using h0
    simpa using this
  refine ⟨hcell, ?_⟩
  have h0 := hcell 0 (by omega)
  rcases Nat.lt_or_ge 0 W.heap.size with hz | hz
  · exact hz
  · exfalso
    have hn : W.heap[0]? = none := Array.getElem?_eq_none (by omega)
    simp [World.cell?, hn] at h0
set_option maxRecDepth 100000 in
theorem tz_any (x : Nat) (hx : 0 < x) (h64 : x < 18446744073709551616) (w : World) (hdb : Db w) :
    Calls Tryd.prog 68 #[.int .u64 (x : Nat)] w fun e w' => (∃ z : Nat, z < 64 ∧ x % 2 ^ z = 0 ∧ x % 2 ^ (z + 1) ≠ 0 ∧ e = .returned (.int .i64 (z : Nat))) ∧ w = w' := by
  obtain ⟨z, hz, h1, h2, h3⟩ := Lz.and_neg x hx h64
  have HZ := Lib.hid (And.intro h1 h2)
  have d0 : ((x : Int) == 0) = false := by simp; omega
  obtain ⟨y, hy⟩ : ∃ y, 18446744073709551616 - x = y := ⟨_, rfl⟩
  have f1 : IntKind.u64.wrap (-(x : Int)) = (y : Int) := by rw [IntKind.wrap_u64]; omega
  obtain ⟨p, hp⟩ : ∃ p, 2 ^ z = p := ⟨_, rfl⟩
  rw [hy, hp] at h3
  have f2 : bits .and .u64 (x : Int) (y : Int) = (p : Int) := by rw [u64_and_nat x y h64 (by omega), h3]
  obtain ⟨q, hq⟩ : ∃ q, p * 285870213051353865 % 18446744073709551616 = q := ⟨_, rfl⟩
  have f3 : IntKind.u64.wrap ((p : Int) * 285870213051353865) = (q : Int) := by rw [IntKind.wrap_u64]; omega
  obtain ⟨i, hi⟩ : ∃ i, q / 288230376151711744 = i := ⟨_, rfl⟩
  have f4 : (q : Int) / 288230376151711744 = (i : Int) := by omega
  have hi64 : i < 64 := by omega
  have hc := hdb i hi64
  have hdi := Lz.dbt_at z hz
  rw [hp, hq, hi] at hdi
  rw [hdi] at hc
  clear h1 h2 hdb hy hp hq hi h3 hdi
  go_enter Tryd.func68, Tryd.ntmps68
  go_wp2
  go_ret
  exact ⟨⟨z, hz, HZ.out.1, HZ.out.2, rfl⟩, rfl⟩
end Go.Proofs.YtedncnaeojomcaaDoor
