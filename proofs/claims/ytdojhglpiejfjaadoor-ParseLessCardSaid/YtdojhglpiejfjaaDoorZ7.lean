/- bits.TrailingZeros64: its contract, over the table that the program's text lays. match.common: its contract. What entering leaves behind, in memory. What make lays. match.newForest: its contract. -/
import Derived.Test.YtdojhglpiejfjaaDoorZ6
import Derived.Test.YtdojhglpiejfjaaDoorRows
import Derived.Test.YtdojhglpiejfjaaDoorProg
import Derived.Lib.EndianBits
import Derived.LaidLaws
import Derived.MakeChecks
import Derived.Stop.Joined
set_option linter.unusedSimpArgs false
set_option linter.unusedVariables false
section
namespace Go.Proofs.YtdojhglpiejfjaaDoor
open Go.ChangeShapes Go.WideShapes Go.ChangeAt Go.RowKit
namespace Lz
def dbt : List Nat := [0, 1, 56, 2, 57, 49, 28, 3, 61, 58, 42, 50, 38, 29, 17, 4, 62, 47, 59, 36, 45, 43, 51, 22, 53, 39, 33, 30, 24, 18, 12, 5, 63, 55, 48, 27, 60, 41, 37, 16, 46, 35, 44, 21, 52, 32, 23, 11, 54, 26, 40, 15, 34, 20, 31, 10, 25, 14, 19, 9, 13, 8, 7, 6]
theorem dbt_at : ∀ z, z < 64 → dbt.getD ((2 ^ z * 285870213051353865) % 18446744073709551616 / 288230376151711744) 64 = z := by decide
theorem dbt_in (q : Nat) (h : q < 18446744073709551616) : q / 288230376151711744 < 64 := by omega
/-- The lowest set bit. -/
theorem low_bit : ∀ (x : Nat), 0 < x → ∃ z, x % 2 ^ z = 0 ∧ x % 2 ^ (z + 1) ≠ 0 ∧ ∃ m, x = 2 ^ z * (2 * m + 1) := fun x => by
  induction x using Nat.strongRecOn with
  | ind x ih =>
    intro hx
    by_cases h : x % 2 = 1
    · exact ⟨0, by simp [Nat.mod_one], by simp [h], x / 2, by omega⟩
    · obtain ⟨z, h1, h2, m, hm⟩ := ih (x / 2) (by omega) (by omega)
      have hx2 : x = 2 * (x / 2) := by omega
      refine ⟨z + 1, ?_, ?_, m, ?_⟩
      · rw [hx2, Nat.pow_succ, Nat.mul_comm (2 ^ z) 2, Nat.mul_mod_mul_left, h1]
      · rw [hx2, Nat.pow_succ, Nat.mul_comm (2 ^ (z + 1)) 2, Nat.mul_mod_mul_left]; omega
      · rw [hx2, hm, Nat.pow_succ, Nat.mul_comm (2 ^ z) 2, Nat.mul_assoc]
theorem div_pow {z m i : Nat} (h : z < i) : 2 ^ z * (2 * m + 1) / 2 ^ i = (2 ^ z * (2 * m + 1) - 1) / 2 ^ i := by
  obtain ⟨j, rfl⟩ : ∃ j, i = z + (j + 1) := ⟨i - z - 1, by omega⟩
  have hp := Nat.pow_pos (n := z) (show 0 < 2 by omega)
  rw [Nat.pow_add, ← Nat.div_div_eq_div_mul, ← Nat.div_div_eq_div_mul, Nat.pow_succ, Nat.mul_comm (2 ^ j) 2, ← Nat.div_div_eq_div_mul, ← Nat.div_div_eq_div_mul]
  have e1 : 2 ^ z * (2 * m + 1) / 2 ^ z = 2 * m + 1 := Nat.mul_div_cancel_left _ hp
  have e2 : (2 ^ z * (2 * m + 1) - 1) / 2 ^ z = 2 * m := by
    have : 2 ^ z * (2 * m + 1) - 1 = (2 ^ z - 1) + 2 ^ z * (2 * m) := by rw [Nat.mul_add, Nat.mul_one]; omega
    rw [this, Nat.add_mul_div_left _ _ hp, Nat.div_eq_of_lt (by omega)]; omega
  rw [e1, e2]
  congr 1
  omega
theorem and_neg (x : Nat) (hx : 0 < x) (h64 : x < 18446744073709551616) : ∃ z, z < 64 ∧ x % 2 ^ z = 0 ∧ x % 2 ^ (z + 1) ≠ 0 ∧ x &&& (18446744073709551616 - x) = 2 ^ z := by
  obtain ⟨z, h1, h2, m, hm⟩ := low_bit x hx
  have hp := Nat.pow_pos (n := z) (show 0 < 2 by omega)
  have hz : z < 64 := by
    rcases Nat.lt_or_ge z 64 with h | h
    · exact h
    · exfalso
      have h3 : 2 ^ 64 ≤ 2 ^ z := Nat.pow_le_pow_right (by omega) h
      have h4 : 2 ^ z * 1 ≤ 2 ^ z * (2 * m + 1) := Nat.mul_le_mul_left _ (by omega)
      rw [← hm] at h4
      have h5 : (2 : Nat) ^ 64 = 18446744073709551616 := by decide
      omega
  refine ⟨z, hz, h1, h2, Nat.eq_of_testBit_eq (fun i => ?_)⟩
  have e64 : 18446744073709551616 - x = 2 ^ 64 - ((x - 1) + 1) := by
    have h5 : (2 : Nat) ^ 64 = 18446744073709551616 := by decide
    omega
  have hx64 : x - 1 < 2 ^ 64 := by
    have h5 : (2 : Nat) ^ 64 = 18446744073709551616 := by decide
    omega
  rw [e64, Nat.testBit_and, Nat.testBit_two_pow_sub_succ hx64, Nat.testBit_two_pow]
  rcases Nat.lt_trichotomy i z with h | h | h
  · have e : x.testBit i = false := by
      rw [Nat.testBit_eq_decide_div_mod_eq, hm]
      obtain ⟨j, rfl⟩ : ∃ j, z = i + (j + 1) := ⟨z - i - 1, by omega⟩
      have hi := Nat.pow_pos (n := i) (show 0 < 2 by omega)
      rw [Nat.pow_add, Nat.mul_assoc, Nat.mul_div_cancel_left _ hi, Nat.pow_succ, Nat.mul_comm (2 ^ j) 2, Nat.mul_assoc]
      simp
    rw [e, Bool.false_and, eq_comm, decide_eq_false_iff_not]
    omega
  · subst h
    have e : x.testBit i = true := by
      rw [Nat.testBit_eq_decide_div_mod_eq, hm, Nat.mul_div_cancel_left _ hp]
      simp
    have e2 : (x - 1).testBit i = false := by
      have : x - 1 = (2 ^ i - 1) + 2 ^ i * (2 * m) := by rw [hm, Nat.mul_add, Nat.mul_one]; omega
      rw [Nat.testBit_eq_decide_div_mod_eq, this, Nat.add_mul_div_left _ _ hp, Nat.div_eq_of_lt (by omega)]
      simp
    rw [e, e2]
    simp [hz]
  · have e : (x - 1).testBit i = x.testBit i := by
      rw [Nat.testBit_eq_decide_div_mod_eq, Nat.testBit_eq_decide_div_mod_eq, hm, div_pow h]
    rw [e]
    have : decide (z = i) = false := by simp; omega
    rw [this]
    cases x.testBit i <;> simp
end Lz
/-- The table, as the program's text lays it: a variable of the library's. -/
def Db (w : World) : Prop := ∀ i, i < 64 → w.cell? ⟨0, i, none⟩ = some (.int .u8 ((Lz.dbt.getD i 64 : Nat) : Int))
theorem Db.kept {w w' : World} (h : Db w) (c : Below w.heap.size w w') (hz : 0 < w.heap.size) : Db w' := fun i hi => by
  rw [c.cell (p := ⟨0, i, none⟩) hz]; exact h i hi
theorem laid_db : (Rows.laid_math_bits_deBruijn64tab : DataW Unit) = .agg (Lz.dbt.map fun n => .lit (.int .u8 ((n : Nat) : Int))) := by kernel_rfl
theorem db_of_laid {W : World} (h : laidMetH Tryd.prog [("math/bits.deBruijn64tab", Rows.laid_math_bits_deBruijn64tab)] W) : Db W ∧ 0 < W.heap.size := by
  rw [MakeChecks.laidMetH_plain _ _ _ (by kernel_rfl)] at h
  obtain ⟨ps, ⟨g, t, cs, fuel, p, q, hg, ht, hv, hd, _, _⟩, _, _⟩ := h
  obtain rfl := Option.some.inj ((show Tryd.prog.globalNamed "math/bits.deBruijn64tab" = some 0 by kernel_rfl).symm.trans hg)
  obtain rfl := Option.some.inj ((show (Tryd.prog.globals[0]?).map (·.type) = some 119 by kernel_rfl).symm.trans ht)
  obtain ⟨xs, m, _, ex, _, hl, hel⟩ := DataW.trod_array Tryd.underlying119 hd
  have c5 : Tryd.prog.cellsOf 5 = 1 := by kernel_rfl
  have hcell : Db W := fun r hr => by
    have hE := hel r hr
    rw [c5, Nat.mul_one, List.getElem?_eq_getElem (by omega)] at hE
    obtain ⟨z, e1, e2, _⟩ := DataW.trod_int Tryd.underlying5 hE
    have hlen : Lz.dbt.length = 64 := by rfl
    have e3 : (xs.map (·.1)) = Lz.dbt.map fun n => .lit (.int .u8 ((n : Nat) : Int)) := by
      have := (Prod.mk.inj ex).1
      rw [laid_db] at this
      exact (DataW.agg.inj this).symm
    have e4 : (xs.map (·.1))[r]? = (Lz.dbt.map fun n => (DataW.lit (.int .u8 ((n : Nat) : Int)) : DataW Unit))[r]? := by rw [e3]
    rw [List.getElem?_map, List.getElem?_map, List.getElem?_eq_getElem (by omega : r < xs.length), List.getElem?_eq_getElem (by omega : r < Lz.dbt.length), e2] at e4
    have hz : z = ((Lz.dbt.getD r 64 : Nat) : Int) := by
      simp only [Option.map_some, Option.some.injEq, DataW.lit.injEq, Lit.int.injEq, true_and] at e4
      rw [e4, List.getD, List.getElem?_eq_getElem (by omega : r < Lz.dbt.length)]; rfl
    rw [World.var?_cell hg hv r, ← hz]
    have : cs.toList[r]? = some (.int .u8 z) := by
      have h0 : ((cs.toList.drop r).take 1)[0]? = some (.int .u8 z) := by rw [e1]; rfl
      simpa using h0
    simpa using this
  refine ⟨hcell, ?_⟩
  have h0 := hcell 0 (by omega)
  rcases Nat.lt_or_ge 0 W.heap.size with hz | hz
  · exact hz
  · exfalso
    have hn : W.heap[0]? = none := Array.getElem?_eq_none (by omega)
    simp [World.cell?, hn] at h0
set_option maxRecDepth 100000 in
theorem tz_any (x : Nat) (hx : 0 < x) (h64 : x < 18446744073709551616) (w : World) (hdb : Db w) :
    Calls Tryd.prog 61 #[.int .u64 (x : Nat)] w fun e w' => (∃ z : Nat, z < 64 ∧ x % 2 ^ z = 0 ∧ x % 2 ^ (z + 1) ≠ 0 ∧ e = .returned (.int .i64 (z : Nat))) ∧ w = w' := by
  obtain ⟨z, hz, h1, h2, h3⟩ := Lz.and_neg x hx h64
  have HZ := Lib.hid (And.intro h1 h2)
  have d0 : ((x : Int) == 0) = false := by simp; omega
  obtain ⟨y, hy⟩ : ∃ y, 18446744073709551616 - x = y := ⟨_, rfl⟩
  have f1 : IntKind.u64.wrap (-(x : Int)) = (y : Int) := by rw [IntKind.wrap_u64]; omega
  obtain ⟨p, hp⟩ : ∃ p, 2 ^ z = p := ⟨_, rfl⟩
  rw [hy, hp] at h3
  have f2 : bits .and .u64 (x : Int) (y : Int) = (p : Int) := by rw [u64_and_nat x y h64 (by omega), h3]
  obtain ⟨q, hq⟩ : ∃ q, p * 285870213051353865 % 18446744073709551616 = q := ⟨_, rfl⟩
  have f3 : IntKind.u64.wrap ((p : Int) * 285870213051353865) = (q : Int) := by rw [IntKind.wrap_u64]; omega
  obtain ⟨i, hi⟩ : ∃ i, q / 288230376151711744 = i := ⟨_, rfl⟩
  have f4 : (q : Int) / 288230376151711744 = (i : Int) := by omega
  have hi64 : i < 64 := by omega
  have hc := hdb i hi64
  have hdi := Lz.dbt_at z hz
  rw [hp, hq, hi] at hdi
  rw [hdi] at hc
  clear h1 h2 hdb hy hp hq hi h3 hdi
  go_enter Tryd.func61, Tryd.ntmps61
  go_wp2
  go_ret
  exact ⟨⟨z, hz, HZ.out.1, HZ.out.2, rfl⟩, rfl⟩
end Go.Proofs.YtdojhglpiejfjaaDoor
end

section
namespace Go.Proofs.YtdojhglpiejfjaaDoor
open Go.RowKit
namespace Lz
theorem xor64 (A B : Nat) (hA : A < 18446744073709551616) (hB : B < 18446744073709551616) : A ^^^ B < 18446744073709551616 := by
  have e : 18446744073709551616 = 2 ^ 64 := by decide
  rw [e] at hA hB ⊢
  exact Nat.xor_lt_two_pow hA hB
theorem wd_congr {g f : Nat → Nat} : ∀ (k a b : Nat), (∀ i, i < k → g (a + i) = f (b + i)) → wd g a k = wd f b k
  | 0, _, _, _ => rfl
  | k + 1, a, b, h => by
    have h0 := h 0 (by omega)
    have ih := wd_congr k (a + 1) (b + 1) (fun i hi => by
      have := h (i + 1) (by omega)
      rwa [show a + 1 + i = a + (i + 1) by omega, show b + 1 + i = b + (i + 1) by omega])
    unfold wd
    rw [ih, show g a = f b from h0]
end Lz
theorem gb_dropped (u : List UInt8) (n i : Nat) : gb (u.drop n) i = gb u (n + i) := by
  unfold gb; rw [List.getD, List.getD, List.getElem?_drop]
theorem word_at {f : Nat → Nat} {x n1 n : Nat} {b off cap : Nat} {u : List UInt8} {w : World} (h : Bs w (some ⟨b, off, none⟩) n1 cap u) (hf : ∀ i, i < n1 → gb u i = f (x + i)) (hn : n + 8 ≤ n1) :
    Calls Tryd.prog 60 #[.slice (some ⟨b, off + n, none⟩) (n1 - n) (cap - n)] w fun e w' => e = .returned (.int .u64 (Lz.wd f (x + n) 8 : Nat)) ∧ ∃ m, w' = w.drewN m := by
  have hle := h.hle
  have k := word_any _ _ _ _ w (h.drop n (by omega) _ (fun _ => rfl)) (by omega)
  rw [Lz.wd_congr (g := gb (u.drop n)) (f := f) 8 0 (x + n) (fun i hi => by rw [gb_dropped, hf _ (by omega)]; congr 1; omega)] at k
  exact k
set_option maxRecDepth 100000 in
set_option maxHeartbeats 4000000 in
theorem common_any (f : Nat → Nat) (hf8 : ∀ i, f i < 256) (x y : Nat) (a a' : Option Addr) (n1 c1 n2 c2 : Nat) (u v : List UInt8) (w : World) (h : Bs w a n1 c1 u) (h' : Bs w a' n2 c2 v)
    (hu : ∀ i, i < n1 → gb u i = f (x + i)) (hv : ∀ i, i < n2 → gb v i = f (y + i)) (h12 : n1 ≤ n2) (hdb : Db w) (hz : 0 < w.heap.size) (hl : n2 ≤ 1000000000) :
    Calls Tryd.prog 54 #[.slice a n1 c1, .slice a' n2 c2] w fun e w' => e = .returned (.int .i64 (Lz.cp f x y n1 : Nat)) ∧ Below w.heap.size w w' := by
  have hle := h.hle
  have hle' := h'.hle
  have H := Lib.hid h
  have H' := Lib.hid h'
  have HU := Lib.hid hu
  have HV := Lib.hid hv
  have HF := Lib.hid hf8
  have HDB : Hid (∀ w', Below w.heap.size w w' → Db w') := Lib.hid (fun w' hb => hdb.kept hb hz)
  clear h h' hu hv hdb hf8
  go_enter Tryd.func54, Tryd.ntmps54
  go_wp2
  go_loopw [5] (fun i wr => ∃ n : Nat, n ≤ n1 ∧ i = .int .i64 n ∧ Hid ((∀ i, i < n → f (x + i) = f (y + i)) ∧ Below w.heap.size w wr)) (fun i _ => n1 - (intOf i).toNat)
  case atStart => exact ⟨0, by omega, rfl, Lib.hid ⟨fun i hi => absurd hi (by omega), Below.refl _ _⟩⟩
  case round =>
    obtain ⟨n, hn, rfl, HN⟩ := hrel
    by_cases h8 : n + 8 ≤ n1
    · have d1 : decide ((8 : Int) ≤ (n1 : Int) - (n : Int)) = true := by simp; omega
      have d2 : decide ((8 : Int) ≤ (n2 : Int) - (n : Int)) = true := by simp; omega
      obtain ⟨b, off, rfl, _, _⟩ := H.out.at' 0 (by omega)
      obtain ⟨b', off', rfl, _, _⟩ := H'.out.at' 0 (by omega)
      have W1 : Hid (∀ k, Calls Tryd.prog 60 #[.slice (some ⟨b, off + n, none⟩) (n1 - n) (c1 - n)] (wr.drewN k) fun e w' => e = .returned (.int .u64 (Lz.wd f (x + n) 8 : Nat)) ∧ ∃ m, w' = wr.drewN m) := Lib.hid (fun k => (word_at ((H.out.mono HN.out.2).mono (dn_below wr k)) HU.out h8).mono (fun e w' h => ⟨h.1, by obtain ⟨m, hm⟩ := h.2; exact ⟨k + m, by rw [hm, World.drewN_drewN]⟩⟩))
      have W2 : Hid (∀ k, Calls Tryd.prog 60 #[.slice (some ⟨b', off' + n, none⟩) (n2 - n) (c2 - n)] (wr.drewN k) fun e w' => e = .returned (.int .u64 (Lz.wd f (y + n) 8 : Nat)) ∧ ∃ m, w' = wr.drewN m) := Lib.hid (fun k => (word_at ((H'.out.mono HN.out.2).mono (dn_below wr k)) HV.out (by omega)).mono (fun e w' h => ⟨h.1, by obtain ⟨m, hm⟩ := h.2; exact ⟨k + m, by rw [hm, World.drewN_drewN]⟩⟩))
      have i1 : (n : Int) ≤ (n1 : Int) := by omega
      have i2 : (n : Int) ≤ (n2 : Int) := by omega
      have hcn1 : ¬ c1 = n := by omega
      have hcn2 : ¬ c2 = n := by omega
      obtain ⟨A, hA⟩ : ∃ A, Lz.wd f (x + n) 8 = A := ⟨_, rfl⟩
      obtain ⟨B, hB⟩ : ∃ B, Lz.wd f (y + n) 8 = B := ⟨_, rfl⟩
      have hA64 : A < 18446744073709551616 := by rw [← hA]; exact Lz.wd_lt HF.out 8 (x + n)
      have hB64 : B < 18446744073709551616 := by rw [← hB]; exact Lz.wd_lt HF.out 8 (y + n)
      rw [hA] at W1
      rw [hB] at W2
      have HE : Hid (A = B → ∀ i, i < n + 8 → f (x + i) = f (y + i)) := Lib.hid (fun e i hi => by
        by_cases hin : i < n
        · exact HN.out.1 i hin
        · have := (Lz.wd_inj HF.out 8 (x + n) (y + n)).1 (by rw [hA, hB, e]) (i - n) (by omega)
          rwa [show x + n + (i - n) = x + i by omega, show y + n + (i - n) = y + i by omega] at this)
      have HT : Hid (∀ z, z < 64 → (A ^^^ B) % 2 ^ z = 0 → (A ^^^ B) % 2 ^ (z + 1) ≠ 0 → Lz.cp f x y n1 = n + z / 8) := Lib.hid (fun z hz64 t1 t2 => by
        rw [← hA, ← hB] at t1 t2
        obtain ⟨k1, k2⟩ := Lz.wd_tz HF.out (x + n) (y + n) 8 z t1 t2 (by omega)
        refine Lz.cp_is (by omega) (fun i hi => ?_) (fun _ => ?_)
        · by_cases hin : i < n
          · exact HN.out.1 i hin
          · have := k1 (i - n) (by omega)
            rwa [show x + n + (i - n) = x + i by omega, show y + n + (i - n) = y + i by omega] at this
        · rwa [Nat.add_assoc, Nat.add_assoc] at k2)
      have hxor : bits .xor .u64 (A : Int) (B : Int) = ((A ^^^ B : Nat) : Int) := u64_xor_nat A B hA64 hB64
      have hd64 : A ^^^ B < 18446744073709551616 := Lz.xor64 A B hA64 hB64
      have HD0 : Hid (A ^^^ B = 0 → A = B) := Lib.hid (fun h => by
        have h3 : A ^^^ (A ^^^ B) = A ^^^ 0 := by rw [h]
        rw [← Nat.xor_assoc, Nat.xor_self, Nat.zero_xor, Nat.xor_zero] at h3
        exact h3.symm)
      obtain ⟨D, hD⟩ : ∃ D, A ^^^ B = D := ⟨_, rfl⟩
      rw [hD] at HT hxor hd64 HD0
      have HD64 := Lib.hid hd64
      clear hA hB hA64 hB64 hD hd64
      by_cases hD0 : D = 0
      · have HE2 := Lib.hid (HE.out (HD0.out hD0))
        have d3 : ((D : Int) != 0) = false := by rw [hD0]; rfl
        clear hD0 HT HD0
        go_wp2_with fail
        go_quiet (first | (go_at_call 60; with_reducible exact W1.out _) | (go_at_call 60; with_reducible exact W2.out _))
        rename_i nq
        have HW : Hid (Below w.heap.size w (wr.drewN nq)) := Lib.hid (HN.out.2.trans ((dn_below wr nq).mono HN.out.2.size))
        go_wp2
        go_roundw
        case rel => exact ⟨n + 8, by omega, by go_num, Lib.hid ⟨HE2.out, HW.out⟩⟩
        case measure => simp [intOf]; omega
      · have HD1 : Hid (0 < D) := Lib.hid (by omega)
        have d3 : ((D : Int) != 0) = true := by simp; omega
        clear hD0 HD0 HE
        go_wp2_with fail
        go_quiet (first | (go_at_call 60; with_reducible exact W1.out _) | (go_at_call 60; with_reducible exact W2.out _))
        rename_i nq
        have HW : Hid (Below w.heap.size w (wr.drewN nq)) := Lib.hid (HN.out.2.trans ((dn_below wr nq).mono HN.out.2.size))
        have HTZ := Lib.hid (tz_any D HD1.out HD64.out (wr.drewN nq) (HDB.out _ HW.out))
        go_wp2_with fail
        refine HTZ.out.mono ?_
        rintro e w' ⟨⟨z, hz64, t1, t2, rfl⟩, rfl⟩
        have HR := Lib.hid (HT.out z hz64 t1 t2)
        have hq8 : IntKind.i64.wrap ((z : Int).tdiv 8) = ((z / 8 : Nat) : Int) := by rw [Int.tdiv_eq_ediv_of_nonneg (by omega), IntWalk.i64_in _ ⟨by omega, by omega⟩]; omega
        clear t1 t2 HT
        go_wp2
        go_ret
        exact ⟨ret_int (by rw [HR.out]; omega), HW.out⟩
    · have d1 : decide ((8 : Int) ≤ (n1 : Int) - (n : Int)) = false := by simp; omega
      go_wp2
      generalize wr = wa at *
      go_loopw [5] (fun i wr => ∃ n : Nat, n ≤ n1 ∧ i = .int .i64 n ∧ Hid ((∀ i, i < n → f (x + i) = f (y + i)) ∧ Below w.heap.size w wr)) (fun i _ => n1 - (intOf i).toNat)
      case atStart => exact ⟨n, hn, rfl, HN⟩
      case round =>
        clear h8 d1 hn HN
        obtain ⟨n, hn, rfl, HN⟩ := hrel
        by_cases hlt : n < n1
        · have d2 : decide ((n : Int) < (n1 : Int)) = true := by simp; omega
          have d3 : decide ((n : Int) < (n2 : Int)) = true := by simp; omega
          obtain ⟨b, off, rfl, _, k1⟩ := (H.out.mono HN.out.2).at' n hlt
          obtain ⟨b', off', rfl, _, k2⟩ := (H'.out.mono HN.out.2).at' n (by omega)
          rw [HU.out n hlt] at k1
          rw [HV.out n (by omega)] at k2
          have i1 : (n : Int) < (n1 : Int) := by omega
          have i2 : (n : Int) < (n2 : Int) := by omega
          by_cases he : f (x + n) = f (y + n)
          · have HE : Hid (∀ i, i < n + 1 → f (x + i) = f (y + i)) := Lib.hid (fun i hi => by
              by_cases hin : i < n
              · exact HN.out.1 i hin
              · obtain rfl : i = n := by omega
                exact he)
            have dd : ((f (x + n) : Int) == (f (y + n) : Int)) = true := by rw [he]; simp
            clear he
            generalize f (x + n) = p at *
            generalize f (y + n) = q at *
            go_wp2_with fail
            go_quiet (fail)
            rename_i nq
            have HW : Hid (Below w.heap.size w (wr.drewN nq)) := Lib.hid (HN.out.2.trans ((dn_below wr nq).mono HN.out.2.size))
            go_wp2
            go_roundw
            case rel => exact ⟨n + 1, by omega, by go_num, Lib.hid ⟨HE.out, HW.out⟩⟩
            case measure => simp [intOf]; omega
          · have HE : Hid (Lz.cp f x y n1 = n) := Lib.hid (Lz.cp_is (by omega) HN.out.1 (fun _ => he))
            have dd : ((f (x + n) : Int) == (f (y + n) : Int)) = false := by simpa using fun e => he (by omega)
            clear he
            generalize f (x + n) = p at *
            generalize f (y + n) = q at *
            go_wp2_with fail
            go_quiet (fail)
            rename_i nq
            have HW : Hid (Below w.heap.size w (wr.drewN nq)) := Lib.hid (HN.out.2.trans ((dn_below wr nq).mono HN.out.2.size))
            go_wp2
            go_ret
            exact ⟨by rw [HE.out]; rfl, HW.out⟩
        · have HE : Hid (Lz.cp f x y n1 = n) := Lib.hid (Lz.cp_is (by omega) HN.out.1 (fun h => absurd h hlt))
          have d2 : decide ((n : Int) < (n1 : Int)) = false := by simp; omega
          go_wp2_with fail
          go_quiet (fail)
          rename_i nq
          have HW : Hid (Below w.heap.size w (wr.drewN nq)) := Lib.hid (HN.out.2.trans ((dn_below wr nq).mono HN.out.2.size))
          go_wp2
          go_ret
          exact ⟨by rw [HE.out]; rfl, HW.out⟩
end Go.Proofs.YtdojhglpiejfjaaDoor
end

section
namespace Go.Proofs.YtdojhglpiejfjaaDoor
open Go.RowKit Go.Maps

namespace Lz
theorem rise_len : ∀ (R : List (Nat × Nat)) (A B : Nat), R.Pairwise (fun p q => p.1 < q.1 ∧ p.2 < q.2) → (∀ q, q ∈ R → A ≤ q.1 ∧ q.1 ≤ B) → R.length ≤ B + 1 - A
  | [], _, _, _, _ => Nat.zero_le _
  | q :: R, A, B, h, hb => by
    obtain ⟨h1, h2⟩ := List.pairwise_cons.1 h
    have hq := hb q (by simp)
    have ih := rise_len R (A + 1) B h2 (fun p hp => ⟨by have := (h1 p hp).1; omega, (hb p (by simp [hp])).2⟩)
    simp only [List.length_cons]
    omega
theorem Rec.len {b : Nat → Nat} {N t : Nat} {R : List (Nat × Nat)} (h : Rec b N t R) : R.length ≤ 259 := by
  have := rise_len R 0 258 h.1 (fun q hq => ⟨Nat.zero_le _, by
    rw [(h.2.1 q hq).2.2.2.2]
    have := cp_le b (L N t) (t - q.2) t
    unfold L at *
    omega⟩)
  omega
end Lz
theorem key_k8 (l : List UInt8) (z : Nat) : K8 (Lz.key (gb l) z) := ⟨gb_lt _ _, gb_lt _ _, gb_lt _ _⟩
/-- A forest with its trees, when all places ahead of t have been entered. -/
structure En (w : World) (g mb bb : Nat) (a : Option Addr) (cap N n : Nat) (l : List UInt8) (t : Nat) : Prop where
  ex : ∃ top f tr, Fm w g mb bb a cap N n l top f ∧ Lz.Fo (gb l) N t tr ∧ ∀ k, K8 k → Lz.Rep f (top k) (tr k)
/-- What enter answers. -/
def EnPost (w : World) (g mb bb : Nat) (a : Option Addr) (cap N n : Nat) (l : List UInt8) (t base : Nat) (v : Value) (R : List (Nat × Nat)) (e : Ending) (w' : World) : Prop :=
  ∃ v' Rt, e = .returned v' ∧ Lz.Rec (gb l) N t Rt ∧ w'.ownsRow base 108 2 v' (R ++ Rt).length (rvs (R ++ Rt)) ∧ En w' g mb bb a cap N (n + 1) l (t + 1) ∧ Ch w w' (fun b => b = mb ∨ b = bb ∨ v.ownBlock = some b) ∧ ∀ b, v'.ownBlock = some b → v.ownBlock = some b ∨ w.heap.size ≤ b
theorem Fm.more {w : World} {g mb bb : Nat} {a : Option Addr} {cap N n m : Nat} {l : List UInt8} {top : Nat × Nat × Nat → Int} {f : Nat → Bool → Int} (h : Fm w g mb bb a cap N n l top f) (hn : n ≤ m) : Fm w g mb bb a cap N m l top f := by
  obtain ⟨D, ho, h2⟩ := h.tops
  exact ⟨h.row, h.txt, ⟨D, ho.mono hn, h2⟩, h.below, h.n1, h.n2, h.n3, h.ta, h.tv⟩
section
variable {w wr : World} {g mb bb : Nat} {a : Option Addr} {cap N n : Nat} {l : List UInt8}
/-- On the way down, in memory: the document's words for what is known are Lp's. -/
def Es (w wr : World) (g mb bb : Nat) (a : Option Addr) (cap N n : Nat) (l : List UInt8) (t m base : Nat) (v : Value) (R : List (Nat × Nat)) (top : Nat × Nat × Nat → Int) (s0 : Lz.T) (f0 : Nat → Bool → Int) (nx : Int) (oL oR p q gg : Nat) (v1 : Value) : Prop :=
  ∃ s f x1 c1 x2 c2 out, Lz.Lp (gb l) t m s0 f0 s f nx x1 c1 x2 c2 p q gg out ∧ Fm wr g mb bb a cap N n l top f ∧ oL = sd x1 c1 ∧ oR = sd x2 c2 ∧
    wr.ownsRow base 108 2 v1 (R ++ out).length (rvs (R ++ out)) ∧ Ch w wr (fun b => b = mb ∨ b = bb ∨ v.ownBlock = some b) ∧ ∀ b, v1.ownBlock = some b → v.ownBlock = some b ∨ w.heap.size ≤ b
/-- It ends. -/
theorem es_fin {t base : Nat} {v v1 : Value} {R out : List (Nat × Nat)} {top : Nat × Nat × Nat → Int} {tr : Nat × Nat × Nat → Lz.T} {f0 f' : Nat → Bool → Int} (hfo : Lz.Fo (gb l) N t tr) (ht : t + 3 ≤ N) (hrep : ∀ k, K8 k → Lz.Rep f0 (top k) (tr k))
    (hg : Lz.Goal (gb l) t (Lz.L N t) (tr (Lz.key (gb l) t)) f0 f') (hout : out = Lz.recs (gb l) t (Lz.L N t) 0 (tr (Lz.key (gb l) t)))
    (hfm : Fm wr g mb bb a cap N (n + 1) l (fun j => if j = Lz.key (gb l) t then (t : Int) else top j) f') (how : wr.ownsRow base 108 2 v1 (R ++ out).length (rvs (R ++ out)))
    (hch : Ch w wr (fun b => b = mb ∨ b = bb ∨ v.ownBlock = some b)) (hv1 : ∀ b, v1.ownBlock = some b → v.ownBlock = some b ∨ w.heap.size ≤ b) :
    EnPost w g mb bb a cap N n l t base v R (.returned v1) wr := by
  obtain ⟨h1, h2⟩ := hfo.long ht
  refine ⟨v1, out, rfl, by rw [hout]; exact h2, how, ⟨_, f', _, hfm, h1, fun k hk => ?_⟩, hch, hv1⟩
  unfold Lz.enter
  by_cases e : k = Lz.key (gb l) t
  · subst e
    rw [if_pos rfl, if_pos rfl]
    exact ⟨rfl, hg.1, hg.2.1⟩
  · rw [if_neg e, if_neg e]
    refine (hrep k hk).kept (fun y d hy => hg.2.2 y d ?_ (fun hm => e ?_))
    · have := (hfo.mem k y hy).1; omega
    · rw [← (hfo.mem k y hy).2.2, (hfo.mem _ y hm).2.2]
/-- Two sides are written. -/
theorem fm_two {top : Nat × Nat × Nat → Int} {f : Nat → Bool → Int} (h : Fm wr g mb bb a cap N n l top f) (x1 x2 : Nat) (c1 c2 : Bool) (h1 : x1 < N) (h2 : x2 < N) (u1 u2 : Int) :
    Fm ((wr.setCell ⟨bb, sd x1 c1, none⟩ (.int .i32 u1)).setCell ⟨bb, sd x2 c2, none⟩ (.int .i32 u2)) g mb bb a cap N n l top (Lz.upd (Lz.upd f x1 c1 u1) x2 c2 u2) ∧
    Ch wr ((wr.setCell ⟨bb, sd x1 c1, none⟩ (.int .i32 u1)).setCell ⟨bb, sd x2 c2, none⟩ (.int .i32 u2)) (fun b => b = bb) := by
  have k1 := h.set x1 c1 h1 u1
  have k2 := k1.1.set x2 c2 h2 u2
  exact ⟨k2.1, k1.2.trans k2.2 (fun n hn => .inl hn)⟩
theorem sd_lt {x : Nat} {c : Bool} {N : Nat} (h : x < N) : sd x c < 2 * N := by unfold sd; cases c <;> simp <;> omega
end
end Go.Proofs.YtdojhglpiejfjaaDoor
end

section
namespace Go.Proofs.YtdojhglpiejfjaaDoor
open Go.RowKit

theorem made_ints1 (n : Nat) : (madeCells #[.int .i64 0] (n * 1)).toList = ivs (List.replicate n 0) := by
  rw [made_all _ _ (.int .i64 0) (by simp) (fun i hi => by
    match i, hi with
    | 0, _ => rfl), Nat.mul_one]
  simp [ivs]
theorem wpl_make_full {P : Program} {w : World} {ops : Array Oper} {rest : List Oper} {o : Oper} {a : Act} {Q : Exit → Act → World → Prop} {t e : TypeId} {z : Value} {size by' : Nat} (R : RowTy P t e z size by') (hg : o.guard = none) (l c : Operand) (hop : o.op = Op.makeSlice t l c) (base : Nat)
    (kl kc : IntKind) (L C : Int) (n : Nat) (hl : a.eval l = .int kl L) (hc : a.eval c = .int kc C) (hL : L = (n : Int)) (hC : C = (n : Int)) (b2 : by' * n ≤ 281474976710656) (b3 : n ≤ 9223372036854775807) (b4 : base ≤ w.heap.size)
    (hK : ∀ w', w'.ownsRow base e size (.slice (some ⟨w.heap.size, 0, none⟩) n n) n (madeCells z.cells (n * size)).toList → w.grownBy w' none → wpList P ops Q rest (a.put o.dst (.slice (some ⟨w.heap.size, 0, none⟩) n n)) w') :
    wpList P ops Q (o :: rest) a w := by
  obtain ⟨i0, hi, hz0, hz1, hz2⟩ := info_parts R.info
  subst hz2
  exact wpList_make_full w hg l c t hop base e i0 z size R.ht hi hz0 hz1 kl kc L C n hl hc hL hC b2 (by unfold maxLen; omega) b4 hK
end Go.Proofs.YtdojhglpiejfjaaDoor
end

section
namespace Go.Proofs.YtdojhglpiejfjaaDoor
open Go.RowKit Go.Maps

theorem tySide : RowTy Tryd.prog 98 104 (.agg #[.int .i32 0, .int .i32 0]) 2 8 := ⟨Tryd.underlying98, by kernel_rfl, rfl, by omega⟩
/-- A forest without places. -/
def NfPost (w : World) (a : Option Addr) (cap N : Nat) (l : List UInt8) (e : Ending) (w' : World) : Prop :=
  ∃ g mb bb, e = .returned (.pointer (some ⟨g, 0, none⟩)) ∧ En w' g mb bb a cap N 0 l 0 ∧ w.heap.size ≤ g ∧ w.heap.size ≤ mb ∧ w.heap.size ≤ bb ∧ Below w.heap.size w w'
set_option maxRecDepth 100000 in
set_option maxHeartbeats 4000000 in
theorem newForest_any (a : Option Addr) (N cap : Nat) (l : List UInt8) (w : World) (h : Bs w a N cap l) (hN : N ≤ 1048576) (ha : ∀ ad, a = some ad → ad.block < w.heap.size) :
    Calls Tryd.prog 40 #[.slice a N cap] w (NfPost w a cap N l) := by
  have H := Lib.hid h
  have hcap := h.hle
  clear h
  have hmm := @run_makeMap Tryd.prog
  go_enter Tryd.func40, Tryd.ntmps40
  go_wp2_with (at_make; refine wpl_make_full tySide rfl _ _ rfl (w.heap.size + 1) .i64 .i64 _ _ N rfl rfl rfl rfl (by omega) (by omega) (by simp) ?_)
  intro w2 own2 g2
  have b1 : Below w.heap.size w (w.alloc (.map #[] 0)) := below_alloc w _
  have b2 : Below w.heap.size w w2 := b1.grown g2 (by simp) (by simp)
  have b3 : Below w.heap.size w (w2.alloc (.cells #[.slice a N cap, .map (some w.heap.size), .slice (some ⟨w.heap.size + 1, 0, none⟩) N N] 100)) := below_then b2 (below_alloc w2 _)
  have hz2 : w.heap.size + 2 ≤ w2.heap.size := by have := (own2.lt (w.heap.size + 1) rfl).2; omega
  have HP : Hid (NfPost w a cap N l (.returned (.pointer (some ⟨w2.heap.size, 0, none⟩))) (w2.alloc (.cells #[.slice a N cap, .map (some w.heap.size), .slice (some ⟨w.heap.size + 1, 0, none⟩) N N] 100))) := Lib.hid (by
    refine ⟨_, w.heap.size, w.heap.size + 1, rfl, ⟨fun _ => -1, fun _ _ => 0, fun _ => .nil, ⟨heap_alloc_last w2 _, H.out.mono b3, ⟨.map [], ?_, fun k _ => ⟨fun h => ?_, fun _ => rfl⟩⟩, ?_, ?_, ?_, ?_, ?_, fun k => ?_⟩, Lz.fo_nil _ _, fun k _ => rfl⟩, ?_, ?_, ?_, b3⟩
    · exact ((World.ownsMap_made w Tryd.prog 102 (plainElem Tryd.prog 21)).kept g2 (by simp)).alloc _
    · have : Maps.has (.map [] : DataW Unit) (kl k) = false := rfl
      rw [this] at h; cases h
    · rcases own2.2 with ⟨h', _⟩ | ⟨g', cap', cur, h', hb', hg', hnc, hm', hsz, _⟩
      · simp at h'
      · simp only [Value.slice.injEq, Option.some.injEq, Addr.mk.injEq, and_true, true_and] at h'
        obtain ⟨rfl, rfl⟩ := h'
        have hc : ∀ j, j < 2 * N → cur[j]? = some (.int .i32 0) := fun j hj => by
          have := own2.cellAt j (by omega)
          rw [cell_of_row _ _ _ _ _ (0, 0) hg', made_all _ _ (.int .i32 0) (by simp) (fun i hi => by
            rcases (show i = 0 ∨ i = 1 by simp at hi; omega) with rfl | rfl <;> rfl)] at this
          rw [this, List.getElem?_replicate, if_pos (by omega)]
        refine ⟨cur, (Below.block (below_alloc w2 _) _ (by omega)).trans hg', by omega, fun x hx => ⟨hc _ (by omega), hc _ (by omega)⟩⟩
    · show w.heap.size ≠ w2.heap.size; omega
    · show w.heap.size + 1 ≠ w2.heap.size; omega
    · omega
    · intro ad e
      have := ha ad e
      exact ⟨by show ad.block ≠ w2.heap.size; omega, by omega, by omega⟩
    · omega
    · omega
    · omega
    · omega)
  clear own2 g2 b1 b2 b3 hmm
  go_wp2
  go_ret
  exact HP.out
end Go.Proofs.YtdojhglpiejfjaaDoor
end
