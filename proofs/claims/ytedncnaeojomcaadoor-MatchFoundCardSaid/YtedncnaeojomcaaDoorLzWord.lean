/- match.word: its contract; numbers of eight bytes, the lowest first. -/
import Derived.Test.YtedncnaeojomcaaDoorProg
import Derived.Test.YtedncnaeojomcaaDoorBase
import Derived.Lib.EndianBits
import Derived.Deep.QuietTactic
import Derived.BigQuiet
namespace Go.Proofs.YtedncnaeojomcaaDoor
open Go.RowKit
namespace Lz
/-- The number of k bytes from a place on, the lowest first. -/
def wd (b : Nat → Nat) (x : Nat) : Nat → Nat
  | 0 => 0
  | k + 1 => b x + 256 * wd b (x + 1) k
theorem wd_lt {b : Nat → Nat} (hb : ∀ i, b i < 256) : ∀ (k x : Nat), wd b x k < 256 ^ k
  | 0, _ => by simp [wd]
  | k + 1, x => by
    have h1 := hb x
    have h2 := wd_lt hb k (x + 1)
    unfold wd
    rw [Nat.pow_succ]
    omega
theorem wd_mod {b : Nat → Nat} (hb : ∀ i, b i < 256) : ∀ (j k x : Nat), j ≤ k → wd b x k % 256 ^ j = wd b x j
  | 0, k, x, _ => by simp [wd, Nat.mod_one]
  | j + 1, 0, x, h => by omega
  | j + 1, k + 1, x, h => by
    have ih := wd_mod hb j k (x + 1) (by omega)
    have h1 := hb x
    have h2 := wd_lt hb j (x + 1)
    unfold wd
    rw [Nat.pow_succ, ← ih, Nat.mul_comm (256 ^ j) 256, Nat.mod_mul]
    have e1 : (b x + 256 * wd b (x + 1) k) % 256 = b x := by omega
    have e2 : (b x + 256 * wd b (x + 1) k) / 256 = wd b (x + 1) k := by omega
    rw [e1, e2]
theorem wd_inj {b : Nat → Nat} (hb : ∀ i, b i < 256) : ∀ (k x y : Nat), wd b x k = wd b y k ↔ ∀ i, i < k → b (x + i) = b (y + i)
  | 0, x, y => by simp [wd]
  | k + 1, x, y => by
    have ih := wd_inj hb k (x + 1) (y + 1)
    have h1 := hb x
    have h2 := hb y
    unfold wd
    constructor
    · intro h
      have e1 : b x = b y := by omega
      have e2 := ih.1 (by omega)
      intro i hi
      cases i with
      | zero => exact e1
      | succ i =>
        have := e2 i (by omega)
        rwa [show x + 1 + i = x + (i + 1) by omega, show y + 1 + i = y + (i + 1) by omega] at this
    · intro h
      have e1 : b x = b y := h 0 (by omega)
      have e2 := ih.2 (fun i hi => by
        have := h (i + 1) (by omega)
        rwa [show x + 1 + i = x + (i + 1) by omega, show y + 1 + i = y + (i + 1) by omega])
      omega
/-- The lowest set bit tells how many bytes are alike. -/
theorem wd_tz {b : Nat → Nat} (hb : ∀ i, b i < 256) (x y k z : Nat) (h1 : (wd b x k ^^^ wd b y k) % 2 ^ z = 0) (h2 : (wd b x k ^^^ wd b y k) % 2 ^ (z + 1) ≠ 0) (hz : z < 8 * k) :
    (∀ i, i < z / 8 → b (x + i) = b (y + i)) ∧ b (x + z / 8) ≠ b (y + z / 8) := by
  have e256 : ∀ j, 256 ^ j = 2 ^ (8 * j) := fun j => by rw [Nat.pow_mul]
  have hd : ∀ j, j ≤ k → ((wd b x k ^^^ wd b y k) % 2 ^ (8 * j) = 0 ↔ ∀ i, i < j → b (x + i) = b (y + i)) := fun j hj => by
    rw [Nat.xor_mod_two_pow, ← e256, wd_mod hb j k x hj, wd_mod hb j k y hj, ← wd_inj hb]
    constructor
    · intro h
      have h3 : wd b x j ^^^ (wd b x j ^^^ wd b y j) = wd b x j ^^^ 0 := by rw [h]
      rw [← Nat.xor_assoc, Nat.xor_self, Nat.zero_xor, Nat.xor_zero] at h3
      exact h3.symm
    · intro h; rw [h, Nat.xor_self]
  have hle : ∀ {n a c : Nat}, a ≤ c → n % 2 ^ c = 0 → n % 2 ^ a = 0 := fun {n a c} hac h =>
    Nat.mod_eq_zero_of_dvd (Nat.dvd_trans (Nat.pow_dvd_pow 2 hac) (Nat.dvd_of_mod_eq_zero h))
  have a1 := (hd (z / 8) (by omega)).1 (hle (by omega) h1)
  refine ⟨a1, fun e => h2 (hle (a := z + 1) (c := 8 * (z / 8 + 1)) (by omega) ((hd (z / 8 + 1) (by omega)).2 (fun i hi => ?_)))⟩
  by_cases h : i < z / 8
  · exact a1 i h
  · obtain rfl : i = z / 8 := by omega
    exact e
end Lz
set_option maxHeartbeats 8000000 in
set_option maxRecDepth 100000 in
theorem word_any (a : Option Addr) (len cap : Nat) (l : List UInt8) (w : World) (h : Bs w a len cap l) (h8 : 8 ≤ len) :
    Calls Tryd.prog 67 #[.slice a len cap] w fun e w' => e = .returned (.int .u64 (Lz.wd (gb l) 0 8 : Nat)) ∧ ∃ n, w' = w.drewN n := by
  obtain ⟨b, off, rfl, _, c0⟩ := h.at' 0 (by omega)
  have hc : ∀ i, i < len → w.cell? ⟨b, off + i, none⟩ = some (.int .u8 (gb l i)) := fun i hi => by
    obtain ⟨b', off', e1, _, c1⟩ := h.at' i hi
    simp only [Option.some.injEq, Addr.mk.injEq, and_true] at e1
    obtain ⟨rfl, rfl⟩ := e1
    exact c1
  have c1 := hc 1 (by omega)
  have c2 := hc 2 (by omega)
  have c3 := hc 3 (by omega)
  have c4 := hc 4 (by omega)
  have c5 := hc 5 (by omega)
  have c6 := hc 6 (by omega)
  have c7 := hc 7 (by omega)
  rw [Nat.add_zero] at c0
  have q0 : (0 : Int) < (len : Int) := by omega
  have q1 : (1 : Int) < (len : Int) := by omega
  have q2 : (2 : Int) < (len : Int) := by omega
  have q3 : (3 : Int) < (len : Int) := by omega
  have q4 : (4 : Int) < (len : Int) := by omega
  have q5 : (5 : Int) < (len : Int) := by omega
  have q6 : (6 : Int) < (len : Int) := by omega
  have q7 : (7 : Int) < (len : Int) := by omega
  have h0 := gb_lt l 0
  have h1 := gb_lt l 1
  have h2 := gb_lt l 2
  have h3 := gb_lt l 3
  have h4 := gb_lt l 4
  have h5 := gb_lt l 5
  have h6 := gb_lt l 6
  have h7 := gb_lt l 7
  have hv : Hid (((Lz.wd (gb l) 0 8 : Nat) : Int) = (gb l 0 : Int) + (gb l 1 : Int) * 256 + (gb l 2 : Int) * 65536 + (gb l 3 : Int) * 16777216 + (gb l 4 : Int) * 4294967296 + (gb l 5 : Int) * 1099511627776 + (gb l 6 : Int) * 281474976710656 + (gb l 7 : Int) * 72057594037927936) := Lib.hid (by
    simp only [Lz.wd, Nat.zero_add, Nat.reduceAdd]
    omega)
  clear h hc h8
  generalize gb l 0 = b0 at *
  generalize gb l 1 = b1 at *
  generalize gb l 2 = b2 at *
  generalize gb l 3 = b3 at *
  generalize gb l 4 = b4 at *
  generalize gb l 5 = b5 at *
  generalize gb l 6 = b6 at *
  generalize gb l 7 = b7 at *
  generalize Lz.wd (gb l) 0 8 = W at *
  go_enter Tryd.func67, Tryd.ntmps67
  go_wp2
  go_quiet (fail)
  go_wp2
  go_ret
  refine ⟨?_, _, rfl⟩
  simp (disch := omega) only [u64_wrap_id, u64_or8, u64_or16, u64_or24, u64_or32, u64_or40, u64_or48, u64_or56]
  rw [hv.out]
  rfl
end Go.Proofs.YtedncnaeojomcaaDoor
