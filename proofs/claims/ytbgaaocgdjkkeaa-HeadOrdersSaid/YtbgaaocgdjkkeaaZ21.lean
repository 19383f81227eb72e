/- head.holdsKey, holdsPalette, holdsAlpha, holds: their contracts. -/
import Derived.Test.YtbgaaocgdjkkeaaZ6
import Derived.Test.YtbgaaocgdjkkeaaZ12
import Derived.Test.YtbgaaocgdjkkeaaZ16
import Derived.Test.YtbgaaocgdjkkeaaZ20
set_option linter.unusedSimpArgs false
set_option linter.unusedVariables false
section
namespace Go.Proofs.Ytbgaaocgdjkkeaa
open Go.RowKit

namespace Hd
/-- Number k of a transparent color. -/
def kv (l : List UInt8) (k : Nat) : Nat := Pt.num ((l.drop (2 * k)).take 2)
def keyP (l : List UInt8) (c d : Nat) : Bool := decide (l.length = 2 * c) && (List.range c).all fun k => decide (kv l k < 2 ^ d)
theorem kv_lt (l : List UInt8) (k : Nat) : kv l k < 65536 := by
  unfold kv
  have h := Pt.num_lt ((l.drop (2 * k)).take 2)
  have h2 : ((l.drop (2 * k)).take 2).length ≤ 2 := by rw [List.length_take]; omega
  have h3 := Nat.pow_le_pow_right (show 0 < 256 by omega) h2
  omega
theorem own_val2 {w : World} {base n : Nat} {e : TypeId} {v : Value} {l : List UInt8} (h : w.ownsRow base e 1 v n (bvs l)) : ∃ a c, v = .slice a n c ∧ True := by
  rcases own_nil_or h with ⟨rfl, rfl⟩ | ⟨g, cap, rfl, _⟩
  · exact ⟨_, _, rfl, trivial⟩
  · exact ⟨_, _, rfl, trivial⟩
set_option maxRecDepth 100000 in
set_option maxHeartbeats 2000000 in
theorem key_any (a : Option Addr) (len cap c d : Nat) (l : List UInt8) (w : World) (h : Bs w a len cap l) (hr : len ≤ 140737488355328) (hc : c = 1 ∨ c = 3) (hd : 1 ≤ d ∧ d ≤ 16) :
    Calls Try.prog 91 #[.slice a len cap, .int .i64 (c : Nat), .int .i64 (d : Nat)] w fun e w' => e = .returned (.bool (keyP l c d)) ∧ Below w.heap.size w w' := by
  have HL := Lib.hid h.hlen
  have H := Lib.hid h
  clear h
  by_cases hl : len = 2 * c
  rotate_left
  · have HR : Hid (keyP l c d = false) := Lib.hid (by unfold keyP; rw [decide_eq_false (by rw [HL.out]; exact hl)]; rfl)
    have d1 : ((len : Int) != ((c * 2 : Nat) : Int)) = true := by simp; omega
    have d2 : ((len : Int) != (c : Int) * 2) = true := by simp; omega
    clear hl
    go_enter Try.func91, Try.ntmps91
    go_wp2
    go_ret
    exact ⟨by rw [HR.out]; rfl, Below.refl _ _⟩
  have HKP : Hid (keyP l c d = (List.range c).all fun k => decide (kv l k < 2 ^ d)) := Lib.hid (by unfold keyP; rw [decide_eq_true (by rw [HL.out]; exact hl)]; rfl)
  have d1 : ((len : Int) != (c : Int) * 2) = false := by simp; omega
  have HLC := Lib.hid hl
  clear hl
  have hcap := H.out.hle
  have hcap2 := H.out.hmax
  go_enter Try.func91, Try.ntmps91
  go_wp2
  go_loopw [7, 8, 9, 10, 17] (fun _ _ _ _ i wr => ∃ k : Nat, k ≤ c ∧ i = .int .i64 (k : Nat) ∧ Hid (∀ j, j < k → kv l j < 2 ^ d) ∧ Hid (Below w.heap.size w wr)) (fun _ _ _ _ i _ => c - (intOf i).toNat)
  case atStart => exact ⟨0, by omega, rfl, Lib.hid (fun j hj => by omega), Lib.hid (Below.refl _ _)⟩
  case round =>
    obtain ⟨k, hk, rfl, HA, HB⟩ := hrel
    by_cases hlt : k < c
    · have hks : k = 0 ∨ k = 1 ∨ k = 2 := by omega
      have hl2 := HLC.out
      obtain ⟨b, off, rfl, hb, _⟩ := H.out.at' 0 (by omega)
      have HTK : Hid (∀ ao, (¬ cap = 2 * k → ao = some ⟨b, off + 2 * k, none⟩) → Calls Try.prog 60 #[.slice ao (len - 2 * k) (cap - 2 * k), .int .i64 2] wr (TakePost wr (len - 2 * k) 2 (l.drop (2 * k)))) := Lib.hid (fun ao hao => take_ok ao (len - 2 * k) (cap - 2 * k) 2 (l.drop (2 * k)) wr ((H.out.mono HB.out).drop (2 * k) (by omega) ao hao) (by omega) (by omega) (by omega) (by omega))
      have hne : ¬ cap = 2 * k := by omega
      have HV : Hid (Pt.num ((l.drop (2 * k)).take 2) = kv l k) := Lib.hid rfl
      have hmin : min d 64 = d := by omega
      obtain ⟨p, hp⟩ : ∃ p, 2 ^ d = p := ⟨_, rfl⟩
      have hpw : p ≤ 65536 := by rw [← hp]; have := Nat.pow_le_pow_right (show 0 < 2 by omega) hd.2; omega
      have hwr : wrap64 ((2 : Int) ^ d) = (p : Int) := by
        have e : (2 : Int) ^ d = (p : Int) := by rw [← hp]; simp
        rw [e, IntWalk.wrap64_in _ ⟨by omega, by omega⟩]
      have HKF : Hid (¬ kv l k < 2 ^ d → keyP l c d = false) := Lib.hid (fun h => by
        rw [HKP.out, List.all_eq_false]
        exact ⟨k, by simpa using hlt, by simpa using h⟩)
      have HKN : Hid (kv l k < 2 ^ d → ∀ j, j < k + 1 → kv l j < 2 ^ d) := Lib.hid (fun h j hj => by
        rcases Nat.lt_succ_iff_lt_or_eq.1 hj with h1 | rfl
        · exact HA.out j h1
        · exact h)
      clear HA
      generalize hv : kv l k = v at *
      clear hv
      rw [hp] at HKF HKN
      have HP := Lib.hid hp
      clear hp
      have key2 : ∀ j, k = j → Calls Try.prog 60 #[.slice (some ⟨b, off + 2 * j, none⟩) (len - 2 * j) (cap - 2 * j), .int .i64 2] wr (TakePost wr (len - 2 * j) 2 (l.drop (2 * j))) := fun j e => by subst e; exact HTK.out _ (fun _ => rfl)
      have HK2 := Lib.hid key2
      have dl2 : 2 * k + 2 ≤ len := by omega
      clear HTK key2 hl2
      rcases hks with rfl | rfl | rfl
      all_goals
        have HK3 := Lib.hid (HK2.out _ rfl)
        simp only [Nat.reduceMul, Nat.mul_zero, Nat.add_zero, Nat.sub_zero] at HK3 hne
        go_wp2_with fail
        refine HK3.out.mono ?_
        rintro e w3 ⟨v3, rfl, own3, hb3⟩
        obtain ⟨a3, c3, rfl, _⟩ := own_val2 own3
        have HB3 := Lib.hid (below_then HB.out hb3)
        simp only [Nat.mul_zero, Nat.reduceMul] at HV
        rw [HV.out]
        clear own3 hb3 HK3 HK2
        by_cases hvp : v < p
        · have dv : decide ((p : Int) ≤ (v : Int)) = false := by simp; omega
          have dv2 : decide (p ≤ v) = false := decide_eq_false (by omega)
          have HN := Lib.hid (HKN.out hvp)
          clear HKN HKF hvp
          go_wp2
          go_roundw
          case rel =>
            have HN2 := Lib.hid (fun j hj => HP.out ▸ HN.out j hj)
            first
            | exact ⟨1, by omega, by go_num, HN2, HB3⟩
            | exact ⟨2, by omega, by go_num, HN2, HB3⟩
            | exact ⟨3, by omega, by go_num, HN2, HB3⟩
          case measure => simp [intOf]; omega
        · have dv : decide ((p : Int) ≤ (v : Int)) = true := by simp; omega
          have dv2 : decide (p ≤ v) = true := decide_eq_true (by omega)
          have HN := Lib.hid (HKF.out hvp)
          clear HKN HKF hvp
          go_wp2
          go_ret
          exact ⟨by rw [HN.out]; rfl, HB3.out⟩
    · obtain rfl : k = c := by omega
      have HR : Hid (keyP l k d = true) := Lib.hid (by
        rw [HKP.out, List.all_eq_true]
        intro j hj
        exact decide_eq_true (HA.out j (by simpa using hj)))
      clear HA
      go_wp2
      go_ret
      exact ⟨by rw [HR.out]; rfl, HB.out⟩
end Hd
end Go.Proofs.Ytbgaaocgdjkkeaa
end
