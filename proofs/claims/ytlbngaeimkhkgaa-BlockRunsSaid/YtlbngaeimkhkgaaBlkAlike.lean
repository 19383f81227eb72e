/- block.alike: its contract. -/
import Derived.Test.YtlbngaeimkhkgaaBlkMath
import Derived.Deep.QuietTactic
import Derived.BigQuiet
import Derived.Test.YtlbngaeimkhkgaaDrewN
namespace Go.Proofs.Ytlbngaeimkhkgaa
open Go.RowKit

/-- Some lengths from the first one on are the same; one at least, if there is one. -/
def Bl.AlPost (w : World) (len : Nat) (l : List Int) (e : Ending) (w' : World) : Prop :=
  ∃ c : Nat, e = .returned (.int .i64 c) ∧ c ≤ len ∧ (0 < len → 0 < c) ∧ (∀ i, i < c → l.getD i 0 = l.getD 0 0) ∧ (c < len → l.getD c 0 ≠ l.getD 0 0) ∧ ∃ n, w' = w.drewN n
theorem alike_any (a : Option Addr) (len cap : Nat) (l : List Int) (w : World) (h : Is .i64 w a len cap l) (hr : len ≤ 3000) :
    Calls Try.prog 10 #[.slice a len cap] w (Bl.AlPost w len l) := by
  have H := Lib.hid h
  clear h
  go_enter Try.func10, Try.ntmps10
  go_wp2
  go_loopw [3] (fun i wr => ∃ k : Nat, k ≤ len ∧ i = .int .i64 k ∧ (∃ n, wr = w.drewN n) ∧ Hid (∀ i, i < k → l.getD i 0 = l.getD 0 0)) (fun i _ => len - (intOf i).toNat)
  case atStart => exact ⟨0, by omega, rfl, ⟨0, rfl⟩, Lib.hid (fun i hi => by omega)⟩
  case round =>
    obtain ⟨k, hk, rfl, ⟨dn, rfl⟩, HT⟩ := hrel
    by_cases hlt : k < len
    · obtain ⟨b1, off1, rfl, _, c1⟩ := H.out.at' k hlt
      obtain ⟨b2, off2, e2, _, c0⟩ := H.out.at' 0 (by omega)
      simp only [Option.some.injEq, Addr.mk.injEq, and_true] at e2
      obtain ⟨rfl, rfl⟩ := e2
      have HE : Hid (l.getD k 0 = l.getD 0 0 → ∀ i, i < k + 1 → l.getD i 0 = l.getD 0 0) := Lib.hid (fun h i hi => by
        rcases Nat.lt_succ_iff_lt_or_eq.1 hi with h1 | rfl
        · exact HT.out i h1
        · exact h)
      have HP : Hid (l.getD k 0 ≠ l.getD 0 0 → ∀ n, Bl.AlPost w len l (.returned (.int .i64 k)) (w.drewN n)) := Lib.hid (fun h n => ⟨k, rfl, hk, fun _ => by
        rcases Nat.eq_zero_or_pos k with rfl | h0
        · exact absurd rfl h
        · exact h0, HT.out, fun _ => h, n, rfl⟩)
      rw [Nat.add_zero] at c0
      have hlen0 : 0 < len := by omega
      clear HT
      generalize l.getD k 0 = x at *
      generalize l.getD 0 0 = y at *
      by_cases hxy : x = y
      · subst hxy
        have HE2 := Lib.hid (HE.out rfl)
        have dxx : (x == x) = true := by simp
        clear HE HP
        go_wp2
        go_quiet (fail)
        go_wp2
        go_roundw
        case rel => exact ⟨k + 1, by omega, by go_num, ⟨_, rfl⟩, HE2⟩
        case measure => simp [intOf]; omega
      · have dxy : (x == y) = false := by simpa using hxy
        have HP2 := Lib.hid (HP.out hxy)
        clear HE HP hxy
        go_wp2
        go_quiet (fail)
        go_wp2
        go_ret
        rw [drewN_two]
        exact HP2.out _
    · obtain rfl : len = k := by omega
      have HP2 : Hid (∀ n, Bl.AlPost w len l (.returned (.int .i64 len)) (w.drewN n)) := Lib.hid (fun n => ⟨len, rfl, hk, fun h => h, HT.out, fun h => absurd h (by omega), n, rfl⟩)
      clear HT
      go_wp2
      go_quiet (fail)
      go_wp2
      go_ret
      rw [drewN_two]
      exact HP2.out _
end Go.Proofs.Ytlbngaeimkhkgaa
