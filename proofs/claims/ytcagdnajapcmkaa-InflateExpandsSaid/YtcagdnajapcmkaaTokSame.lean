/- burnishnum.Tokens at the same tokens twice. -/
import Derived.Test.YtcagdnajapcmkaaTok06
import Derived.Deep.QuietTactic
import Derived.BigQuiet
namespace Go.Proofs.Ytcagdnajapcmkaa
open Go.RowKit

set_option maxHeartbeats 1000000 in
theorem tokens_any (a b : Option Addr) (len cap cap' : Nat) (l : List Tok) (w : World) (h : Ts2 w a len cap l) (h' : Ts2 w b len cap' l) (hr : len ≤ 140737488355328) :
    Calls Try.prog 20 #[.slice a len cap, .slice b len cap'] w fun e w' => e = .returned (.bool true) ∧ ∃ n, w' = w.drewN n := by
  have H := Lib.hid h
  have H' := Lib.hid h'
  clear h h'
  go_enter Try.func20, Try.ntmps20
  go_wp2
  go_loopw [13] (fun i wr => ∃ k : Nat, k ≤ len ∧ i = .int .i64 k ∧ ∃ n, wr = w.drewN n) (fun i _ => len - (intOf i).toNat)
  case atStart => exact ⟨0, by omega, rfl, 0, rfl⟩
  case round =>
    obtain ⟨k, hk, rfl, dn, rfl⟩ := hrel
    by_cases hlt : k < len
    · obtain ⟨b1, off1, rfl, _, c0, c1⟩ := H.out.at' k hlt
      obtain ⟨b2, off2, rfl, _, d0, d1⟩ := H'.out.at' k hlt
      generalize l.getD k (0, 0) = t at *
      obtain ⟨x, y⟩ := t
      dsimp only at c0 c1 d0 d1
      go_wp2
      go_quiet (fail)
      go_wp2
      go_roundw
      case rel => exact ⟨k + 1, by omega, by go_num, _, rfl⟩
      case measure => simp [intOf]; omega
    · obtain rfl : len = k := by omega
      go_wp2
      go_ret
      exact ⟨rfl, _, rfl⟩
end Go.Proofs.Ytcagdnajapcmkaa
