/- What Take of a nil reader answers, and a book's Read of one: their contracts. -/
import Derived.Test.YtnlbomijnldlmaaBitsSmall
import Derived.Test.YtnlbomijnldlmaaBookTake
namespace Go.Proofs.Ytnlbomijnldlmaa
open Go.RowKit

theorem nilTake_any (w : World) (c : Nat) (h : c ≤ 32) : Calls Try.prog 52 #[.pointer none, .int .i64 c] w fun e w' => e = .returned (.tuple #[.int .i64 0, .iface 35 (.int .i64 8)]) ∧ w = w' := by
  go_enter Try.func52, Try.ntmps52
  go_wp2_with fail
  refine (isCount_yes c _ h).mono ?_
  rintro e w' ⟨rfl, rfl⟩
  go_wp2
  go_ret2
  exact ⟨rfl, rfl⟩
namespace Bk
theorem read_nilr (w : World) (S g : Nat) (R : Nat → List Nat) (ws : List (Nat × Nat)) (hb : Book w S g R ws) (hG : Good R) (he : 0 < nx R 17) :
    Calls Try.prog 34 #[.pointer (some ⟨g, 0, none⟩), .pointer none] w fun e w' => e = .returned (.tuple #[.int .i64 0, .iface 35 (.int .i64 8)]) ∧ Below w.heap.size w w' := by
  obtain ⟨B2, fs, vs, wv, hfs, hnb⟩ := hb.nb
  have cv : w.cell? ⟨g, 1, none⟩ = some (vs 0) := hnb.cV 0 (by omega)
  have cf : w.cell? ⟨g, 0, none⟩ = some (.int .i64 0) := by
    have h1 := hnb.cF 0 (by omega)
    rw [hfs 0 (by omega)] at h1
    exact h1
  have ce := hnb.cE
  obtain ⟨ra, rc, hv⟩ : ∃ ra rc, vs 0 = .slice ra 0 rc := by
    have hown := hnb.rows 0 (by omega)
    rw [hG.r0] at hown
    rcases own_nil_or hown with ⟨h1, h2⟩ | ⟨rb, rc, h1, _⟩
    · exact ⟨none, 0, by rw [h1]⟩
    · exact ⟨_, rc, h1⟩
  rw [hv] at cv
  have hel : nx R 17 ≤ 65536 := by rw [end_val]; exact hG.le
  clear hb hG hfs hnb hv
  generalize nx R 17 = en at *
  have dd : decide ((en : Int) ≤ 0) = false := decide_eq_false (by omega)
  go_enter Try.func34, Try.ntmps34
  go_wp2
  go_loopw [6, 15] (fun c i wr => c = .int .i64 0 ∧ i = .int .i64 0 ∧ w = wr) (fun _ _ _ => 0)
  case atStart => exact ⟨rfl, rfl, rfl⟩
  case round =>
    obtain ⟨rfl, rfl, rfl⟩ := hrel
    go_wp2
    go_quiet (fail)
    go_wp2_with fail
    refine (nilTake_any _ 1 (by omega)).mono ?_
    rintro e w' ⟨rfl, rfl⟩
    go_wp2
    go_ret2
    exact ⟨rfl, drewN_below _ _⟩
end Bk
end Go.Proofs.Ytnlbomijnldlmaa
