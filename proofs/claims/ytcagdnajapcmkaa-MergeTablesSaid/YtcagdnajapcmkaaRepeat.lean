/- slices.Repeat of one 1, none or one time: its contract. -/
import Derived.Test.YtcagdnajapcmkaaMade
import Derived.Laws.CopyOwn
namespace Go.Proofs.Ytcagdnajapcmkaa
open Go.RowKit

theorem mul64_any (c : Int) (hc : c = 0 ∨ c = 1) (w : World) : Calls Try.prog 56 #[.int .u64 1, .int .u64 c] w fun e w' => e = .returned (.tuple #[.int .u64 0, .int .u64 c]) ∧ w = w' := by
  have h64 : ∀ (c : Int) (w : World), (c = 0 ∨ c = 1) → Calls Try.prog 69 #[.int .u64 1, .int .u64 c] w fun e w' => e = .returned (.tuple #[.int .u64 0, .int .u64 c]) ∧ w = w' := by
    intro c w hc
    rcases hc with rfl | rfl
    · go_enter Try.func69, Try.ntmps69
      go_wp2
      go_ret2
      exact ⟨rfl, rfl⟩
    · go_enter Try.func69, Try.ntmps69
      go_wp2
      go_ret2
      exact ⟨rfl, rfl⟩
  go_enter Try.func56, Try.ntmps56
  go_wp2_with fail
  refine (h64 c _ hc).mono ?_
  rintro e w' ⟨rfl, rfl⟩
  go_wp2
  go_ret2
  exact ⟨rfl, rfl⟩
def RepPost (w : World) (n : Nat) (e : Ending) (w' : World) : Prop := ∃ v, e = .returned v ∧ w'.ownsRow w.heap.size 3 1 v n (ivs (List.replicate n 1)) ∧ Below w.heap.size w w'
set_option maxHeartbeats 1000000 in
theorem repeat0_any (g : Nat) (w : World) (h : w.cell? ⟨g, 0, none⟩ = some (.int .i64 1)) : Calls Try.prog 47 #[.slice (some ⟨g, 0, none⟩) 1 1, .int .i64 0] w (RepPost w 0) := by
  go_enter Try.func47, Try.ntmps47
  go_wp2_with fail
  refine (mul64_any 0 (.inl rfl) w).mono ?_
  rintro e w' ⟨rfl, rfl⟩
  go_wp2_with (at_make; refine wpl_make_full tyI rfl _ _ rfl w.heap.size .i64 .i64 _ _ 0 rfl rfl rfl rfl (by omega) (by omega) (Nat.le_refl _) ?_)
  intro w1 own1 hg1
  have hb1 : Below w.heap.size w w1 := (Below.refl _ _).grown hg1 (Nat.le_refl _) (by simp)
  have hO := Lib.hid (And.intro own1 hb1)
  clear own1 hg1 hb1
  go_wp2_with (with_reducible refine wpList_copy_nothing rfl _ _ _ _ rfl 3 Try.underlying22 (by kernel_rfl) _ _ _ _ _ _ rfl rfl rfl ?_)
  go_wp2
  go_loop [8] (fun i => i = .int .i64 0) (fun _ => 0)
  case atStart => rfl
  case round =>
    obtain rfl := hrel
    go_wp2
    go_ret
    exact ⟨_, rfl, by have := hO.out.1; simpa [madeCells, ivs] using this, hO.out.2⟩
set_option maxHeartbeats 1000000 in
set_option maxRecDepth 100000 in
theorem repeat1_any (g : Nat) (w : World) (h : w.cell? ⟨g, 0, none⟩ = some (.int .i64 1)) (hgl : g < w.heap.size) : Calls Try.prog 47 #[.slice (some ⟨g, 0, none⟩) 1 1, .int .i64 1] w (RepPost w 1) := by
  go_enter Try.func47, Try.ntmps47
  go_wp2_with fail
  refine (mul64_any 1 (.inr rfl) w).mono ?_
  rintro e w' ⟨rfl, rfl⟩
  go_wp2_with (at_make; refine wpl_make_full tyI rfl _ _ rfl w.heap.size .i64 .i64 _ _ 1 rfl rfl rfl rfl (by omega) (by omega) (Nat.le_refl _) ?_)
  intro w1 own1 hg1
  have hb1 : Below w.heap.size w w1 := (Below.refl _ _).grown hg1 (Nat.le_refl _) (by simp)
  obtain ⟨cur, hcz, hrow⟩ : ∃ cur : List Value, cur.length = 1 ∧ w1.heap[w.heap.size]? = some (.cells cur.toArray 3 (0, 0)) := by
    rcases own1.2 with ⟨h1, _⟩ | ⟨g2, cap2, cur, h1, _, hg, _, _, hsz, _⟩
    · simp at h1
    · simp only [Value.slice.injEq, Option.some.injEq, Addr.mk.injEq, and_true, true_and] at h1
      obtain ⟨rfl, rfl⟩ := h1
      exact ⟨cur.toList, by simpa using hsz, by simpa using hg⟩
  have hc : w1.cell? ⟨g, 0, none⟩ = some (.int .i64 1) := (hb1.cell (p := ⟨g, 0, none⟩) hgl).trans h
  have hO := Lib.hid (And.intro hrow (And.intro hb1 hcz))
  have hC := Lib.hid hc
  clear own1 hg1 hb1 hrow hcz hc h
  obtain ⟨w2, hrun, HR⟩ : ∃ w2, (Builtin.copy_ #[22, 22] 3 #[.slice (some ⟨w.heap.size, 0, none⟩) 1 1, .slice (some ⟨g, 0, none⟩) 1 1]).run Try.prog w1 = .ok (.int .i64 1) w2 ∧ Hid (w2.heap[w.heap.size]? = some (.cells #[.int .i64 1] 3 (0, 0)) ∧ Below w.heap.size w w2) := by
    have e : (cur.toArray.toList.take 0 ++ [Value.int .i64 1] ++ cur.toArray.toList.drop (0 + [Value.int .i64 1].length)).toArray = #[.int .i64 1] := by
      match cur, hO.out.2.2 with
      | [x], _ => rfl
    have h1 := run_copy_row (P := Try.prog) w1 22 22 3 3 w.heap.size 0 1 1 ⟨g, 0, none⟩ 1 1 cur.toArray 3 [.int .i64 1] Try.underlying22 (by kernel_rfl) hO.out.1 rfl (fun j v hj => by
      match j, hj with
      | 0, hj => cases hj; exact hC.out) (by simp [hO.out.2.2]) (by intro v hv; simp at hv; subst hv; rfl)
    rw [e] at h1
    exact ⟨_, h1, Lib.hid ⟨setRow_heap _ _ _ _ _ _ hO.out.1, below_setRow (B := w.heap.size) (w0 := w) (g := w.heap.size) hO.out.2.1 (Nat.le_refl _) _⟩⟩
  go_wp2
  go_loop [8] (fun i => i = .int .i64 1) (fun _ => 0)
  case atStart => rfl
  case round =>
    obtain rfl := hrel
    go_wp2
    go_ret
    refine ⟨_, rfl, ⟨by simp [ivs], .inr ⟨w.heap.size, 1, _, rfl, Nat.le_refl _, HR.out.1, by omega, by unfold maxLen; omega, ?_, ?_⟩⟩, HR.out.2⟩
    · rfl
    · rfl
end Go.Proofs.Ytcagdnajapcmkaa
