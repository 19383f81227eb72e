/- sums.Take: its contract. -/
import Derived.Test.YtbgaaocgdjkkeaaZ17
import Derived.Test.YtbgaaocgdjkkeaaZ18
import Derived.Test.YtbgaaocgdjkkeaaZ19
set_option linter.unusedSimpArgs false
set_option linter.unusedVariables false
section
namespace Go.Proofs.Ytbgaaocgdjkkeaa
open Go.RowKit

theorem take_form (a : Option Addr) (len cap : Nat) (size : Int) (w : World) (h : size < 1 ∨ 4 < size) :
    Calls Try.prog 60 #[.slice a len cap, .int .i64 size] w fun e w' => e = .returned (.tuple #[.int .i64 0, .slice none 0 0, .iface 49 (.int .i64 6)]) ∧ w = w' := by
  have H := Lib.hid h
  clear h
  go_enter Try.func60, Try.ntmps60
  go_wp2_with fail
  refine (isSize_no _ _ H.out).mono ?_
  rintro e w' ⟨rfl, rfl⟩
  go_wp2
  go_ret3
  exact ⟨rfl, rfl⟩
theorem take_end (a : Option Addr) (len cap s : Nat) (w : World) (h1 : 1 ≤ s) (h4 : s ≤ 4) (hl : len < s) :
    Calls Try.prog 60 #[.slice a len cap, .int .i64 s] w fun e w' => e = .returned (.tuple #[.int .i64 0, .slice none 0 0, .iface 49 (.int .i64 8)]) ∧ w = w' := by
  have d3 : decide ((len : Int) < (s : Int)) = true := by simp; omega
  go_enter Try.func60, Try.ntmps60
  go_wp2_with fail
  refine (isSize_yes _ _ (by omega) (by omega)).mono ?_
  rintro e w' ⟨rfl, rfl⟩
  go_wp2
  go_ret3
  exact ⟨rfl, rfl⟩
def TakePost (w : World) (len s : Nat) (l : List UInt8) (e : Ending) (w' : World) : Prop :=
  ∃ v, e = .returned (.tuple #[.int .i64 (Pt.num (l.take s)), v, .nilIface]) ∧ w'.ownsRow w.heap.size 5 1 v (len - s) (bvs (l.drop s)) ∧ Below w.heap.size w w'
theorem or8 {x y : Nat} (h1 : x < 4294967296) (h3 : y < 256) : bits .or .i64 ((x : Int) * 256) (y : Int) = ((x * 256 + y : Nat) : Int) := by
  have := bits_join .i64 62 (by decide) (fun n h0 h1 => IntWalk.i64_in _ ⟨by omega, by omega⟩) 8 ((x : Int) * 256) (y : Int) (by omega) (by omega) (by omega) (by omega) (by omega) (by omega)
  rw [this]; omega

set_option maxHeartbeats 400000 in
theorem take_ok (a : Option Addr) (len cap s : Nat) (l : List UInt8) (w : World) (h : Bs w a len cap l) (hr : len ≤ 140737488355328) (h1 : 1 ≤ s) (h4 : s ≤ 4) (hl : s ≤ len) :
    Calls Try.prog 60 #[.slice a len cap, .int .i64 s] w (TakePost w len s l) := by
  have hc := h.hcap
  have hle := h.hle
  have hmx := h.hmax
  have HL := Lib.hid h.hlen
  have d3 : decide ((len : Int) < (s : Int)) = false := by simp; omega
  obtain ⟨b, off, rfl, hb, _⟩ := h.at' 0 (by omega)
  go_enter Try.func60, Try.ntmps60
  go_wp2_with fail
  refine (isSize_yes _ _ (by omega) (by omega)).mono ?_
  rintro e w' ⟨rfl, rfl⟩
  go_wp2
  go_loop [7, 23] (fun v i => ∃ k : Nat, k ≤ s ∧ i = .int .i64 k ∧ v = .int .i64 (Pt.num (l.take k))) (fun _ i => s - (intOf i).toNat)
  case atStart => exact ⟨0, by omega, rfl, rfl⟩
  case round =>
    obtain ⟨k, hk, rfl, rfl⟩ := hrel
    have hsm : ((Pt.num (l.take k) : Nat) : Int) < 4294967296 := by have := num_small l k (by omega); omega
    by_cases hlt : k < s
    · obtain ⟨b', off', e', hb', hcell⟩ := h.at' k (by omega)
      simp only [Option.some.injEq, Addr.mk.injEq, and_true] at e'
      obtain ⟨rfl, rfl⟩ := e'
      have hg := gb_lt l k
      have HT := Lib.hid (num_take l k (by rw [HL.out]; omega))
      have ho := or8 (x := Pt.num (l.take k)) (y := gb l k) (by omega) (by omega)
      go_wp2
      go_round
      case rel => exact ⟨k + 1, by omega, by go_num, int_eq (by rw [HT.out]; omega)⟩
      case measure => simp [intOf]; omega
    · obtain rfl : s = k := by omega
      have own0 : (w.alloc (.cells #[] 5)).ownsRow w.heap.size 5 1 (.slice (some ⟨w.heap.size, 0, none⟩) 0 0) 0 [] := World.ownsRow_made w #[] 0 (Nat.le_refl _) (by unfold maxLen; omega) rfl
      have hs := (h.mono (below_alloc w (.cells #[] 5))).drop s hl (if cap = s then some ⟨b, off, none⟩ else some ⟨b, off + s, none⟩) (fun hc => if_neg hc)
      have hsrc := Lib.hid hs.src
      clear hsm hmx hs
      go_wp2_with (at_builtin; refine wpl_append tyB rfl _ _ rfl own0 hsrc.out rfl rfl (by omega) (by omega) (by simp) ?_; intro v2 w2 own2 hg2 hn2; clear hn2)
      all_goals
        have hb2 : Below w.heap.size w w2 := (below_alloc w (.cells #[] 5)).grown hg2 (by simp) (by simp [Value.ownBlock])
        rw [Nat.zero_add, List.nil_append] at own2
        go_ret3
        exact ⟨_, rfl, own2, hb2⟩
end Go.Proofs.Ytbgaaocgdjkkeaa
end
