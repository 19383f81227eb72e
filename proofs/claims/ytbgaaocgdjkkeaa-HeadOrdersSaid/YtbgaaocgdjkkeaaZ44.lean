/- The document's numbers as bytes: the contract. -/
import Derived.Test.YtbgaaocgdjkkeaaZ17
import Derived.Test.YtbgaaocgdjkkeaaZ18
set_option linter.unusedSimpArgs false
set_option linter.unusedVariables false
section
namespace Go.Proofs.Ytbgaaocgdjkkeaa
open Go.RowKit

theorem number_form (size n : Int) (w : World) (h : size < 1 ∨ 4 < size) :
    Calls Try.prog 54 #[.int .i64 size, .int .i64 n] w fun e w' => e = .returned (.tuple #[.slice none 0 0, .int .i64 6]) ∧ w = w' := by
  by_cases h1 : size < 1
  · have d1 : decide (size < 1) = true := by simpa using h1
    clear h h1
    go_enter Try.func54, Try.ntmps54
    go_wp2
    go_ret2
    exact ⟨rfl, rfl⟩
  · have d1 : decide (size < 1) = false := by simpa using h1
    have d2 : decide (4 < size) = true := by simp; omega
    clear h h1
    go_enter Try.func54, Try.ntmps54
    go_wp2
    go_ret2
    exact ⟨rfl, rfl⟩

theorem number_neg (s : Nat) (n : Int) (w : World) (h1 : 1 ≤ s) (h4 : s ≤ 4) (hn : n < 0) :
    Calls Try.prog 54 #[.int .i64 s, .int .i64 n] w fun e w' => e = .returned (.tuple #[.slice none 0 0, .int .i64 7]) ∧ w = w' := by
  have d1 : decide ((s : Int) < 1) = false := by simp; omega
  have d2 : decide (4 < (s : Int)) = false := by simp; omega
  have d3 : decide (n < 0) = true := by simpa using hn
  go_enter Try.func54, Try.ntmps54
  go_wp2
  refine wp_loop_rounds 1 ?_
  rw [rounds_succ]
  go_wp2
  go_ret2
  exact ⟨rfl, rfl⟩

def NumPost (w : World) (s n : Nat) (e : Ending) (w' : World) : Prop :=
  Below w.heap.size w w' ∧ ((256 ^ s ≤ n ∧ e = .returned (.tuple #[.slice none 0 0, .int .i64 7])) ∨
    (n < 256 ^ s ∧ ∃ v, e = .returned (.tuple #[v, .int .i64 0]) ∧ w'.ownsRow w.heap.size 5 1 v s (bvs (Pt.dig s n))))

theorem dig_step (i n : Nat) : [UInt8.ofNat (n / 256 ^ i)] ++ Pt.dig i n = Pt.dig (i + 1) n := rfl

set_option maxHeartbeats 1000000 in
theorem number_nat (s n : Nat) (w : World) (h1 : 1 ≤ s) (h4 : s ≤ 4) (hn : n ≤ 9223372036854775807) :
    Calls Try.prog 54 #[.int .i64 s, .int .i64 n] w (NumPost w s n) := by
  have d1 : decide ((s : Int) < 1) = false := by simp; omega
  have d2 : decide (4 < (s : Int)) = false := by simp; omega
  go_enter Try.func54, Try.ntmps54
  go_wp2
  go_loopw [6, 7, 8] (fun v k i wr => ∃ j : Nat, j ≤ s ∧ i = .int .i64 j ∧ k = .int .i64 (n / 256 ^ j : Nat) ∧ Below w.heap.size w wr ∧ Hid (wr.ownsRow w.heap.size 5 1 v j (bvs (Pt.dig j n)))) (fun _ _ i _ => s - (intOf i).toNat)
  case atStart => exact ⟨0, by omega, rfl, by simp, Below.refl _ _, Lib.hid (World.ownsRow_nil _ _ _ _)⟩
  case round =>
    obtain ⟨j, hj, rfl, rfl, hb, HO⟩ := hrel
    have hz := hb.size
    have hle : n / 256 ^ j ≤ n := Nat.div_le_self _ _
    have hnx : n / 256 ^ (j + 1) = n / 256 ^ j / 256 := by rw [Nat.pow_succ, Nat.div_div_eq_div_mul]
    have HNX := Lib.hid hnx
    clear hnx
    have hx : (((n / 256 ^ j : Nat) : Int) % 256) = ((UInt8.ofNat (n / 256 ^ j)).toNat : Int) := by simp only [UInt8.toNat_ofNat']; omega
    have HX := Lib.hid hx
    clear hx
    have HDS := Lib.hid (dig_step j n)
    have hqj : n / 256 ^ j = 0 ↔ n < 256 ^ j := by rw [Nat.div_eq_zero_iff]; have := Nat.pow_pos (n := j) (show 0 < 256 by omega); omega
    have HQ := Lib.hid hqj
    clear hqj
    generalize n / 256 ^ j = q at *
    have dq : decide ((q : Int) < 0) = false := by simp
    by_cases hlt : j < s
    · obtain ⟨va, vc, rfl, hbs⟩ := own_bs HO.out (by omega)
      have HB := Lib.hid hbs
      clear hbs
      have own0 : (wr.alloc (.cells #[Value.int .u8 ((q : Int) % 256)] 5)).ownsRow w.heap.size 5 1 (.slice (some ⟨wr.heap.size, 0, none⟩) 1 1) 1 (bvs [UInt8.ofNat q]) := by
        rw [HX.out]; exact own_new wr w.heap.size 5 _ [UInt8.ofNat q] hz (by simp) 1 rfl rfl
      have hsrc := (HB.out.mono (below_alloc wr (.cells #[Value.int .u8 ((q : Int) % 256)] 5))).src
      go_wp2_with (at_builtin; refine wpl_append tyB rfl _ _ rfl own0 hsrc rfl rfl (by omega) (by omega) (by simp; omega) ?_)
      intro v2 w2 own2 hg2 _
      have hb2 : Below w.heap.size w w2 := (hb.alloc hz _).grown hg2 (by simp; omega) (by simp [Value.ownBlock]; omega)
      have H2 : Hid (w2.ownsRow w.heap.size 5 1 v2 (j + 1) (bvs (Pt.dig (j + 1) n))) := Lib.hid (by rw [← HDS.out, bvs_append, Nat.add_comm j 1]; exact own2)
      clear own2 hg2 own0 hsrc HO HB hb
      go_wp2
      go_roundw
      case rel => exact ⟨j + 1, by omega, by go_num, int_eq (by rw [HNX.out]; omega), hb2, H2⟩
      case measure => simp [intOf]; omega
    · obtain rfl : s = j := by omega
      by_cases h0 : q = 0
      · have hlt := HQ.out.1 h0
        have dz : ((q : Int) != 0) = false := by simpa using h0
        have HLT := Lib.hid hlt
        clear h0 hlt
        go_wp2
        go_ret2
        exact ⟨hb, .inr ⟨HLT.out, _, rfl, HO.out⟩⟩
      · have hge : ¬ n < 256 ^ s := fun h => h0 (HQ.out.2 h)
        have dz : ((q : Int) != 0) = true := by simpa using h0
        have HGE := Lib.hid hge
        clear h0 hge
        go_wp2
        go_ret2
        exact ⟨hb, .inl ⟨by have := HGE.out; omega, rfl⟩⟩

end Go.Proofs.Ytbgaaocgdjkkeaa
end
