/- inflate's symbols: their bases, in words. inflate.holder: which symbol holds a number. inflate's symbols: which one a length and a distance have. inflate's symbols: their bases, and which symbol a number has. -/
import Derived.Test.YtjjbgdmalefdlaaGreatDoorZ1
import Derived.Test.YtjjbgdmalefdlaaGreatDoorProg
set_option linter.unusedSimpArgs false
set_option linter.unusedVariables false
section
namespace Go.Proofs.YtjjbgdmalefdlaaGreatDoor
open Go.RowKit
namespace Sy
def st (p g : Nat) : Nat × Nat := if p < g then (p, 0) else ((g + p % g) * 2 ^ (p / g - 1), p / g - 1)
end Sy
namespace Sy
/-- A length symbol's base and extra bits. -/
def lb (s : Nat) : Nat × Nat := if s = 28 then (258, 0) else (3 + (st s 4).1, (st s 4).2)
def db (s : Nat) : Nat × Nat := (1 + (st s 2).1, (st s 2).2)
def lbV (s : Int) : Value := if 257 ≤ s ∧ s ≤ 285 then .tuple #[.int .i64 ((lb (s - 257).toNat).1 : Nat), .int .i64 ((lb (s - 257).toNat).2 : Nat), .bool true] else .tuple #[.int .i64 0, .int .i64 0, .bool false]
def dbV (s : Int) : Value := if 0 ≤ s ∧ s ≤ 29 then .tuple #[.int .i64 ((db s.toNat).1 : Nat), .int .i64 ((db s.toNat).2 : Nat), .bool true] else .tuple #[.int .i64 0, .int .i64 0, .bool false]
theorem st_lt (p g : Nat) (hp : p < 30) (hg : g = 2 ∨ g = 4) : (st p g).1 ≤ 131072 ∧ (st p g).2 ≤ 14 := by
  unfold st
  split
  · exact ⟨by show p ≤ _; omega, by show 0 ≤ _; omega⟩
  · have hp2 : 2 ^ (p / g - 1) ≤ 2 ^ 14 := Nat.pow_le_pow_right (by omega) (by rcases hg with rfl | rfl <;> omega)
    exact ⟨Nat.mul_le_mul (show g + p % g ≤ 8 by rcases hg with rfl | rfl <;> omega) hp2, by rcases hg with rfl | rfl <;> (show _ / _ - 1 ≤ 14; omega)⟩
end Sy
end Go.Proofs.YtjjbgdmalefdlaaGreatDoor
end

section
namespace Go.Proofs.YtjjbgdmalefdlaaGreatDoor
open Go.RowKit
namespace Sy
/-- Which symbol holds a number: by its leading bits. -/
def Held (a g r : Nat) : Prop := ∃ e, r = e * g + a / 2 ^ e ∧ a / 2 ^ e < 2 * g ∧ (e = 0 ∨ g ≤ a / 2 ^ e) ∧ e ≤ 15
theorem div_next (a e : Nat) : a / 2 ^ (e + 1) = a / 2 ^ e / 2 := by rw [Nat.pow_succ, Nat.div_div_eq_div_mul]
theorem div_small (a : Nat) (h : a < 32768) : a / 2 ^ 15 = 0 := by omega
end Sy
theorem holder_any (a g : Nat) (w : World) (ha : a < 32768) (hg : g = 2 ∨ g = 4) :
    Calls Tryz.prog 80 #[.int .i64 (a : Nat), .int .i64 (g : Nat)] w fun e w' => (∃ r, Sy.Held a g r ∧ e = .returned (.int .i64 (r : Nat))) ∧ w = w' := by
  go_enter Tryz.func80, Tryz.ntmps80
  go_wp2
  go_loop [5] (fun x => ∃ e : Nat, e ≤ 15 ∧ (e = 0 ∨ g ≤ a / 2 ^ e) ∧ x = .int .i64 (e : Nat)) (fun x => 15 - (intOf x).toNat)
  case atStart => exact ⟨0, by omega, .inl rfl, rfl⟩
  case round =>
    obtain ⟨e, he, hge, rfl⟩ := hrel
    have hqa : a / 2 ^ e ≤ a := Nat.div_le_self _ _
    have hqi : (a : Int) / 2 ^ e = ((a / 2 ^ e : Nat) : Int) := by simp
    have hnx := Sy.div_next a e
    have h15 : e = 15 → a / 2 ^ e = 0 := fun h => by subst h; exact Sy.div_small a ha
    by_cases hlt : a / 2 ^ e < 2 * g
    · have HH : Hid (Sy.Held a g (e * g + a / 2 ^ e)) := Lib.hid ⟨e, rfl, hlt, hge, he⟩
      have d0 : decide (2 * (g : Int) ≤ (a : Int) / 2 ^ e) = false := by rw [hqi]; simp; omega
      have hge' : 2 * g ≤ 8 := by omega
      generalize a / 2 ^ e = q at *
      have hm : (e : Int) * (g : Int) ≤ 60 ∧ 0 ≤ (e : Int) * (g : Int) := by rcases hg with rfl | rfl <;> omega
      have hc : ((e * g + q : Nat) : Int) = (e : Int) * (g : Int) + (q : Int) := by simp
      go_wp2
      go_ret
      exact ⟨⟨_, HH.out, by rw [hc]; rfl⟩, rfl⟩
    · have d0 : decide (2 * (g : Int) ≤ (a : Int) / 2 ^ e) = true := by rw [hqi]; simp; omega
      have he15 : e < 15 := by
        rcases Nat.lt_or_ge e 15 with h | h
        · exact h
        · have := h15 (by omega); omega
      have HR : Hid (g ≤ a / 2 ^ (e + 1)) := Lib.hid (by rw [hnx]; omega)
      clear hnx h15
      generalize a / 2 ^ e = q at *
      go_wp2
      go_round
      case rel => exact ⟨e + 1, by omega, .inr HR.out, by go_num⟩
      case measure => simp [intOf]; omega
end Go.Proofs.YtjjbgdmalefdlaaGreatDoor
end

section
namespace Go.Proofs.YtjjbgdmalefdlaaGreatDoor
open Go.RowKit
namespace Sy
def LsPost (n : Int) (v : Value) : Prop := (¬ (3 ≤ n ∧ n ≤ 258) ∧ v = .tuple #[.int .i64 0, .bool false]) ∨ (n = 258 ∧ v = .tuple #[.int .i64 285, .bool true]) ∨
  (∃ a r : Nat, n = (a : Int) + 3 ∧ a < 255 ∧ Held a 4 r ∧ v = .tuple #[.int .i64 (257 + (r : Int)), .bool true])
def DsPost (n : Int) (v : Value) : Prop := (¬ (1 ≤ n ∧ n ≤ 32768) ∧ v = .tuple #[.int .i64 0, .bool false]) ∨
  (∃ a r : Nat, n = (a : Int) + 1 ∧ a < 32768 ∧ Held a 2 r ∧ v = .tuple #[.int .i64 (r : Int), .bool true])
theorem held_lt {a g r : Nat} (h : Held a g r) (hg : g = 2 ∨ g = 4) : r < 80 := by
  obtain ⟨e, rfl, h1, _, h2⟩ := h
  generalize a / 2 ^ e = q at *
  rcases hg with rfl | rfl <;> omega
end Sy
theorem lengthSymbol_any (n : Int) (w : World) (hw : (Lit.int .i64 n).wf = true) :
    Calls Tryz.prog 54 #[.int .i64 n] w fun e w' => (∃ v, Sy.LsPost n v ∧ e = .returned v) ∧ w = w' := by
  go_enter Tryz.func54, Tryz.ntmps54
  by_cases h1 : n < 3
  · have HP := Lib.hid (show Sy.LsPost n (.tuple #[.int .i64 0, .bool false]) from .inl ⟨by omega, rfl⟩)
    have d1 : decide (n < 3) = true := by simpa using h1
    go_wp2
    go_ret2
    exact ⟨⟨_, HP.out, rfl⟩, rfl⟩
  have d1 : decide (n < 3) = false := by simpa using h1
  by_cases h2 : 258 < n
  · have HP := Lib.hid (show Sy.LsPost n (.tuple #[.int .i64 0, .bool false]) from .inl ⟨by omega, rfl⟩)
    have d2 : decide (258 < n) = true := by simpa using h2
    go_wp2
    go_ret2
    exact ⟨⟨_, HP.out, rfl⟩, rfl⟩
  have d2 : decide (258 < n) = false := by simpa using h2
  obtain ⟨a, rfl⟩ : ∃ a : Nat, n = (a : Int) + 3 := ⟨(n - 3).toNat, by omega⟩
  by_cases h3 : a = 255
  · subst h3
    have HP := Lib.hid (show Sy.LsPost (((255 : Nat) : Int) + 3) (.tuple #[.int .i64 285, .bool true]) from .inr (.inl ⟨rfl, rfl⟩))
    go_wp2
    go_ret2
    exact ⟨⟨_, HP.out, rfl⟩, rfl⟩
  have d3 : ((a : Int) + 3 == 258) = false := by simp; omega
  have es : (a : Int) + 3 - 3 = (a : Int) := by omega
  go_wp2_with fail
  refine (holder_any a 4 w (by omega) (.inr rfl)).mono ?_
  rintro e w' ⟨⟨r, hr, rfl⟩, rfl⟩
  have hrl := Sy.held_lt hr (.inr rfl)
  have HP := Lib.hid (show Sy.LsPost ((a : Int) + 3) (.tuple #[.int .i64 (257 + (r : Int)), .bool true]) from .inr (.inr ⟨a, r, rfl, by omega, hr, rfl⟩))
  clear hr
  go_wp2
  go_ret2
  exact ⟨⟨_, HP.out, rfl⟩, rfl⟩
theorem distSymbol_any (n : Int) (w : World) (hw : (Lit.int .i64 n).wf = true) :
    Calls Tryz.prog 63 #[.int .i64 n] w fun e w' => (∃ v, Sy.DsPost n v ∧ e = .returned v) ∧ w = w' := by
  go_enter Tryz.func63, Tryz.ntmps63
  by_cases h1 : n < 1
  · have HP := Lib.hid (show Sy.DsPost n (.tuple #[.int .i64 0, .bool false]) from .inl ⟨by omega, rfl⟩)
    have d1 : decide (n < 1) = true := by simpa using h1
    go_wp2
    go_ret2
    exact ⟨⟨_, HP.out, rfl⟩, rfl⟩
  have d1 : decide (n < 1) = false := by simpa using h1
  by_cases h2 : 32768 < n
  · have HP := Lib.hid (show Sy.DsPost n (.tuple #[.int .i64 0, .bool false]) from .inl ⟨by omega, rfl⟩)
    have d2 : decide (32768 < n) = true := by simpa using h2
    go_wp2
    go_ret2
    exact ⟨⟨_, HP.out, rfl⟩, rfl⟩
  have d2 : decide (32768 < n) = false := by simpa using h2
  obtain ⟨a, rfl⟩ : ∃ a : Nat, n = (a : Int) + 1 := ⟨(n - 1).toNat, by omega⟩
  have es : (a : Int) + 1 - 1 = (a : Int) := by omega
  go_wp2_with fail
  refine (holder_any a 2 w (by omega) (.inl rfl)).mono ?_
  rintro e w' ⟨⟨r, hr, rfl⟩, rfl⟩
  have hrl := Sy.held_lt hr (.inl rfl)
  have HP := Lib.hid (show Sy.DsPost ((a : Int) + 1) (.tuple #[.int .i64 (r : Int), .bool true]) from .inr ⟨a, r, rfl, by omega, hr, rfl⟩)
  clear hr
  go_wp2
  go_ret2
  exact ⟨⟨_, HP.out, rfl⟩, rfl⟩
end Go.Proofs.YtjjbgdmalefdlaaGreatDoor
end

section
namespace Go.Proofs.YtjjbgdmalefdlaaGreatDoor
open Go.RowKit
theorem start_any (p g : Nat) (w : World) (hp : p < 30) (hg : g = 2 ∨ g = 4) :
    Calls Tryz.prog 99 #[.int .i64 (p : Nat), .int .i64 (g : Nat)] w fun e w' => e = .returned (.tuple #[.int .i64 ((Sy.st p g).1 : Nat), .int .i64 ((Sy.st p g).2 : Nat)]) ∧ w = w' := by
  by_cases hpg : p < g
  · have e : Sy.st p g = (p, 0) := by unfold Sy.st; rw [if_pos hpg]
    rw [e]
    have d0 : decide (p < g) = true := by simpa using hpg
    go_enter Tryz.func99, Tryz.ntmps99
    go_wp2
    go_ret2
    exact ⟨rfl, rfl⟩
  · have e : Sy.st p g = ((g + p % g) * 2 ^ (p / g - 1), p / g - 1) := by unfold Sy.st; rw [if_neg hpg]
    rw [e]
    have d0 : decide (p < g) = false := by simpa using hpg
    have hq : p / g < 15 := by rcases hg with rfl | rfl <;> omega
    have hq1 : 1 ≤ p / g := by rcases hg with rfl | rfl <;> omega
    have hr : p % g < 4 := by rcases hg with rfl | rfl <;> omega
    have hg0 : ((g : Int) == 0) = false := by rcases hg with rfl | rfl <;> rfl
    have hp2 : 2 ^ (p / g - 1) ≤ 2 ^ 14 := Nat.pow_le_pow_right (by omega) (by omega)
    have hb : (g + p % g) * 2 ^ (p / g - 1) ≤ 8 * 16384 := Nat.mul_le_mul (by omega) hp2
    have hw : wrap64 (((g : Int) + (p : Int) % (g : Int)) * 2 ^ (p / g - 1)) = (((g + p % g) * 2 ^ (p / g - 1) : Nat) : Int) := by
      rw [IntWalk.wrap64_in]
      · simp
      · have e2 : ((g : Int) + (p : Int) % (g : Int)) * 2 ^ (p / g - 1) = (((g + p % g) * 2 ^ (p / g - 1) : Nat) : Int) := by simp
        rw [e2]; omega
    have hs : (p : Int) / (g : Int) - 1 = ((p / g - 1 : Nat) : Int) := by omega
    go_enter Tryz.func99, Tryz.ntmps99
    go_wp2
    go_ret2
    exact ⟨by rw [hw]; rfl, rfl⟩
theorem lengthBase_any (s : Int) (w : World) (hw : (Lit.int .i64 s).wf = true) :
    Calls Tryz.prog 77 #[.int .i64 s] w fun e w' => e = .returned (Sy.lbV s) ∧ w = w' := by
  go_enter Tryz.func77, Tryz.ntmps77
  by_cases h1 : s < 257
  · have e : Sy.lbV s = .tuple #[.int .i64 0, .int .i64 0, .bool false] := by unfold Sy.lbV; rw [if_neg (by omega)]
    rw [e]
    have d1 : decide (s < 257) = true := by simpa using h1
    go_wp2
    go_ret3
    exact ⟨rfl, rfl⟩
  have d1 : decide (s < 257) = false := by simpa using h1
  by_cases h2 : 285 < s
  · have e : Sy.lbV s = .tuple #[.int .i64 0, .int .i64 0, .bool false] := by unfold Sy.lbV; rw [if_neg (by omega)]
    rw [e]
    have d2 : decide (285 < s) = true := by simpa using h2
    go_wp2
    go_ret3
    exact ⟨rfl, rfl⟩
  have d2 : decide (285 < s) = false := by simpa using h2
  obtain ⟨p, rfl⟩ : ∃ p : Nat, s = (p : Int) + 257 := ⟨(s - 257).toNat, by omega⟩
  have e : Sy.lbV ((p : Int) + 257) = .tuple #[.int .i64 ((Sy.lb p).1 : Nat), .int .i64 ((Sy.lb p).2 : Nat), .bool true] := by
    unfold Sy.lbV
    rw [if_pos (by omega), show ((p : Int) + 257 - 257).toNat = p by omega]
  rw [e]
  by_cases h3 : p = 28
  · subst h3
    go_wp2
    go_ret3
    exact ⟨rfl, rfl⟩
  have d3 : ((p : Int) + 257 == 285) = false := by simp; omega
  have es : (p : Int) + 257 - 257 = (p : Int) := by omega
  have hb := Sy.st_lt p 4 (by omega) (.inr rfl)
  have el : Sy.lb p = (3 + (Sy.st p 4).1, (Sy.st p 4).2) := by unfold Sy.lb; rw [if_neg h3]
  have HC := start_any p 4 w (by omega) (.inr rfl)
  rw [el]
  clear el e
  generalize Sy.st p 4 = x at *
  go_wp2_with fail
  refine HC.mono ?_
  rintro e w' ⟨rfl, rfl⟩
  go_wp2
  go_ret3
  exact ⟨rfl, rfl⟩
theorem distBase_any (s : Int) (w : World) (hw : (Lit.int .i64 s).wf = true) :
    Calls Tryz.prog 78 #[.int .i64 s] w fun e w' => e = .returned (Sy.dbV s) ∧ w = w' := by
  go_enter Tryz.func78, Tryz.ntmps78
  by_cases h1 : s < 0
  · have e : Sy.dbV s = .tuple #[.int .i64 0, .int .i64 0, .bool false] := by unfold Sy.dbV; rw [if_neg (by omega)]
    rw [e]
    have d1 : decide (s < 0) = true := by simpa using h1
    go_wp2
    go_ret3
    exact ⟨rfl, rfl⟩
  have d1 : decide (s < 0) = false := by simpa using h1
  by_cases h2 : 29 < s
  · have e : Sy.dbV s = .tuple #[.int .i64 0, .int .i64 0, .bool false] := by unfold Sy.dbV; rw [if_neg (by omega)]
    rw [e]
    have d2 : decide (29 < s) = true := by simpa using h2
    go_wp2
    go_ret3
    exact ⟨rfl, rfl⟩
  have d2 : decide (29 < s) = false := by simpa using h2
  obtain ⟨p, rfl⟩ := Int.eq_ofNat_of_zero_le (show 0 ≤ s by omega)
  have e : Sy.dbV (p : Int) = .tuple #[.int .i64 ((Sy.db p).1 : Nat), .int .i64 ((Sy.db p).2 : Nat), .bool true] := by
    unfold Sy.dbV
    rw [if_pos (by omega), Int.toNat_natCast]
  rw [e]
  have hb := Sy.st_lt p 2 (by omega) (.inl rfl)
  have el : Sy.db p = (1 + (Sy.st p 2).1, (Sy.st p 2).2) := rfl
  have HC := start_any p 2 w (by omega) (.inl rfl)
  rw [el]
  clear el e
  generalize Sy.st p 2 = x at *
  go_wp2_with fail
  refine HC.mono ?_
  rintro e w' ⟨rfl, rfl⟩
  go_wp2
  go_ret3
  exact ⟨rfl, rfl⟩
end Go.Proofs.YtjjbgdmalefdlaaGreatDoor
end
