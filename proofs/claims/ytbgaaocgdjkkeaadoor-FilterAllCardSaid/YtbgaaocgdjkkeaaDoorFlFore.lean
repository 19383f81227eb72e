/- filter.apart, nearest, Foretell; the document's far and Foretell: their contracts. -/
import Derived.Test.YtbgaaocgdjkkeaaDoorProg
import Derived.Test.YtbgaaocgdjkkeaaDoorFlMath
namespace Go.Proofs.YtbgaaocgdjkkeaaDoor
open Go.RowKit

theorem fapart_any (x : Int) (y : Nat) (w : World) (hx : -100000 ≤ x) (hx2 : x ≤ 100000) (hy : y < 256) :
    Calls Tryd.prog 38 #[.int .i64 x, .int .u8 y] w fun e w' => e = .returned (.int .i64 (Fi.far x y)) ∧ w = w' := by
  by_cases h : x < y
  · have d : decide (x < (y : Int)) = true := by simpa using h
    have HE := Lib.hid (show Fi.far x y = y - x from if_pos h)
    clear h
    go_enter Tryd.func38, Tryd.ntmps38
    go_wp2
    go_ret
    exact ⟨by rw [HE.out]; rfl, rfl⟩
  · have d : decide (x < (y : Int)) = false := by simpa using h
    have HE := Lib.hid (show Fi.far x y = x - y from if_neg h)
    clear h
    go_enter Tryd.func38, Tryd.ntmps38
    go_wp2
    go_ret
    exact ⟨by rw [HE.out]; rfl, rfl⟩
theorem refFar_any (x y : Int) (w : World) (hx : -100000 ≤ x) (hx2 : x ≤ 100000) (hy : 0 ≤ y) (hy2 : y < 256) :
    Calls Tryd.prog 42 #[.int .i64 x, .int .i64 y] w fun e w' => e = .returned (.int .i64 (Fi.far x y)) ∧ w = w' := by
  by_cases h : x < y
  · have d : decide (x < y) = true := by simpa using h
    have HE := Lib.hid (show Fi.far x y = y - x from if_pos h)
    clear h
    go_enter Tryd.func42, Tryd.ntmps42
    go_wp2
    go_ret
    exact ⟨by rw [HE.out]; rfl, rfl⟩
  · have d : decide (x < y) = false := by simpa using h
    have HE := Lib.hid (show Fi.far x y = x - y from if_neg h)
    clear h
    go_enter Tryd.func42, Tryd.ntmps42
    go_wp2
    go_ret
    exact ⟨by rw [HE.out]; rfl, rfl⟩
set_option maxRecDepth 100000 in
set_option maxHeartbeats 1000000 in
theorem nearest_any (a b c : Nat) (w : World) (ha : a < 256) (hb : b < 256) (hc : c < 256) :
    Calls Tryd.prog 45 #[.int .u8 a, .int .u8 b, .int .u8 c] w fun e w' => e = .returned (.int .u8 (Fi.near a b c : Nat)) ∧ w = w' := by
  have HN : Hid (Fi.near a b c = Fi.nb ((a : Int) + b - c) (Fi.nb ((a : Int) + b - c) a b) c) := Lib.hid rfl
  generalize Fi.near a b c = r at *
  go_enter Tryd.func45, Tryd.ntmps45
  go_wp2
  go_loop [8, 10, 23] (fun u x i => ∃ t : Nat, t < 256 ∧ u = .int .u8 t ∧ ((i = .int .i64 0 ∧ Hid (Fi.nb ((a : Int) + b - c) (Fi.nb ((a : Int) + b - c) t b) c = r)) ∨ (i = .int .i64 1 ∧ Hid (Fi.nb ((a : Int) + b - c) t c = r)) ∨ (i = .int .i64 2 ∧ Hid (t = r)))) (fun _ _ i => 2 - (intOf i).toNat)
  case atStart => exact ⟨a, ha, rfl, .inl ⟨rfl, Lib.hid HN.out.symm⟩⟩
  case round =>
    obtain ⟨t, ht, rfl, hcase⟩ := hrel
    have hb1 : -100000 ≤ (a : Int) + b - c := by omega
    have hb2 : (a : Int) + b - c ≤ 100000 := by omega
    have HA1 : Hid (∀ q : Nat, q < 256 → Calls Tryd.prog 38 #[.int .i64 ((a : Int) + b - c), .int .u8 q] w fun e w' => e = .returned (.int .i64 (Fi.far ((a : Int) + b - c) q)) ∧ w = w') := Lib.hid (fun q hq => fapart_any _ q w hb1 hb2 hq)
    have HG : Hid (∀ q : Nat, Fi.nb ((a : Int) + b - c) t q = if Fi.far ((a : Int) + b - c) q < Fi.far ((a : Int) + b - c) t then q else t) := Lib.hid (fun q => rfl)
    clear hb1 hb2 HN
    have hi0 : ∀ (x y : Int) (w : World), (Instr.index 75 (.agg #[.int .u8 x, .int .u8 y]) (.int .i64 0)).run Tryd.prog w = .ok (.int .u8 x) w := fun _ _ _ => by kernel_rfl
    have hi1 : ∀ (x y : Int) (w : World), (Instr.index 75 (.agg #[.int .u8 x, .int .u8 y]) (.int .i64 1)).run Tryd.prog w = .ok (.int .u8 y) w := fun _ _ _ => by kernel_rfl
    rcases hcase with ⟨rfl, HR⟩ | ⟨rfl, HR⟩ | ⟨rfl, HR⟩
    · by_cases hc1 : Fi.far ((a : Int) + b - c) b < Fi.far ((a : Int) + b - c) t
      · have d1 : decide (Fi.far ((a : Int) + b - c) b < Fi.far ((a : Int) + b - c) t) = true := by simpa using hc1
        have he0 := HR.out
        rw [HG.out b, if_pos hc1] at he0
        have HE := Lib.hid he0
        clear he0
        have C1 := Lib.hid (HA1.out b hb)
        have C2 := Lib.hid (HA1.out t ht)
        clear hc1 HG HA1 HR
        generalize Fi.far ((a : Int) + b - c) b = f1 at *
        generalize Fi.far ((a : Int) + b - c) t = f2 at *
        go_wp2_with fail
        refine C1.out.mono ?_
        rintro e w' ⟨rfl, rfl⟩
        go_wp2_with fail
        refine C2.out.mono ?_
        rintro e w' ⟨rfl, rfl⟩
        go_wp2
        go_round
        case rel => exact ⟨b, hb, rfl, .inr (.inl ⟨rfl, HE⟩)⟩
        case measure => simp [intOf]
      · have d1 : decide (Fi.far ((a : Int) + b - c) b < Fi.far ((a : Int) + b - c) t) = false := by simpa using hc1
        have he0 := HR.out
        rw [HG.out b, if_neg hc1] at he0
        have HE := Lib.hid he0
        clear he0
        have C1 := Lib.hid (HA1.out b hb)
        have C2 := Lib.hid (HA1.out t ht)
        clear hc1 HG HA1 HR
        generalize Fi.far ((a : Int) + b - c) b = f1 at *
        generalize Fi.far ((a : Int) + b - c) t = f2 at *
        go_wp2_with fail
        refine C1.out.mono ?_
        rintro e w' ⟨rfl, rfl⟩
        go_wp2_with fail
        refine C2.out.mono ?_
        rintro e w' ⟨rfl, rfl⟩
        go_wp2
        go_round
        case rel => exact ⟨t, ht, rfl, .inr (.inl ⟨rfl, HE⟩)⟩
        case measure => simp [intOf]
    · by_cases hc1 : Fi.far ((a : Int) + b - c) c < Fi.far ((a : Int) + b - c) t
      · have d1 : decide (Fi.far ((a : Int) + b - c) c < Fi.far ((a : Int) + b - c) t) = true := by simpa using hc1
        have he0 := HR.out
        rw [HG.out c, if_pos hc1] at he0
        have HE := Lib.hid he0
        clear he0
        have C1 := Lib.hid (HA1.out c hc)
        have C2 := Lib.hid (HA1.out t ht)
        clear hc1 HG HA1 HR
        generalize Fi.far ((a : Int) + b - c) c = f1 at *
        generalize Fi.far ((a : Int) + b - c) t = f2 at *
        go_wp2_with fail
        refine C1.out.mono ?_
        rintro e w' ⟨rfl, rfl⟩
        go_wp2_with fail
        refine C2.out.mono ?_
        rintro e w' ⟨rfl, rfl⟩
        go_wp2
        go_round
        case rel => exact ⟨c, hc, rfl, .inr (.inr ⟨rfl, HE⟩)⟩
        case measure => simp [intOf]
      · have d1 : decide (Fi.far ((a : Int) + b - c) c < Fi.far ((a : Int) + b - c) t) = false := by simpa using hc1
        have he0 := HR.out
        rw [HG.out c, if_neg hc1] at he0
        have HE := Lib.hid he0
        clear he0
        have C1 := Lib.hid (HA1.out c hc)
        have C2 := Lib.hid (HA1.out t ht)
        clear hc1 HG HA1 HR
        generalize Fi.far ((a : Int) + b - c) c = f1 at *
        generalize Fi.far ((a : Int) + b - c) t = f2 at *
        go_wp2_with fail
        refine C1.out.mono ?_
        rintro e w' ⟨rfl, rfl⟩
        go_wp2_with fail
        refine C2.out.mono ?_
        rintro e w' ⟨rfl, rfl⟩
        go_wp2
        go_round
        case rel => exact ⟨t, ht, rfl, .inr (.inr ⟨rfl, HE⟩)⟩
        case measure => simp [intOf]
    · clear HG HA1
      have HE := HR
      clear HR
      go_wp2
      go_ret
      exact ⟨by rw [← HE.out]; rfl, rfl⟩
theorem foretell_any (k : Int) (a b c : Nat) (w : World) (ha : a < 256) (hb : b < 256) (hc : c < 256) :
    Calls Tryd.prog 43 #[.int .i64 k, .int .u8 a, .int .u8 b, .int .u8 c] w fun e w' => e = .returned (.int .u8 (Fi.fo k a b c : Nat)) ∧ w = w' := by
  have HN := Lib.hid (nearest_any a b c w ha hb hc)
  by_cases h1 : k = 1
  · subst h1
    go_enter Tryd.func43, Tryd.ntmps43
    go_wp2
    go_ret
    exact ⟨rfl, rfl⟩
  by_cases h2 : k = 2
  · subst h2
    go_enter Tryd.func43, Tryd.ntmps43
    go_wp2
    go_ret
    exact ⟨rfl, rfl⟩
  by_cases h3 : k = 3
  · subst h3
    clear h1 h2 HN
    go_enter Tryd.func43, Tryd.ntmps43
    go_wp2
    go_ret
    exact ⟨ret_int (a := ((a : Int) + b) / 2) (by show ((a : Int) + b) / 2 = (((a + b) / 2 : Nat) : Int); omega), rfl⟩
  by_cases h4 : k = 4
  · subst h4
    have e4 : Hid (Fi.fo 4 a b c = Fi.near a b c) := Lib.hid rfl
    rw [e4.out]
    generalize Fi.near a b c = r at *
    clear h1 h2 h3
    go_enter Tryd.func43, Tryd.ntmps43
    go_wp2_with fail
    refine HN.out.mono ?_
    rintro e w' ⟨rfl, rfl⟩
    go_wp2
    go_ret
    exact ⟨rfl, rfl⟩
  have d1 : (k == 1) = false := by simpa using h1
  have d2 : (k == 2) = false := by simpa using h2
  have d3 : (k == 3) = false := by simpa using h3
  have d4 : (k == 4) = false := by simpa using h4
  have e0 : Fi.fo k a b c = 0 := by unfold Fi.fo; rw [if_neg h1, if_neg h2, if_neg h3, if_neg h4]
  rw [e0]
  clear h1 h2 h3 h4 e0 HN
  go_enter Tryd.func43, Tryd.ntmps43
  go_wp2
  go_ret
  exact ⟨rfl, rfl⟩
end Go.Proofs.YtbgaaocgdjkkeaaDoor
