/- The document's byteAt, Foretell, Good, Filter, Unfilter: their contracts. -/
import Derived.Test.YtbgaaocgdjkkeaaDoorFlFore
import Derived.Test.YtbgaaocgdjkkeaaDoorTyB
namespace Go.Proofs.YtbgaaocgdjkkeaaDoor
open Go.RowKit

theorem byteAt_any (a : Option Addr) (n cap : Nat) (l : List UInt8) (i : Int) (w : World) (h : Bs w a n cap l) (hn : n ≤ 140737488355328) (hi : -100 ≤ i) (hi2 : i ≤ 140737488355328) :
    Calls Tryd.prog 36 #[.slice a n cap, .int .i64 i] w fun e w' => e = .returned (.int .i64 (Fi.ba l i : Nat)) ∧ w = w' := by
  have HLN := Lib.hid h.hlen
  by_cases h0 : i < 0
  · have d0 : decide (i < 0) = true := by simpa using h0
    rw [Fi.ba_neg l h0]
    clear h0 h
    go_enter Tryd.func36, Tryd.ntmps36
    go_wp2
    go_ret
    exact ⟨rfl, rfl⟩
  have d0 : decide (i < 0) = false := by simpa using h0
  obtain ⟨j, rfl⟩ : ∃ j : Nat, i = j := ⟨i.toNat, by omega⟩
  by_cases h1 : n ≤ j
  · have d1 : decide ((n : Int) ≤ (j : Int)) = true := by simpa using h1
    have d2 : decide (n ≤ j) = true := by simpa using h1
    rw [Fi.ba_out (l := l) (by rw [HLN.out]; omega)]
    clear h0 h1 h
    go_enter Tryd.func36, Tryd.ntmps36
    go_wp2
    go_ret
    exact ⟨rfl, rfl⟩
  · have hj : j < n := by omega
    obtain ⟨b, off, rfl, hb, c0⟩ := h.at' j hj
    have d1 : decide ((n : Int) ≤ (j : Int)) = false := by simpa using h1
    have d2 : decide (n ≤ j) = false := by simpa using h1
    have hgl := gb_lt l j
    rw [Fi.ba_nat]
    generalize gb l j = x at *
    clear h0 h1 h
    go_enter Tryd.func36, Tryd.ntmps36
    go_wp2
    go_ret
    exact ⟨rfl, rfl⟩
set_option maxHeartbeats 1000000 in
theorem refFore_any (k : Int) (a b c : Nat) (w : World) (ha : a < 256) (hb : b < 256) (hc : c < 256) :
    Calls Tryd.prog 35 #[.int .i64 k, .int .i64 a, .int .i64 b, .int .i64 c] w fun e w' => e = .returned (.int .i64 (Fi.fo k a b c : Nat)) ∧ w = w' := by
  by_cases h1 : k = 1
  · subst h1
    go_enter Tryd.func35, Tryd.ntmps35
    go_wp2
    go_ret
    exact ⟨rfl, rfl⟩
  by_cases h2 : k = 2
  · subst h2
    go_enter Tryd.func35, Tryd.ntmps35
    go_wp2
    go_ret
    exact ⟨rfl, rfl⟩
  by_cases h3 : k = 3
  · subst h3
    clear h1 h2
    go_enter Tryd.func35, Tryd.ntmps35
    go_wp2
    go_ret
    exact ⟨ret_int (a := ((a : Int) + b - ((a : Int) + b) % 2) / 2) (by show ((a : Int) + b - ((a : Int) + b) % 2) / 2 = (((a + b) / 2 : Nat) : Int); omega), rfl⟩
  by_cases h4 : k = 4
  · subst h4
    clear h1 h2 h3
    have e4 : Hid (Fi.fo 4 a b c = Fi.nb ((a : Int) + b - c) (Fi.nb ((a : Int) + b - c) a b) c) := Lib.hid rfl
    rw [e4.out]
    have hb1 : -100000 ≤ (a : Int) + b - c := by omega
    have hb2 : (a : Int) + b - c ≤ 100000 := by omega
    have HA1 : Hid (∀ q : Nat, q < 256 → Calls Tryd.prog 42 #[.int .i64 ((a : Int) + b - c), .int .i64 q] w fun e w' => e = .returned (.int .i64 (Fi.far ((a : Int) + b - c) q)) ∧ w = w') := Lib.hid (fun q hq => refFar_any _ q w hb1 hb2 (by omega) (by omega))
    have HG : Hid (∀ t q : Nat, Fi.nb ((a : Int) + b - c) t q = if Fi.far ((a : Int) + b - c) q < Fi.far ((a : Int) + b - c) t then q else t) := Lib.hid (fun t q => rfl)
    have CA := Lib.hid (HA1.out a ha)
    have CB := Lib.hid (HA1.out b hb)
    have CC := Lib.hid (HA1.out c hc)
    rw [HG.out a b]
    have go : ∀ t : Nat, t < 256 → Hid (Calls Tryd.prog 42 #[.int .i64 ((a : Int) + b - c), .int .i64 t] w fun e w' => e = .returned (.int .i64 (Fi.far ((a : Int) + b - c) t)) ∧ w = w') := fun t ht => Lib.hid (HA1.out t ht)
    by_cases hc1 : Fi.far ((a : Int) + b - c) b < Fi.far ((a : Int) + b - c) a
    · have d1 : decide (Fi.far ((a : Int) + b - c) b < Fi.far ((a : Int) + b - c) a) = true := by simpa using hc1
      rw [if_pos hc1, HG.out b c]
      by_cases hc2 : Fi.far ((a : Int) + b - c) c < Fi.far ((a : Int) + b - c) b
      · have d2 : decide (Fi.far ((a : Int) + b - c) c < Fi.far ((a : Int) + b - c) b) = true := by simpa using hc2
        rw [if_pos hc2]
        clear hc1 hc2 HG HA1 go e4 hb1 hb2
        generalize Fi.far ((a : Int) + b - c) b = f1 at *
        generalize Fi.far ((a : Int) + b - c) a = f2 at *
        generalize Fi.far ((a : Int) + b - c) c = f3 at *
        go_enter Tryd.func35, Tryd.ntmps35
        go_wp2_with fail
        refine CB.out.mono ?_
        rintro e w' ⟨rfl, rfl⟩
        go_wp2_with fail
        refine CA.out.mono ?_
        rintro e w' ⟨rfl, rfl⟩
        go_wp2_with fail
        refine CC.out.mono ?_
        rintro e w' ⟨rfl, rfl⟩
        go_wp2_with fail
        refine CB.out.mono ?_
        rintro e w' ⟨rfl, rfl⟩
        go_wp2
        go_ret
        exact ⟨rfl, rfl⟩
      · have d2 : decide (Fi.far ((a : Int) + b - c) c < Fi.far ((a : Int) + b - c) b) = false := by simpa using hc2
        rw [if_neg hc2]
        clear hc1 hc2 HG HA1 go e4 hb1 hb2
        generalize Fi.far ((a : Int) + b - c) b = f1 at *
        generalize Fi.far ((a : Int) + b - c) a = f2 at *
        generalize Fi.far ((a : Int) + b - c) c = f3 at *
        go_enter Tryd.func35, Tryd.ntmps35
        go_wp2_with fail
        refine CB.out.mono ?_
        rintro e w' ⟨rfl, rfl⟩
        go_wp2_with fail
        refine CA.out.mono ?_
        rintro e w' ⟨rfl, rfl⟩
        go_wp2_with fail
        refine CC.out.mono ?_
        rintro e w' ⟨rfl, rfl⟩
        go_wp2_with fail
        refine CB.out.mono ?_
        rintro e w' ⟨rfl, rfl⟩
        go_wp2
        go_ret
        exact ⟨rfl, rfl⟩
    · have d1 : decide (Fi.far ((a : Int) + b - c) b < Fi.far ((a : Int) + b - c) a) = false := by simpa using hc1
      rw [if_neg hc1, HG.out a c]
      by_cases hc2 : Fi.far ((a : Int) + b - c) c < Fi.far ((a : Int) + b - c) a
      · have d2 : decide (Fi.far ((a : Int) + b - c) c < Fi.far ((a : Int) + b - c) a) = true := by simpa using hc2
        rw [if_pos hc2]
        clear hc1 hc2 HG HA1 go e4 hb1 hb2
        generalize Fi.far ((a : Int) + b - c) b = f1 at *
        generalize Fi.far ((a : Int) + b - c) a = f2 at *
        generalize Fi.far ((a : Int) + b - c) c = f3 at *
        go_enter Tryd.func35, Tryd.ntmps35
        go_wp2_with fail
        refine CB.out.mono ?_
        rintro e w' ⟨rfl, rfl⟩
        go_wp2_with fail
        refine CA.out.mono ?_
        rintro e w' ⟨rfl, rfl⟩
        go_wp2_with fail
        refine CC.out.mono ?_
        rintro e w' ⟨rfl, rfl⟩
        go_wp2_with fail
        refine CA.out.mono ?_
        rintro e w' ⟨rfl, rfl⟩
        go_wp2
        go_ret
        exact ⟨rfl, rfl⟩
      · have d2 : decide (Fi.far ((a : Int) + b - c) c < Fi.far ((a : Int) + b - c) a) = false := by simpa using hc2
        rw [if_neg hc2]
        clear hc1 hc2 HG HA1 go e4 hb1 hb2
        generalize Fi.far ((a : Int) + b - c) b = f1 at *
        generalize Fi.far ((a : Int) + b - c) a = f2 at *
        generalize Fi.far ((a : Int) + b - c) c = f3 at *
        go_enter Tryd.func35, Tryd.ntmps35
        go_wp2_with fail
        refine CB.out.mono ?_
        rintro e w' ⟨rfl, rfl⟩
        go_wp2_with fail
        refine CA.out.mono ?_
        rintro e w' ⟨rfl, rfl⟩
        go_wp2_with fail
        refine CC.out.mono ?_
        rintro e w' ⟨rfl, rfl⟩
        go_wp2_with fail
        refine CA.out.mono ?_
        rintro e w' ⟨rfl, rfl⟩
        go_wp2
        go_ret
        exact ⟨rfl, rfl⟩
  have d1 : (k == 1) = false := by simpa using h1
  have d2 : (k == 2) = false := by simpa using h2
  have d3 : (k == 3) = false := by simpa using h3
  have d4 : (k == 4) = false := by simpa using h4
  have e0 : Fi.fo k a b c = 0 := by unfold Fi.fo; rw [if_neg h1, if_neg h2, if_neg h3, if_neg h4]
  rw [e0]
  clear h1 h2 h3 h4 e0
  go_enter Tryd.func35, Tryd.ntmps35
  go_wp2
  go_ret
  exact ⟨rfl, rfl⟩
end Go.Proofs.YtbgaaocgdjkkeaaDoor
