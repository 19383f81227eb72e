/- The document's Head and Wrap: their contracts. -/
import Derived.Test.YtbohhdakbgnaeaaZlWrap
import Derived.Test.YtbohhdakbgnaeaaRef01b
import Derived.Test.YtbohhdakbgnaeaaRef01n
namespace Go.Proofs.Ytbohhdakbgnaeaa
open Go.RowKit

/-- A head of the document's: no dictionary, for its second byte is below 32. -/
theorem head_yes (p s : Nat) (hp : p ≤ 7) (hs : s < 32) (w : World) (h : (256 * (16 * p + 8) + s) % 31 = 0) :
    Calls Try.prog 16 #[.int .u8 ((16 * p + 8 : Nat) : Int), .int .u8 (s : Nat)] w fun e w' => e = .returned (.tuple #[.int .i64 ((256 * 2 ^ p : Nat) : Int), .int .i64 0]) ∧ w = w' := by
  have h32 : ((s : Nat) : Int) / 32 % 2 = 0 := by clear h; omega
  rcases (show p = 0 ∨ p = 1 ∨ p = 2 ∨ p = 3 ∨ p = 4 ∨ p = 5 ∨ p = 6 ∨ p = 7 by omega) with rfl | rfl | rfl | rfl | rfl | rfl | rfl | rfl
  all_goals
    simp only [Nat.reducePow, Nat.reduceMul, Nat.reduceAdd, Int.cast_ofNat_Int] at h ⊢
    go_enter Try.func16, Try.ntmps16
    go_wp2
    refine wp_loop_rounds 8 ?_
    iterate 8 (try (rw [rounds_succ]; go_wp2))
    go_ret2
    exact ⟨rfl, rfl⟩
theorem head_not (p s : Nat) (hp : p ≤ 7) (hs : s < 32) (w : World) (h : ¬ (256 * (16 * p + 8) + s) % 31 = 0) :
    Calls Try.prog 16 #[.int .u8 ((16 * p + 8 : Nat) : Int), .int .u8 (s : Nat)] w fun e w' => e = .returned (.tuple #[.int .i64 0, .int .i64 2]) ∧ w = w' := by
  rcases (show p = 0 ∨ p = 1 ∨ p = 2 ∨ p = 3 ∨ p = 4 ∨ p = 5 ∨ p = 6 ∨ p = 7 by omega) with rfl | rfl | rfl | rfl | rfl | rfl | rfl | rfl
  all_goals
    simp only [Nat.reducePow, Nat.reduceMul, Nat.reduceAdd, Int.cast_ofNat_Int] at h ⊢
    go_enter Try.func16, Try.ntmps16
    go_wp2
    go_ret2
    exact ⟨rfl, rfl⟩
namespace Zl
/-- The second byte. -/
def sec (p : Nat) : Nat := (31 - 256 * (16 * p + 8) % 31) % 31
theorem sec_one (p s : Nat) (hp : p ≤ 7) (hs : s < 32) : (256 * (16 * p + 8) + s) % 31 = 0 ↔ s = sec p := by
  unfold sec
  rcases (show p = 0 ∨ p = 1 ∨ p = 2 ∨ p = 3 ∨ p = 4 ∨ p = 5 ∨ p = 6 ∨ p = 7 by omega) with rfl | rfl | rfl | rfl | rfl | rfl | rfl | rfl <;> omega
theorem sec_lt (p : Nat) (hp : p ≤ 7) : sec p < 31 := by unfold sec; omega
theorem pow_inj {i p : Nat} (h : 256 * 2 ^ i = 256 * 2 ^ p) : i = p := by
  have h2 : 2 ^ i = 2 ^ p := by omega
  exact (Nat.pow_right_inj (by omega)).1 h2
end Zl
theorem refWrap_no (a : Option Addr) (len cap : Nat) (a' : Option Addr) (len' cap' : Nat) (v : Int) (h : Zl.NoWin v) (w : World) :
    Calls Try.prog 7 #[.slice a len cap, .slice a' len' cap', .int .i64 v] w fun e w' => e = .returned (.tuple #[.slice none 0 0, .bool false]) ∧ w = w' := by
  have HN : Hid (∀ i, i ≤ 7 → (((256 * 2 ^ i : Nat) : Int) == v) = false) := Lib.hid (fun i hi => by
    obtain ⟨h0, h1, h2, h3, h4, h5, h6, h7⟩ := h
    rcases (show i = 0 ∨ i = 1 ∨ i = 2 ∨ i = 3 ∨ i = 4 ∨ i = 5 ∨ i = 6 ∨ i = 7 by omega) with rfl | rfl | rfl | rfl | rfl | rfl | rfl | rfl <;> simp <;> omega)
  clear h
  go_enter Try.func7, Try.ntmps7
  go_wp2
  go_loop [8] (fun i => ∃ p : Nat, p ≤ 8 ∧ i = .int .i64 p) (fun i => 8 - (intOf i).toNat)
  case atStart => exact ⟨0, by omega, rfl⟩
  case round =>
    obtain ⟨p, hp, rfl⟩ := hrel
    by_cases hp8 : p < 8
    · go_wp2
      go_loop [9] (fun j => ∃ s : Nat, s ≤ 32 ∧ j = .int .i64 s) (fun j => 32 - (intOf j).toNat)
      case atStart => exact ⟨0, by omega, rfl⟩
      case round =>
        obtain ⟨s, hs, rfl⟩ := hrel
        by_cases hs32 : s < 32
        · have hv := HN.out p (by omega)
          by_cases hx : (256 * (16 * p + 8) + s) % 31 = 0
          · have HH := Lib.hid (head_yes p s (by omega) hs32 w hx)
            rw [show ((16 * p + 8 : Nat) : Int) = 16 * (p : Int) + 8 by omega] at HH
            generalize ((256 * 2 ^ p : Nat) : Int) = m at *
            clear hx
            go_wp2_with fail
            refine HH.out.mono ?_
            rintro e w' ⟨rfl, rfl⟩
            go_wp2
            go_round
            case rel => exact ⟨s + 1, by omega, by go_num⟩
            case measure => simp [intOf]; omega
          · have HH := Lib.hid (head_not p s (by omega) hs32 w hx)
            rw [show ((16 * p + 8 : Nat) : Int) = 16 * (p : Int) + 8 by omega] at HH
            clear hx hv
            go_wp2_with fail
            refine HH.out.mono ?_
            rintro e w' ⟨rfl, rfl⟩
            go_wp2
            go_round
            case rel => exact ⟨s + 1, by omega, by go_num⟩
            case measure => simp [intOf]; omega
        · obtain rfl : s = 32 := by omega
          go_wp2
          go_round
          case rel => exact ⟨p + 1, by omega, by go_num⟩
          case measure => simp [intOf]; omega
    · obtain rfl : p = 8 := by omega
      go_wp2
      go_ret2
      exact ⟨rfl, rfl⟩
/-- What the document's Wrap answers. -/
def RWrapPost (w : World) (x : List UInt8) (e : Ending) (w' : World) : Prop :=
  ∃ v, e = .returned (.tuple #[v, .bool true]) ∧ w'.ownsRow w.heap.size 5 1 v x.length (bvs x) ∧ Below w.heap.size w w'
set_option maxRecDepth 100000 in
set_option maxHeartbeats 4000000 in
theorem refWrap_yes (q : Nat) (hq : q ≤ 7) (a : Option Addr) (len cap : Nat) (l : List UInt8) (a' : Option Addr) (len' cap' : Nat) (t : List UInt8) (w : World) (h : Bs w a len cap l) (h' : Bs w a' len' cap' t) (hl : len ≤ 1000000000) :
    Calls Try.prog 7 #[.slice a len cap, .slice a' len' cap', .int .i64 ((256 * 2 ^ q : Nat) : Int)] w (RWrapPost w (Zl.wrapped q l t)) := by
  have H := Lib.hid h
  have H' := Lib.hid h'
  have HL := Lib.hid h.hlen
  have hsq := Zl.sec_lt q hq
  have HN : Hid (∀ i, i ≤ 7 → i ≠ q → (((256 * 2 ^ i : Nat) : Int) == ((256 * 2 ^ q : Nat) : Int)) = false) := Lib.hid (fun i hi hne => by
    have : ¬ 256 * 2 ^ i = 256 * 2 ^ q := fun e => hne (Zl.pow_inj e)
    simp only [beq_eq_false_iff_ne, ne_eq]; omega)
  have HQ : Hid ((((256 * 2 ^ q : Nat) : Int) == ((256 * 2 ^ q : Nat) : Int)) = true) := Lib.hid (by simp)
  have HHY := Lib.hid (fun p s hp hs (w : World) hx => head_yes p s hp hs w hx)
  have HHE : Hid (∀ p, p = q → ((256 * 2 ^ p : Nat) : Int) = ((256 * 2 ^ q : Nat) : Int)) := Lib.hid (fun p e => by rw [e])
  clear h h'
  have HM : Hid (∃ m : Int, ((256 * 2 ^ q : Nat) : Int) = m) := Lib.hid ⟨_, rfl⟩
  obtain ⟨m, hm⟩ := HM.out
  rw [hm] at HN HQ HHE
  rw [hm]
  clear HM hm
  go_enter Try.func7, Try.ntmps7
  go_wp2
  go_loop [8] (fun i => ∃ p : Nat, p ≤ q ∧ i = .int .i64 p) (fun i => 8 - (intOf i).toNat)
  case atStart => exact ⟨0, by omega, rfl⟩
  case round =>
    obtain ⟨p, hp, rfl⟩ := hrel
    by_cases hpq : p = q
    · have HPQ := Lib.hid hpq
      clear hpq
      go_wp2
      go_loop [9] (fun j => ∃ s : Nat, s ≤ Zl.sec q ∧ j = .int .i64 s) (fun j => 32 - (intOf j).toNat)
      case atStart => exact ⟨0, by omega, rfl⟩
      case round =>
        obtain ⟨s, hs, rfl⟩ := hrel
        by_cases hsx : s = Zl.sec q
        · have HH := Lib.hid (HHY.out p s (by omega) (by omega) w ((Zl.sec_one p s (by omega) (by omega)).2 (by rw [HPQ.out]; exact hsx)))
          rw [show ((16 * p + 8 : Nat) : Int) = 16 * (p : Int) + 8 by omega, HHE.out p HPQ.out] at HH
          have hmm := HQ.out
          have HSX := Lib.hid hsx
          clear hsx
          go_wp2_with fail
          refine HH.out.mono ?_
          rintro e w' ⟨rfl, rfl⟩
          go_wp2_with fail
          refine (refAdler_any _ _ _ t w H'.out).mono ?_
          rintro e w' ⟨rfl, rfl⟩
          have hal := Zl.adler_lt t
          go_wp2_with fail
          refine (number_nat 4 (Ad.adler t) w (by omega) (by omega) (by omega)).mono ?_
          rintro e w1 ⟨hb1, ⟨hge, _⟩ | ⟨_, v4, rfl, ho4⟩⟩
          · omega
          obtain ⟨a4, c4, rfl, hbs4⟩ := own_bs ho4 (by omega)
          have H1 := Lib.hid (And.intro hbs4 hb1)
          have hsq2 : s < 31 := by omega
          have own0 := own_new w1 w1.heap.size 5 #[.int .u8 (16 * (p : Int) + 8), .int .u8 (s : Nat)] (Zl.hd q) (Nat.le_refl _) (by simp [Zl.hd]) 2 rfl (hd_cells q _ _ (by rw [HPQ.out]; omega) hq (by rw [HSX.out]; rfl))
          have src0 := ((H.out.mono hb1).mono (below_alloc w1 (.cells #[.int .u8 (16 * (p : Int) + 8), .int .u8 (s : Nat)] 5))).src
          clear ho4 hbs4 hb1 HH HHY HHE HN HQ hmm
          go_wp2_with (at_builtin; refine wpl_append tyB rfl _ _ rfl own0 src0 rfl rfl (by omega) (by omega) (by simp) ?_)
          intro v2 w2 own2 g2 _
          have hz := H1.out.2.size
          have b2 : Below w1.heap.size w1 w2 := (below_alloc w1 _).grown g2 (by simp) (fun k hk => (own0.lt k hk).1)
          have s4 := (H1.out.1.mono b2).src
          have B2 := Lib.hid b2
          clear src0 g2 own0
          go_wp2_with (at_builtin; refine wpl_append tyB rfl _ _ rfl own2 s4 rfl rfl (by omega) (by omega) (by have := b2.size; omega) ?_)
          intro v3 w3 own3 g3 _
          have b3 : Below w1.heap.size w1 w3 := B2.out.grown g3 B2.out.size (fun k hk => (own2.lt k hk).1)
          rw [← bvs_append, ← bvs_append] at own3
          have hlen : (Zl.wrapped q l t).length = 2 + len + 4 := by
            have := HL.out
            simp [Zl.wrapped, Zl.hd, Pt.dig]; omega
          have HP : Hid (RWrapPost w (Zl.wrapped q l t) (.returned (.tuple #[v3, .bool true])) w3) := Lib.hid (by
            refine ⟨v3, rfl, ?_, below_then H1.out.2 b3⟩
            rw [hlen]
            exact own_base own3 (fun g' hg' => Nat.le_trans hz (own3.lt g' hg').1))
          clear own3 g3 b3 own2 s4 b2 B2 hlen H1
          go_wp2
          go_ret2
          exact HP.out
        · have HH := Lib.hid (head_not p s (by omega) (by omega) w (fun e => hsx (by rw [← HPQ.out]; exact (Zl.sec_one p s (by omega) (by omega)).1 e)))
          rw [show ((16 * p + 8 : Nat) : Int) = 16 * (p : Int) + 8 by omega] at HH
          go_wp2_with fail
          refine HH.out.mono ?_
          rintro e w' ⟨rfl, rfl⟩
          go_wp2
          go_round
          case rel => exact ⟨s + 1, by omega, by go_num⟩
          case measure => simp [intOf]; omega
    · have hpl : p < q := by omega
      have hv := HN.out p (by omega) hpq
      clear hpq
      go_wp2
      go_loop [9] (fun j => ∃ s : Nat, s ≤ 32 ∧ j = .int .i64 s) (fun j => 32 - (intOf j).toNat)
      case atStart => exact ⟨0, by omega, rfl⟩
      case round =>
        obtain ⟨s, hs, rfl⟩ := hrel
        by_cases hs32 : s < 32
        · by_cases hx : (256 * (16 * p + 8) + s) % 31 = 0
          · have HH := Lib.hid (HHY.out p s (by omega) hs32 w hx)
            rw [show ((16 * p + 8 : Nat) : Int) = 16 * (p : Int) + 8 by omega] at HH
            have hv2 := hv
            generalize ((256 * 2 ^ p : Nat) : Int) = m2 at HH hv2
            clear hx hv
            go_wp2_with fail
            refine HH.out.mono ?_
            rintro e w' ⟨rfl, rfl⟩
            go_wp2
            go_round
            case rel => exact ⟨s + 1, by omega, by go_num⟩
            case measure => simp [intOf]; omega
          · have HH := Lib.hid (head_not p s (by omega) hs32 w hx)
            rw [show ((16 * p + 8 : Nat) : Int) = 16 * (p : Int) + 8 by omega] at HH
            clear hx hv
            go_wp2_with fail
            refine HH.out.mono ?_
            rintro e w' ⟨rfl, rfl⟩
            go_wp2
            go_round
            case rel => exact ⟨s + 1, by omega, by go_num⟩
            case measure => simp [intOf]; omega
        · obtain rfl : s = 32 := by omega
          go_wp2
          go_round
          case rel => exact ⟨p + 1, by omega, by go_num⟩
          case measure => simp [intOf]; omega
end Go.Proofs.Ytbohhdakbgnaeaa
