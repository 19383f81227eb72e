/- sums.isSize, Put: their contracts. -/
import Derived.Test.YtbgaaocgdjkkeaaZ17
import Derived.Test.YtbgaaocgdjkkeaaZ18
set_option linter.unusedSimpArgs false
set_option linter.unusedVariables false
section
namespace Go.Proofs.Ytbgaaocgdjkkeaa
open Go.RowKit

theorem isSize_yes (n : Int) (w : World) (h1 : 1 ≤ n) (h2 : n ≤ 4) : Calls Try.prog 82 #[.int .i64 n] w fun e w' => e = .returned (.bool true) ∧ w = w' := by
  have d1 : decide (1 ≤ n) = true := by simpa using h1
  have d2 : decide (n ≤ 4) = true := by simpa using h2
  go_enter Try.func82, Try.ntmps82
  go_wp2
  go_ret
  exact ⟨rfl, rfl⟩
theorem isSize_no (n : Int) (w : World) (h : n < 1 ∨ 4 < n) : Calls Try.prog 82 #[.int .i64 n] w fun e w' => e = .returned (.bool false) ∧ w = w' := by
  by_cases h1 : 1 ≤ n
  · have d1 : decide (1 ≤ n) = true := by simpa using h1
    have d2 : decide (n ≤ 4) = false := by simp; omega
    clear h
    go_enter Try.func82, Try.ntmps82
    go_wp2
    go_ret
    exact ⟨rfl, rfl⟩
  · have d1 : decide (1 ≤ n) = false := by simpa using h1
    clear h
    go_enter Try.func82, Try.ntmps82
    go_wp2
    go_ret
    exact ⟨rfl, rfl⟩

theorem put_form (a : Option Addr) (len cap : Nat) (size n : Int) (w : World) (h : size < 1 ∨ 4 < size) :
    Calls Try.prog 80 #[.slice a len cap, .int .i64 size, .int .i64 n] w fun e w' => e = .returned (.tuple #[.slice none 0 0, .iface 49 (.int .i64 6)]) ∧ w = w' := by
  have H := Lib.hid h
  clear h
  go_enter Try.func80, Try.ntmps80
  go_wp2_with fail
  refine (isSize_no _ _ H.out).mono ?_
  rintro e w' ⟨rfl, rfl⟩
  go_wp2
  go_ret2
  exact ⟨rfl, rfl⟩

theorem put_range (a : Option Addr) (len cap : Nat) (size n : Int) (w : World) (h : size = 1 ∨ size = 2 ∨ size = 3 ∨ size = 4) (hn : n < 0 ∨ 2 ^ (8 * size).toNat ≤ n) :
    Calls Try.prog 80 #[.slice a len cap, .int .i64 size, .int .i64 n] w fun e w' => e = .returned (.tuple #[.slice none 0 0, .iface 49 (.int .i64 7)]) ∧ w = w' := by
  rcases h with rfl | rfl | rfl | rfl
  all_goals
    simp at hn
    by_cases h0 : n < 0
    · have d0 : decide (n < 0) = true := by simpa using h0
      clear hn h0
      go_enter Try.func80, Try.ntmps80
      go_wp2_with fail
      refine (isSize_yes _ _ (by omega) (by omega)).mono ?_
      rintro e w' ⟨rfl, rfl⟩
      go_wp2
      go_ret2
      exact ⟨rfl, rfl⟩
    · have d0 : decide (n < 0) = false := by simpa using h0
      have hn' := hn.resolve_left h0
      have d1 := decide_eq_true hn'
      clear hn hn' h0
      go_enter Try.func80, Try.ntmps80
      go_wp2_with fail
      refine (isSize_yes _ _ (by omega) (by omega)).mono ?_
      rintro e w' ⟨rfl, rfl⟩
      go_wp2
      go_ret2
      exact ⟨rfl, rfl⟩

def PutPost (w : World) (len s n : Nat) (l : List UInt8) (e : Ending) (w' : World) : Prop :=
  ∃ g, e = .returned (.tuple #[.slice (some ⟨g, 0, none⟩) (len + s) (len + s), .nilIface]) ∧ w'.ownsRow w.heap.size 5 1 (.slice (some ⟨g, 0, none⟩) (len + s) (len + s)) (len + s) (bvs (l ++ Pt.dig s n)) ∧ Below w.heap.size w w'

set_option maxHeartbeats 1000000 in
theorem put_ok (a : Option Addr) (len cap : Nat) (l : List UInt8) (s n : Nat) (w : World) (h : Bs w a len cap l) (hr : len ≤ 140737488355328) (hs : s = 1 ∨ s = 2 ∨ s = 3 ∨ s = 4) (hn : n < 256 ^ s) :
    Calls Try.prog 80 #[.slice a len cap, .int .i64 s, .int .i64 n] w (PutPost w len s n l) := by
  have hc := h.hcap
  have hle := h.hle
  have HL := Lib.hid h.hlen
  have d0 : decide ((n : Int) < 0) = false := by simp
  rcases hs with rfl | rfl | rfl | rfl
  · simp at hn
    have d1 : decide ((256 : Int) ≤ (n : Int)) = false := by simp; omega
    have HN := Lib.hid hn
    clear hn
    go_enter Try.func80, Try.ntmps80
    go_wp2_with fail
    refine (isSize_yes _ _ (by omega) (by omega)).mono ?_
    rintro e w' ⟨rfl, rfl⟩
    go_wp2_with (at_make; refine wpl_make tyB rfl _ _ rfl w.heap.size .i64 .i64 _ (len + 1) rfl rfl (by omega) (by omega) (by omega) (Nat.le_refl _) ?_)
    intro w1 hown1 hg1
    have hb1 : Below w.heap.size w w1 := (Below.refl _ _).grown hg1 (Nat.le_refl _) (by simp)
    have hz1 := hb1.size
    have hs1 := (h.mono hb1).src
    go_wp2_with (at_builtin; refine wpl_fits tyB rfl _ _ rfl hown1 hs1 rfl rfl (by omega) ?_)
    intro w2 hown2 hg2
    have hb2 : Below w.heap.size w w2 := hb1.grown hg2 hz1 (by simp)
    have H2 := Lib.hid hown2
    clear hs1 hown1 hown2 hg1 hg2 hz1 hb1
    go_wp2
    go_loopw [8, 33] (fun v i wr => ∃ k : Nat, k ≤ 1 ∧ i = .int .i64 k ∧ v = .slice (some ⟨w.heap.size, 0, none⟩) (len + k) (len + 1) ∧ Below w.heap.size w wr ∧ Hid (wr.ownsRow w.heap.size 5 1 (.slice (some ⟨w.heap.size, 0, none⟩) (len + k) (len + 1)) (len + k) (bvs (l ++ Pt.top 1 n k)))) (fun _ i _ => 1 - (intOf i).toNat)
    case atStart => exact ⟨0, by omega, rfl, rfl, hb2, by simpa [Pt.top] using H2⟩
    case round =>
      obtain ⟨k, hk, rfl, rfl, hb3, H3⟩ := hrel
      have hz3 := hb3.size
      rcases (show k = 0 ∨ k = 1 by omega) with rfl | rfl
      · have hx : (n : Int) % 256 = ((UInt8.ofNat (n / 256 ^ (1 - 1 - 0))).toNat : Int) := by simp only [UInt8.toNat_ofNat', Nat.reducePow, Nat.reduceSub]; omega
        have HX := Lib.hid hx
        clear hx
        have hsrc : SrcRow (wr.alloc (.cells #[Value.int .u8 ((n : Int) % 256)] 5)) (some ⟨wr.heap.size, 0, none⟩) 1 1 (bvs [UInt8.ofNat (n / 256 ^ (1 - 1 - 0))]) 1 := by
          rw [HX.out]; exact src_new wr #[Value.int .u8 ((UInt8.ofNat (n / 256 ^ (1 - 1 - 0))).toNat : Int)] 5 1 1 1 rfl (bvs_one [UInt8.ofNat (n / 256 ^ (1 - 1 - 0))])
        have H4 := Lib.hid (H3.out.alloc (.cells #[Value.int .u8 ((n : Int) % 256)] 5))
        go_wp2_with (at_builtin; refine wpl_fits tyB rfl _ _ rfl H4.out hsrc rfl rfl (by omega) ?_)
        intro w4 hown4 hg4
        have hb4 : Below w.heap.size w w4 := (hb3.alloc hz3 _).grown hg4 (by simp; omega) (by simp)
        have H5 : Hid (w4.ownsRow w.heap.size 5 1 (.slice (some ⟨w.heap.size, 0, none⟩) (len + 1) (len + 1)) (len + 1) (bvs (l ++ Pt.top 1 n 1))) := Lib.hid (by
          rw [Pt.top, ← List.append_assoc, bvs_append, show n / 256 ^ (1 - 1 - 0) = n by simp]; exact hown4)
        clear hown4 hg4 H4 hsrc HX H3 hb3
        go_wp2
        go_roundw
        case rel => exact ⟨1, by omega, rfl, rfl, hb4, H5⟩
        case measure => simp [intOf]
      · go_wp2
        go_ret2
        exact ⟨w.heap.size, rfl, by have := H3.out; rwa [Pt.top_full] at this, hb3⟩
  · simp at hn
    have d1 : decide ((65536 : Int) ≤ (n : Int)) = false := by simp; omega
    have HN := Lib.hid hn
    clear hn
    go_enter Try.func80, Try.ntmps80
    go_wp2_with fail
    refine (isSize_yes _ _ (by omega) (by omega)).mono ?_
    rintro e w' ⟨rfl, rfl⟩
    go_wp2_with (at_make; refine wpl_make tyB rfl _ _ rfl w.heap.size .i64 .i64 _ (len + 2) rfl rfl (by omega) (by omega) (by omega) (Nat.le_refl _) ?_)
    intro w1 hown1 hg1
    have hb1 : Below w.heap.size w w1 := (Below.refl _ _).grown hg1 (Nat.le_refl _) (by simp)
    have hz1 := hb1.size
    have hs1 := (h.mono hb1).src
    go_wp2_with (at_builtin; refine wpl_fits tyB rfl _ _ rfl hown1 hs1 rfl rfl (by omega) ?_)
    intro w2 hown2 hg2
    have hb2 : Below w.heap.size w w2 := hb1.grown hg2 hz1 (by simp)
    have H2 := Lib.hid hown2
    clear hs1 hown1 hown2 hg1 hg2 hz1 hb1
    go_wp2
    go_loopw [8, 33] (fun v i wr => ∃ k : Nat, k ≤ 2 ∧ i = .int .i64 k ∧ v = .slice (some ⟨w.heap.size, 0, none⟩) (len + k) (len + 2) ∧ Below w.heap.size w wr ∧ Hid (wr.ownsRow w.heap.size 5 1 (.slice (some ⟨w.heap.size, 0, none⟩) (len + k) (len + 2)) (len + k) (bvs (l ++ Pt.top 2 n k)))) (fun _ i _ => 2 - (intOf i).toNat)
    case atStart => exact ⟨0, by omega, rfl, rfl, hb2, by simpa [Pt.top] using H2⟩
    case round =>
      obtain ⟨k, hk, rfl, rfl, hb3, H3⟩ := hrel
      have hz3 := hb3.size
      rcases (show k = 0 ∨ k = 1 ∨ k = 2 by omega) with rfl | rfl | rfl
      · have hx : (n : Int) / 256 % 256 = ((UInt8.ofNat (n / 256 ^ (2 - 1 - 0))).toNat : Int) := by simp only [UInt8.toNat_ofNat', Nat.reducePow, Nat.reduceSub]; omega
        have HX := Lib.hid hx
        clear hx
        have hsrc : SrcRow (wr.alloc (.cells #[Value.int .u8 ((n : Int) / 256 % 256)] 5)) (some ⟨wr.heap.size, 0, none⟩) 1 1 (bvs [UInt8.ofNat (n / 256 ^ (2 - 1 - 0))]) 1 := by
          rw [HX.out]; exact src_new wr #[Value.int .u8 ((UInt8.ofNat (n / 256 ^ (2 - 1 - 0))).toNat : Int)] 5 1 1 1 rfl (bvs_one [UInt8.ofNat (n / 256 ^ (2 - 1 - 0))])
        have H4 := Lib.hid (H3.out.alloc (.cells #[Value.int .u8 ((n : Int) / 256 % 256)] 5))
        go_wp2_with (at_builtin; refine wpl_fits tyB rfl _ _ rfl H4.out hsrc rfl rfl (by omega) ?_)
        intro w4 hown4 hg4
        have hb4 : Below w.heap.size w w4 := (hb3.alloc hz3 _).grown hg4 (by simp; omega) (by simp)
        have H5 : Hid (w4.ownsRow w.heap.size 5 1 (.slice (some ⟨w.heap.size, 0, none⟩) (len + 1) (len + 2)) (len + 1) (bvs (l ++ Pt.top 2 n 1))) := Lib.hid (by
          rw [Pt.top, ← List.append_assoc, bvs_append]; exact hown4)
        clear hown4 hg4 H4 hsrc HX H3 hb3
        go_wp2
        go_roundw
        case rel => exact ⟨1, by omega, rfl, rfl, hb4, H5⟩
        case measure => simp [intOf]
      · have hx : (n : Int) % 256 = ((UInt8.ofNat (n / 256 ^ (2 - 1 - 1))).toNat : Int) := by simp only [UInt8.toNat_ofNat', Nat.reducePow, Nat.reduceSub]; omega
        have HX := Lib.hid hx
        clear hx
        have hsrc : SrcRow (wr.alloc (.cells #[Value.int .u8 ((n : Int) % 256)] 5)) (some ⟨wr.heap.size, 0, none⟩) 1 1 (bvs [UInt8.ofNat (n / 256 ^ (2 - 1 - 1))]) 1 := by
          rw [HX.out]; exact src_new wr #[Value.int .u8 ((UInt8.ofNat (n / 256 ^ (2 - 1 - 1))).toNat : Int)] 5 1 1 1 rfl (bvs_one [UInt8.ofNat (n / 256 ^ (2 - 1 - 1))])
        have H4 := Lib.hid (H3.out.alloc (.cells #[Value.int .u8 ((n : Int) % 256)] 5))
        go_wp2_with (at_builtin; refine wpl_fits tyB rfl _ _ rfl H4.out hsrc rfl rfl (by omega) ?_)
        intro w4 hown4 hg4
        have hb4 : Below w.heap.size w w4 := (hb3.alloc hz3 _).grown hg4 (by simp; omega) (by simp)
        have H5 : Hid (w4.ownsRow w.heap.size 5 1 (.slice (some ⟨w.heap.size, 0, none⟩) (len + 2) (len + 2)) (len + 2) (bvs (l ++ Pt.top 2 n 2))) := Lib.hid (by
          rw [Pt.top, ← List.append_assoc, bvs_append, show n / 256 ^ (2 - 1 - 1) = n by simp]; exact hown4)
        clear hown4 hg4 H4 hsrc HX H3 hb3
        go_wp2
        go_roundw
        case rel => exact ⟨2, by omega, rfl, rfl, hb4, H5⟩
        case measure => simp [intOf]
      · go_wp2
        go_ret2
        exact ⟨w.heap.size, rfl, by have := H3.out; rwa [Pt.top_full] at this, hb3⟩
  · simp at hn
    have d1 : decide ((16777216 : Int) ≤ (n : Int)) = false := by simp; omega
    have HN := Lib.hid hn
    clear hn
    go_enter Try.func80, Try.ntmps80
    go_wp2_with fail
    refine (isSize_yes _ _ (by omega) (by omega)).mono ?_
    rintro e w' ⟨rfl, rfl⟩
    go_wp2_with (at_make; refine wpl_make tyB rfl _ _ rfl w.heap.size .i64 .i64 _ (len + 3) rfl rfl (by omega) (by omega) (by omega) (Nat.le_refl _) ?_)
    intro w1 hown1 hg1
    have hb1 : Below w.heap.size w w1 := (Below.refl _ _).grown hg1 (Nat.le_refl _) (by simp)
    have hz1 := hb1.size
    have hs1 := (h.mono hb1).src
    go_wp2_with (at_builtin; refine wpl_fits tyB rfl _ _ rfl hown1 hs1 rfl rfl (by omega) ?_)
    intro w2 hown2 hg2
    have hb2 : Below w.heap.size w w2 := hb1.grown hg2 hz1 (by simp)
    have H2 := Lib.hid hown2
    clear hs1 hown1 hown2 hg1 hg2 hz1 hb1
    go_wp2
    go_loopw [8, 33] (fun v i wr => ∃ k : Nat, k ≤ 3 ∧ i = .int .i64 k ∧ v = .slice (some ⟨w.heap.size, 0, none⟩) (len + k) (len + 3) ∧ Below w.heap.size w wr ∧ Hid (wr.ownsRow w.heap.size 5 1 (.slice (some ⟨w.heap.size, 0, none⟩) (len + k) (len + 3)) (len + k) (bvs (l ++ Pt.top 3 n k)))) (fun _ i _ => 3 - (intOf i).toNat)
    case atStart => exact ⟨0, by omega, rfl, rfl, hb2, by simpa [Pt.top] using H2⟩
    case round =>
      obtain ⟨k, hk, rfl, rfl, hb3, H3⟩ := hrel
      have hz3 := hb3.size
      rcases (show k = 0 ∨ k = 1 ∨ k = 2 ∨ k = 3 by omega) with rfl | rfl | rfl | rfl
      · have hx : (n : Int) / 65536 % 256 = ((UInt8.ofNat (n / 256 ^ (3 - 1 - 0))).toNat : Int) := by simp only [UInt8.toNat_ofNat', Nat.reducePow, Nat.reduceSub]; omega
        have HX := Lib.hid hx
        clear hx
        have hsrc : SrcRow (wr.alloc (.cells #[Value.int .u8 ((n : Int) / 65536 % 256)] 5)) (some ⟨wr.heap.size, 0, none⟩) 1 1 (bvs [UInt8.ofNat (n / 256 ^ (3 - 1 - 0))]) 1 := by
          rw [HX.out]; exact src_new wr #[Value.int .u8 ((UInt8.ofNat (n / 256 ^ (3 - 1 - 0))).toNat : Int)] 5 1 1 1 rfl (bvs_one [UInt8.ofNat (n / 256 ^ (3 - 1 - 0))])
        have H4 := Lib.hid (H3.out.alloc (.cells #[Value.int .u8 ((n : Int) / 65536 % 256)] 5))
        go_wp2_with (at_builtin; refine wpl_fits tyB rfl _ _ rfl H4.out hsrc rfl rfl (by omega) ?_)
        intro w4 hown4 hg4
        have hb4 : Below w.heap.size w w4 := (hb3.alloc hz3 _).grown hg4 (by simp; omega) (by simp)
        have H5 : Hid (w4.ownsRow w.heap.size 5 1 (.slice (some ⟨w.heap.size, 0, none⟩) (len + 1) (len + 3)) (len + 1) (bvs (l ++ Pt.top 3 n 1))) := Lib.hid (by
          rw [Pt.top, ← List.append_assoc, bvs_append]; exact hown4)
        clear hown4 hg4 H4 hsrc HX H3 hb3
        go_wp2
        go_roundw
        case rel => exact ⟨1, by omega, rfl, rfl, hb4, H5⟩
        case measure => simp [intOf]
      · have hx : (n : Int) / 256 % 256 = ((UInt8.ofNat (n / 256 ^ (3 - 1 - 1))).toNat : Int) := by simp only [UInt8.toNat_ofNat', Nat.reducePow, Nat.reduceSub]; omega
        have HX := Lib.hid hx
        clear hx
        have hsrc : SrcRow (wr.alloc (.cells #[Value.int .u8 ((n : Int) / 256 % 256)] 5)) (some ⟨wr.heap.size, 0, none⟩) 1 1 (bvs [UInt8.ofNat (n / 256 ^ (3 - 1 - 1))]) 1 := by
          rw [HX.out]; exact src_new wr #[Value.int .u8 ((UInt8.ofNat (n / 256 ^ (3 - 1 - 1))).toNat : Int)] 5 1 1 1 rfl (bvs_one [UInt8.ofNat (n / 256 ^ (3 - 1 - 1))])
        have H4 := Lib.hid (H3.out.alloc (.cells #[Value.int .u8 ((n : Int) / 256 % 256)] 5))
        go_wp2_with (at_builtin; refine wpl_fits tyB rfl _ _ rfl H4.out hsrc rfl rfl (by omega) ?_)
        intro w4 hown4 hg4
        have hb4 : Below w.heap.size w w4 := (hb3.alloc hz3 _).grown hg4 (by simp; omega) (by simp)
        have H5 : Hid (w4.ownsRow w.heap.size 5 1 (.slice (some ⟨w.heap.size, 0, none⟩) (len + 2) (len + 3)) (len + 2) (bvs (l ++ Pt.top 3 n 2))) := Lib.hid (by
          rw [Pt.top, ← List.append_assoc, bvs_append]; exact hown4)
        clear hown4 hg4 H4 hsrc HX H3 hb3
        go_wp2
        go_roundw
        case rel => exact ⟨2, by omega, rfl, rfl, hb4, H5⟩
        case measure => simp [intOf]
      · have hx : (n : Int) % 256 = ((UInt8.ofNat (n / 256 ^ (3 - 1 - 2))).toNat : Int) := by simp only [UInt8.toNat_ofNat', Nat.reducePow, Nat.reduceSub]; omega
        have HX := Lib.hid hx
        clear hx
        have hsrc : SrcRow (wr.alloc (.cells #[Value.int .u8 ((n : Int) % 256)] 5)) (some ⟨wr.heap.size, 0, none⟩) 1 1 (bvs [UInt8.ofNat (n / 256 ^ (3 - 1 - 2))]) 1 := by
          rw [HX.out]; exact src_new wr #[Value.int .u8 ((UInt8.ofNat (n / 256 ^ (3 - 1 - 2))).toNat : Int)] 5 1 1 1 rfl (bvs_one [UInt8.ofNat (n / 256 ^ (3 - 1 - 2))])
        have H4 := Lib.hid (H3.out.alloc (.cells #[Value.int .u8 ((n : Int) % 256)] 5))
        go_wp2_with (at_builtin; refine wpl_fits tyB rfl _ _ rfl H4.out hsrc rfl rfl (by omega) ?_)
        intro w4 hown4 hg4
        have hb4 : Below w.heap.size w w4 := (hb3.alloc hz3 _).grown hg4 (by simp; omega) (by simp)
        have H5 : Hid (w4.ownsRow w.heap.size 5 1 (.slice (some ⟨w.heap.size, 0, none⟩) (len + 3) (len + 3)) (len + 3) (bvs (l ++ Pt.top 3 n 3))) := Lib.hid (by
          rw [Pt.top, ← List.append_assoc, bvs_append, show n / 256 ^ (3 - 1 - 2) = n by simp]; exact hown4)
        clear hown4 hg4 H4 hsrc HX H3 hb3
        go_wp2
        go_roundw
        case rel => exact ⟨3, by omega, rfl, rfl, hb4, H5⟩
        case measure => simp [intOf]
      · go_wp2
        go_ret2
        exact ⟨w.heap.size, rfl, by have := H3.out; rwa [Pt.top_full] at this, hb3⟩
  · simp at hn
    have d1 : decide ((4294967296 : Int) ≤ (n : Int)) = false := by simp; omega
    have HN := Lib.hid hn
    clear hn
    go_enter Try.func80, Try.ntmps80
    go_wp2_with fail
    refine (isSize_yes _ _ (by omega) (by omega)).mono ?_
    rintro e w' ⟨rfl, rfl⟩
    go_wp2_with (at_make; refine wpl_make tyB rfl _ _ rfl w.heap.size .i64 .i64 _ (len + 4) rfl rfl (by omega) (by omega) (by omega) (Nat.le_refl _) ?_)
    intro w1 hown1 hg1
    have hb1 : Below w.heap.size w w1 := (Below.refl _ _).grown hg1 (Nat.le_refl _) (by simp)
    have hz1 := hb1.size
    have hs1 := (h.mono hb1).src
    go_wp2_with (at_builtin; refine wpl_fits tyB rfl _ _ rfl hown1 hs1 rfl rfl (by omega) ?_)
    intro w2 hown2 hg2
    have hb2 : Below w.heap.size w w2 := hb1.grown hg2 hz1 (by simp)
    have H2 := Lib.hid hown2
    clear hs1 hown1 hown2 hg1 hg2 hz1 hb1
    go_wp2
    go_loopw [8, 33] (fun v i wr => ∃ k : Nat, k ≤ 4 ∧ i = .int .i64 k ∧ v = .slice (some ⟨w.heap.size, 0, none⟩) (len + k) (len + 4) ∧ Below w.heap.size w wr ∧ Hid (wr.ownsRow w.heap.size 5 1 (.slice (some ⟨w.heap.size, 0, none⟩) (len + k) (len + 4)) (len + k) (bvs (l ++ Pt.top 4 n k)))) (fun _ i _ => 4 - (intOf i).toNat)
    case atStart => exact ⟨0, by omega, rfl, rfl, hb2, by simpa [Pt.top] using H2⟩
    case round =>
      obtain ⟨k, hk, rfl, rfl, hb3, H3⟩ := hrel
      have hz3 := hb3.size
      rcases (show k = 0 ∨ k = 1 ∨ k = 2 ∨ k = 3 ∨ k = 4 by omega) with rfl | rfl | rfl | rfl | rfl
      · have hx : (n : Int) / 16777216 % 256 = ((UInt8.ofNat (n / 256 ^ (4 - 1 - 0))).toNat : Int) := by simp only [UInt8.toNat_ofNat', Nat.reducePow, Nat.reduceSub]; omega
        have HX := Lib.hid hx
        clear hx
        have hsrc : SrcRow (wr.alloc (.cells #[Value.int .u8 ((n : Int) / 16777216 % 256)] 5)) (some ⟨wr.heap.size, 0, none⟩) 1 1 (bvs [UInt8.ofNat (n / 256 ^ (4 - 1 - 0))]) 1 := by
          rw [HX.out]; exact src_new wr #[Value.int .u8 ((UInt8.ofNat (n / 256 ^ (4 - 1 - 0))).toNat : Int)] 5 1 1 1 rfl (bvs_one [UInt8.ofNat (n / 256 ^ (4 - 1 - 0))])
        have H4 := Lib.hid (H3.out.alloc (.cells #[Value.int .u8 ((n : Int) / 16777216 % 256)] 5))
        go_wp2_with (at_builtin; refine wpl_fits tyB rfl _ _ rfl H4.out hsrc rfl rfl (by omega) ?_)
        intro w4 hown4 hg4
        have hb4 : Below w.heap.size w w4 := (hb3.alloc hz3 _).grown hg4 (by simp; omega) (by simp)
        have H5 : Hid (w4.ownsRow w.heap.size 5 1 (.slice (some ⟨w.heap.size, 0, none⟩) (len + 1) (len + 4)) (len + 1) (bvs (l ++ Pt.top 4 n 1))) := Lib.hid (by
          rw [Pt.top, ← List.append_assoc, bvs_append]; exact hown4)
        clear hown4 hg4 H4 hsrc HX H3 hb3
        go_wp2
        go_roundw
        case rel => exact ⟨1, by omega, rfl, rfl, hb4, H5⟩
        case measure => simp [intOf]
      · have hx : (n : Int) / 65536 % 256 = ((UInt8.ofNat (n / 256 ^ (4 - 1 - 1))).toNat : Int) := by simp only [UInt8.toNat_ofNat', Nat.reducePow, Nat.reduceSub]; omega
        have HX := Lib.hid hx
        clear hx
        have hsrc : SrcRow (wr.alloc (.cells #[Value.int .u8 ((n : Int) / 65536 % 256)] 5)) (some ⟨wr.heap.size, 0, none⟩) 1 1 (bvs [UInt8.ofNat (n / 256 ^ (4 - 1 - 1))]) 1 := by
          rw [HX.out]; exact src_new wr #[Value.int .u8 ((UInt8.ofNat (n / 256 ^ (4 - 1 - 1))).toNat : Int)] 5 1 1 1 rfl (bvs_one [UInt8.ofNat (n / 256 ^ (4 - 1 - 1))])
        have H4 := Lib.hid (H3.out.alloc (.cells #[Value.int .u8 ((n : Int) / 65536 % 256)] 5))
        go_wp2_with (at_builtin; refine wpl_fits tyB rfl _ _ rfl H4.out hsrc rfl rfl (by omega) ?_)
        intro w4 hown4 hg4
        have hb4 : Below w.heap.size w w4 := (hb3.alloc hz3 _).grown hg4 (by simp; omega) (by simp)
        have H5 : Hid (w4.ownsRow w.heap.size 5 1 (.slice (some ⟨w.heap.size, 0, none⟩) (len + 2) (len + 4)) (len + 2) (bvs (l ++ Pt.top 4 n 2))) := Lib.hid (by
          rw [Pt.top, ← List.append_assoc, bvs_append]; exact hown4)
        clear hown4 hg4 H4 hsrc HX H3 hb3
        go_wp2
        go_roundw
        case rel => exact ⟨2, by omega, rfl, rfl, hb4, H5⟩
        case measure => simp [intOf]
      · have hx : (n : Int) / 256 % 256 = ((UInt8.ofNat (n / 256 ^ (4 - 1 - 2))).toNat : Int) := by simp only [UInt8.toNat_ofNat', Nat.reducePow, Nat.reduceSub]; omega
        have HX := Lib.hid hx
        clear hx
        have hsrc : SrcRow (wr.alloc (.cells #[Value.int .u8 ((n : Int) / 256 % 256)] 5)) (some ⟨wr.heap.size, 0, none⟩) 1 1 (bvs [UInt8.ofNat (n / 256 ^ (4 - 1 - 2))]) 1 := by
          rw [HX.out]; exact src_new wr #[Value.int .u8 ((UInt8.ofNat (n / 256 ^ (4 - 1 - 2))).toNat : Int)] 5 1 1 1 rfl (bvs_one [UInt8.ofNat (n / 256 ^ (4 - 1 - 2))])
        have H4 := Lib.hid (H3.out.alloc (.cells #[Value.int .u8 ((n : Int) / 256 % 256)] 5))
        go_wp2_with (at_builtin; refine wpl_fits tyB rfl _ _ rfl H4.out hsrc rfl rfl (by omega) ?_)
        intro w4 hown4 hg4
        have hb4 : Below w.heap.size w w4 := (hb3.alloc hz3 _).grown hg4 (by simp; omega) (by simp)
        have H5 : Hid (w4.ownsRow w.heap.size 5 1 (.slice (some ⟨w.heap.size, 0, none⟩) (len + 3) (len + 4)) (len + 3) (bvs (l ++ Pt.top 4 n 3))) := Lib.hid (by
          rw [Pt.top, ← List.append_assoc, bvs_append]; exact hown4)
        clear hown4 hg4 H4 hsrc HX H3 hb3
        go_wp2
        go_roundw
        case rel => exact ⟨3, by omega, rfl, rfl, hb4, H5⟩
        case measure => simp [intOf]
      · have hx : (n : Int) % 256 = ((UInt8.ofNat (n / 256 ^ (4 - 1 - 3))).toNat : Int) := by simp only [UInt8.toNat_ofNat', Nat.reducePow, Nat.reduceSub]; omega
        have HX := Lib.hid hx
        clear hx
        have hsrc : SrcRow (wr.alloc (.cells #[Value.int .u8 ((n : Int) % 256)] 5)) (some ⟨wr.heap.size, 0, none⟩) 1 1 (bvs [UInt8.ofNat (n / 256 ^ (4 - 1 - 3))]) 1 := by
          rw [HX.out]; exact src_new wr #[Value.int .u8 ((UInt8.ofNat (n / 256 ^ (4 - 1 - 3))).toNat : Int)] 5 1 1 1 rfl (bvs_one [UInt8.ofNat (n / 256 ^ (4 - 1 - 3))])
        have H4 := Lib.hid (H3.out.alloc (.cells #[Value.int .u8 ((n : Int) % 256)] 5))
        go_wp2_with (at_builtin; refine wpl_fits tyB rfl _ _ rfl H4.out hsrc rfl rfl (by omega) ?_)
        intro w4 hown4 hg4
        have hb4 : Below w.heap.size w w4 := (hb3.alloc hz3 _).grown hg4 (by simp; omega) (by simp)
        have H5 : Hid (w4.ownsRow w.heap.size 5 1 (.slice (some ⟨w.heap.size, 0, none⟩) (len + 4) (len + 4)) (len + 4) (bvs (l ++ Pt.top 4 n 4))) := Lib.hid (by
          rw [Pt.top, ← List.append_assoc, bvs_append, show n / 256 ^ (4 - 1 - 3) = n by simp]; exact hown4)
        clear hown4 hg4 H4 hsrc HX H3 hb3
        go_wp2
        go_roundw
        case rel => exact ⟨4, by omega, rfl, rfl, hb4, H5⟩
        case measure => simp [intOf]
      · go_wp2
        go_ret2
        exact ⟨w.heap.size, rfl, by have := H3.out; rwa [Pt.top_full] at this, hb3⟩
end Go.Proofs.Ytbgaaocgdjkkeaa
end
