/- zlib.Window and what it asks of the tokens: their contracts. -/
import Derived.Test.YtbohhdakbgnaeaaTok06
namespace Go.Proofs.Ytbohhdakbgnaeaa
open Go.RowKit

namespace Zl
/-- A match that reaches farther than n. -/
def far (n : Int) (t : Tok) : Bool := decide (0 < t.1) && decide (n < t.2)
def bey (n : Int) (l : List Tok) : Bool := l.any (far n)
theorem bey_false {n : Int} {l : List Tok} (h : ∀ i, i < l.length → far n (l.getD i (0, 0)) = false) : bey n l = false := by
  unfold bey
  rw [List.any_eq_false]
  intro t ht
  obtain ⟨i, hi, rfl⟩ := List.getElem_of_mem ht
  have := h i hi
  rw [List.getD, List.getElem?_eq_getElem hi] at this
  simpa using this
theorem bey_true {n : Int} {l : List Tok} {i : Nat} (hi : i < l.length) (h : far n (l.getD i (0, 0)) = true) : bey n l = true := by
  unfold bey
  rw [List.any_eq_true]
  rw [List.getD, List.getElem?_eq_getElem hi] at h
  exact ⟨l[i], List.getElem_mem hi, h⟩
end Zl
theorem beyond1_any (t : Tok) (n : Int) (g : Nat) (w : World) (hg : w.cell? ⟨g, 0, none⟩ = some (.int .i64 n)) (hlt : g < w.heap.size) :
    Calls Try.prog 25 #[.agg #[.int .i64 t.1, .int .i64 t.2], .pointer (some ⟨g, 0, none⟩)] w fun e w' => e = .returned (.bool (Zl.far n t)) ∧ Below w.heap.size w w' := by
  obtain ⟨x, y⟩ := t
  have hb := Lib.hid (below_alloc w (.cells #[.int .i64 x, .int .i64 y] 39))
  have hg2 : (w.alloc (.cells #[.int .i64 x, .int .i64 y] 39)).cell? ⟨g, 0, none⟩ = some (.int .i64 n) := by rw [hb.out.cell (p := ⟨g, 0, none⟩) hlt]; exact hg
  by_cases h0 : 0 < x
  · have d0 : decide (0 < x) = true := by simpa using h0
    by_cases h1 : n < y
    · have d1 : decide (n < y) = true := by simpa using h1
      have E := Lib.hid (show Zl.far n (x, y) = true by simp [Zl.far, h0, h1])
      clear h0 h1
      go_enter Try.func25, Try.ntmps25
      go_wp2
      go_ret
      exact ⟨by rw [E.out]; rfl, hb.out⟩
    · have d1 : decide (n < y) = false := by simpa using h1
      have E := Lib.hid (show Zl.far n (x, y) = false by simp [Zl.far, h0, h1])
      clear h0 h1
      go_enter Try.func25, Try.ntmps25
      go_wp2
      go_ret
      exact ⟨by rw [E.out]; rfl, hb.out⟩
  · have d0 : decide (0 < x) = false := by simpa using h0
    have E := Lib.hid (show Zl.far n (x, y) = false by simp [Zl.far, h0])
    clear h0
    go_enter Try.func25, Try.ntmps25
    go_wp2
    go_ret
    exact ⟨by rw [E.out]; rfl, hb.out⟩
set_option maxHeartbeats 1000000 in
theorem indexFunc_any (a : Option Addr) (len cap : Nat) (l : List Tok) (n : Int) (g : Nat) (w : World) (h : Ts2 w a len cap l) (hg : w.cell? ⟨g, 0, none⟩ = some (.int .i64 n)) (hlt : g < w.heap.size) (hl : len ≤ 1000000000) :
    Calls Try.prog 24 #[.slice a len cap, .func (.func 25) #[] #[.pointer (some ⟨g, 0, none⟩)]] w fun e w' => (∃ k : Int, e = .returned (.int .i64 k) ∧ decide (0 ≤ k) = Zl.bey n l) ∧ Below w.heap.size w w' := by
  have HL := Lib.hid h.hlen
  have hle := h.hle
  have H := Lib.hid h
  have HG := Lib.hid hg
  clear h hg
  go_enter Try.func24, Try.ntmps24
  go_wp2
  go_loopw [8] (fun i wr => ∃ j : Nat, j ≤ len ∧ i = .int .i64 j ∧ Hid (Below w.heap.size w wr ∧ ∀ k, k < j → Zl.far n (l.getD k (0, 0)) = false)) (fun i _ => len - (intOf i).toNat)
  case atStart => exact ⟨0, by omega, rfl, Lib.hid ⟨Below.refl _ _, fun k hk => absurd hk (by omega)⟩⟩
  case round =>
    obtain ⟨j, hj, rfl, HX⟩ := hrel
    by_cases hjl : j < len
    · obtain ⟨b, off, rfl, hb, c0, c1⟩ := (H.out.mono HX.out.1).at' j hjl
      have hgr : wr.cell? ⟨g, 0, none⟩ = some (.int .i64 n) := by rw [HX.out.1.cell (p := ⟨g, 0, none⟩) hlt]; exact HG.out
      have hglt : g < wr.heap.size := Nat.lt_of_lt_of_le hlt HX.out.1.size
      have HB := Lib.hid (beyond1_any (l.getD j (0, 0)) n g wr hgr hglt)
      have HJ : Hid (∀ x, l.getD j (0, 0) = x → Zl.far n x = Zl.far n (l.getD j (0, 0))) := Lib.hid (fun x hx => by rw [hx])
      by_cases hf : Zl.far n (l.getD j (0, 0)) = true
      · have HT := Lib.hid (Zl.bey_true (by rw [HL.out]; exact hjl) hf)
        rw [hf] at HB
        clear hf hgr hglt
        go_wp2_with fail
        refine HB.out.mono ?_
        rintro e w2 ⟨rfl, hb2⟩
        have HB2 := Lib.hid (below_then HX.out.1 hb2)
        clear hb2
        go_wp2
        go_ret
        exact ⟨⟨_, rfl, by rw [HT.out]; exact decide_eq_true (by omega)⟩, HB2.out⟩
      · have hf2 : Zl.far n (l.getD j (0, 0)) = false := by simpa using hf
        rw [hf2] at HB
        have HF := Lib.hid hf2
        clear hf hf2 hgr hglt
        go_wp2_with fail
        refine HB.out.mono ?_
        rintro e w2 ⟨rfl, hb2⟩
        have HB2 : Hid (Below w.heap.size w w2 ∧ ∀ k, k < j + 1 → Zl.far n (l.getD k (0, 0)) = false) := Lib.hid ⟨below_then HX.out.1 hb2, fun k hk => by
          by_cases hkj : k < j
          · exact HX.out.2 k hkj
          · obtain rfl : k = j := by omega
            exact HF.out⟩
        clear hb2
        go_wp2
        go_roundw
        case rel => exact ⟨j + 1, by omega, by go_num, HB2⟩
        case measure => simp [intOf]; omega
    · obtain rfl : len = j := by omega
      have HN := Lib.hid (Zl.bey_false (n := n) (l := l) (fun i hi => HX.out.2 i (by rw [← HL.out]; exact hi)))
      go_wp2
      go_ret
      exact ⟨⟨_, rfl, by rw [HN.out]; rfl⟩, HX.out.1⟩
theorem containsFunc_any (a : Option Addr) (len cap : Nat) (l : List Tok) (n : Int) (g : Nat) (w : World) (h : Ts2 w a len cap l) (hg : w.cell? ⟨g, 0, none⟩ = some (.int .i64 n)) (hlt : g < w.heap.size) (hl : len ≤ 1000000000) :
    Calls Try.prog 20 #[.slice a len cap, .func (.func 25) #[] #[.pointer (some ⟨g, 0, none⟩)]] w fun e w' => e = .returned (.bool (Zl.bey n l)) ∧ Below w.heap.size w w' := by
  have HI := Lib.hid (indexFunc_any a len cap l n g w h hg hlt hl)
  clear h hg
  go_enter Try.func20, Try.ntmps20
  go_wp2_with fail
  refine HI.out.mono ?_
  rintro e w2 ⟨⟨k, rfl, hk⟩, hb⟩
  have HK := Lib.hid hk
  clear hk HI
  by_cases h0 : 0 ≤ k
  · have d0 : decide (0 ≤ k) = true := by simpa using h0
    have E := HK.out
    rw [d0] at E
    have E := Lib.hid E
    clear HK
    go_wp2
    go_ret
    exact ⟨by rw [← E.out]; rfl, hb⟩
  · have d0 : decide (0 ≤ k) = false := by simpa using h0
    have E := HK.out
    rw [d0] at E
    have E := Lib.hid E
    clear HK
    go_wp2
    go_ret
    exact ⟨by rw [← E.out]; rfl, hb⟩
namespace Zl
/-- The window of tokens: 2^8 doubled so often. -/
def Win (l : List Tok) (j : Nat) : Prop := j ≤ 7 ∧ (∀ i, i < j → bey ((256 * 2 ^ i : Nat) : Int) l = true) ∧ (j = 7 ∨ bey ((256 * 2 ^ j : Nat) : Int) l = false)
theorem pow_le (j : Nat) (h : j ≤ 7) : 256 * 2 ^ j ≤ 32768 := by
  have := Nat.pow_le_pow_right (n := 2) (by omega) h
  omega
theorem pow_lt (j : Nat) (h : j < 7) : 256 * 2 ^ j ≤ 16384 := by
  have := Nat.pow_le_pow_right (n := 2) (by omega) (show j ≤ 6 by omega)
  omega
theorem pow_eq (j : Nat) : 256 * 2 ^ (j + 1) = 256 * 2 ^ j * 2 := by rw [Nat.pow_succ, Nat.mul_assoc]
end Zl
theorem beyond_any (n : Int) (w : World) :
    Calls Try.prog 21 #[.int .i64 n] w fun e w' => e = .returned (.func (.func 25) #[] #[.pointer (some ⟨w.heap.size, 0, none⟩)]) ∧ w' = w.alloc (.cells #[.int .i64 n] 3) := by
  have hmf : ∀ (fn : Fn) (first cap : Array Value) (w : World), (Instr.makeFunc fn first cap).run Try.prog w = .ok (.func fn first cap) w := fun _ _ _ _ => rfl
  go_enter Try.func21, Try.ntmps21
  go_wp2
  go_ret
  exact ⟨rfl, rfl⟩
set_option maxHeartbeats 1000000 in
theorem window_any (a : Option Addr) (len cap : Nat) (l : List Tok) (w : World) (h : Ts2 w a len cap l) (hl : len ≤ 1000000000) :
    Calls Try.prog 12 #[.slice a len cap] w fun e w' => (∃ j, Zl.Win l j ∧ e = .returned (.int .i64 ((256 * 2 ^ j : Nat) : Int))) ∧ Below w.heap.size w w' := by
  have H := Lib.hid h
  clear h
  go_enter Try.func12, Try.ntmps12
  go_wp2
  go_loopw [3] (fun v wr => ∃ j n : Nat, j ≤ 7 ∧ n ≤ 32768 ∧ v = .int .i64 n ∧ Hid (n = 256 * 2 ^ j ∧ Below w.heap.size w wr ∧ ∀ k, k < j → Zl.bey ((256 * 2 ^ k : Nat) : Int) l = true)) (fun v _ => 32768 - (intOf v).toNat)
  case atStart => exact ⟨0, 256, by omega, by omega, rfl, Lib.hid ⟨rfl, Below.refl _ _, fun k hk => absurd hk (by omega)⟩⟩
  case round =>
    obtain ⟨j, n, hj, hn, rfl, HX⟩ := hrel
    by_cases hj7 : j < 7
    · have hn2 : n ≤ 16384 := by have := Zl.pow_lt j hj7; have := HX.out.1; omega
      have hn0 : 0 < n := by have := HX.out.1; have := Nat.pow_pos (n := j) (show 0 < 2 by omega); omega
      have HB := Lib.hid (below_alloc wr (.cells #[.int .i64 (n : Nat)] 3))
      have HC := Lib.hid (containsFunc_any a len cap l n wr.heap.size (wr.alloc (.cells #[.int .i64 (n : Nat)] 3)) ((H.out.mono HX.out.2.1).mono HB.out) (by rw [cell_of_row _ _ _ _ _ (0, 0) (heap_alloc_last wr _)]; rfl) (by simp) hl)
      have HE : Hid (∀ b, Zl.bey (n : Int) l = b → Zl.bey ((256 * 2 ^ j : Nat) : Int) l = b) := Lib.hid (fun b hb => by rw [← HX.out.1]; exact hb)
      have d1 : decide (((n : Nat) : Int) < 32768) = true := by simp; omega
      have HN := Lib.hid (And.intro hn2 hn0)
      clear hn hn2 hn0
      obtain ⟨b, hbb⟩ : ∃ b, Zl.bey (n : Int) l = b := ⟨_, rfl⟩
      rw [hbb] at HC
      have HE := Lib.hid (HE.out b hbb)
      clear hbb
      cases b
      · go_wp2_with fail
        refine (beyond_any n wr).mono ?_
        rintro e w' ⟨rfl, rfl⟩
        go_wp2_with fail
        refine HC.out.mono ?_
        rintro e w2 ⟨rfl, hb2⟩
        have HP : Hid (Zl.Win l j ∧ n = 256 * 2 ^ j ∧ Below w.heap.size w w2) := Lib.hid ⟨⟨hj, HX.out.2.2, .inr (HE.out)⟩, HX.out.1, below_then HX.out.2.1 (below_then HB.out hb2)⟩
        clear hb2 HC
        go_wp2
        go_ret
        exact ⟨⟨j, HP.out.1, by rw [← HP.out.2.1]; rfl⟩, HP.out.2.2⟩
      · go_wp2_with fail
        refine (beyond_any n wr).mono ?_
        rintro e w' ⟨rfl, rfl⟩
        go_wp2_with fail
        refine HC.out.mono ?_
        rintro e w2 ⟨rfl, hb2⟩
        have HP : Hid (n * 2 = 256 * 2 ^ (j + 1) ∧ Below w.heap.size w w2 ∧ ∀ k, k < j + 1 → Zl.bey ((256 * 2 ^ k : Nat) : Int) l = true) := Lib.hid ⟨by rw [Zl.pow_eq, ← HX.out.1], below_then HX.out.2.1 (below_then HB.out hb2), fun k hk => by
          by_cases hkj : k < j
          · exact HX.out.2.2 k hkj
          · obtain rfl : k = j := by omega
            exact HE.out⟩
        clear hb2 HC
        have hn2 := HN.out
        have h3 : n * 2 ≤ 32768 := by omega
        clear HN
        go_wp2
        go_roundw
        case rel => exact ⟨j + 1, n * 2, by omega, h3, by go_num, HP⟩
        case measure => simp [intOf]; omega
    · obtain rfl : j = 7 := by omega
      obtain rfl : n = 32768 := by have := HX.out.1; omega
      have HP : Hid (Zl.Win l 7 ∧ Below w.heap.size w wr) := Lib.hid ⟨⟨hj, HX.out.2.2, .inl rfl⟩, HX.out.2.1⟩
      go_wp2
      go_ret
      exact ⟨⟨7, HP.out.1, rfl⟩, HP.out.2⟩
end Go.Proofs.Ytbohhdakbgnaeaa
