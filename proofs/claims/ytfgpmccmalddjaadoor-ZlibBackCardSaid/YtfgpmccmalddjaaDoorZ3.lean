/- zlib.Window and what it asks of the tokens: their contracts. The type of a slice of bytes.  Numbers as bytes. sums.isSize, Put: their contracts. -/
import Derived.Test.YtfgpmccmalddjaaDoorZ2
import Derived.Test.YtfgpmccmalddjaaDoorProg
set_option linter.unusedSimpArgs false
set_option linter.unusedVariables false
section
namespace Go.Proofs.YtfgpmccmalddjaaDoor
open Go.RowKit

namespace Zl
/-- A match that reaches farther than n. -/
def far (n : Int) (t : Tok) : Bool := decide (0 < t.1) && decide (n < t.2)
def bey (n : Int) (l : List Tok) : Bool := l.any (far n)
theorem bey_false {n : Int} {l : List Tok} (h : ∀ i, i < l.length → far n (l.getD i (0, 0)) = false) : bey n l = false := by
  unfold bey
  rw [List.any_eq_false]
  intro t ht
  obtain ⟨i, hi, rfl⟩ := List.getElem_of_mem ht
  have := h i hi
  rw [List.getD, List.getElem?_eq_getElem hi] at this
  simpa using this
theorem bey_true {n : Int} {l : List Tok} {i : Nat} (hi : i < l.length) (h : far n (l.getD i (0, 0)) = true) : bey n l = true := by
  unfold bey
  rw [List.any_eq_true]
  rw [List.getD, List.getElem?_eq_getElem hi] at h
  exact ⟨l[i], List.getElem_mem hi, h⟩
end Zl
theorem beyond1_any (t : Tok) (n : Int) (g : Nat) (w : World) (hg : w.cell? ⟨g, 0, none⟩ = some (.int .i64 n)) (hlt : g < w.heap.size) :
    Calls Tryd.prog 60 #[.agg #[.int .i64 t.1, .int .i64 t.2], .pointer (some ⟨g, 0, none⟩)] w fun e w' => e = .returned (.bool (Zl.far n t)) ∧ Below w.heap.size w w' := by
  obtain ⟨x, y⟩ := t
  have hb := Lib.hid (below_alloc w (.cells #[.int .i64 x, .int .i64 y] 47))
  have hg2 : (w.alloc (.cells #[.int .i64 x, .int .i64 y] 47)).cell? ⟨g, 0, none⟩ = some (.int .i64 n) := by rw [hb.out.cell (p := ⟨g, 0, none⟩) hlt]; exact hg
  by_cases h0 : 0 < x
  · have d0 : decide (0 < x) = true := by simpa using h0
    by_cases h1 : n < y
    · have d1 : decide (n < y) = true := by simpa using h1
      have E := Lib.hid (show Zl.far n (x, y) = true by simp [Zl.far, h0, h1])
      clear h0 h1
      go_enter Tryd.func60, Tryd.ntmps60
      go_wp2
      go_ret
      exact ⟨by rw [E.out]; rfl, hb.out⟩
    · have d1 : decide (n < y) = false := by simpa using h1
      have E := Lib.hid (show Zl.far n (x, y) = false by simp [Zl.far, h0, h1])
      clear h0 h1
      go_enter Tryd.func60, Tryd.ntmps60
      go_wp2
      go_ret
      exact ⟨by rw [E.out]; rfl, hb.out⟩
  · have d0 : decide (0 < x) = false := by simpa using h0
    have E := Lib.hid (show Zl.far n (x, y) = false by simp [Zl.far, h0])
    clear h0
    go_enter Tryd.func60, Tryd.ntmps60
    go_wp2
    go_ret
    exact ⟨by rw [E.out]; rfl, hb.out⟩
set_option maxHeartbeats 1000000 in
theorem indexFunc_any (a : Option Addr) (len cap : Nat) (l : List Tok) (n : Int) (g : Nat) (w : World) (h : Ts2 w a len cap l) (hg : w.cell? ⟨g, 0, none⟩ = some (.int .i64 n)) (hlt : g < w.heap.size) (hl : len ≤ 1000000000) :
    Calls Tryd.prog 59 #[.slice a len cap, .func (.func 60) #[] #[.pointer (some ⟨g, 0, none⟩)]] w fun e w' => (∃ k : Int, e = .returned (.int .i64 k) ∧ decide (0 ≤ k) = Zl.bey n l) ∧ Below w.heap.size w w' := by
  have HL := Lib.hid h.hlen
  have hle := h.hle
  have H := Lib.hid h
  have HG := Lib.hid hg
  clear h hg
  go_enter Tryd.func59, Tryd.ntmps59
  go_wp2
  go_loopw [8] (fun i wr => ∃ j : Nat, j ≤ len ∧ i = .int .i64 j ∧ Hid (Below w.heap.size w wr ∧ ∀ k, k < j → Zl.far n (l.getD k (0, 0)) = false)) (fun i _ => len - (intOf i).toNat)
  case atStart => exact ⟨0, by omega, rfl, Lib.hid ⟨Below.refl _ _, fun k hk => absurd hk (by omega)⟩⟩
  case round =>
    obtain ⟨j, hj, rfl, HX⟩ := hrel
    by_cases hjl : j < len
    · obtain ⟨b, off, rfl, hb, c0, c1⟩ := (H.out.mono HX.out.1).at' j hjl
      have hgr : wr.cell? ⟨g, 0, none⟩ = some (.int .i64 n) := by rw [HX.out.1.cell (p := ⟨g, 0, none⟩) hlt]; exact HG.out
      have hglt : g < wr.heap.size := Nat.lt_of_lt_of_le hlt HX.out.1.size
      have HB := Lib.hid (beyond1_any (l.getD j (0, 0)) n g wr hgr hglt)
      have HJ : Hid (∀ x, l.getD j (0, 0) = x → Zl.far n x = Zl.far n (l.getD j (0, 0))) := Lib.hid (fun x hx => by rw [hx])
      by_cases hf : Zl.far n (l.getD j (0, 0)) = true
      · have HT := Lib.hid (Zl.bey_true (by rw [HL.out]; exact hjl) hf)
        rw [hf] at HB
        clear hf hgr hglt
        go_wp2_with fail
        refine HB.out.mono ?_
        rintro e w2 ⟨rfl, hb2⟩
        have HB2 := Lib.hid (below_then HX.out.1 hb2)
        clear hb2
        go_wp2
        go_ret
        exact ⟨⟨_, rfl, by rw [HT.out]; exact decide_eq_true (by omega)⟩, HB2.out⟩
      · have hf2 : Zl.far n (l.getD j (0, 0)) = false := by simpa using hf
        rw [hf2] at HB
        have HF := Lib.hid hf2
        clear hf hf2 hgr hglt
        go_wp2_with fail
        refine HB.out.mono ?_
        rintro e w2 ⟨rfl, hb2⟩
        have HB2 : Hid (Below w.heap.size w w2 ∧ ∀ k, k < j + 1 → Zl.far n (l.getD k (0, 0)) = false) := Lib.hid ⟨below_then HX.out.1 hb2, fun k hk => by
          by_cases hkj : k < j
          · exact HX.out.2 k hkj
          · obtain rfl : k = j := by omega
            exact HF.out⟩
        clear hb2
        go_wp2
        go_roundw
        case rel => exact ⟨j + 1, by omega, by go_num, HB2⟩
        case measure => simp [intOf]; omega
    · obtain rfl : len = j := by omega
      have HN := Lib.hid (Zl.bey_false (n := n) (l := l) (fun i hi => HX.out.2 i (by rw [← HL.out]; exact hi)))
      go_wp2
      go_ret
      exact ⟨⟨_, rfl, by rw [HN.out]; rfl⟩, HX.out.1⟩
theorem containsFunc_any (a : Option Addr) (len cap : Nat) (l : List Tok) (n : Int) (g : Nat) (w : World) (h : Ts2 w a len cap l) (hg : w.cell? ⟨g, 0, none⟩ = some (.int .i64 n)) (hlt : g < w.heap.size) (hl : len ≤ 1000000000) :
    Calls Tryd.prog 34 #[.slice a len cap, .func (.func 60) #[] #[.pointer (some ⟨g, 0, none⟩)]] w fun e w' => e = .returned (.bool (Zl.bey n l)) ∧ Below w.heap.size w w' := by
  have HI := Lib.hid (indexFunc_any a len cap l n g w h hg hlt hl)
  clear h hg
  go_enter Tryd.func34, Tryd.ntmps34
  go_wp2_with fail
  refine HI.out.mono ?_
  rintro e w2 ⟨⟨k, rfl, hk⟩, hb⟩
  have HK := Lib.hid hk
  clear hk HI
  by_cases h0 : 0 ≤ k
  · have d0 : decide (0 ≤ k) = true := by simpa using h0
    have E := HK.out
    rw [d0] at E
    have E := Lib.hid E
    clear HK
    go_wp2
    go_ret
    exact ⟨by rw [← E.out]; rfl, hb⟩
  · have d0 : decide (0 ≤ k) = false := by simpa using h0
    have E := HK.out
    rw [d0] at E
    have E := Lib.hid E
    clear HK
    go_wp2
    go_ret
    exact ⟨by rw [← E.out]; rfl, hb⟩
namespace Zl
/-- The window of tokens: 2^8 doubled so often. -/
def Win (l : List Tok) (j : Nat) : Prop := j ≤ 7 ∧ (∀ i, i < j → bey ((256 * 2 ^ i : Nat) : Int) l = true) ∧ (j = 7 ∨ bey ((256 * 2 ^ j : Nat) : Int) l = false)
theorem pow_le (j : Nat) (h : j ≤ 7) : 256 * 2 ^ j ≤ 32768 := by
  have := Nat.pow_le_pow_right (n := 2) (by omega) h
  omega
theorem pow_lt (j : Nat) (h : j < 7) : 256 * 2 ^ j ≤ 16384 := by
  have := Nat.pow_le_pow_right (n := 2) (by omega) (show j ≤ 6 by omega)
  omega
theorem pow_eq (j : Nat) : 256 * 2 ^ (j + 1) = 256 * 2 ^ j * 2 := by rw [Nat.pow_succ, Nat.mul_assoc]
end Zl
theorem beyond_any (n : Int) (w : World) :
    Calls Tryd.prog 35 #[.int .i64 n] w fun e w' => e = .returned (.func (.func 60) #[] #[.pointer (some ⟨w.heap.size, 0, none⟩)]) ∧ w' = w.alloc (.cells #[.int .i64 n] 3) := by
  have hmf : ∀ (fn : Fn) (first cap : Array Value) (w : World), (Instr.makeFunc fn first cap).run Tryd.prog w = .ok (.func fn first cap) w := fun _ _ _ _ => rfl
  go_enter Tryd.func35, Tryd.ntmps35
  go_wp2
  go_ret
  exact ⟨rfl, rfl⟩
set_option maxHeartbeats 1000000 in
theorem window_any (a : Option Addr) (len cap : Nat) (l : List Tok) (w : World) (h : Ts2 w a len cap l) (hl : len ≤ 1000000000) :
    Calls Tryd.prog 11 #[.slice a len cap] w fun e w' => (∃ j, Zl.Win l j ∧ e = .returned (.int .i64 ((256 * 2 ^ j : Nat) : Int))) ∧ Below w.heap.size w w' := by
  have H := Lib.hid h
  clear h
  go_enter Tryd.func11, Tryd.ntmps11
  go_wp2
  go_loopw [3] (fun v wr => ∃ j n : Nat, j ≤ 7 ∧ n ≤ 32768 ∧ v = .int .i64 n ∧ Hid (n = 256 * 2 ^ j ∧ Below w.heap.size w wr ∧ ∀ k, k < j → Zl.bey ((256 * 2 ^ k : Nat) : Int) l = true)) (fun v _ => 32768 - (intOf v).toNat)
  case atStart => exact ⟨0, 256, by omega, by omega, rfl, Lib.hid ⟨rfl, Below.refl _ _, fun k hk => absurd hk (by omega)⟩⟩
  case round =>
    obtain ⟨j, n, hj, hn, rfl, HX⟩ := hrel
    by_cases hj7 : j < 7
    · have hn2 : n ≤ 16384 := by have := Zl.pow_lt j hj7; have := HX.out.1; omega
      have hn0 : 0 < n := by have := HX.out.1; have := Nat.pow_pos (n := j) (show 0 < 2 by omega); omega
      have HB := Lib.hid (below_alloc wr (.cells #[.int .i64 (n : Nat)] 3))
      have HC := Lib.hid (containsFunc_any a len cap l n wr.heap.size (wr.alloc (.cells #[.int .i64 (n : Nat)] 3)) ((H.out.mono HX.out.2.1).mono HB.out) (by rw [cell_of_row _ _ _ _ _ (0, 0) (heap_alloc_last wr _)]; rfl) (by simp) hl)
      have HE : Hid (∀ b, Zl.bey (n : Int) l = b → Zl.bey ((256 * 2 ^ j : Nat) : Int) l = b) := Lib.hid (fun b hb => by rw [← HX.out.1]; exact hb)
      have d1 : decide (((n : Nat) : Int) < 32768) = true := by simp; omega
      have HN := Lib.hid (And.intro hn2 hn0)
      clear hn hn2 hn0
      obtain ⟨b, hbb⟩ : ∃ b, Zl.bey (n : Int) l = b := ⟨_, rfl⟩
      rw [hbb] at HC
      have HE := Lib.hid (HE.out b hbb)
      clear hbb
      cases b
      · go_wp2_with fail
        refine (beyond_any n wr).mono ?_
        rintro e w' ⟨rfl, rfl⟩
        go_wp2_with fail
        refine HC.out.mono ?_
        rintro e w2 ⟨rfl, hb2⟩
        have HP : Hid (Zl.Win l j ∧ n = 256 * 2 ^ j ∧ Below w.heap.size w w2) := Lib.hid ⟨⟨hj, HX.out.2.2, .inr (HE.out)⟩, HX.out.1, below_then HX.out.2.1 (below_then HB.out hb2)⟩
        clear hb2 HC
        go_wp2
        go_ret
        exact ⟨⟨j, HP.out.1, by rw [← HP.out.2.1]; rfl⟩, HP.out.2.2⟩
      · go_wp2_with fail
        refine (beyond_any n wr).mono ?_
        rintro e w' ⟨rfl, rfl⟩
        go_wp2_with fail
        refine HC.out.mono ?_
        rintro e w2 ⟨rfl, hb2⟩
        have HP : Hid (n * 2 = 256 * 2 ^ (j + 1) ∧ Below w.heap.size w w2 ∧ ∀ k, k < j + 1 → Zl.bey ((256 * 2 ^ k : Nat) : Int) l = true) := Lib.hid ⟨by rw [Zl.pow_eq, ← HX.out.1], below_then HX.out.2.1 (below_then HB.out hb2), fun k hk => by
          by_cases hkj : k < j
          · exact HX.out.2.2 k hkj
          · obtain rfl : k = j := by omega
            exact HE.out⟩
        clear hb2 HC
        have hn2 := HN.out
        have h3 : n * 2 ≤ 32768 := by omega
        clear HN
        go_wp2
        go_roundw
        case rel => exact ⟨j + 1, n * 2, by omega, h3, by go_num, HP⟩
        case measure => simp [intOf]; omega
    · obtain rfl : j = 7 := by omega
      obtain rfl : n = 32768 := by have := HX.out.1; omega
      have HP : Hid (Zl.Win l 7 ∧ Below w.heap.size w wr) := Lib.hid ⟨⟨hj, HX.out.2.2, .inl rfl⟩, HX.out.2.1⟩
      go_wp2
      go_ret
      exact ⟨⟨7, HP.out.1, rfl⟩, HP.out.2⟩
end Go.Proofs.YtfgpmccmalddjaaDoor
end

section
namespace Go.Proofs.YtfgpmccmalddjaaDoor
open Go.RowKit

theorem tyB : RowTy Tryd.prog 22 5 (.int .u8 0) 1 1 := ⟨Tryd.underlying22, by kernel_rfl, rfl, by omega⟩
end Go.Proofs.YtfgpmccmalddjaaDoor
end

section
namespace Go.Proofs.YtfgpmccmalddjaaDoor
open Go.RowKit


def CopyPost (w : World) (len : Nat) (l : List UInt8) (e : Ending) (w' : World) : Prop :=
  ∃ g, e = .returned (.slice (some ⟨g, 0, none⟩) len (len + 2)) ∧ w'.ownsRow w.heap.size 5 1 (.slice (some ⟨g, 0, none⟩) (len + 2) (len + 2)) (len + 2) (bvs (l ++ [165, 90])) ∧ Below w.heap.size w w'

set_option maxHeartbeats 400000 in
theorem copy_any (a : Option Addr) (len cap : Nat) (l : List UInt8) (w : World) (h : Bs w a len cap l) (hr : len ≤ 140737488355328) :
    Calls Tryd.prog 17 #[.slice a len cap] w (CopyPost w len l) := by
  have hc := h.hcap
  have hle := h.hle
  have HL := Lib.hid h.hlen
  go_enter Tryd.func17, Tryd.ntmps17
  go_wp2_with (at_make; refine wpl_make tyB rfl _ _ rfl w.heap.size .i64 .i64 _ (len + 2) rfl rfl (by omega) (by omega) (by omega) (Nat.le_refl _) ?_)
  intro w1 hown1 hg1
  have hb1 : Below w.heap.size w w1 := (Below.refl _ _).grown hg1 (Nat.le_refl _) (by simp)
  have hz1 := hb1.size
  have hs1 := (h.mono hb1).src
  go_wp2_with (at_builtin; refine wpl_fits tyB rfl _ _ rfl hown1 hs1 rfl rfl (by omega) ?_)
  intro w2 hown2 hg2
  have hb2 : Below w.heap.size w w2 := hb1.grown hg2 hz1 (by simp)
  have hz2 := hb2.size
  have hs2 : SrcRow (w2.alloc (.cells #[Value.int IntKind.u8 165, Value.int IntKind.u8 90] 5)) (some ⟨w2.heap.size, 0, none⟩) 2 2 (bvs [165, 90]) 1 := src_new w2 _ 5 2 2 1 rfl (bvs_one [165, 90])
  go_wp2_with (at_builtin; refine wpl_fits tyB rfl _ _ rfl (hown2.alloc _) hs2 rfl rfl (by omega) ?_)
  intro w3 hown3 hg3
  have hb3 : Below w.heap.size w w3 := (hb2.alloc hz2 _).grown hg3 (by simp; omega) (by simp)
  rw [← bvs_append] at hown3
  clear hg1 hg2 hg3 hown1 hown2 hs1 hs2
  go_wp2
  go_ret
  exact ⟨_, rfl, hown3, hb3⟩

theorem kept_any (g len : Nat) (a : Option Addr) (cap : Nat) (l : List UInt8) (w : World) (base : Nat) (hr : len ≤ 140737488355328)
    (hown : w.ownsRow base 5 1 (.slice (some ⟨g, 0, none⟩) (len + 2) (len + 2)) (len + 2) (bvs (l ++ [165, 90]))) (h : Bs w a len cap l) :
    Calls Tryd.prog 19 #[.slice (some ⟨g, 0, none⟩) len (len + 2), .slice a len cap] w fun e w' => e = .returned (.bool true) ∧ w = w' := by
  have hc := h.hcap
  have hle := h.hle
  have hlen := h.hlen
  have hm := bs_of_own hown (by omega) len (by omega)
  rw [List.take_append_of_le_length (by omega), List.take_of_length_le (by omega)] at hm
  have c1 := conv_bs (P := Tryd.prog) hm 22 9 5 Tryd.underlying22 Tryd.underlying5 Tryd.underlying9
  have c2 := conv_bs (P := Tryd.prog) h 22 9 5 Tryd.underlying22 Tryd.underlying5 Tryd.underlying9
  have e1 : w.cell? ⟨g, len, none⟩ = some (.int .u8 165) := by
    rw [hown.cellAt len (by omega), bvs_get _ _ (by simp; omega), gb]; simp [← hlen]
  have e2 : w.cell? ⟨g, len + 1, none⟩ = some (.int .u8 90) := by
    rw [hown.cellAt (len + 1) (by omega), bvs_get _ _ (by simp; omega), gb]; simp [← hlen]
  clear hm hown
  have HL := Lib.hid hlen
  clear hlen
  go_enter Tryd.func19, Tryd.ntmps19
  go_wp2
  go_ret
  exact ⟨rfl, rfl⟩
end Go.Proofs.YtfgpmccmalddjaaDoor
end

section
namespace Go.Proofs.YtfgpmccmalddjaaDoor.Pt
/-- The bytes of a number, the highest first. -/
def dig : Nat → Nat → List UInt8
  | 0, _ => []
  | s + 1, n => UInt8.ofNat (n / 256 ^ s) :: dig s n
theorem dig_length (n : Nat) : ∀ s, (dig s n).length = s
  | 0 => rfl
  | s + 1 => by simp [dig, dig_length n s]
/-- The first i of them. -/
def top (s n : Nat) : Nat → List UInt8
  | 0 => []
  | i + 1 => top s n i ++ [UInt8.ofNat (n / 256 ^ (s - 1 - i))]
theorem top_length (s n : Nat) : ∀ i, (top s n i).length = i
  | 0 => rfl
  | i + 1 => by simp [top, top_length s n i]
theorem top_dig (s n : Nat) : ∀ i, i ≤ s → top s n i ++ dig (s - i) n = dig s n
  | 0, _ => by simp [top]
  | i + 1, h => by
    rw [← top_dig s n i (by omega), top, List.append_assoc]
    congr 1
    rw [show s - i = (s - (i + 1)) + 1 by omega]
    simp only [dig, List.cons_append, List.nil_append]
    rw [show s - 1 - i = s - (i + 1) by omega]
theorem top_full (s n : Nat) : top s n s = dig s n := by
  have := top_dig s n s (Nat.le_refl _)
  simpa [dig] using this
/-- The number that bytes say. -/
def num (l : List UInt8) : Nat := l.foldl (fun n x => n * 256 + x.toNat) 0
theorem num_snoc (l : List UInt8) (x : UInt8) : num (l ++ [x]) = num l * 256 + x.toNat := by simp [num]
theorem num_lt (l : List UInt8) : num l < 256 ^ l.length := by
  suffices ∀ (l : List UInt8) (m k : Nat), m < 256 ^ k → l.foldl (fun n x => n * 256 + x.toNat) m < 256 ^ (k + l.length) from by
    have := this l 0 0 (by omega); rwa [Nat.zero_add] at this
  intro l
  induction l with
  | nil => intro m k h; exact h
  | cons x l ih =>
    intro m k h
    have hx := x.toNat_lt
    have := ih (m * 256 + x.toNat) (k + 1) (by rw [Nat.pow_succ]; omega)
    simp only [List.foldl_cons, List.length_cons]
    rwa [show k + (l.length + 1) = k + 1 + l.length by omega]
theorem dig_num (l : List UInt8) : dig l.length (num l) = l := by
  suffices ∀ (l : List UInt8) (m : Nat), dig l.length (l.foldl (fun n x => n * 256 + x.toNat) m) = l from this l 0
  intro l
  induction l with
  | nil => intro m; rfl
  | cons x l ih =>
    intro m
    simp only [List.length_cons, List.foldl_cons, dig]
    congr 1
    · have key : ∀ (l : List UInt8) (m : Nat), l.foldl (fun n x => n * 256 + x.toNat) m / 256 ^ l.length = m := by
        intro l
        induction l with
        | nil => intro m; simp
        | cons y l ih2 =>
          intro m
          have hy := y.toNat_lt
          simp only [List.foldl_cons, List.length_cons]
          rw [Nat.pow_succ, ← Nat.div_div_eq_div_mul, ih2]
          omega
      rw [key]
      apply UInt8.toNat_inj.1
      have := x.toNat_lt
      simp only [UInt8.toNat_ofNat']
      omega
    · exact ih _
end Go.Proofs.YtfgpmccmalddjaaDoor.Pt
namespace Go.Proofs.YtfgpmccmalddjaaDoor
theorem num_small (l : List UInt8) (k : Nat) (h : k ≤ 4) : Pt.num (l.take k) < 4294967296 := by
  have h1 := Pt.num_lt (l.take k)
  have h2 : 256 ^ (l.take k).length ≤ 256 ^ 4 := Nat.pow_le_pow_right (by omega) (by simp; omega)
  omega
theorem num_take (l : List UInt8) (k : Nat) (h : k < l.length) : Pt.num (l.take (k + 1)) = Pt.num (l.take k) * 256 + gb l k := by
  rw [take_succ_getD l k h, Pt.num_snoc]; rfl
end Go.Proofs.YtfgpmccmalddjaaDoor
end

section
namespace Go.Proofs.YtfgpmccmalddjaaDoor
open Go.RowKit

theorem isSize_yes (n : Int) (w : World) (h1 : 1 ≤ n) (h2 : n ≤ 4) : Calls Tryd.prog 61 #[.int .i64 n] w fun e w' => e = .returned (.bool true) ∧ w = w' := by
  have d1 : decide (1 ≤ n) = true := by simpa using h1
  have d2 : decide (n ≤ 4) = true := by simpa using h2
  go_enter Tryd.func61, Tryd.ntmps61
  go_wp2
  go_ret
  exact ⟨rfl, rfl⟩
theorem isSize_no (n : Int) (w : World) (h : n < 1 ∨ 4 < n) : Calls Tryd.prog 61 #[.int .i64 n] w fun e w' => e = .returned (.bool false) ∧ w = w' := by
  by_cases h1 : 1 ≤ n
  · have d1 : decide (1 ≤ n) = true := by simpa using h1
    have d2 : decide (n ≤ 4) = false := by simp; omega
    clear h
    go_enter Tryd.func61, Tryd.ntmps61
    go_wp2
    go_ret
    exact ⟨rfl, rfl⟩
  · have d1 : decide (1 ≤ n) = false := by simpa using h1
    clear h
    go_enter Tryd.func61, Tryd.ntmps61
    go_wp2
    go_ret
    exact ⟨rfl, rfl⟩

theorem put_form (a : Option Addr) (len cap : Nat) (size n : Int) (w : World) (h : size < 1 ∨ 4 < size) :
    Calls Tryd.prog 37 #[.slice a len cap, .int .i64 size, .int .i64 n] w fun e w' => e = .returned (.tuple #[.slice none 0 0, .iface 39 (.int .i64 6)]) ∧ w = w' := by
  have H := Lib.hid h
  clear h
  go_enter Tryd.func37, Tryd.ntmps37
  go_wp2_with fail
  refine (isSize_no _ _ H.out).mono ?_
  rintro e w' ⟨rfl, rfl⟩
  go_wp2
  go_ret2
  exact ⟨rfl, rfl⟩

theorem put_range (a : Option Addr) (len cap : Nat) (size n : Int) (w : World) (h : size = 1 ∨ size = 2 ∨ size = 3 ∨ size = 4) (hn : n < 0 ∨ 2 ^ (8 * size).toNat ≤ n) :
    Calls Tryd.prog 37 #[.slice a len cap, .int .i64 size, .int .i64 n] w fun e w' => e = .returned (.tuple #[.slice none 0 0, .iface 39 (.int .i64 7)]) ∧ w = w' := by
  rcases h with rfl | rfl | rfl | rfl
  all_goals
    simp at hn
    by_cases h0 : n < 0
    · have d0 : decide (n < 0) = true := by simpa using h0
      clear hn h0
      go_enter Tryd.func37, Tryd.ntmps37
      go_wp2_with fail
      refine (isSize_yes _ _ (by omega) (by omega)).mono ?_
      rintro e w' ⟨rfl, rfl⟩
      go_wp2
      go_ret2
      exact ⟨rfl, rfl⟩
    · have d0 : decide (n < 0) = false := by simpa using h0
      have hn' := hn.resolve_left h0
      have d1 := decide_eq_true hn'
      clear hn hn' h0
      go_enter Tryd.func37, Tryd.ntmps37
      go_wp2_with fail
      refine (isSize_yes _ _ (by omega) (by omega)).mono ?_
      rintro e w' ⟨rfl, rfl⟩
      go_wp2
      go_ret2
      exact ⟨rfl, rfl⟩

def PutPost (w : World) (len s n : Nat) (l : List UInt8) (e : Ending) (w' : World) : Prop :=
  ∃ g, e = .returned (.tuple #[.slice (some ⟨g, 0, none⟩) (len + s) (len + s), .nilIface]) ∧ w'.ownsRow w.heap.size 5 1 (.slice (some ⟨g, 0, none⟩) (len + s) (len + s)) (len + s) (bvs (l ++ Pt.dig s n)) ∧ Below w.heap.size w w'

set_option maxHeartbeats 1000000 in
theorem put_ok (a : Option Addr) (len cap : Nat) (l : List UInt8) (s n : Nat) (w : World) (h : Bs w a len cap l) (hr : len ≤ 140737488355328) (hs : s = 1 ∨ s = 2 ∨ s = 3 ∨ s = 4) (hn : n < 256 ^ s) :
    Calls Tryd.prog 37 #[.slice a len cap, .int .i64 s, .int .i64 n] w (PutPost w len s n l) := by
  have hc := h.hcap
  have hle := h.hle
  have HL := Lib.hid h.hlen
  have d0 : decide ((n : Int) < 0) = false := by simp
  rcases hs with rfl | rfl | rfl | rfl
  · simp at hn
    have d1 : decide ((256 : Int) ≤ (n : Int)) = false := by simp; omega
    have HN := Lib.hid hn
    clear hn
    go_enter Tryd.func37, Tryd.ntmps37
    go_wp2_with fail
    refine (isSize_yes _ _ (by omega) (by omega)).mono ?_
    rintro e w' ⟨rfl, rfl⟩
    go_wp2_with (at_make; refine wpl_make tyB rfl _ _ rfl w.heap.size .i64 .i64 _ (len + 1) rfl rfl (by omega) (by omega) (by omega) (Nat.le_refl _) ?_)
    intro w1 hown1 hg1
    have hb1 : Below w.heap.size w w1 := (Below.refl _ _).grown hg1 (Nat.le_refl _) (by simp)
    have hz1 := hb1.size
    have hs1 := (h.mono hb1).src
    go_wp2_with (at_builtin; refine wpl_fits tyB rfl _ _ rfl hown1 hs1 rfl rfl (by omega) ?_)
    intro w2 hown2 hg2
    have hb2 : Below w.heap.size w w2 := hb1.grown hg2 hz1 (by simp)
    have H2 := Lib.hid hown2
    clear hs1 hown1 hown2 hg1 hg2 hz1 hb1
    go_wp2
    go_loopw [8, 33] (fun v i wr => ∃ k : Nat, k ≤ 1 ∧ i = .int .i64 k ∧ v = .slice (some ⟨w.heap.size, 0, none⟩) (len + k) (len + 1) ∧ Below w.heap.size w wr ∧ Hid (wr.ownsRow w.heap.size 5 1 (.slice (some ⟨w.heap.size, 0, none⟩) (len + k) (len + 1)) (len + k) (bvs (l ++ Pt.top 1 n k)))) (fun _ i _ => 1 - (intOf i).toNat)
    case atStart => exact ⟨0, by omega, rfl, rfl, hb2, by simpa [Pt.top] using H2⟩
    case round =>
      obtain ⟨k, hk, rfl, rfl, hb3, H3⟩ := hrel
      have hz3 := hb3.size
      rcases (show k = 0 ∨ k = 1 by omega) with rfl | rfl
      · have hx : (n : Int) % 256 = ((UInt8.ofNat (n / 256 ^ (1 - 1 - 0))).toNat : Int) := by simp only [UInt8.toNat_ofNat', Nat.reducePow, Nat.reduceSub]; omega
        have HX := Lib.hid hx
        clear hx
        have hsrc : SrcRow (wr.alloc (.cells #[Value.int .u8 ((n : Int) % 256)] 5)) (some ⟨wr.heap.size, 0, none⟩) 1 1 (bvs [UInt8.ofNat (n / 256 ^ (1 - 1 - 0))]) 1 := by
          rw [HX.out]; exact src_new wr #[Value.int .u8 ((UInt8.ofNat (n / 256 ^ (1 - 1 - 0))).toNat : Int)] 5 1 1 1 rfl (bvs_one [UInt8.ofNat (n / 256 ^ (1 - 1 - 0))])
        have H4 := Lib.hid (H3.out.alloc (.cells #[Value.int .u8 ((n : Int) % 256)] 5))
        go_wp2_with (at_builtin; refine wpl_fits tyB rfl _ _ rfl H4.out hsrc rfl rfl (by omega) ?_)
        intro w4 hown4 hg4
        have hb4 : Below w.heap.size w w4 := (hb3.alloc hz3 _).grown hg4 (by simp; omega) (by simp)
        have H5 : Hid (w4.ownsRow w.heap.size 5 1 (.slice (some ⟨w.heap.size, 0, none⟩) (len + 1) (len + 1)) (len + 1) (bvs (l ++ Pt.top 1 n 1))) := Lib.hid (by
          rw [Pt.top, ← List.append_assoc, bvs_append, show n / 256 ^ (1 - 1 - 0) = n by simp]; exact hown4)
        clear hown4 hg4 H4 hsrc HX H3 hb3
        go_wp2
        go_roundw
        case rel => exact ⟨1, by omega, rfl, rfl, hb4, H5⟩
        case measure => simp [intOf]
      · go_wp2
        go_ret2
        exact ⟨w.heap.size, rfl, by have := H3.out; rwa [Pt.top_full] at this, hb3⟩
  · simp at hn
    have d1 : decide ((65536 : Int) ≤ (n : Int)) = false := by simp; omega
    have HN := Lib.hid hn
    clear hn
    go_enter Tryd.func37, Tryd.ntmps37
    go_wp2_with fail
    refine (isSize_yes _ _ (by omega) (by omega)).mono ?_
    rintro e w' ⟨rfl, rfl⟩
    go_wp2_with (at_make; refine wpl_make tyB rfl _ _ rfl w.heap.size .i64 .i64 _ (len + 2) rfl rfl (by omega) (by omega) (by omega) (Nat.le_refl _) ?_)
    intro w1 hown1 hg1
    have hb1 : Below w.heap.size w w1 := (Below.refl _ _).grown hg1 (Nat.le_refl _) (by simp)
    have hz1 := hb1.size
    have hs1 := (h.mono hb1).src
    go_wp2_with (at_builtin; refine wpl_fits tyB rfl _ _ rfl hown1 hs1 rfl rfl (by omega) ?_)
    intro w2 hown2 hg2
    have hb2 : Below w.heap.size w w2 := hb1.grown hg2 hz1 (by simp)
    have H2 := Lib.hid hown2
    clear hs1 hown1 hown2 hg1 hg2 hz1 hb1
    go_wp2
    go_loopw [8, 33] (fun v i wr => ∃ k : Nat, k ≤ 2 ∧ i = .int .i64 k ∧ v = .slice (some ⟨w.heap.size, 0, none⟩) (len + k) (len + 2) ∧ Below w.heap.size w wr ∧ Hid (wr.ownsRow w.heap.size 5 1 (.slice (some ⟨w.heap.size, 0, none⟩) (len + k) (len + 2)) (len + k) (bvs (l ++ Pt.top 2 n k)))) (fun _ i _ => 2 - (intOf i).toNat)
    case atStart => exact ⟨0, by omega, rfl, rfl, hb2, by simpa [Pt.top] using H2⟩
    case round =>
      obtain ⟨k, hk, rfl, rfl, hb3, H3⟩ := hrel
      have hz3 := hb3.size
      rcases (show k = 0 ∨ k = 1 ∨ k = 2 by omega) with rfl | rfl | rfl
      · have hx : (n : Int) / 256 % 256 = ((UInt8.ofNat (n / 256 ^ (2 - 1 - 0))).toNat : Int) := by simp only [UInt8.toNat_ofNat', Nat.reducePow, Nat.reduceSub]; omega
        have HX := Lib.hid hx
        clear hx
        have hsrc : SrcRow (wr.alloc (.cells #[Value.int .u8 ((n : Int) / 256 % 256)] 5)) (some ⟨wr.heap.size, 0, none⟩) 1 1 (bvs [UInt8.ofNat (n / 256 ^ (2 - 1 - 0))]) 1 := by
          rw [HX.out]; exact src_new wr #[Value.int .u8 ((UInt8.ofNat (n / 256 ^ (2 - 1 - 0))).toNat : Int)] 5 1 1 1 rfl (bvs_one [UInt8.ofNat (n / 256 ^ (2 - 1 - 0))])
        have H4 := Lib.hid (H3.out.alloc (.cells #[Value.int .u8 ((n : Int) / 256 % 256)] 5))
        go_wp2_with (at_builtin; refine wpl_fits tyB rfl _ _ rfl H4.out hsrc rfl rfl (by omega) ?_)
        intro w4 hown4 hg4
        have hb4 : Below w.heap.size w w4 := (hb3.alloc hz3 _).grown hg4 (by simp; omega) (by simp)
        have H5 : Hid (w4.ownsRow w.heap.size 5 1 (.slice (some ⟨w.heap.size, 0, none⟩) (len + 1) (len + 2)) (len + 1) (bvs (l ++ Pt.top 2 n 1))) := Lib.hid (by
          rw [Pt.top, ← List.append_assoc, bvs_append]; exact hown4)
        clear hown4 hg4 H4 hsrc HX H3 hb3
        go_wp2
        go_roundw
        case rel => exact ⟨1, by omega, rfl, rfl, hb4, H5⟩
        case measure => simp [intOf]
      · have hx : (n : Int) % 256 = ((UInt8.ofNat (n / 256 ^ (2 - 1 - 1))).toNat : Int) := by simp only [UInt8.toNat_ofNat', Nat.reducePow, Nat.reduceSub]; omega
        have HX := Lib.hid hx
        clear hx
        have hsrc : SrcRow (wr.alloc (.cells #[Value.int .u8 ((n : Int) % 256)] 5)) (some ⟨wr.heap.size, 0, none⟩) 1 1 (bvs [UInt8.ofNat (n / 256 ^ (2 - 1 - 1))]) 1 := by
          rw [HX.out]; exact src_new wr #[Value.int .u8 ((UInt8.ofNat (n / 256 ^ (2 - 1 - 1))).toNat : Int)] 5 1 1 1 rfl (bvs_one [UInt8.ofNat (n / 256 ^ (2 - 1 - 1))])
        have H4 := Lib.hid (H3.out.alloc (.cells #[Value.int .u8 ((n : Int) % 256)] 5))
        go_wp2_with (at_builtin; refine wpl_fits tyB rfl _ _ rfl H4.out hsrc rfl rfl (by omega) ?_)
        intro w4 hown4 hg4
        have hb4 : Below w.heap.size w w4 := (hb3.alloc hz3 _).grown hg4 (by simp; omega) (by simp)
        have H5 : Hid (w4.ownsRow w.heap.size 5 1 (.slice (some ⟨w.heap.size, 0, none⟩) (len + 2) (len + 2)) (len + 2) (bvs (l ++ Pt.top 2 n 2))) := Lib.hid (by
          rw [Pt.top, ← List.append_assoc, bvs_append, show n / 256 ^ (2 - 1 - 1) = n by simp]; exact hown4)
        clear hown4 hg4 H4 hsrc HX H3 hb3
        go_wp2
        go_roundw
        case rel => exact ⟨2, by omega, rfl, rfl, hb4, H5⟩
        case measure => simp [intOf]
      · go_wp2
        go_ret2
        exact ⟨w.heap.size, rfl, by have := H3.out; rwa [Pt.top_full] at this, hb3⟩
  · simp at hn
    have d1 : decide ((16777216 : Int) ≤ (n : Int)) = false := by simp; omega
    have HN := Lib.hid hn
    clear hn
    go_enter Tryd.func37, Tryd.ntmps37
    go_wp2_with fail
    refine (isSize_yes _ _ (by omega) (by omega)).mono ?_
    rintro e w' ⟨rfl, rfl⟩
    go_wp2_with (at_make; refine wpl_make tyB rfl _ _ rfl w.heap.size .i64 .i64 _ (len + 3) rfl rfl (by omega) (by omega) (by omega) (Nat.le_refl _) ?_)
    intro w1 hown1 hg1
    have hb1 : Below w.heap.size w w1 := (Below.refl _ _).grown hg1 (Nat.le_refl _) (by simp)
    have hz1 := hb1.size
    have hs1 := (h.mono hb1).src
    go_wp2_with (at_builtin; refine wpl_fits tyB rfl _ _ rfl hown1 hs1 rfl rfl (by omega) ?_)
    intro w2 hown2 hg2
    have hb2 : Below w.heap.size w w2 := hb1.grown hg2 hz1 (by simp)
    have H2 := Lib.hid hown2
    clear hs1 hown1 hown2 hg1 hg2 hz1 hb1
    go_wp2
    go_loopw [8, 33] (fun v i wr => ∃ k : Nat, k ≤ 3 ∧ i = .int .i64 k ∧ v = .slice (some ⟨w.heap.size, 0, none⟩) (len + k) (len + 3) ∧ Below w.heap.size w wr ∧ Hid (wr.ownsRow w.heap.size 5 1 (.slice (some ⟨w.heap.size, 0, none⟩) (len + k) (len + 3)) (len + k) (bvs (l ++ Pt.top 3 n k)))) (fun _ i _ => 3 - (intOf i).toNat)
    case atStart => exact ⟨0, by omega, rfl, rfl, hb2, by simpa [Pt.top] using H2⟩
    case round =>
      obtain ⟨k, hk, rfl, rfl, hb3, H3⟩ := hrel
      have hz3 := hb3.size
      rcases (show k = 0 ∨ k = 1 ∨ k = 2 ∨ k = 3 by omega) with rfl | rfl | rfl | rfl
      · have hx : (n : Int) / 65536 % 256 = ((UInt8.ofNat (n / 256 ^ (3 - 1 - 0))).toNat : Int) := by simp only [UInt8.toNat_ofNat', Nat.reducePow, Nat.reduceSub]; omega
        have HX := Lib.hid hx
        clear hx
        have hsrc : SrcRow (wr.alloc (.cells #[Value.int .u8 ((n : Int) / 65536 % 256)] 5)) (some ⟨wr.heap.size, 0, none⟩) 1 1 (bvs [UInt8.ofNat (n / 256 ^ (3 - 1 - 0))]) 1 := by
          rw [HX.out]; exact src_new wr #[Value.int .u8 ((UInt8.ofNat (n / 256 ^ (3 - 1 - 0))).toNat : Int)] 5 1 1 1 rfl (bvs_one [UInt8.ofNat (n / 256 ^ (3 - 1 - 0))])
        have H4 := Lib.hid (H3.out.alloc (.cells #[Value.int .u8 ((n : Int) / 65536 % 256)] 5))
        go_wp2_with (at_builtin; refine wpl_fits tyB rfl _ _ rfl H4.out hsrc rfl rfl (by omega) ?_)
        intro w4 hown4 hg4
        have hb4 : Below w.heap.size w w4 := (hb3.alloc hz3 _).grown hg4 (by simp; omega) (by simp)
        have H5 : Hid (w4.ownsRow w.heap.size 5 1 (.slice (some ⟨w.heap.size, 0, none⟩) (len + 1) (len + 3)) (len + 1) (bvs (l ++ Pt.top 3 n 1))) := Lib.hid (by
          rw [Pt.top, ← List.append_assoc, bvs_append]; exact hown4)
        clear hown4 hg4 H4 hsrc HX H3 hb3
        go_wp2
        go_roundw
        case rel => exact ⟨1, by omega, rfl, rfl, hb4, H5⟩
        case measure => simp [intOf]
      · have hx : (n : Int) / 256 % 256 = ((UInt8.ofNat (n / 256 ^ (3 - 1 - 1))).toNat : Int) := by simp only [UInt8.toNat_ofNat', Nat.reducePow, Nat.reduceSub]; omega
        have HX := Lib.hid hx
        clear hx
        have hsrc : SrcRow (wr.alloc (.cells #[Value.int .u8 ((n : Int) / 256 % 256)] 5)) (some ⟨wr.heap.size, 0, none⟩) 1 1 (bvs [UInt8.ofNat (n / 256 ^ (3 - 1 - 1))]) 1 := by
          rw [HX.out]; exact src_new wr #[Value.int .u8 ((UInt8.ofNat (n / 256 ^ (3 - 1 - 1))).toNat : Int)] 5 1 1 1 rfl (bvs_one [UInt8.ofNat (n / 256 ^ (3 - 1 - 1))])
        have H4 := Lib.hid (H3.out.alloc (.cells #[Value.int .u8 ((n : Int) / 256 % 256)] 5))
        go_wp2_with (at_builtin; refine wpl_fits tyB rfl _ _ rfl H4.out hsrc rfl rfl (by omega) ?_)
        intro w4 hown4 hg4
        have hb4 : Below w.heap.size w w4 := (hb3.alloc hz3 _).grown hg4 (by simp; omega) (by simp)
        have H5 : Hid (w4.ownsRow w.heap.size 5 1 (.slice (some ⟨w.heap.size, 0, none⟩) (len + 2) (len + 3)) (len + 2) (bvs (l ++ Pt.top 3 n 2))) := Lib.hid (by
          rw [Pt.top, ← List.append_assoc, bvs_append]; exact hown4)
        clear hown4 hg4 H4 hsrc HX H3 hb3
        go_wp2
        go_roundw
        case rel => exact ⟨2, by omega, rfl, rfl, hb4, H5⟩
        case measure => simp [intOf]
      · have hx : (n : Int) % 256 = ((UInt8.ofNat (n / 256 ^ (3 - 1 - 2))).toNat : Int) := by simp only [UInt8.toNat_ofNat', Nat.reducePow, Nat.reduceSub]; omega
        have HX := Lib.hid hx
        clear hx
        have hsrc : SrcRow (wr.alloc (.cells #[Value.int .u8 ((n : Int) % 256)] 5)) (some ⟨wr.heap.size, 0, none⟩) 1 1 (bvs [UInt8.ofNat (n / 256 ^ (3 - 1 - 2))]) 1 := by
          rw [HX.out]; exact src_new wr #[Value.int .u8 ((UInt8.ofNat (n / 256 ^ (3 - 1 - 2))).toNat : Int)] 5 1 1 1 rfl (bvs_one [UInt8.ofNat (n / 256 ^ (3 - 1 - 2))])
        have H4 := Lib.hid (H3.out.alloc (.cells #[Value.int .u8 ((n : Int) % 256)] 5))
        go_wp2_with (at_builtin; refine wpl_fits tyB rfl _ _ rfl H4.out hsrc rfl rfl (by omega) ?_)
        intro w4 hown4 hg4
        have hb4 : Below w.heap.size w w4 := (hb3.alloc hz3 _).grown hg4 (by simp; omega) (by simp)
        have H5 : Hid (w4.ownsRow w.heap.size 5 1 (.slice (some ⟨w.heap.size, 0, none⟩) (len + 3) (len + 3)) (len + 3) (bvs (l ++ Pt.top 3 n 3))) := Lib.hid (by
          rw [Pt.top, ← List.append_assoc, bvs_append, show n / 256 ^ (3 - 1 - 2) = n by simp]; exact hown4)
        clear hown4 hg4 H4 hsrc HX H3 hb3
        go_wp2
        go_roundw
        case rel => exact ⟨3, by omega, rfl, rfl, hb4, H5⟩
        case measure => simp [intOf]
      · go_wp2
        go_ret2
        exact ⟨w.heap.size, rfl, by have := H3.out; rwa [Pt.top_full] at this, hb3⟩
  · simp at hn
    have d1 : decide ((4294967296 : Int) ≤ (n : Int)) = false := by simp; omega
    have HN := Lib.hid hn
    clear hn
    go_enter Tryd.func37, Tryd.ntmps37
    go_wp2_with fail
    refine (isSize_yes _ _ (by omega) (by omega)).mono ?_
    rintro e w' ⟨rfl, rfl⟩
    go_wp2_with (at_make; refine wpl_make tyB rfl _ _ rfl w.heap.size .i64 .i64 _ (len + 4) rfl rfl (by omega) (by omega) (by omega) (Nat.le_refl _) ?_)
    intro w1 hown1 hg1
    have hb1 : Below w.heap.size w w1 := (Below.refl _ _).grown hg1 (Nat.le_refl _) (by simp)
    have hz1 := hb1.size
    have hs1 := (h.mono hb1).src
    go_wp2_with (at_builtin; refine wpl_fits tyB rfl _ _ rfl hown1 hs1 rfl rfl (by omega) ?_)
    intro w2 hown2 hg2
    have hb2 : Below w.heap.size w w2 := hb1.grown hg2 hz1 (by simp)
    have H2 := Lib.hid hown2
    clear hs1 hown1 hown2 hg1 hg2 hz1 hb1
    go_wp2
    go_loopw [8, 33] (fun v i wr => ∃ k : Nat, k ≤ 4 ∧ i = .int .i64 k ∧ v = .slice (some ⟨w.heap.size, 0, none⟩) (len + k) (len + 4) ∧ Below w.heap.size w wr ∧ Hid (wr.ownsRow w.heap.size 5 1 (.slice (some ⟨w.heap.size, 0, none⟩) (len + k) (len + 4)) (len + k) (bvs (l ++ Pt.top 4 n k)))) (fun _ i _ => 4 - (intOf i).toNat)
    case atStart => exact ⟨0, by omega, rfl, rfl, hb2, by simpa [Pt.top] using H2⟩
    case round =>
      obtain ⟨k, hk, rfl, rfl, hb3, H3⟩ := hrel
      have hz3 := hb3.size
      rcases (show k = 0 ∨ k = 1 ∨ k = 2 ∨ k = 3 ∨ k = 4 by omega) with rfl | rfl | rfl | rfl | rfl
      · have hx : (n : Int) / 16777216 % 256 = ((UInt8.ofNat (n / 256 ^ (4 - 1 - 0))).toNat : Int) := by simp only [UInt8.toNat_ofNat', Nat.reducePow, Nat.reduceSub]; omega
        have HX := Lib.hid hx
        clear hx
        have hsrc : SrcRow (wr.alloc (.cells #[Value.int .u8 ((n : Int) / 16777216 % 256)] 5)) (some ⟨wr.heap.size, 0, none⟩) 1 1 (bvs [UInt8.ofNat (n / 256 ^ (4 - 1 - 0))]) 1 := by
          rw [HX.out]; exact src_new wr #[Value.int .u8 ((UInt8.ofNat (n / 256 ^ (4 - 1 - 0))).toNat : Int)] 5 1 1 1 rfl (bvs_one [UInt8.ofNat (n / 256 ^ (4 - 1 - 0))])
        have H4 := Lib.hid (H3.out.alloc (.cells #[Value.int .u8 ((n : Int) / 16777216 % 256)] 5))
        go_wp2_with (at_builtin; refine wpl_fits tyB rfl _ _ rfl H4.out hsrc rfl rfl (by omega) ?_)
        intro w4 hown4 hg4
        have hb4 : Below w.heap.size w w4 := (hb3.alloc hz3 _).grown hg4 (by simp; omega) (by simp)
        have H5 : Hid (w4.ownsRow w.heap.size 5 1 (.slice (some ⟨w.heap.size, 0, none⟩) (len + 1) (len + 4)) (len + 1) (bvs (l ++ Pt.top 4 n 1))) := Lib.hid (by
          rw [Pt.top, ← List.append_assoc, bvs_append]; exact hown4)
        clear hown4 hg4 H4 hsrc HX H3 hb3
        go_wp2
        go_roundw
        case rel => exact ⟨1, by omega, rfl, rfl, hb4, H5⟩
        case measure => simp [intOf]
      · have hx : (n : Int) / 65536 % 256 = ((UInt8.ofNat (n / 256 ^ (4 - 1 - 1))).toNat : Int) := by simp only [UInt8.toNat_ofNat', Nat.reducePow, Nat.reduceSub]; omega
        have HX := Lib.hid hx
        clear hx
        have hsrc : SrcRow (wr.alloc (.cells #[Value.int .u8 ((n : Int) / 65536 % 256)] 5)) (some ⟨wr.heap.size, 0, none⟩) 1 1 (bvs [UInt8.ofNat (n / 256 ^ (4 - 1 - 1))]) 1 := by
          rw [HX.out]; exact src_new wr #[Value.int .u8 ((UInt8.ofNat (n / 256 ^ (4 - 1 - 1))).toNat : Int)] 5 1 1 1 rfl (bvs_one [UInt8.ofNat (n / 256 ^ (4 - 1 - 1))])
        have H4 := Lib.hid (H3.out.alloc (.cells #[Value.int .u8 ((n : Int) / 65536 % 256)] 5))
        go_wp2_with (at_builtin; refine wpl_fits tyB rfl _ _ rfl H4.out hsrc rfl rfl (by omega) ?_)
        intro w4 hown4 hg4
        have hb4 : Below w.heap.size w w4 := (hb3.alloc hz3 _).grown hg4 (by simp; omega) (by simp)
        have H5 : Hid (w4.ownsRow w.heap.size 5 1 (.slice (some ⟨w.heap.size, 0, none⟩) (len + 2) (len + 4)) (len + 2) (bvs (l ++ Pt.top 4 n 2))) := Lib.hid (by
          rw [Pt.top, ← List.append_assoc, bvs_append]; exact hown4)
        clear hown4 hg4 H4 hsrc HX H3 hb3
        go_wp2
        go_roundw
        case rel => exact ⟨2, by omega, rfl, rfl, hb4, H5⟩
        case measure => simp [intOf]
      · have hx : (n : Int) / 256 % 256 = ((UInt8.ofNat (n / 256 ^ (4 - 1 - 2))).toNat : Int) := by simp only [UInt8.toNat_ofNat', Nat.reducePow, Nat.reduceSub]; omega
        have HX := Lib.hid hx
        clear hx
        have hsrc : SrcRow (wr.alloc (.cells #[Value.int .u8 ((n : Int) / 256 % 256)] 5)) (some ⟨wr.heap.size, 0, none⟩) 1 1 (bvs [UInt8.ofNat (n / 256 ^ (4 - 1 - 2))]) 1 := by
          rw [HX.out]; exact src_new wr #[Value.int .u8 ((UInt8.ofNat (n / 256 ^ (4 - 1 - 2))).toNat : Int)] 5 1 1 1 rfl (bvs_one [UInt8.ofNat (n / 256 ^ (4 - 1 - 2))])
        have H4 := Lib.hid (H3.out.alloc (.cells #[Value.int .u8 ((n : Int) / 256 % 256)] 5))
        go_wp2_with (at_builtin; refine wpl_fits tyB rfl _ _ rfl H4.out hsrc rfl rfl (by omega) ?_)
        intro w4 hown4 hg4
        have hb4 : Below w.heap.size w w4 := (hb3.alloc hz3 _).grown hg4 (by simp; omega) (by simp)
        have H5 : Hid (w4.ownsRow w.heap.size 5 1 (.slice (some ⟨w.heap.size, 0, none⟩) (len + 3) (len + 4)) (len + 3) (bvs (l ++ Pt.top 4 n 3))) := Lib.hid (by
          rw [Pt.top, ← List.append_assoc, bvs_append]; exact hown4)
        clear hown4 hg4 H4 hsrc HX H3 hb3
        go_wp2
        go_roundw
        case rel => exact ⟨3, by omega, rfl, rfl, hb4, H5⟩
        case measure => simp [intOf]
      · have hx : (n : Int) % 256 = ((UInt8.ofNat (n / 256 ^ (4 - 1 - 3))).toNat : Int) := by simp only [UInt8.toNat_ofNat', Nat.reducePow, Nat.reduceSub]; omega
        have HX := Lib.hid hx
        clear hx
        have hsrc : SrcRow (wr.alloc (.cells #[Value.int .u8 ((n : Int) % 256)] 5)) (some ⟨wr.heap.size, 0, none⟩) 1 1 (bvs [UInt8.ofNat (n / 256 ^ (4 - 1 - 3))]) 1 := by
          rw [HX.out]; exact src_new wr #[Value.int .u8 ((UInt8.ofNat (n / 256 ^ (4 - 1 - 3))).toNat : Int)] 5 1 1 1 rfl (bvs_one [UInt8.ofNat (n / 256 ^ (4 - 1 - 3))])
        have H4 := Lib.hid (H3.out.alloc (.cells #[Value.int .u8 ((n : Int) % 256)] 5))
        go_wp2_with (at_builtin; refine wpl_fits tyB rfl _ _ rfl H4.out hsrc rfl rfl (by omega) ?_)
        intro w4 hown4 hg4
        have hb4 : Below w.heap.size w w4 := (hb3.alloc hz3 _).grown hg4 (by simp; omega) (by simp)
        have H5 : Hid (w4.ownsRow w.heap.size 5 1 (.slice (some ⟨w.heap.size, 0, none⟩) (len + 4) (len + 4)) (len + 4) (bvs (l ++ Pt.top 4 n 4))) := Lib.hid (by
          rw [Pt.top, ← List.append_assoc, bvs_append, show n / 256 ^ (4 - 1 - 3) = n by simp]; exact hown4)
        clear hown4 hg4 H4 hsrc HX H3 hb3
        go_wp2
        go_roundw
        case rel => exact ⟨4, by omega, rfl, rfl, hb4, H5⟩
        case measure => simp [intOf]
      · go_wp2
        go_ret2
        exact ⟨w.heap.size, rfl, by have := H3.out; rwa [Pt.top_full] at this, hb3⟩
end Go.Proofs.YtfgpmccmalddjaaDoor
end
