/- sample.Depth: its contract. -/
import Derived.Test.YtkjdekaipphlpaaSmWiden
import Derived.Test.YtkjdekaipphlpaaIntsGet
import Derived.Test.YtkjdekaipphlpaaFront
namespace Go.Proofs.Ytkjdekaipphlpaa
open Go.RowKit

namespace Sm
theorem holds_take (l : List Int) (d k : Nat) (h : k < l.length) : holds (l.take (k + 1)) d = (holds (l.take k) d && fits (l.getD k 0) d) := by
  unfold holds
  rw [ints_snoc l k h, List.all_append]; simp
theorem holds_no (l : List Int) (d k : Nat) (h : k < l.length) (hn : fits (l.getD k 0) d = false) : holds l d = false := by
  have hm : l.getD k 0 ∈ l := by
    simp only [List.getD, List.getElem?_eq_getElem h]
    exact List.getElem_mem h
  unfold holds
  rw [List.all_eq_false]
  exact ⟨_, hm, by rw [hn]; simp⟩
theorem holds_any (a : Option Addr) (len cap : Nat) (l : List Int) (D q : Nat) (w : World) (hD : Dp D) (h : Is .i64 w a len cap l) (hlen : len ≤ 9223372036854775807) (hb : Boxed w q 22 (.slice a len cap)) :
    Calls Try.prog 40 #[.int .i64 D, .pointer (some ⟨q, 0, none⟩)] w fun e w' => e = .returned (.bool (holds l D)) ∧ w = w' := by
  have HL := Lib.hid h.hlen
  have H := Lib.hid h
  have c0 := hb.cell
  have HNV : Hid (∀ n w, Calls Try.prog 23 #[.int .i64 n, .int .i64 D] w fun e w' => e = .returned (if fits n D = true then .tuple #[.int .i64 (n / fac D), .bool true] else .tuple #[.int .i64 0, .bool false]) ∧ w = w') := Lib.hid (fun n w => by
    have := narrow_any n D w
    unfold narV at this
    simp only [dp_deep hD, true_and, Int.toNat_natCast] at this
    exact this)
  clear h hb hD
  go_enter Try.func40, Try.ntmps40
  go_wp2
  go_loop [10] (fun i => ∃ k : Nat, k ≤ len ∧ i = .int .i64 k ∧ Hid (holds (l.take k) D = true)) (fun i => len - (intOf i).toNat)
  case atStart => exact ⟨0, by omega, rfl, Lib.hid rfl⟩
  case round =>
    obtain ⟨k, hk, rfl, HK⟩ := hrel
    by_cases hlt : k < len
    · obtain ⟨b, off, rfl, hb, hcell⟩ := H.out.at' k hlt
      have hkl : k < l.length := by rw [HL.out]; exact hlt
      have HHT := Lib.hid (holds_take l D k hkl)
      have HHN := Lib.hid (fun h => holds_no l D k hkl h)
      have HNW := Lib.hid (HNV.out (l.getD k 0))
      clear hkl
      generalize l.getD k 0 = n at *
      by_cases hf : fits n D = true
      · have HN3 : Hid (∀ w, Calls Try.prog 23 #[.int .i64 n, .int .i64 D] w fun e w' => e = .returned (.tuple #[.int .i64 (n / fac D), .bool true]) ∧ w = w') := Lib.hid (fun w => by have := HNW.out w; rwa [if_pos hf] at this)
        have HK2 : Hid (holds (l.take (k + 1)) D = true) := Lib.hid (by rw [HHT.out, HK.out, hf]; rfl)
        clear hf
        go_wp2_with fail
        refine (HN3.out _).mono ?_
        rintro e w' ⟨rfl, rfl⟩
        go_wp2
        go_round
        case rel => exact ⟨k + 1, by omega, by go_num, HK2⟩
        case measure => simp [intOf]; omega
      · have hf2 : fits n D = false := by simpa using hf
        have HN3 : Hid (∀ w, Calls Try.prog 23 #[.int .i64 n, .int .i64 D] w fun e w' => e = .returned (.tuple #[.int .i64 0, .bool false]) ∧ w = w') := Lib.hid (fun w => by have := HNW.out w; rwa [if_neg hf] at this)
        have HF := Lib.hid (HHN.out hf2)
        clear hf hf2
        go_wp2_with fail
        refine (HN3.out _).mono ?_
        rintro e w' ⟨rfl, rfl⟩
        go_wp2
        go_ret
        exact ⟨by rw [HF.out]; rfl, rfl⟩
    · obtain rfl : len = k := by omega
      have HF : Hid (holds l D = true) := Lib.hid (by have := HK.out; rwa [List.take_of_length_le (by rw [HL.out]; exact Nat.le_refl _)] at this)
      go_wp2
      go_ret
      exact ⟨by rw [HF.out]; rfl, rfl⟩
set_option maxRecDepth 100000 in
theorem depth_any (a : Option Addr) (len cap : Nat) (l : List Int) (w : World) (h : Is .i64 w a len cap l) (hlen : len ≤ 9223372036854775807) :
    Calls Try.prog 25 #[.slice a len cap] w fun e w' => e = .returned (.int .i64 (dep l : Nat)) ∧ Below w.heap.size w w' := by
  have hb0 := below_alloc w (.cells #[.slice a len cap] 22)
  have hbx : Boxed (w.alloc (.cells #[.slice a len cap] 22)) w.heap.size 22 (.slice a len cap) := World.alloc_heap_new w _
  have HHD : Hid (∀ D, Dp D → Calls Try.prog 40 #[.int .i64 D, .pointer (some ⟨w.heap.size, 0, none⟩)] (w.alloc (.cells #[.slice a len cap] 22)) fun e w' => e = .returned (.bool (holds l D)) ∧ (w.alloc (.cells #[.slice a len cap] 22)) = w') := Lib.hid
    (fun D hD => holds_any a len cap l D w.heap.size _ hD (h.mono hb0) hlen hbx)
  have HB0 := Lib.hid hb0
  clear h hb0 hbx
  go_enter Try.func25, Try.ntmps25
  go_wp2
  revert HHD HB0
  generalize w.alloc (.cells #[.slice a len cap] 22) = w1
  intro HHD HB0
  go_loop [4] (fun x => ∃ D : Nat, x = .int .i64 D ∧ Hid (D = 1 ∨ (D = 2 ∧ holds l 1 = false) ∨ (D = 4 ∧ holds l 1 = false ∧ holds l 2 = false) ∨ (D = 8 ∧ holds l 1 = false ∧ holds l 2 = false ∧ holds l 4 = false) ∨ (D = 16 ∧ holds l 1 = false ∧ holds l 2 = false ∧ holds l 4 = false ∧ holds l 8 = false))) (fun x => 16 - (intOf x).toNat)
  case atStart => exact ⟨1, rfl, Lib.hid (.inl rfl)⟩
  case round =>
    obtain ⟨D, rfl, HD⟩ := hrel
    by_cases h16 : D = 16
    · have HV : Hid (dep l = 16) := Lib.hid (by
        rcases HD.out with h | ⟨h, _⟩ | ⟨h, _⟩ | ⟨h, _⟩ | ⟨_, h1, h2, h4, h8⟩
        · omega
        · omega
        · omega
        · omega
        · unfold dep; simp only [h1, h2, h4, h8]; rfl)
      subst h16
      go_wp2
      go_ret
      exact ⟨ret_int (by rw [HV.out]; rfl), HB0.out⟩
    · have hD : Dp D := by have := HD.out; unfold Dp; omega
      have hlt : D ≤ 8 := by have := HD.out; omega
      have HC := Lib.hid (HHD.out D hD)
      by_cases hh : holds l D = true
      · have HV : Hid (dep l = D) := Lib.hid (by
          rcases HD.out with rfl | ⟨rfl, h1⟩ | ⟨rfl, h1, h2⟩ | ⟨rfl, h1, h2, h4⟩ | ⟨h, _⟩
          · unfold dep; simp only [hh]; rfl
          · unfold dep; simp only [hh, h1]; rfl
          · unfold dep; simp only [hh, h1, h2]; rfl
          · unfold dep; simp only [hh, h1, h2, h4]; rfl
          · omega)
        rw [hh] at HC
        clear hh hD h16
        have d1 : decide ((D : Int) < 16) = true := by simp; omega
        have d2 : decide (D < 16) = true := by simp; omega
        go_wp2_with fail
        refine HC.out.mono ?_
        rintro e w' ⟨rfl, rfl⟩
        go_wp2
        go_ret
        exact ⟨ret_int (by rw [HV.out]), HB0.out⟩
      · have hh2 : holds l D = false := by simpa using hh
        have HN : Hid (2 * D = 1 ∨ (2 * D = 2 ∧ holds l 1 = false) ∨ (2 * D = 4 ∧ holds l 1 = false ∧ holds l 2 = false) ∨ (2 * D = 8 ∧ holds l 1 = false ∧ holds l 2 = false ∧ holds l 4 = false) ∨ (2 * D = 16 ∧ holds l 1 = false ∧ holds l 2 = false ∧ holds l 4 = false ∧ holds l 8 = false)) := Lib.hid (by
          rcases HD.out with rfl | ⟨rfl, h1⟩ | ⟨rfl, h1, h2⟩ | ⟨rfl, h1, h2, h4⟩ | ⟨h, _⟩
          · exact .inr (.inl ⟨rfl, hh2⟩)
          · exact .inr (.inr (.inl ⟨rfl, h1, hh2⟩))
          · exact .inr (.inr (.inr (.inl ⟨rfl, h1, h2, hh2⟩)))
          · exact .inr (.inr (.inr (.inr ⟨rfl, h1, h2, h4, hh2⟩)))
          · omega)
        rw [hh2] at HC
        have hD1 : 1 ≤ D := (dp_le hD).1
        clear hh hh2 hD h16
        have d1 : decide ((D : Int) < 16) = true := by simp; omega
        have d2 : decide (D < 16) = true := by simp; omega
        go_wp2_with fail
        refine HC.out.mono ?_
        rintro e w' ⟨rfl, rfl⟩
        go_wp2
        go_round
        case rel => exact ⟨2 * D, by go_num, HN⟩
        case measure => simp [intOf]; omega
end Sm
end Go.Proofs.Ytkjdekaipphlpaa
