/- canon.NewBook: its contract. canon.NewBook: its contract, and where the book lies. -/
import Derived.Test.YtjjbgdmalefdlaaGreatDoorZ14
import Derived.Test.YtjjbgdmalefdlaaGreatDoorZ16
import Derived.Test.YtjjbgdmalefdlaaGreatDoorZ31
import Derived.Test.YtjjbgdmalefdlaaGreatDoorZ32
set_option linter.unusedSimpArgs false
set_option linter.unusedVariables false
section
namespace Go.Proofs.YtjjbgdmalefdlaaGreatDoor
open Go.RowKit

namespace Bk
/-- The numbers below k, then 0. -/
def upto (n k : Nat) : List Int := (List.range n).map fun i => if i < k then (i : Int) else 0
theorem upto_length (n k : Nat) : (upto n k).length = n := by simp [upto]
theorem upto_zero (n : Nat) : upto n 0 = List.replicate n 0 := by
  rw [List.eq_replicate_iff]
  refine ⟨upto_length _ _, fun b hb => ?_⟩
  simp only [upto, List.mem_map] at hb
  obtain ⟨i, _, rfl⟩ := hb
  simp
theorem upto_set (n k : Nat) : (upto n k).set k (k : Int) = upto n (k + 1) := by
  apply List.ext_getElem?
  intro i
  rw [List.getElem?_set, upto_length]
  by_cases hi : i < n
  · have e1 : ∀ m, (upto n m)[i]? = some (if i < m then (i : Int) else 0) := fun m => by simp [upto, List.getElem?_range hi]
    rw [e1, e1]
    by_cases h : k = i
    · subst h; rw [if_pos rfl, if_pos hi, if_pos (by omega)]
    · rw [if_neg h]
      by_cases h2 : i < k
      · rw [if_pos h2, if_pos (by omega)]
      · rw [if_neg h2, if_neg (by omega)]
  · have e1 : ∀ m, (upto n m)[i]? = none := fun m => by rw [List.getElem?_eq_none]; rw [upto_length]; omega
    rw [e1, e1]
    split
    · rw [if_neg (by omega)]
    · rfl
theorem upto_full (n : Nat) : upto n n = sy (List.range n) := by
  unfold upto sy
  apply List.map_congr_left
  intro i hi
  rw [if_pos (List.mem_range.1 hi)]
def BookPost (w : World) (l : List Int) (e : Ending) (w' : World) : Prop :=
  (Cn.freeB l = true ∧ ∃ g, e = .returned (.tuple #[.pointer (some ⟨g, 0, none⟩), .nilIface]) ∧ Book w' w'.heap.size g (rowsL l) (wsOf (seq (rowsL l) 17) l.length) ∧ Below w.heap.size w w' ∧ w.heap.size ≤ g) ∨
  (Cn.freeB l = false ∧ e = .returned (.tuple #[.pointer none, .iface 51 (.int .i64 6)]) ∧ Below w.heap.size w w')
set_option maxRecDepth 100000 in
theorem book_any (a : Option Addr) (len cap : Nat) (l : List Int) (w : World) (h : Is .i64 w a len cap l) (hr : len ≤ 140737488355328) :
    Calls Tryz.prog 98 #[.slice a len cap] w (BookPost w l) := by
  have HL := Lib.hid h.hlen
  have H := Lib.hid h
  clear h
  go_enter Tryz.func98, Tryz.ntmps98
  go_wp2_with fail
  refine (free_any a len cap l _ H.out hr).mono ?_
  rintro e w' ⟨rfl, rfl⟩
  cases hf : Cn.freeB l
  · have HF := Lib.hid hf
    clear hf
    simp only [Bool.false_eq_true, if_false]
    go_wp2
    go_ret2
    exact .inr ⟨HF.out, rfl, Below.refl _ _⟩
  · have HF := Lib.hid hf
    have hl5 : len ≤ 512 := by
      simp only [Cn.freeB, Cn.formB, Bool.and_eq_true, decide_eq_true_eq] at hf
      have := hf.1.1; rw [HL.out] at this; exact this
    clear hf
    simp only [if_true]
    go_wp2_with (at_make; refine wpl_make_full tyI rfl _ _ rfl w.heap.size .i64 .i64 _ _ len rfl rfl rfl rfl (by omega) (by omega) (Nat.le_refl _) ?_)
    intro w1 own1 hg1
    have hb1 : Below w.heap.size w w1 := (Below.refl _ _).grown hg1 (Nat.le_refl _) (by simp)
    have hz1 := hb1.size
    have own2 : w1.ownsRow w.heap.size 3 1 (.slice (some ⟨w.heap.size, 0, none⟩) len len) len (ivs (upto len 0)) := by rw [upto_zero]; have e := made_ints1 len; rw [Nat.mul_one] at e; rw [e] at own1; exact own1
    have HO := Lib.hid own2
    clear own1 own2 hg1
    generalize hq : w.heap.size = q at *
    have HQ := Lib.hid hq
    clear hq
    go_wp2
    go_loopw [21] (fun i wr => ∃ k : Nat, k ≤ len ∧ i = .int .i64 k ∧ Hid (wr.ownsRow q 3 1 (.slice (some ⟨q, 0, none⟩) len len) len (ivs (upto len k))) ∧ Hid (Below q w wr)) (fun i _ => len - (intOf i).toNat)
    case atStart => exact ⟨0, by omega, rfl, HO, Lib.hid hb1⟩
    case round =>
      obtain ⟨k, hk, rfl, HK, HB⟩ := hrel
      by_cases hlt : k < len
      · have c1 : ∃ z, wr.cell? ⟨q, k, none⟩ = some z := ⟨_, by rw [HK.out.cellAt k (by omega), ivs_get _ _ (by rw [upto_length]; exact hlt)]⟩
        obtain ⟨z, c1⟩ := c1
        have HS := Lib.hid (own_set HK.out k (k : Int))
        rw [upto_set] at HS
        have HB2 := Lib.hid (HB.out.setCell (p := ⟨q, k, none⟩) (Nat.le_refl _) (.int .i64 (k : Nat)))
        have f1 : wr.frozen? ⟨q, k, none⟩ = false := by
          rcases HK.out.2 with ⟨h1, _⟩ | ⟨g2, cap2, cur, h1, _, hg, _⟩
          · simp at h1
          · simp only [Value.slice.injEq, Option.some.injEq, Addr.mk.injEq, and_true, true_and] at h1
            obtain ⟨rfl, rfl⟩ := h1
            exact frozen_of_row _ _ _ _ _ hg
        go_wp2
        go_roundw
        case rel => exact ⟨k + 1, by omega, by go_num, HS, HB2⟩
        case measure => simp [intOf]; omega
      · obtain rfl : len = k := by omega
        rw [upto_full] at HK
        have hw : Wf (sy (List.range len)) := fun n hn => by
          simp only [sy, List.mem_map, List.mem_range] at hn
          obtain ⟨i, hi, rfl⟩ := hn
          simp only [Lit.wf, IntKind.min, IntKind.max, IntKind.signed, IntKind.bits, Bool.and_eq_true, decide_eq_true_eq, if_true]
          simp; omega
        have his := is_of_own HK.out hw 0 len len (by omega) (Nat.le_refl _)
        rw [List.drop_zero, List.take_of_length_le (by rw [sy_length, List.length_range]; exact Nat.le_refl _)] at his
        have HI := Lib.hid his
        have H2 := Lib.hid (H.out.mono (HB.out.mono (by rw [HQ.out]; exact Nat.le_refl _)))
        have hz : ∀ k, k < len → 0 ≤ l.getD k 0 ∧ l.getD k 0 ≤ 16 := fun k hk => by
          have h1 := HF.out
          simp only [Cn.freeB, Bool.and_eq_true] at h1
          exact Cn.form_mem l h1.1 _ (by have : k < l.length := by rw [HL.out]; exact hk
                                         simp [List.getD, List.getElem?_eq_getElem this])
        have HZ := Lib.hid hz
        clear hw his hz
        go_wp2_with fail
        refine (newBook_any _ len len (List.range len) a len cap l wr HI.out H2.out (by omega) (by omega) (fun s hs => List.mem_range.1 hs) HZ.out (by have := good_of l HF.out; unfold rowsL at this; rw [HL.out] at this; exact this)).mono ?_
        rintro e w5 ⟨g, fs, vs, wv, rfl, hfs, hnb, hb5⟩
        have hgq := hnb.hg
        have hbq := HB.out.size
        have HP : Hid (BookPost w l (.returned (.tuple #[.pointer (some ⟨g, 0, none⟩), .nilIface])) w5) := Lib.hid (by
          have e1 : rowsOf l (List.range len) = rowsL l := by unfold rowsL; rw [HL.out]
          rw [e1] at hfs hnb
          refine .inl ⟨HF.out, g, rfl, Book.of hnb hfs, ?_, ?_⟩
          · rw [HQ.out]; exact HB.out.trans (hb5.mono (by rw [← HQ.out]; exact hbq))
          · rw [HQ.out]; exact Nat.le_trans (by rw [← HQ.out]; exact hbq) hgq)
        clear hnb hfs hb5 hgq hbq
        go_wp2
        go_ret2
        exact HP.out
end Bk
end Go.Proofs.YtjjbgdmalefdlaaGreatDoor
end

section
namespace Go.Proofs.YtjjbgdmalefdlaaGreatDoor
open Go.RowKit

namespace Bk
def BookLow (w : World) (l : List Int) (e : Ending) (w' : World) : Prop :=
  (Cn.freeB l = true ∧ ∃ (g : Nat) (fs : Nat → Int) (vs : Nat → Value) (wv : Value), e = .returned (.tuple #[.pointer (some ⟨g, 0, none⟩), .nilIface]) ∧ (∀ n, n < 17 → fs n = (fst (rowsL l) n : Nat)) ∧ NB w' w.heap.size g fs vs wv (nx (rowsL l) 17 : Nat) (rowsL l) (wsOf (seq (rowsL l) 17) l.length) ∧ Below w.heap.size w w') ∨
  (Cn.freeB l = false ∧ e = .returned (.tuple #[.pointer none, .iface 51 (.int .i64 6)]) ∧ Below w.heap.size w w')
set_option maxRecDepth 100000 in
theorem book_low (a : Option Addr) (len cap : Nat) (l : List Int) (w : World) (h : Is .i64 w a len cap l) (hr : len ≤ 140737488355328) :
    Calls Tryz.prog 98 #[.slice a len cap] w (BookLow w l) := by
  have HL := Lib.hid h.hlen
  have H := Lib.hid h
  clear h
  go_enter Tryz.func98, Tryz.ntmps98
  go_wp2_with fail
  refine (free_any a len cap l _ H.out hr).mono ?_
  rintro e w' ⟨rfl, rfl⟩
  cases hf : Cn.freeB l
  · have HF := Lib.hid hf
    clear hf
    simp only [Bool.false_eq_true, if_false]
    go_wp2
    go_ret2
    exact .inr ⟨HF.out, rfl, Below.refl _ _⟩
  · have HF := Lib.hid hf
    have hl5 : len ≤ 512 := by
      simp only [Cn.freeB, Cn.formB, Bool.and_eq_true, decide_eq_true_eq] at hf
      have := hf.1.1; rw [HL.out] at this; exact this
    clear hf
    simp only [if_true]
    go_wp2_with (at_make; refine wpl_make_full tyI rfl _ _ rfl w.heap.size .i64 .i64 _ _ len rfl rfl rfl rfl (by omega) (by omega) (Nat.le_refl _) ?_)
    intro w1 own1 hg1
    have hb1 : Below w.heap.size w w1 := (Below.refl _ _).grown hg1 (Nat.le_refl _) (by simp)
    have hz1 := hb1.size
    have own2 : w1.ownsRow w.heap.size 3 1 (.slice (some ⟨w.heap.size, 0, none⟩) len len) len (ivs (upto len 0)) := by rw [upto_zero]; have e := made_ints1 len; rw [Nat.mul_one] at e; rw [e] at own1; exact own1
    have HO := Lib.hid own2
    clear own1 own2 hg1
    generalize hq : w.heap.size = q at *
    have HQ := Lib.hid hq
    clear hq
    go_wp2
    go_loopw [21] (fun i wr => ∃ k : Nat, k ≤ len ∧ i = .int .i64 k ∧ Hid (wr.ownsRow q 3 1 (.slice (some ⟨q, 0, none⟩) len len) len (ivs (upto len k))) ∧ Hid (Below q w wr)) (fun i _ => len - (intOf i).toNat)
    case atStart => exact ⟨0, by omega, rfl, HO, Lib.hid hb1⟩
    case round =>
      obtain ⟨k, hk, rfl, HK, HB⟩ := hrel
      by_cases hlt : k < len
      · have c1 : ∃ z, wr.cell? ⟨q, k, none⟩ = some z := ⟨_, by rw [HK.out.cellAt k (by omega), ivs_get _ _ (by rw [upto_length]; exact hlt)]⟩
        obtain ⟨z, c1⟩ := c1
        have HS := Lib.hid (own_set HK.out k (k : Int))
        rw [upto_set] at HS
        have HB2 := Lib.hid (HB.out.setCell (p := ⟨q, k, none⟩) (Nat.le_refl _) (.int .i64 (k : Nat)))
        have f1 : wr.frozen? ⟨q, k, none⟩ = false := by
          rcases HK.out.2 with ⟨h1, _⟩ | ⟨g2, cap2, cur, h1, _, hg, _⟩
          · simp at h1
          · simp only [Value.slice.injEq, Option.some.injEq, Addr.mk.injEq, and_true, true_and] at h1
            obtain ⟨rfl, rfl⟩ := h1
            exact frozen_of_row _ _ _ _ _ hg
        go_wp2
        go_roundw
        case rel => exact ⟨k + 1, by omega, by go_num, HS, HB2⟩
        case measure => simp [intOf]; omega
      · obtain rfl : len = k := by omega
        rw [upto_full] at HK
        have hw : Wf (sy (List.range len)) := fun n hn => by
          simp only [sy, List.mem_map, List.mem_range] at hn
          obtain ⟨i, hi, rfl⟩ := hn
          simp only [Lit.wf, IntKind.min, IntKind.max, IntKind.signed, IntKind.bits, Bool.and_eq_true, decide_eq_true_eq, if_true]
          simp; omega
        have his := is_of_own HK.out hw 0 len len (by omega) (Nat.le_refl _)
        rw [List.drop_zero, List.take_of_length_le (by rw [sy_length, List.length_range]; exact Nat.le_refl _)] at his
        have HI := Lib.hid his
        have H2 := Lib.hid (H.out.mono (HB.out.mono (by rw [HQ.out]; exact Nat.le_refl _)))
        have hz : ∀ k, k < len → 0 ≤ l.getD k 0 ∧ l.getD k 0 ≤ 16 := fun k hk => by
          have h1 := HF.out
          simp only [Cn.freeB, Bool.and_eq_true] at h1
          exact Cn.form_mem l h1.1 _ (by have : k < l.length := by rw [HL.out]; exact hk
                                         simp [List.getD, List.getElem?_eq_getElem this])
        have HZ := Lib.hid hz
        clear hw his hz
        go_wp2_with fail
        refine (newBook_any _ len len (List.range len) a len cap l wr HI.out H2.out (by omega) (by omega) (fun s hs => List.mem_range.1 hs) HZ.out (by have := good_of l HF.out; unfold rowsL at this; rw [HL.out] at this; exact this)).mono ?_
        rintro e w5 ⟨g, fs, vs, wv, rfl, hfs, hnb, hb5⟩
        have hgq := hnb.hg
        have hbq := HB.out.size
        have HP : Hid (BookLow w l (.returned (.tuple #[.pointer (some ⟨g, 0, none⟩), .nilIface])) w5) := Lib.hid (by
          have e1 : rowsOf l (List.range len) = rowsL l := by unfold rowsL; rw [HL.out]
          rw [e1] at hfs hnb
          refine .inl ⟨HF.out, g, fs, vs, wv, rfl, hfs, ?_, ?_⟩
          · rw [HQ.out]; exact hnb.base (by rw [← HQ.out]; exact hbq)
          · rw [HQ.out]; exact HB.out.trans (hb5.mono (by rw [← HQ.out]; exact hbq)))
        clear hnb hfs hb5 hgq hbq
        go_wp2
        go_ret2
        exact HP.out
end Bk
end Go.Proofs.YtjjbgdmalefdlaaGreatDoor
end
