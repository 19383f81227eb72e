/- burnishnum.Same: its contract. burnishlaw06.alive: its contract. burnishnum.Is: its contract. -/
import Derived.Test.YtbohhdakbgnaeaaDoorZ16
set_option linter.unusedSimpArgs false
set_option linter.unusedVariables false
section
namespace Go.Proofs.YtbohhdakbgnaeaaDoor
open Go.RowKit

theorem same_any (a b : Option Addr) (len cap len' cap' : Nat) (l m : List UInt8) (w : World) (h : Bs w a len cap l) (h' : Bs w b len' cap' m) :
    Calls Tryd.prog 11 #[.slice a len cap, .slice b len' cap'] w fun e w' => e = .returned (.bool (l == m)) ∧ w = w' := by
  have c1 := conv_bs (P := Tryd.prog) h 22 9 5 Tryd.underlying22 Tryd.underlying5 Tryd.underlying9
  have c2 := conv_bs (P := Tryd.prog) h' 22 9 5 Tryd.underlying22 Tryd.underlying5 Tryd.underlying9
  clear h h'
  have HE : Hid (((str l).toList == (str m).toList) = (l == m)) := Lib.hid (by rw [str_list, str_list])
  go_enter Tryd.func11, Tryd.ntmps11
  go_wp2
  go_ret
  exact ⟨by show Ending.returned (.bool ((str l).toList == (str m).toList)) = _; rw [HE.out], rfl⟩

end Go.Proofs.YtbohhdakbgnaeaaDoor
end

section
namespace Go.Proofs.YtbohhdakbgnaeaaDoor
open Go.RowKit
attribute [local go_sem] Oper.semAt_some

theorem below_of_ch {w w' : World} (c : Ch w w' (fun _ => False)) : Below w.heap.size w w' := ⟨c.os, c.tape, c.output, c.size, fun k hk => c.block k hk (fun h => h)⟩
theorem bs_alloc (w : World) (l : List UInt8) (hl : l.length ≤ 1000000) (h0 : l ≠ []) : Bs (w.alloc (.cells (bvs l).toArray 5)) (some ⟨w.heap.size, 0, none⟩) l.length l.length l := by
  refine ⟨rfl, Nat.le_refl _, by omega, by omega, fun h => (by cases h), fun i hi => ⟨w.heap.size, 0, rfl, by simp, ?_⟩⟩
  rw [cell_of_row _ _ _ _ _ (0, 0) (heap_alloc_last w _), Nat.zero_add, List.getElem?_toArray]
  unfold bvs
  rw [List.getElem?_map, List.getElem?_eq_getElem hi]
  simp [gb, List.getD, List.getElem?_eq_getElem hi]
set_option maxRecDepth 100000 in
theorem alive_any (w : World) : Calls Tryd.prog 7 #[] w fun e w' => e = .returned (.bool true) ∧ Below w.heap.size w w' := by
  have hb := below_alloc w (.cells #[.int .u8 75, .int .u8 4, .int .u8 0] 5)
  have hbs := bs_alloc w [0x4b, 0x04, 0x00] (by decide) (by simp)
  have HU := Lib.hid (inflate_any _ _ 3 3 (unpack_any (ls := false) (most := 9) dyn0 mono_dyn0 _ 3 3 hbs (by decide) (by omega) (.inl ⟨fun _ _ _ => rfl, by rw [alive_val]; intro h; cases h⟩)))
  rw [alive_val] at HU
  have HB := Lib.hid hb
  clear hb hbs
  go_enter Tryd.func7, Tryd.ntmps7
  go_wp2_with fail
  refine HU.out.mono ?_
  rintro e w1 ⟨v, rfl, hown, hch⟩
  obtain ⟨av, cv, rfl, hb1⟩ := own_bs hown (by decide)
  have hb2 : Bs w1 av 1 cv [97] := hb1
  have c1 := conv_bs (P := Tryd.prog) hb2 22 9 5 Tryd.underlying22 Tryd.underlying5 Tryd.underlying9
  have e1 : (str [97]).toList = [97] := by decide +kernel
  have HF := Lib.hid (below_then HB.out (below_of_ch hch))
  clear hown hch hb1 hb2 HU HB
  go_wp2
  go_ret
  exact ⟨rfl, HF.out⟩
end Go.Proofs.YtbohhdakbgnaeaaDoor
end

section
namespace Go.Proofs.YtbohhdakbgnaeaaDoor
open Go.RowKit

theorem is_yes (n : Int) (h0 : (n == 0) = false) (w : World) : Calls Tryd.prog 12 #[.iface 35 (.int .i64 n), .int .i64 n] w fun e w' => e = .returned (.bool true) ∧ w = w' := by
  have H0 := Lib.hid h0
  clear h0
  go_enter Tryd.func12, Tryd.ntmps12
  go_wp2_with fail
  refine (num_err n H0.out _).mono ?_
  rintro e w' ⟨rfl, rfl⟩
  go_wp2
  go_ret
  exact ⟨by simp, rfl⟩
end Go.Proofs.YtbohhdakbgnaeaaDoor
end
