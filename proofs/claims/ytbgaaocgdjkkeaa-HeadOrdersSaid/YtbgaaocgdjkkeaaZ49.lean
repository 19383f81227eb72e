/- burnishlaw13.alive: its contract. -/
import Derived.Test.YtbgaaocgdjkkeaaZ36
import Derived.Test.YtbgaaocgdjkkeaaZ48
set_option linter.unusedSimpArgs false
set_option linter.unusedVariables false
section
namespace Go.Proofs.Ytbgaaocgdjkkeaa
open Go.RowKit

namespace Hd
def exL : List Ck.C := [(Nm.IH, enc three), (Nm.ID, []), (Nm.IE, [])]
theorem ex_ord : ord exL = (0, three) := by
  have h : (ord exL).1 = 0 ∧ (ord exL).2.w = 3 ∧ (ord exL).2.h = 1 ∧ (ord exL).2.d = 2 ∧ (ord exL).2.c = 0 ∧ (ord exL).2.l = 0 := by decide +kernel
  generalize ord exL = x at h
  obtain ⟨n, a, b, c, d, e⟩ := x
  obtain ⟨h1, h2, h3, h4, h5, h6⟩ := h
  simp only at h1 h2 h3 h4 h5 h6
  rw [h1, h2, h3, h4, h5, h6]
  rfl
set_option maxRecDepth 100000 in
set_option maxHeartbeats 2000000 in
theorem alive13_any (w : World) : Calls Try.prog 9 #[] w fun e w' => e = .returned (.bool true) ∧ Below w.heap.size w w' := by
  have HRS : Hid (∀ W, Calls Try.prog 33 #[.agg #[.int .i64 3, .int .i64 1, .int .i64 2, .int .i64 0, .int .i64 0], .int .i64 3] W fun e w' => e = .returned (.int .i64 1) ∧ Below W.heap.size W w') := Lib.hid (fun W => by
    have := rowSize_any three 3 W
    rw [show row three 3 = 1 by decide] at this
    exact this)
  go_enter Try.func9, Try.ntmps9
  go_wp2_with fail
  refine (three_any _).mono ?_
  rintro e w1 ⟨rfl, hb1⟩
  go_wp2_with fail
  refine (refPut_any _).mono ?_
  rintro e w2 ⟨a2, c2, rfl, hs2, hb2⟩
  have HB2 := Lib.hid (below_then hb1 hb2)
  have hal := below_alloc w2 (.cells #[.string { data := #[73, 72, 68, 82] }, .slice a2 13 c2, .string { data := #[73, 68, 65, 84] }, .slice none 0 0, .string { data := #[73, 69, 78, 68] }, .slice none 0 0] 26)
  have hs2' := hs2.mono hal
  have hrow := heap_alloc_last w2 (.cells #[.string { data := #[73, 72, 68, 82] }, .slice a2 13 c2, .string { data := #[73, 68, 65, 84] }, .slice none 0 0, .string { data := #[73, 69, 78, 68] }, .slice none 0 0] 26)
  have hcs : Cs (w2.alloc (.cells #[.string { data := #[73, 72, 68, 82] }, .slice a2 13 c2, .string { data := #[73, 68, 65, 84] }, .slice none 0 0, .string { data := #[73, 69, 78, 68] }, .slice none 0 0] 26)) (some ⟨w2.heap.size, 0, none⟩) 3 3 [⟨Nm.IH, ⟨a2, 13, c2, enc three⟩⟩, ⟨Nm.ID, ⟨none, 0, 0, []⟩⟩, ⟨Nm.IE, ⟨none, 0, 0, []⟩⟩] := by
    refine ⟨rfl, Nat.le_refl _, fun h => by simp at h, fun i hi => ⟨w2.heap.size, 0, rfl, by simp, ?_⟩⟩
    rcases (show i = 0 ∨ i = 1 ∨ i = 2 by omega) with rfl | rfl | rfl
    · exact ⟨(cell_of_row _ _ 0 _ _ (0, 0) hrow).trans rfl, (cell_of_row _ _ 1 _ _ (0, 0) hrow).trans rfl, hs2'⟩
    · exact ⟨(cell_of_row _ _ 2 _ _ (0, 0) hrow).trans rfl, (cell_of_row _ _ 3 _ _ (0, 0) hrow).trans rfl, bs_nil _⟩
    · exact ⟨(cell_of_row _ _ 4 _ _ (0, 0) hrow).trans rfl, (cell_of_row _ _ 5 _ _ (0, 0) hrow).trans rfl, bs_nil _⟩
  have hor := order_any _ 3 3 _ _ hcs (by omega) (fun c hc => by
    simp only [List.mem_cons, List.not_mem_nil, or_false] at hc
    rcases hc with rfl | rfl | rfl <;> simp [Nm.IH, Nm.ID, Nm.IE]) (by show 8 + Ck.size exL ≤ 1048576; decide +kernel) (by omega)
  unfold OrPost at hor
  rw [show cps [⟨Nm.IH, ⟨a2, 13, c2, enc three⟩⟩, ⟨Nm.ID, ⟨none, 0, 0, []⟩⟩, ⟨Nm.IE, ⟨none, 0, 0, []⟩⟩] = exL from rfl, ex_ord] at hor
  have HO := Lib.hid hor
  have HB3 := Lib.hid (below_then HB2.out hal)
  clear hor hcs hrow hs2' hs2 hal hb1 hb2 HB2
  simp only [errV_zero, three, H.val] at HO
  go_wp2_with fail
  refine HO.out.mono ?_
  rintro e w3 ⟨rfl, hb3⟩
  have HX4 := Lib.hid (bx_drew (bx_new w3 three))
  have HB4 := Lib.hid ((below_then (below_then HB3.out hb3) (below_alloc w3 (.cells #[.int .i64 3, .int .i64 1, .int .i64 2, .int .i64 0, .int .i64 0] 29))).drew)
  clear hb3 HO HB3
  go_wp2_with fail
  refine wp_region_noPanic ?_
  refine region_RH (fun w' => Bx w' w3.heap.size three) (by kernel_rfl) ?_
  refine RH_take (i := 0) (v := ?_) rfl (by kernel_rfl) (by kernel_rfl) (by kernel_rfl) (fun _ _ _ h => h) HX4.out (by rfl) ?_ ?_
  rotate_left
  · (intro w' hw'; obtain ⟨j0, j1, j2, j3, j4⟩ := hw'.cells; simp only [three] at j0 j1 j2 j3 j4; first | (go_simp; done) | (go_simp; with_reducible rfl))
  try simp only [List.getElem_toArray, List.getElem_cons_zero, List.getElem_cons_succ, Act.put, List.setIfInBounds_toArray, List.set_cons_zero, List.set_cons_succ]
  refine RH_take (i := 1) (v := ?_) rfl (by kernel_rfl) (by kernel_rfl) (by kernel_rfl) (fun _ _ _ h => h) HX4.out (by rfl) ?_ ?_
  rotate_left
  · (intro w' hw'; obtain ⟨j0, j1, j2, j3, j4⟩ := hw'.cells; simp only [three] at j0 j1 j2 j3 j4; first | (go_simp; done) | (go_simp; with_reducible rfl))
  try simp only [List.getElem_toArray, List.getElem_cons_zero, List.getElem_cons_succ, Act.put, List.setIfInBounds_toArray, List.set_cons_zero, List.set_cons_succ]
  refine RH_take (i := 2) (v := ?_) rfl (by kernel_rfl) (by kernel_rfl) (by kernel_rfl) (fun _ _ _ h => h) HX4.out (by rfl) ?_ ?_
  rotate_left
  · (intro w' hw'; obtain ⟨j0, j1, j2, j3, j4⟩ := hw'.cells; simp only [three] at j0 j1 j2 j3 j4; first | (go_simp; done) | (go_simp; with_reducible rfl))
  try simp only [List.getElem_toArray, List.getElem_cons_zero, List.getElem_cons_succ, Act.put, List.setIfInBounds_toArray, List.set_cons_zero, List.set_cons_succ]
  refine RH_take (i := 3) (v := ?_) rfl (by kernel_rfl) (by kernel_rfl) (by kernel_rfl) (fun _ _ _ h => h) HX4.out (by rfl) ?_ ?_
  rotate_left
  · (intro w' hw'; obtain ⟨j0, j1, j2, j3, j4⟩ := hw'.cells; simp only [three] at j0 j1 j2 j3 j4; first | (go_simp; done) | (go_simp; with_reducible rfl))
  try simp only [List.getElem_toArray, List.getElem_cons_zero, List.getElem_cons_succ, Act.put, List.setIfInBounds_toArray, List.set_cons_zero, List.set_cons_succ]
  refine RH_step (i := 4) (by kernel_rfl) rfl (fun K hK => ?_)
  go_simp
  go_at_call 32
  refine (three_any _).mono ?_
  rintro e w5 ⟨rfl, hb5⟩
  have HX5 := Lib.hid (HX4.out.below hb5)
  have HB5 := Lib.hid (below_then HB4.out hb5)
  unfold three H.val
  clear hb5
  go_simp
  refine hK.out _ _ HX5.out ?_
  clear hK K
  try simp only [List.getElem_toArray, List.getElem_cons_zero, List.getElem_cons_succ, Act.put, List.setIfInBounds_toArray, List.set_cons_zero, List.set_cons_succ]
  refine RH_take (i := 5) (v := ?_) rfl (by kernel_rfl) (by kernel_rfl) (by kernel_rfl) (fun _ _ _ h => h) HX5.out (by rfl) ?_ ?_
  rotate_left
  · (intro w' hw'; obtain ⟨j0, j1, j2, j3, j4⟩ := hw'.cells; simp only [three] at j0 j1 j2 j3 j4; first | (go_simp; done) | (go_simp; with_reducible rfl))
  try simp only [List.getElem_toArray, List.getElem_cons_zero, List.getElem_cons_succ, Act.put, List.setIfInBounds_toArray, List.set_cons_zero, List.set_cons_succ]
  refine RH_take (i := 6) (v := ?_) rfl (by kernel_rfl) (by kernel_rfl) (by kernel_rfl) (fun _ _ _ h => h) HX5.out (by rfl) ?_ ?_
  rotate_left
  · (intro w' hw'; obtain ⟨j0, j1, j2, j3, j4⟩ := hw'.cells; simp only [three] at j0 j1 j2 j3 j4; first | (go_simp; done) | (go_simp; with_reducible rfl))
  try simp only [List.getElem_toArray, List.getElem_cons_zero, List.getElem_cons_succ, Act.put, List.setIfInBounds_toArray, List.set_cons_zero, List.set_cons_succ]
  refine RH_take (i := 7) (v := ?_) rfl (by kernel_rfl) (by kernel_rfl) (by kernel_rfl) (fun _ _ _ h => h) HX5.out (by rfl) ?_ ?_
  rotate_left
  · (intro w' hw'; obtain ⟨j0, j1, j2, j3, j4⟩ := hw'.cells; simp only [three] at j0 j1 j2 j3 j4; first | (go_simp; done) | (go_simp; with_reducible rfl))
  try simp only [List.getElem_toArray, List.getElem_cons_zero, List.getElem_cons_succ, Act.put, List.setIfInBounds_toArray, List.set_cons_zero, List.set_cons_succ]
  refine RH_take (i := 8) (v := ?_) rfl (by kernel_rfl) (by kernel_rfl) (by kernel_rfl) (fun _ _ _ h => h) HX5.out (by rfl) ?_ ?_
  rotate_left
  · (intro w' hw'; obtain ⟨j0, j1, j2, j3, j4⟩ := hw'.cells; simp only [three] at j0 j1 j2 j3 j4; first | (go_simp; done) | (go_simp; with_reducible rfl))
  try simp only [List.getElem_toArray, List.getElem_cons_zero, List.getElem_cons_succ, Act.put, List.setIfInBounds_toArray, List.set_cons_zero, List.set_cons_succ]
  refine RH_step (i := 9) (by kernel_rfl) rfl (fun K hK => ?_)
  go_simp
  go_at_call 33
  refine (HRS.out _).mono ?_
  rintro e w6 ⟨rfl, hb6⟩
  have HX6 := Lib.hid (HX5.out.below hb6)
  have HB6 := Lib.hid (below_then HB5.out hb6)
  clear hb6
  go_simp
  refine hK.out _ _ HX6.out ?_
  clear hK K
  try simp only [List.getElem_toArray, List.getElem_cons_zero, List.getElem_cons_succ, Act.put, List.setIfInBounds_toArray, List.set_cons_zero, List.set_cons_succ]
  refine RH_take (i := 10) (v := ?_) rfl (by kernel_rfl) (by kernel_rfl) (by kernel_rfl) (fun _ _ _ h => h) HX6.out (by rfl) ?_ ?_
  rotate_left
  · (intro w' hw'; obtain ⟨j0, j1, j2, j3, j4⟩ := hw'.cells; simp only [three] at j0 j1 j2 j3 j4; first | (go_simp; done) | (go_simp; with_reducible rfl))
  try simp only [List.getElem_toArray, List.getElem_cons_zero, List.getElem_cons_succ, Act.put, List.setIfInBounds_toArray, List.set_cons_zero, List.set_cons_succ]
  refine RH_take (i := 11) (v := ?_) rfl (by kernel_rfl) (by kernel_rfl) (by kernel_rfl) (fun _ _ _ h => h) HX6.out (by rfl) ?_ ?_
  rotate_left
  · (intro w' hw'; obtain ⟨j0, j1, j2, j3, j4⟩ := hw'.cells; simp only [three] at j0 j1 j2 j3 j4; first | (go_simp; done) | (go_simp; with_reducible rfl))
  try simp only [List.getElem_toArray, List.getElem_cons_zero, List.getElem_cons_succ, Act.put, List.setIfInBounds_toArray, List.set_cons_zero, List.set_cons_succ]
  refine RH_take (i := 12) (v := ?_) rfl (by kernel_rfl) (by kernel_rfl) (by kernel_rfl) (fun _ _ _ h => h) HX6.out (by rfl) ?_ ?_
  rotate_left
  · (intro w' hw'; obtain ⟨j0, j1, j2, j3, j4⟩ := hw'.cells; simp only [three] at j0 j1 j2 j3 j4; first | (go_simp; done) | (go_simp; with_reducible rfl))
  try simp only [List.getElem_toArray, List.getElem_cons_zero, List.getElem_cons_succ, Act.put, List.setIfInBounds_toArray, List.set_cons_zero, List.set_cons_succ]
  refine wpAnyH_done (by kernel_rfl) ?_ _
  refine NoPanic.normal ?_
  go_wp2
  go_ret
  exact ⟨rfl, HB6.out⟩
end Hd
end Go.Proofs.Ytbgaaocgdjkkeaa
end
