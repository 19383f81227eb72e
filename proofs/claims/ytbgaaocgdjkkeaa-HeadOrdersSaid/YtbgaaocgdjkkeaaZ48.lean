/- burnishref13.Put of the law's head: its contract. -/
import Derived.Test.YtbgaaocgdjkkeaaZ13
import Derived.Test.YtbgaaocgdjkkeaaZ42
import Derived.Test.YtbgaaocgdjkkeaaZ44
import Derived.Test.YtbgaaocgdjkkeaaZ47
set_option linter.unusedSimpArgs false
set_option linter.unusedVariables false
section
namespace Go.Proofs.Ytbgaaocgdjkkeaa
open Go.RowKit

namespace Hd
theorem enc_three : enc three = [0, 0, 0, 3] ++ [0, 0, 0, 1] ++ [2, 0, 0, 0, 0] := by decide
theorem numb (n : Nat) (hn : n < 256) (w : World) : Calls Try.prog 54 #[.int .i64 4, .int .i64 (n : Nat)] w fun e w' => ∃ v, e = .returned (.tuple #[v, .int .i64 0]) ∧ w'.ownsRow w.heap.size 5 1 v 4 (bvs [0, 0, 0, UInt8.ofNat n]) ∧ Below w.heap.size w w' := by
  refine (number_nat 4 n w (by omega) (by omega) (by omega)).mono ?_
  rintro e w' ⟨hb, h | ⟨_, v, rfl, ho⟩⟩
  · have := h.1; simp at this; omega
  · refine ⟨v, rfl, ?_, hb⟩
    have e1 : n / 16777216 = 0 := by omega
    have e2 : n / 65536 = 0 := by omega
    have e3 : n / 256 = 0 := by omega
    have e : Pt.dig 4 n = [0, 0, 0, UInt8.ofNat n] := by simp [Pt.dig, e1, e2, e3]
    rwa [e] at ho
set_option maxRecDepth 100000 in
set_option maxHeartbeats 2000000 in
theorem refPut_any (w : World) : Calls Try.prog 31 #[three.val] w fun e w' => ∃ a cap, e = .returned (.slice a 13 cap) ∧ Bs w' a 13 cap (enc three) ∧ Below w.heap.size w w' := by
  have HBX := Lib.hid (bx_new w three)
  have HAL := Lib.hid (below_alloc w (.cells #[.int .i64 3, .int .i64 1, .int .i64 2, .int .i64 0, .int .i64 0] 29))
  have HN3 := Lib.hid (fun w => numb 3 (by omega) w)
  have HN1 := Lib.hid (fun w => numb 1 (by omega) w)
  rw [enc_three]
  unfold H.val three
  go_enter Try.func31, Try.ntmps31
  go_wp2_with fail
  refine (HN3.out _).mono ?_
  rintro e w2 ⟨v2, rfl, own2, hb2⟩
  have HX2 := Lib.hid (HBX.out.below hb2)
  have HB2 := Lib.hid (below_then HAL.out hb2)
  have HO2 := Lib.hid own2
  have hg2 : ∀ k, v2.ownBlock = some k → w.heap.size + 1 ≤ k := fun k hk => by have := (own2.lt k hk).1; simp at this; omega
  have HG2 := Lib.hid hg2
  obtain ⟨c0, c1, c2, c3, c4⟩ := HX2.out.cells
  simp only [three] at c0 c1 c2 c3 c4
  clear hb2 own2 hg2 HBX HAL
  go_wp2_with fail
  refine (HN1.out _).mono ?_
  rintro e w3 ⟨v3, rfl, own3, hb3⟩
  have HX3 := Lib.hid (HX2.out.below hb3)
  have HB3 := Lib.hid (below_then HB2.out hb3)
  obtain ⟨a3, q3, rfl, hs3⟩ := own_bs own3 (by omega)
  have HO3 : Hid (∀ W, Below w3.heap.size w3 W → W.ownsRow (w.heap.size + 1) 5 1 v2 4 (bvs [0, 0, 0, UInt8.ofNat 3])) := Lib.hid (fun W hb => own_base (own_below (own_below HO2.out hb3) hb) (fun k hk => HG2.out k hk))
  have HS3 : Hid (∀ W, Below w3.heap.size w3 W → Bs W a3 4 q3 [0, 0, 0, UInt8.ofNat 1]) := Lib.hid (fun W hb => hs3.mono hb)
  have HV3 : Hid (∀ k, v2.ownBlock = some k → k = w.heap.size → False) := Lib.hid (fun k hk e => by have := HG2.out k hk; omega)
  have HU3 : Hid (∀ k, v2.ownBlock = some k → w.heap.size ≤ k) := Lib.hid (fun k hk => by have := HG2.out k hk; omega)
  have HL3 : Hid (∀ k, v2.ownBlock = some k → k < w3.heap.size) := Lib.hid (fun k hk => Nat.lt_of_lt_of_le (HO2.out.lt k hk).2 hb3.size)
  have HD3 : Hid (Below w3.heap.size w3 w3.drew) := Lib.hid (Below.refl _ _).drew
  have ku2 : IntKind.u8.wrap 2 = 2 := by decide
  have ku0 : IntKind.u8.wrap 0 = 0 := by decide
  clear own3 hb3 hs3 c0 c1 c2 c3 c4 HX2 HB2 HO2 HG2 HN3 HN1
  go_wp2_with fail
  refine wp_region_noPanic ?_
  refine region_RH (fun w' => Bx w' w.heap.size three) (by kernel_rfl) ?_
  refine RH_take (i := 0) (v := ?_) rfl (by kernel_rfl) (by kernel_rfl) (by kernel_rfl) (fun _ _ _ h => h) HX3.out (by rfl) ?_ ?_
  rotate_left
  · (intro w' hw'; obtain ⟨j0, j1, j2, j3, j4⟩ := hw'.cells; simp only [three] at j0 j1 j2 j3 j4; first | (go_simp; done) | (go_simp; with_reducible rfl))
  try simp only [List.getElem_toArray, List.getElem_cons_zero, List.getElem_cons_succ, Act.put, List.setIfInBounds_toArray, List.set_cons_zero, List.set_cons_succ]
  refine RH_take (i := 1) (v := ?_) rfl (by kernel_rfl) (by kernel_rfl) (by kernel_rfl) (fun _ _ _ h => h) HX3.out (by rfl) ?_ ?_
  rotate_left
  · (intro w' hw'; obtain ⟨j0, j1, j2, j3, j4⟩ := hw'.cells; simp only [three] at j0 j1 j2 j3 j4; first | (go_simp; done) | (go_simp; with_reducible rfl))
  try simp only [List.getElem_toArray, List.getElem_cons_zero, List.getElem_cons_succ, Act.put, List.setIfInBounds_toArray, List.set_cons_zero, List.set_cons_succ]
  refine RH_take (i := 3) (v := ?_) rfl (by kernel_rfl) (by kernel_rfl) (by kernel_rfl) (fun _ _ _ h => h) HX3.out (by rfl) ?_ ?_
  rotate_left
  · (intro w' hw'; obtain ⟨j0, j1, j2, j3, j4⟩ := hw'.cells; simp only [three] at j0 j1 j2 j3 j4; first | (go_simp; done) | (go_simp; with_reducible rfl))
  try simp only [List.getElem_toArray, List.getElem_cons_zero, List.getElem_cons_succ, Act.put, List.setIfInBounds_toArray, List.set_cons_zero, List.set_cons_succ]
  refine RH_take (i := 4) (v := ?_) rfl (by kernel_rfl) (by kernel_rfl) (by kernel_rfl) (fun _ _ _ h => h) HX3.out (by rfl) ?_ ?_
  rotate_left
  · (intro w' hw'; obtain ⟨j0, j1, j2, j3, j4⟩ := hw'.cells; simp only [three] at j0 j1 j2 j3 j4; first | (go_simp; done) | (go_simp; with_reducible rfl))
  try simp only [List.getElem_toArray, List.getElem_cons_zero, List.getElem_cons_succ, Act.put, List.setIfInBounds_toArray, List.set_cons_zero, List.set_cons_succ]
  refine RH_take (i := 5) (v := ?_) rfl (by kernel_rfl) (by kernel_rfl) (by kernel_rfl) (fun _ _ _ h => h) HX3.out (by rfl) ?_ ?_
  rotate_left
  · (intro w' hw'; obtain ⟨j0, j1, j2, j3, j4⟩ := hw'.cells; simp only [three] at j0 j1 j2 j3 j4; first | (go_simp; done) | (go_simp; with_reducible rfl))
  try simp only [List.getElem_toArray, List.getElem_cons_zero, List.getElem_cons_succ, Act.put, List.setIfInBounds_toArray, List.set_cons_zero, List.set_cons_succ]
  refine RH_take (i := 6) (v := ?_) rfl (by kernel_rfl) (by kernel_rfl) (by kernel_rfl) (fun _ _ _ h => h) HX3.out (by rfl) ?_ ?_
  rotate_left
  · (intro w' hw'; obtain ⟨j0, j1, j2, j3, j4⟩ := hw'.cells; simp only [three] at j0 j1 j2 j3 j4; first | (go_simp; done) | (go_simp; with_reducible rfl))
  try simp only [List.getElem_toArray, List.getElem_cons_zero, List.getElem_cons_succ, Act.put, List.setIfInBounds_toArray, List.set_cons_zero, List.set_cons_succ]
  refine RH_take (i := 7) (v := ?_) rfl (by kernel_rfl) (by kernel_rfl) (by kernel_rfl) (fun _ _ _ h => h) HX3.out (by rfl) ?_ ?_
  rotate_left
  · (intro w' hw'; obtain ⟨j0, j1, j2, j3, j4⟩ := hw'.cells; simp only [three] at j0 j1 j2 j3 j4; first | (go_simp; done) | (go_simp; with_reducible rfl))
  try simp only [List.getElem_toArray, List.getElem_cons_zero, List.getElem_cons_succ, Act.put, List.setIfInBounds_toArray, List.set_cons_zero, List.set_cons_succ]
  refine RH_take (i := 8) (v := ?_) rfl (by kernel_rfl) (by kernel_rfl) (by kernel_rfl) (fun _ _ _ h => h) HX3.out (by rfl) ?_ ?_
  rotate_left
  · (intro w' hw'; obtain ⟨j0, j1, j2, j3, j4⟩ := hw'.cells; simp only [three] at j0 j1 j2 j3 j4; first | (go_simp; done) | (go_simp; with_reducible rfl))
  try simp only [List.getElem_toArray, List.getElem_cons_zero, List.getElem_cons_succ, Act.put, List.setIfInBounds_toArray, List.set_cons_zero, List.set_cons_succ]
  refine RH_take (i := 9) (v := ?_) rfl (by kernel_rfl) (by kernel_rfl) (by kernel_rfl) (fun _ _ _ h => h) HX3.out (by rfl) ?_ ?_
  rotate_left
  · (intro w' hw'; obtain ⟨j0, j1, j2, j3, j4⟩ := hw'.cells; simp only [three] at j0 j1 j2 j3 j4; first | (go_simp; done) | (go_simp; with_reducible rfl))
  try simp only [List.getElem_toArray, List.getElem_cons_zero, List.getElem_cons_succ, Act.put, List.setIfInBounds_toArray, List.set_cons_zero, List.set_cons_succ]
  refine RH_take (i := 10) (v := ?_) rfl (by kernel_rfl) (by kernel_rfl) (by kernel_rfl) (fun _ _ _ h => h) HX3.out (by rfl) ?_ ?_
  rotate_left
  · (intro w' hw'; obtain ⟨j0, j1, j2, j3, j4⟩ := hw'.cells; simp only [three] at j0 j1 j2 j3 j4; first | (go_simp; done) | (go_simp; with_reducible rfl))
  try simp only [List.getElem_toArray, List.getElem_cons_zero, List.getElem_cons_succ, Act.put, List.setIfInBounds_toArray, List.set_cons_zero, List.set_cons_succ]
  refine RH_take (i := 11) (v := ?_) rfl (by kernel_rfl) (by kernel_rfl) (by kernel_rfl) (fun _ _ _ h => h) HX3.out (by rfl) ?_ ?_
  rotate_left
  · (intro w' hw'; obtain ⟨j0, j1, j2, j3, j4⟩ := hw'.cells; simp only [three] at j0 j1 j2 j3 j4; first | (go_simp; done) | (go_simp; with_reducible rfl))
  try simp only [List.getElem_toArray, List.getElem_cons_zero, List.getElem_cons_succ, Act.put, List.setIfInBounds_toArray, List.set_cons_zero, List.set_cons_succ]
  refine RH_two (i := 2) (j := 12) (by kernel_rfl) rfl rfl ?_ ?_
  · intro K hK
    refine step_app3 tyB rfl _ _ rfl (HO3.out _ HD3.out) (HS3.out _ HD3.out).src rfl rfl (by omega) (by omega) (by have := HX3.out.lt; have h4 : w3.drew.heap.size = w3.heap.size := rfl; omega) ?_
    intro v4 w4 own4 ch4 fr4
    have hbx4 : Bx w4 w.heap.size three := (ch4.block w.heap.size HX3.out.lt (fun e => HV3.out _ e rfl)).trans HX3.out
    have HX4 := Lib.hid hbx4
    have hb4 : Below w.heap.size w w4 := (HB3.out.trans (HD3.out.mono HB3.out.size)).trans (ch4.below (by have := HB3.out.size; have h4 : w3.drew.heap.size = w3.heap.size := rfl; omega) (fun k hk => HU3.out k hk))
    rw [← bvs_append] at own4
    have HO4 := Lib.hid own4
    have HB4 := Lib.hid hb4
    clear hbx4 hb4 own4 ch4 fr4
    refine hK.out _ _ HX4.out ?_
    clear hK K
    try simp only [List.getElem_toArray, List.getElem_cons_zero, List.getElem_cons_succ, Act.put, List.setIfInBounds_toArray, List.set_cons_zero, List.set_cons_succ]
    refine RH_step (i := 12) (by kernel_rfl) rfl (fun K hK => ?_)
    go_simp
    have HX5 := Lib.hid (HX4.out.below (below_alloc w4 (.cells #[.int .u8 2, .int .u8 0, .int .u8 0, .int .u8 0, .int .u8 0] 5)))
    have HO5 := Lib.hid (own_below HO4.out (below_alloc w4 (.cells #[.int .u8 2, .int .u8 0, .int .u8 0, .int .u8 0, .int .u8 0] 5)))
    have HB5 := Lib.hid (HB4.out.alloc HB4.out.size (.cells #[.int .u8 2, .int .u8 0, .int .u8 0, .int .u8 0, .int .u8 0] 5))
    have HS5 : Hid (SrcRow (w4.alloc (.cells #[.int .u8 2, .int .u8 0, .int .u8 0, .int .u8 0, .int .u8 0] 5)) (some ⟨w4.heap.size, 0, none⟩) 5 5 (bvs [2, 0, 0, 0, 0]) 1) := Lib.hid (src_new w4 #[.int .u8 2, .int .u8 0, .int .u8 0, .int .u8 0, .int .u8 0] 5 5 5 1 rfl (bvs_one [2, 0, 0, 0, 0]))
    refine hK.out _ _ HX5.out ?_
    clear hK K
    try simp only [List.getElem_toArray, List.getElem_cons_zero, List.getElem_cons_succ, Act.put, List.setIfInBounds_toArray, List.set_cons_zero, List.set_cons_succ]
    refine RH_step (i := 13) (by kernel_rfl) rfl (fun K hK => ?_)
    refine step_app3 tyB rfl _ _ rfl HO5.out HS5.out rfl rfl (by omega) (by omega) (by have := HB4.out.size; simp; omega) ?_
    intro v6 w6 own6 ch6 fr6
    have hbx6 : Bx w6 w.heap.size three := (ch6.block w.heap.size HX5.out.lt (fun e => absurd (HO5.out.lt _ e).1 (by omega))).trans HX5.out
    have HX6 := Lib.hid hbx6
    have HB6 := Lib.hid (HB5.out.trans (ch6.below HB5.out.size (fun k hk => by have := (HO5.out.lt k hk).1; omega)))
    rw [← bvs_append] at own6
    obtain ⟨a6, c6, rfl, hs6⟩ := own_bs own6 (by omega)
    have HS6 := Lib.hid hs6
    clear hbx6 own6 ch6 fr6 hs6
    refine hK.out _ _ HX6.out ?_
    clear hK K
    try simp only [List.getElem_toArray, List.getElem_cons_zero, List.getElem_cons_succ, Act.put, List.setIfInBounds_toArray, List.set_cons_zero, List.set_cons_succ]
    refine RH_take (i := 14) (v := ?_) rfl (by kernel_rfl) (by kernel_rfl) (by kernel_rfl) (fun _ _ _ h => h) HX6.out (by rfl) ?_ ?_
    rotate_left
    · (intro w' hw'; obtain ⟨j0, j1, j2, j3, j4⟩ := hw'.cells; simp only [three] at j0 j1 j2 j3 j4; first | (go_simp; done) | (go_simp; with_reducible rfl))
    try simp only [List.getElem_toArray, List.getElem_cons_zero, List.getElem_cons_succ, Act.put, List.setIfInBounds_toArray, List.set_cons_zero, List.set_cons_succ]
    refine wpAnyH_done (by kernel_rfl) ?_ _
    refine NoPanic.normal ?_
    go_wp2
    go_ret
    exact ⟨_, _, rfl, HS6.out, HB6.out⟩
  · intro K hK
    go_simp
    have hq : w.heap.size < w3.heap.size := HX3.out.lt
    have HX4 : Hid (Bx (w3.alloc (.cells #[.int .u8 2, .int .u8 0, .int .u8 0, .int .u8 0, .int .u8 0] 5)).drew w.heap.size three) := Lib.hid (((below_alloc w3 (.cells #[.int .u8 2, .int .u8 0, .int .u8 0, .int .u8 0, .int .u8 0] 5)).block w.heap.size hq).trans HX3.out)
    have HD4 := Lib.hid ((below_alloc w3 (.cells #[.int .u8 2, .int .u8 0, .int .u8 0, .int .u8 0, .int .u8 0] 5)).drew)
    have HS4 : Hid (SrcRow (w3.alloc (.cells #[.int .u8 2, .int .u8 0, .int .u8 0, .int .u8 0, .int .u8 0] 5)).drew (some ⟨w3.heap.size, 0, none⟩) 5 5 (bvs [2, 0, 0, 0, 0]) 1) := Lib.hid ((show SrcRow _ (some ⟨w3.heap.size, 0, none⟩) 5 5 (bvs [2, 0, 0, 0, 0]) 1 from src_new w3 #[.int .u8 2, .int .u8 0, .int .u8 0, .int .u8 0, .int .u8 0] 5 5 5 1 rfl (bvs_one [2, 0, 0, 0, 0])).mono (Below.refl _ _).drew)
    have HZ4 : Hid (w3.heap.size < (w3.alloc (.cells #[.int .u8 2, .int .u8 0, .int .u8 0, .int .u8 0, .int .u8 0] 5)).drew.heap.size) := Lib.hid (by show _ < (w3.alloc _).heap.size; simp)
    obtain ⟨w4, hw4⟩ : ∃ w4, (w3.alloc (.cells #[.int .u8 2, .int .u8 0, .int .u8 0, .int .u8 0, .int .u8 0] 5)).drew = w4 := ⟨_, rfl⟩
    rw [hw4] at HX4 HD4 HS4 HZ4 ⊢
    clear hw4
    refine hK.out _ _ HX4.out ?_
    clear hK K
    try simp only [List.getElem_toArray, List.getElem_cons_zero, List.getElem_cons_succ, Act.put, List.setIfInBounds_toArray, List.set_cons_zero, List.set_cons_succ]
    refine RH_step (i := 2) (by kernel_rfl) rfl (fun K hK => ?_)
    refine step_app3 tyB rfl _ _ rfl (HO3.out _ HD4.out) (HS3.out _ HD4.out).src rfl rfl (by omega) (by omega) (by have := HX3.out.lt; have := HD4.out.size; omega) ?_
    intro v5 w5 own5 ch5 fr5
    have hbx5 : Bx w5 w.heap.size three := (ch5.block w.heap.size HX4.out.lt (fun e => HV3.out _ e rfl)).trans HX4.out
    have HX5 := Lib.hid hbx5
    have hvl := HL3.out
    have HS5 : Hid (SrcRow w5 (some ⟨w3.heap.size, 0, none⟩) 5 5 (bvs [2, 0, 0, 0, 0]) 1) := Lib.hid ⟨HS4.out.hl, HS4.out.hnone, fun ad e j u hu => by
      have h1 := HS4.out.hc ad e j u hu
      obtain rfl := Option.some.inj e
      rw [Addr.add_mid] at h1 ⊢
      exact (World.cell?_of_block (a := ⟨w3.heap.size, 0 + j, none⟩) (ch5.block w3.heap.size HZ4.out (fun e => absurd (HL3.out _ e) (by omega)))).trans h1, HS4.out.h1⟩
    have HB5 := Lib.hid ((HB3.out.trans (HD4.out.mono HB3.out.size)).trans (ch5.below (by have := HB3.out.size; have := HD4.out.size; omega) (fun k hk => HU3.out k hk)))
    rw [← bvs_append] at own5
    have HO5 := Lib.hid own5
    clear hbx5 own5 ch5 fr5 hvl
    refine hK.out _ _ HX5.out ?_
    clear hK K
    try simp only [List.getElem_toArray, List.getElem_cons_zero, List.getElem_cons_succ, Act.put, List.setIfInBounds_toArray, List.set_cons_zero, List.set_cons_succ]
    refine RH_step (i := 13) (by kernel_rfl) rfl (fun K hK => ?_)
    refine step_app3 tyB rfl _ _ rfl HO5.out HS5.out rfl rfl (by omega) (by omega) (by have := HB5.out.size; have := HX5.out.lt; omega) ?_
    intro v6 w6 own6 ch6 fr6
    have hbx6 : Bx w6 w.heap.size three := (ch6.block w.heap.size HX5.out.lt (fun e => absurd (HO5.out.lt _ e).1 (by omega))).trans HX5.out
    have HX6 := Lib.hid hbx6
    have HB6 := Lib.hid (HB5.out.trans (ch6.below HB5.out.size (fun k hk => by have := (HO5.out.lt k hk).1; omega)))
    rw [← bvs_append] at own6
    obtain ⟨a6, c6, rfl, hs6⟩ := own_bs own6 (by omega)
    have HS6 := Lib.hid hs6
    clear hbx6 own6 ch6 fr6 hs6
    refine hK.out _ _ HX6.out ?_
    clear hK K
    try simp only [List.getElem_toArray, List.getElem_cons_zero, List.getElem_cons_succ, Act.put, List.setIfInBounds_toArray, List.set_cons_zero, List.set_cons_succ]
    refine RH_take (i := 14) (v := ?_) rfl (by kernel_rfl) (by kernel_rfl) (by kernel_rfl) (fun _ _ _ h => h) HX6.out (by rfl) ?_ ?_
    rotate_left
    · (intro w' hw'; obtain ⟨j0, j1, j2, j3, j4⟩ := hw'.cells; simp only [three] at j0 j1 j2 j3 j4; first | (go_simp; done) | (go_simp; with_reducible rfl))
    try simp only [List.getElem_toArray, List.getElem_cons_zero, List.getElem_cons_succ, Act.put, List.setIfInBounds_toArray, List.set_cons_zero, List.set_cons_succ]
    refine wpAnyH_done (by kernel_rfl) ?_ _
    refine NoPanic.normal ?_
    go_wp2
    go_ret
    exact ⟨_, _, rfl, HS6.out, HB6.out⟩
end Hd
end Go.Proofs.Ytbgaaocgdjkkeaa
end
