/- (*Book).Write: its contract. -/
import Derived.Test.YtjjbgdmalefdlaaGreatDoorZ18
import Derived.Test.YtjjbgdmalefdlaaGreatDoorZ19
import Derived.Test.YtjjbgdmalefdlaaGreatDoorZ20
import Derived.Test.YtjjbgdmalefdlaaGreatDoorZ31
set_option linter.unusedSimpArgs false
set_option linter.unusedVariables false
section
namespace Go.Proofs.YtjjbgdmalefdlaaGreatDoor
open Go.RowKit

namespace Bk
theorem dg_rev (c n : Nat) : Bt.dg false c n = (Bt.dg true c n).reverse := by
  apply List.ext_getElem
  · simp [Bt.dg_length]
  · intro i h1 h2
    rw [Bt.dg_length] at h1
    simp only [List.getElem_reverse, Bt.dg, List.getElem_map, List.getElem_range, List.length_map, List.length_range, if_true, Bool.false_eq_true, if_false]
    congr 1; omega
/-- A code's number, its bits turned round. -/
def back (c n : Nat) : Nat := Bt.numH (Bt.dg false c n)
theorem back_dg (c n : Nat) : Bt.dg false (back c n) n = Bt.dg true c n := by
  unfold back
  have h1 : (Bt.dg false c n).length = n := Bt.dg_length _ _ _
  rw [dg_rev, dg_of_num _ _ h1, dg_rev, List.reverse_reverse]
theorem back_lt (c n : Nat) : back c n < 2 ^ n := by
  have := Bt.num_lt true (Bt.dg false c n)
  rw [Bt.dg_length] at this
  exact this
theorem back_step (c i n : Nat) (h : i < n) : Bt.numH ((Bt.dg false c n).take (i + 1)) = 2 * Bt.numH ((Bt.dg false c n).take i) + (c.testBit i).toNat := by
  have hl : i < (Bt.dg false c n).length := by rw [Bt.dg_length]; exact h
  rw [List.take_succ_eq_append_getElem hl, Bt.numH_snoc]
  congr 2
  simp [Bt.dg]
theorem bit_and (c i : Nat) (hc : c < 4294967296) : bits .and .i64 ((c : Int) / 2 ^ i) 1 = ((c.testBit i).toNat : Nat) := by
  have e : (c : Int) / 2 ^ i = ((c / 2 ^ i : Nat) : Int) := by rw [Bt.pow_cast]; exact (Int.natCast_ediv c (2 ^ i)).symm
  have h1 : c / 2 ^ i ≤ c := Nat.div_le_self _ _
  rw [e, show (1 : Int) = ((1 : Nat) : Int) from rfl, i64_and_nat _ _ (by omega) (by omega)]
  congr 1
  rw [Nat.and_one_is_mod, Nat.testBit_eq_decide_div_mod_eq]
  by_cases h : c / 2 ^ i % 2 = 1
  · simp [h]
  · have : c / 2 ^ i % 2 = 0 := by omega
    simp [this]
theorem or_bit (a : Nat) (b : Bool) (ha : a < 4294967296) : bits .or .i64 ((a : Int) * 2) ((b.toNat : Nat) : Int) = ((2 * a + b.toNat : Nat) : Int) := by
  have hb : b.toNat ≤ 1 := Bool.toNat_le b
  rw [show (a : Int) * 2 = ((a * 2 : Nat) : Int) by omega, i64_or_nat _ _ (by omega) (by omega)]
  congr 1
  have h1 := nat_join 1 (a * 2) b.toNat (by omega) (by omega)
  omega
set_option maxRecDepth 100000 in
theorem backward_any (c n : Nat) (w : World) (hc : c < 4294967296) (hn : n ≤ 16) :
    Calls Tryz.prog 109 #[.agg #[.int .i64 c, .int .i64 n]] w fun e w' => e = .returned (.int .i64 (back c n)) ∧ Below w.heap.size w w' := by
  go_enter Tryz.func109, Tryz.ntmps109
  go_wp2
  have c0 : (w.alloc (.cells #[.int .i64 c, .int .i64 n] 154)).cell? ⟨w.heap.size, 0, none⟩ = some (.int .i64 c) := by rw [cell_of_row _ _ _ _ _ (0, 0) (heap_alloc_last w _)]; rfl
  have HB := Lib.hid (below_alloc w (.cells #[.int .i64 c, .int .i64 n] 154))
  generalize w.alloc (.cells #[.int .i64 c, .int .i64 n] 154) = w1 at *
  generalize hq : w.heap.size = q at *
  have HQ := Lib.hid hq
  clear hq
  go_loop [3, 7] (fun o i => ∃ k : Nat, k ≤ n ∧ i = .int .i64 k ∧ o = .int .i64 (Bt.numH ((Bt.dg false c n).take k) : Nat)) (fun _ i => n - (intOf i).toNat)
  case atStart => exact ⟨0, by omega, rfl, by simp [Bt.numH]⟩
  case round =>
    obtain ⟨k, hk, rfl, rfl⟩ := hrel
    by_cases hlt : k < n
    · have hs := back_step c k n hlt
      have ha : Bt.numH ((Bt.dg false c n).take k) < 2 ^ k := by
        have := Bt.num_lt true ((Bt.dg false c n).take k)
        rw [List.length_take, Bt.dg_length, Nat.min_eq_left (by omega)] at this
        exact this
      have h16 := Bt.pow_le k 16 (by omega)
      simp only [Nat.reducePow] at h16
      have HS := Lib.hid hs
      clear hs
      generalize Bt.numH ((Bt.dg false c n).take k) = a at *
      have ha2 : a < 65536 := by omega
      clear ha h16
      have H1 := Lib.hid (bit_and c k hc)
      have H2 := Lib.hid (or_bit a (c.testBit k) (by omega))
      go_wp2
      go_round
      case rel => exact ⟨k + 1, by omega, by go_num, int_eq (by rw [HS.out, H1.out, H2.out])⟩
      case measure => simp [intOf]; omega
    · obtain rfl : n = k := by omega
      have hf : (Bt.dg false c n).take n = Bt.dg false c n := List.take_of_length_le (by rw [Bt.dg_length]; exact Nat.le_refl _)
      rw [hf]
      have HP := Lib.hid (show Bt.numH (Bt.dg false c n) = back c n from rfl)
      clear hf
      generalize Bt.numH (Bt.dg false c n) = a at *
      go_wp2
      go_ret
      exact ⟨by rw [HP.out]; rfl, by rw [HQ.out]; exact HB.out⟩
theorem putw_below {w w1 : World} {B g : Nat} {h : Bool} {v : Value} {l : List Bool} {e : Ending} {w' : World} (hb : Below w.heap.size w w1) (H : PutWPost w1 B g h v l e w') : PutWPost w B g h v l e w' := by
  obtain ⟨h1, v', h2, h3, h4⟩ := H
  exact ⟨h1, v', h2, (Ch.of_below (T := Wt g v) hb).trans h3 (fun _ h => .inl h), fun k hk => (h4 k hk).imp id (fun h => Nat.le_trans hb.size h)⟩
set_option maxRecDepth 100000 in
theorem write_no (w : World) (S g : Nat) (R : Nat → List Nat) (ws : List (Nat × Nat)) (h : Book w S g R ws) (hl : ws.length ≤ 1000000000) (s : Int) (p : Value) (hp : (wAt ws s).2 = 0 ∨ p = .pointer none) (hp2 : p = .pointer none ∨ ∃ gw, p = .pointer (some ⟨gw, 0, none⟩)) :
    Calls Tryz.prog 89 #[.pointer (some ⟨g, 0, none⟩), p, .int .i64 s] w fun e w' => e = .returned (.iface 51 (.int .i64 6)) ∧ Below w.heap.size w w' := by
  have HW := Lib.hid (word_any w S g R ws h hl s)
  clear h hl
  go_enter Tryz.func89, Tryz.ntmps89
  go_wp2_with fail
  refine HW.out.mono ?_
  rintro e w1 ⟨rfl, hb1⟩
  have HB := Lib.hid (hb1.alloc hb1.size (.cells #[.int .i64 ((wAt ws s).1 : Nat), .int .i64 ((wAt ws s).2 : Nat)] 154))
  clear hb1 HW
  generalize (wAt ws s).1 = c at *
  generalize (wAt ws s).2 = n at *
  by_cases hn : n = 0
  · subst hn
    rcases hp2 with rfl | ⟨gw, rfl⟩
    · go_wp2
      go_ret
      exact ⟨rfl, HB.out⟩
    · go_wp2
      go_ret
      exact ⟨rfl, HB.out⟩
  · have hp3 := hp.resolve_left hn
    subst hp3
    have dn : ((n : Int) == 0) = false := by simp; omega
    clear hp hp2
    go_wp2
    go_ret
    exact ⟨rfl, HB.out⟩
set_option maxRecDepth 100000 in
theorem write_nil (w : World) (s : Int) (p : Value) : Calls Tryz.prog 89 #[.pointer none, p, .int .i64 s] w fun e w' => e = .returned (.iface 51 (.int .i64 6)) ∧ Below w.heap.size w w' := by
  go_enter Tryz.func89, Tryz.ntmps89
  go_wp2_with fail
  refine (word_nil w s).mono ?_
  rintro e w1 ⟨rfl, hb1⟩
  have HB := Lib.hid (hb1.alloc hb1.size (.cells #[.int .i64 0, .int .i64 0] 154))
  clear hb1
  go_wp2
  go_ret
  exact ⟨rfl, HB.out⟩
set_option maxRecDepth 100000 in
set_option maxHeartbeats 2000000 in
theorem write_ok (w : World) (S g : Nat) (R : Nat → List Nat) (ws : List (Nat × Nat)) (h : Book w S g R ws) (hl : ws.length ≤ 1000000000) (s : Int) (c n : Nat) (hcn : wAt ws s = (c, n)) (hn : 0 < n) (hn2 : n ≤ 16) (hc : c < 2 ^ n)
    (B gw : Nat) (hi : Bool) (v : Value) (l : List Bool) (H : Wr w B gw hi v l) (hB : B ≤ w.heap.size) (hll : l.length ≤ 1000000000000) :
    Calls Tryz.prog 89 #[.pointer (some ⟨g, 0, none⟩), .pointer (some ⟨gw, 0, none⟩), .int .i64 s] w (PutWPost w B gw hi v (l ++ Bt.dg true c n)) := by
  have hw := word_any w S g R ws h hl s
  rw [hcn] at hw
  have HW := Lib.hid hw
  have HH := Lib.hid H
  have HC := Lib.hid hc
  have HLL := Lib.hid hll
  clear h hl hcn hw H hc hll
  go_enter Tryz.func89, Tryz.ntmps89
  go_wp2_with fail
  refine HW.out.mono ?_
  rintro e w1 ⟨rfl, hb1⟩
  simp only
  have HB := Lib.hid (hb1.alloc hb1.size (.cells #[.int .i64 (c : Nat), .int .i64 (n : Nat)] 154))
  have b0 : (w1.alloc (.cells #[.int .i64 (c : Nat), .int .i64 (n : Nat)] 154)).cell? ⟨w1.heap.size, 0, none⟩ = some (.int .i64 (c : Nat)) := by rw [cell_of_row _ _ _ _ _ (0, 0) (heap_alloc_last w1 _)]; rfl
  have b1 : (w1.alloc (.cells #[.int .i64 (c : Nat), .int .i64 (n : Nat)] 154)).cell? ⟨w1.heap.size, 1, none⟩ = some (.int .i64 (n : Nat)) := by rw [cell_of_row _ _ _ _ _ (0, 0) (heap_alloc_last w1 _)]; rfl
  have hq : w1.heap.size < (w1.alloc (.cells #[.int .i64 (c : Nat), .int .i64 (n : Nat)] 154)).heap.size := by simp
  have HH2 := Lib.hid (HH.out.mono HB.out)
  have HSZ := Lib.hid hb1.size
  clear HW hb1
  have dn : ((n : Int) == 0) = false := by simp; omega
  go_wp2_with fail
  have hB2 : B ≤ (w1.alloc (.cells #[.int .i64 (c : Nat), .int .i64 (n : Nat)] 154)).heap.size := by have := HB.out.size; omega
  have HNQ : Hid (¬ Wt gw v w1.heap.size) := Lib.hid (fun h => by
    have h1 := HSZ.out
    rcases h with h | h
    · have := HH.out.lt; omega
    · have := (HH.out.own.lt _ h).2; omega)
  revert HB b0 b1 hq HH2 hB2
  generalize w1.alloc (.cells #[.int .i64 (c : Nat), .int .i64 (n : Nat)] 154) = w2
  intro HB b0 b1 hq HH2 hB2
  generalize w1.heap.size = q at *
  refine (high_any _ B gw hi v l HH2.out).mono ?_
  rintro e w' ⟨rfl, rfl⟩
  cases hi
  · have HM := Lib.hid (backward_any c n w2.drew (by have h1 := HC.out; have h2 := Bt.pow_le n 16 hn2; simp only [Nat.reducePow] at h2; omega) hn2)
    have HD : Hid (Wr w2.drew B gw false v l) := Lib.hid (HH2.out.mono ⟨rfl, rfl, rfl, Nat.le_refl _, fun _ _ => rfl⟩)
    have HBD : Hid (Below w.heap.size w w2.drew) := Lib.hid HB.out.drew
    have e0 : w2.drew.cell? ⟨q, 0, none⟩ = some (.int .i64 (c : Nat)) := b0
    have e1 : w2.drew.cell? ⟨q, 1, none⟩ = some (.int .i64 (n : Nat)) := b1
    have hqd : q < w2.drew.heap.size := hq
    have hBd : B ≤ w2.drew.heap.size := hB2
    go_wp2
    refine wp_region_noPanic ?_
    refine region_J 6 (fun w' => w'.cell? ⟨q, 0, none⟩ = some (.int .i64 (c : Nat)) ∧ w'.cell? ⟨q, 1, none⟩ = some (.int .i64 (n : Nat))) (by kernel_rfl) ?_
    clear HB HH2 b0 b1 hq hB2
    revert HM HD HBD e0 e1 hqd hBd
    generalize w2.drew = w3
    intro HM HD HBD e0 e1 hqd hBd
    refine J_take (i := 0) (v := ?_) rfl (by kernel_rfl) (by kernel_rfl) (by kernel_rfl) (by kernel_rfl) (fun _ _ _ h => h) ⟨e0, e1⟩ (by rfl) ?_ ?_
    rotate_left
    · (intro w' hw'; obtain ⟨c0, c1⟩ := hw'; first | (go_simp; done) | (go_simp; with_reducible rfl))
    try simp only [Act.put, List.setIfInBounds_toArray, List.set_cons_zero, List.set_cons_succ]
    refine J_take (i := 1) (v := ?_) rfl (by kernel_rfl) (by kernel_rfl) (by kernel_rfl) (by kernel_rfl) (fun _ _ _ h => h) ⟨e0, e1⟩ (by rfl) ?_ ?_
    rotate_left
    · (intro w' hw'; obtain ⟨c0, c1⟩ := hw'; first | (go_simp; done) | (go_simp; with_reducible rfl))
    try simp only [Act.put, List.setIfInBounds_toArray, List.set_cons_zero, List.set_cons_succ]
    refine J_take (i := 3) (v := ?_) rfl (by kernel_rfl) (by kernel_rfl) (by kernel_rfl) (by kernel_rfl) (fun _ _ _ h => h) ⟨e0, e1⟩ (by rfl) ?_ ?_
    rotate_left
    · (intro w' hw'; obtain ⟨c0, c1⟩ := hw'; first | (go_simp; done) | (go_simp; with_reducible rfl))
    try simp only [Act.put, List.setIfInBounds_toArray, List.set_cons_zero, List.set_cons_succ]
    refine J_take (i := 4) (v := ?_) rfl (by kernel_rfl) (by kernel_rfl) (by kernel_rfl) (by kernel_rfl) (fun _ _ _ h => h) ⟨e0, e1⟩ (by rfl) ?_ ?_
    rotate_left
    · (intro w' hw'; obtain ⟨c0, c1⟩ := hw'; first | (go_simp; done) | (go_simp; with_reducible rfl))
    try simp only [Act.put, List.setIfInBounds_toArray, List.set_cons_zero, List.set_cons_succ]
    refine J_step (i := 2) (by kernel_rfl) rfl (fun K hK => ?_)
    go_simp
    go_at_call 109
    refine HM.out.mono ?_
    rintro e w4 ⟨rfl, hb4⟩
    go_simp
    have hd0 : w4.cell? ⟨q, 0, none⟩ = some (.int .i64 (c : Nat)) := (hb4.cell (p := ⟨q, 0, none⟩) hqd).trans e0
    have hd1 : w4.cell? ⟨q, 1, none⟩ = some (.int .i64 (n : Nat)) := (hb4.cell (p := ⟨q, 1, none⟩) hqd).trans e1
    refine hK.out _ _ (fun _ => ⟨hd0, hd1⟩) (fun _ => ?_)
    clear hK K
    try simp only [Act.put, List.setIfInBounds_toArray, List.set_cons_zero, List.set_cons_succ]
    refine J_step (i := 5) (by kernel_rfl) rfl (fun K hK => ?_)
    go_simp
    go_at_call 82
    refine (putw_ok w4 B gw false v l (back c n) n (HD.out.mono hb4) (by have := hb4.size; omega) (by omega) (back_lt c n) HLL.out).mono ?_
    rintro e w5 hpost
    rw [back_dg] at hpost
    have hpost2 := putw_below (HBD.out.trans (hb4.mono HBD.out.size)) hpost
    obtain ⟨rfl, _, _, hch, _⟩ := hpost
    have hk0 : w5.cell? ⟨q, 0, none⟩ = some (.int .i64 (c : Nat)) := (World.cell?_of_block (hch.block q (Nat.lt_of_lt_of_le hqd hb4.size) HNQ.out)).trans hd0
    have hk1 : w5.cell? ⟨q, 1, none⟩ = some (.int .i64 (n : Nat)) := (World.cell?_of_block (hch.block q (Nat.lt_of_lt_of_le hqd hb4.size) HNQ.out)).trans hd1
    have HP := Lib.hid hpost2
    clear hpost2 hch
    go_simp
    refine hK.out _ _ (fun _ => ⟨hk0, hk1⟩) (fun _ => ?_)
    clear hK K
    try simp only [Act.put, List.setIfInBounds_toArray, List.set_cons_zero, List.set_cons_succ]
    refine J_step (i := 6) (by kernel_rfl) rfl (fun K hK => ?_)
    go_simp
    refine hK.out _ _ (fun h => absurd rfl h) (fun _ => ?_)
    clear hK K
    try simp only [Act.put, List.setIfInBounds_toArray, List.set_cons_zero, List.set_cons_succ]
    refine J_done (by kernel_rfl) ?_ _
    refine NoPanic.normal ?_
    go_wp2
    go_ret
    exact HP.out
  · go_wp2_with fail
    refine (putw_ok w2 B gw true v l c n HH2.out hB2 (by omega) HC.out HLL.out).mono ?_
    rintro e w5 hpost
    have HP := Lib.hid (putw_below HB.out hpost)
    obtain ⟨rfl, _⟩ := hpost
    go_wp2
    go_ret
    exact HP.out
end Bk
end Go.Proofs.YtjjbgdmalefdlaaGreatDoor
end
