/- (*Writer).Bytes: its contract. burnishlaw10.alive: its contract. What the listed variable holds. burnishnum.Tokens at the same tokens twice. burnishnum.Num: its contract. burnishnum.Same: its contract. How layer 4's struct arguments are opened: {[]int, []byte, bool, int}, and {[16]int, []byte}. How an argument that is a slice of tokens is opened. How {[]byte, []Token, int, bool} is opened, a law's argument. -/
import Derived.Test.YtpoilaappcjbeaaGreatDoorZ29
import Derived.Lib.SlBytesConst
import Derived.Test.YtpoilaappcjbeaaGreatDoorRows
import Derived.LaidLaws
import Derived.MakeChecks
import Derived.Stop.Joined
import Derived.Deep.QuietTactic
import Derived.BigQuiet
import Derived.Test.YtpoilaappcjbeaaGreatDoorProg
import Derived.Deep.Slices
import Derived.Deep.Strs
import Derived.Lib.SmallJoins
import Derived.ChangeSame
import Derived.OpenShut
set_option linter.unusedSimpArgs false
set_option linter.unusedVariables false
section
namespace Go.Proofs.YtpoilaappcjbeaaGreatDoor
open Go.RowKit

def BytesWPost (w : World) (h : Bool) (l : List Bool) (e : Ending) (w' : World) : Prop :=
  ∃ v, e = .returned v ∧ w'.ownsRow w.heap.size 5 1 v ((l.length + 7) / 8) (bvs (Bt.packs h h l)) ∧ Below w.heap.size w w'
theorem Bt.fill_val (x m : Nat) (h : Bool) (hx : x < 256) (hm : m ≤ 7) :
    bits .or .u8 (x : Int) (IntKind.u8.wrap ((if h then 2 ^ m - 1 else 0 : Nat) : Int)) = ((x ||| (if h then 2 ^ m - 1 else 0) : Nat) : Int) ∧ x ||| (if h then 2 ^ m - 1 else 0) < 256 := by
  have h1 : (if h then 2 ^ m - 1 else 0) < 256 := by
    have := Bt.pow_le m 7 hm
    simp only [Nat.reducePow] at this
    split <;> omega
  generalize (if h then 2 ^ m - 1 else 0) = y at *
  rw [IntWalk.u8_in _ ⟨by omega, by omega⟩]
  exact ⟨u8_or_nat x y hx h1, Nat.or_lt_two_pow (n := 8) hx h1⟩
set_option maxHeartbeats 2000000 in
set_option maxRecDepth 100000 in
theorem bytes_any (w : World) (B g : Nat) (h : Bool) (v : Value) (l : List Bool) (H : Wr w B g h v l) (hl : l.length ≤ 1000000000000) :
    Calls Tryz.prog 17 #[.pointer (some ⟨g, 0, none⟩)] w (BytesWPost w h l) := by
  have k1 := H.c1
  have k2 := H.c2
  by_cases h0 : l.length = 0
  · have hnil : l = [] := List.eq_nil_of_length_eq_zero h0
    subst hnil
    clear H k1
    have k2' : w.cell? ⟨g, 2, none⟩ = some (.int .i64 0) := k2
    clear k2 h0
    go_enter Tryz.func17, Tryz.ntmps17
    go_wp2
    go_ret
    exact ⟨_, rfl, World.ownsRow_nil _ _ _ _, Below.refl _ _⟩
  · have H0 := Lib.hid H
    clear H
    obtain ⟨va, vc, rfl, hbs⟩ := own_bs H0.out.own (by omega)
    have HB := Lib.hid hbs
    clear hbs
    have hz : ((l.length : Int) == 0) = false := by simpa using h0
    go_enter Tryz.func17, Tryz.ntmps17
    go_wp2_with fail
    refine (clone_any _ _ _ _ _ HB.out (by omega)).mono ?_
    rintro e w1 ⟨v1, rfl, own1, hb1⟩
    obtain ⟨q, hq⟩ : ∃ q, (l.length + 7) / 8 = q + 1 := ⟨(l.length + 7) / 8 - 1, by omega⟩
    rw [hq] at own1
    rcases own_nil_or own1 with ⟨_, hx⟩ | ⟨gv, cap2, rfl, hle, hbg, hgl, _⟩
    · omega
    have H1 := H0.out.mono hb1
    have j0 := H1.c0
    have j2 := H1.c2
    have hgw := H0.out.lt
    have hne : g ≠ gv := by omega
    have hlen := Bt.packs_length h false l
    rw [hq] at hlen
    have o1 : w1.cell? ⟨gv, q, none⟩ = some (.int .u8 (gb (Bt.packs h false l) q)) := by
      rw [own1.cellAt q (by omega), bvs_get _ _ (by rw [hlen]; omega)]
    have o2 : w1.frozen? ⟨gv, q, none⟩ = false := own_frozen own1 q
    have n0 := World.new_ne _ _ j0
    have n2 := World.new_ne _ _ j2
    have n1 := World.new_ne _ _ o1
    have o3 : (w1.alloc (.cells #[.bool h] 71)).cell? ⟨gv, q, none⟩ = some (.int .u8 (gb (Bt.packs h false l) q)) := by
      rw [World.cell?_of_block (Below.heap_alloc w1 _ _ (block_lt_of_cell o1))]; exact o1
    have o4 : (w1.alloc (.cells #[.bool h] 71)).frozen? ⟨gv, q, none⟩ = false := by
      rw [World.frozen?_of_block (Below.heap_alloc w1 _ _ (block_lt_of_cell o1))]; exact o2
    have i0 : (w1.alloc (.cells #[.bool h] 71)).cell? ⟨g, 0, none⟩ = some (.bool h) := by
      rw [World.cell?_of_block (Below.heap_alloc w1 _ _ (block_lt_of_cell j0))]; exact j0
    have i2 : (w1.alloc (.cells #[.bool h] 71)).cell? ⟨g, 2, none⟩ = some (.int .i64 (l.length : Nat)) := by
      rw [World.cell?_of_block (Below.heap_alloc w1 _ _ (block_lt_of_cell j2))]; exact j2
    have hfin := Bt.packs_fill h l (by omega)
    rw [hlen, Nat.add_sub_cancel] at hfin
    have hg256 := gb_lt (Bt.packs h false l) q
    obtain ⟨m, hm⟩ : ∃ m, (8 - l.length % 8) % 8 = m := ⟨_, rfl⟩
    have hm8 : m ≤ 7 := by omega
    rw [hm] at hfin
    obtain ⟨e1, e2⟩ := Bt.fill_val (gb (Bt.packs h false l) q) m h hg256 hm8
    have HFIN : Hid (bits .or .u8 (gb (Bt.packs h false l) q : Int) (IntKind.u8.wrap ((if h then 2 ^ m - 1 else 0 : Nat) : Int)) = ((gb (Bt.packs h false l) q ||| (if h then 2 ^ m - 1 else 0) : Nat) : Int) ∧
        BytesWPost w h l (.returned (.slice (some ⟨gv, 0, none⟩) (q + 1) cap2)) ((w1.setCell ⟨gv, q, none⟩ (.int .u8 ((gb (Bt.packs h false l) q ||| (if h then 2 ^ m - 1 else 0) : Nat) : Int))).alloc (.cells #[.bool h] 71)).drew) := Lib.hid (by
      refine ⟨e1, _, rfl, ?_, (((hb1.setCell hbg _).alloc (by simp; exact hb1.size) _)).drew⟩
      have hs := own1.stored q (.int .u8 ((gb (Bt.packs h false l) q ||| (if h then 2 ^ m - 1 else 0) : Nat) : Int))
      have e3 : (bvs (Bt.packs h false l)).set q (.int .u8 ((gb (Bt.packs h false l) q ||| (if h then 2 ^ m - 1 else 0) : Nat) : Int)) = bvs (Bt.packs h h l) := by
        rw [hfin, ← bvs_set, Nat.mod_eq_of_lt e2]
      rw [hq, ← e3]
      exact own_below (hs.1.alloc _) (Below.refl _ _).drew)
    have HM := Lib.hid hm
    clear hfin e1 e2 hm own1 hb1 H1 hlen hz k1 k2
    have HQ := Lib.hid hq
    clear hq
    obtain ⟨t, ht⟩ : ∃ t, (if h then 2 ^ m - 1 else 0) = t := ⟨_, rfl⟩
    rw [ht] at HFIN
    have HT := Lib.hid ht
    clear ht
    generalize gb (Bt.packs h false l) q = x at *
    have a1 : IntKind.i64.wrap (q : Int) = q := IntWalk.i64_in _ (by omega)
    have a2 : (0 : Int) ≤ q := by omega
    have a3 : (q : Int) < q + 1 := by omega
    go_upto_region 4 with (fail)
    refine wp_region_noPanic ?_
    refine region_J 19 (fun w' => w'.cell? ⟨g, 0, none⟩ = some (.bool h) ∧ w'.cell? ⟨g, 2, none⟩ = some (.int .i64 (l.length : Nat)) ∧ w'.cell? ⟨gv, q, none⟩ = some (.int .u8 (x : Nat))) (by kernel_rfl) ?_
    refine J_take (i := 0) (v := ?_) rfl (by kernel_rfl) (by kernel_rfl) (by kernel_rfl) (by kernel_rfl) (fun _ _ _ h => h) ⟨j0, j2, o1⟩ (by rfl) ?_ ?_
    rotate_left
    · (intro w' hw'; obtain ⟨c0, c1, c2⟩ := hw'; first | (go_simp; done) | (go_simp; with_reducible rfl))
    try simp only [Act.put, List.setIfInBounds_toArray, List.set_cons_zero, List.set_cons_succ]
    refine J_take (i := 1) (v := ?_) rfl (by kernel_rfl) (by kernel_rfl) (by kernel_rfl) (by kernel_rfl) (fun _ _ _ h => h) ⟨j0, j2, o1⟩ (by rfl) ?_ ?_
    rotate_left
    · (intro w' hw'; obtain ⟨c0, c1, c2⟩ := hw'; first | (go_simp; done) | (go_simp; with_reducible rfl))
    try simp only [Act.put, List.setIfInBounds_toArray, List.set_cons_zero, List.set_cons_succ]
    refine J_take (i := 2) (v := ?_) rfl (by kernel_rfl) (by kernel_rfl) (by kernel_rfl) (by kernel_rfl) (fun _ _ _ h => h) ⟨j0, j2, o1⟩ (by rfl) ?_ ?_
    rotate_left
    · (intro w' hw'; obtain ⟨c0, c1, c2⟩ := hw'; first | (go_simp; done) | (go_simp; with_reducible rfl))
    try simp only [Act.put, List.setIfInBounds_toArray, List.set_cons_zero, List.set_cons_succ]
    refine J_take (i := 3) (v := ?_) rfl (by kernel_rfl) (by kernel_rfl) (by kernel_rfl) (by kernel_rfl) (fun _ _ _ h => h) ⟨j0, j2, o1⟩ (by rfl) ?_ ?_
    rotate_left
    · (intro w' hw'; obtain ⟨c0, c1, c2⟩ := hw'; first | (go_simp; done) | (go_simp; with_reducible rfl))
    try simp only [Act.put, List.setIfInBounds_toArray, List.set_cons_zero, List.set_cons_succ]
    refine J_take (i := 4) (v := ?_) rfl (by kernel_rfl) (by kernel_rfl) (by kernel_rfl) (by kernel_rfl) (fun _ _ _ h => h) ⟨j0, j2, o1⟩ (by rfl) ?_ ?_
    rotate_left
    · (intro w' hw'; obtain ⟨c0, c1, c2⟩ := hw'; first | (go_simp; done) | (go_simp; with_reducible rfl))
    try simp only [Act.put, List.setIfInBounds_toArray, List.set_cons_zero, List.set_cons_succ]
    refine J_take (i := 5) (v := ?_) rfl (by kernel_rfl) (by kernel_rfl) (by kernel_rfl) (by kernel_rfl) (fun _ _ _ h => h) ⟨j0, j2, o1⟩ (by rfl) ?_ ?_
    rotate_left
    · (intro w' hw'; obtain ⟨c0, c1, c2⟩ := hw'; first | (go_simp; done) | (go_simp; with_reducible rfl))
    try simp only [Act.put, List.setIfInBounds_toArray, List.set_cons_zero, List.set_cons_succ]
    refine J_take (i := 6) (v := ?_) rfl (by kernel_rfl) (by kernel_rfl) (by kernel_rfl) (by kernel_rfl) (fun _ _ _ h => h) ⟨j0, j2, o1⟩ (by rfl) ?_ ?_
    rotate_left
    · (intro w' hw'; obtain ⟨c0, c1, c2⟩ := hw'; first | (go_simp; done) | (go_simp; with_reducible rfl))
    try simp only [Act.put, List.setIfInBounds_toArray, List.set_cons_zero, List.set_cons_succ]
    refine J_take (i := 7) (v := ?_) rfl (by kernel_rfl) (by kernel_rfl) (by kernel_rfl) (by kernel_rfl) (fun _ _ _ h => h) ⟨j0, j2, o1⟩ (by rfl) ?_ ?_
    rotate_left
    · (intro w' hw'; obtain ⟨c0, c1, c2⟩ := hw'; first | (go_simp; done) | (go_simp; with_reducible rfl))
    try simp only [Act.put, List.setIfInBounds_toArray, List.set_cons_zero, List.set_cons_succ]
    refine J_take (i := 8) (v := ?_) rfl (by kernel_rfl) (by kernel_rfl) (by kernel_rfl) (by kernel_rfl) (fun _ _ _ h => h) ⟨j0, j2, o1⟩ (by rfl) ?_ ?_
    rotate_left
    · (intro w' hw'; obtain ⟨c0, c1, c2⟩ := hw'; first | (go_simp; done) | (go_simp; with_reducible rfl))
    try simp only [Act.put, List.setIfInBounds_toArray, List.set_cons_zero, List.set_cons_succ]
    refine J_take (i := 9) (v := ?_) rfl (by kernel_rfl) (by kernel_rfl) (by kernel_rfl) (by kernel_rfl) (fun _ _ _ h => h) ⟨j0, j2, o1⟩ (by rfl) ?_ ?_
    rotate_left
    · (intro w' hw'; obtain ⟨c0, c1, c2⟩ := hw'; first | (go_simp; done) | (go_simp; with_reducible rfl))
    try simp only [Act.put, List.setIfInBounds_toArray, List.set_cons_zero, List.set_cons_succ]
    refine J_take (i := 10) (v := ?_) rfl (by kernel_rfl) (by kernel_rfl) (by kernel_rfl) (by kernel_rfl) (fun _ _ _ h => h) ⟨j0, j2, o1⟩ (by rfl) ?_ ?_
    rotate_left
    · (intro w' hw'; obtain ⟨c0, c1, c2⟩ := hw'; first | (go_simp; done) | (go_simp; with_reducible rfl))
    try simp only [Act.put, List.setIfInBounds_toArray, List.set_cons_zero, List.set_cons_succ]
    refine J_take (i := 11) (v := ?_) rfl (by kernel_rfl) (by kernel_rfl) (by kernel_rfl) (by kernel_rfl) (fun _ _ _ h => h) ⟨j0, j2, o1⟩ (by rfl) ?_ ?_
    rotate_left
    · (intro w' hw'; obtain ⟨c0, c1, c2⟩ := hw'; first | (go_simp; done) | (go_simp; with_reducible rfl))
    try simp only [Act.put, List.setIfInBounds_toArray, List.set_cons_zero, List.set_cons_succ]
    refine J_take (i := 12) (v := ?_) rfl (by kernel_rfl) (by kernel_rfl) (by kernel_rfl) (by kernel_rfl) (fun _ _ _ h => h) ⟨j0, j2, o1⟩ (by rfl) ?_ ?_
    rotate_left
    · (intro w' hw'; obtain ⟨c0, c1, c2⟩ := hw'; first | (go_simp; done) | (go_simp; with_reducible rfl))
    try simp only [Act.put, List.setIfInBounds_toArray, List.set_cons_zero, List.set_cons_succ]
    refine J_take (i := 13) (v := ?_) rfl (by kernel_rfl) (by kernel_rfl) (by kernel_rfl) (by kernel_rfl) (fun _ _ _ h => h) ⟨j0, j2, o1⟩ (by rfl) ?_ ?_
    rotate_left
    · (intro w' hw'; obtain ⟨c0, c1, c2⟩ := hw'; first | (go_simp; done) | (go_simp; with_reducible rfl))
    try simp only [Act.put, List.setIfInBounds_toArray, List.set_cons_zero, List.set_cons_succ]
    refine J_step (i := 14) (by kernel_rfl) rfl (fun K hK => ?_)
    go_simp
    go_at_call 41
    refine (missing_any l.length _ hl).mono ?_
    rintro e w' ⟨rfl, rfl⟩
    rw [HM.out]
    go_simp
    refine hK.out _ _ (fun _ => ⟨j0, j2, o1⟩) (fun _ => ?_)
    clear hK K
    try simp only [Act.put, List.setIfInBounds_toArray, List.set_cons_zero, List.set_cons_succ]
    refine J_step (i := 15) (by kernel_rfl) rfl (fun K hK => ?_)
    go_simp
    go_at_call 40
    refine (fill_any h m _ hm8).mono ?_
    rintro e w' ⟨rfl, rfl⟩
    rw [HT.out]
    go_simp
    refine hK.out _ _ (fun _ => ⟨i0, i2, o3⟩) (fun _ => ?_)
    clear hK K
    try simp only [Act.put, List.setIfInBounds_toArray, List.set_cons_zero, List.set_cons_succ]
    refine J_take (i := 16) (v := ?_) rfl (by kernel_rfl) (by kernel_rfl) (by kernel_rfl) (by kernel_rfl) (fun _ _ _ h => h) ⟨i0, i2, o3⟩ (by rfl) ?_ ?_
    rotate_left
    · (intro w' hw'; obtain ⟨c0, c1, c2⟩ := hw'; first | (go_simp; done) | (go_simp; with_reducible rfl))
    try simp only [Act.put, List.setIfInBounds_toArray, List.set_cons_zero, List.set_cons_succ]
    refine J_take (i := 17) (v := ?_) rfl (by kernel_rfl) (by kernel_rfl) (by kernel_rfl) (by kernel_rfl) (fun _ _ _ h => h) ⟨i0, i2, o3⟩ (by rfl) ?_ ?_
    rotate_left
    · (intro w' hw'; obtain ⟨c0, c1, c2⟩ := hw'; first | (go_simp; done) | (go_simp; with_reducible rfl))
    try simp only [Act.put, List.setIfInBounds_toArray, List.set_cons_zero, List.set_cons_succ]
    refine J_take (i := 18) (v := ?_) rfl (by kernel_rfl) (by kernel_rfl) (by kernel_rfl) (by kernel_rfl) (fun _ _ _ h => h) ⟨i0, i2, o3⟩ (by rfl) ?_ ?_
    rotate_left
    · (intro w' hw'; obtain ⟨c0, c1, c2⟩ := hw'; first | (go_simp; done) | (go_simp; with_reducible rfl))
    try simp only [Act.put, List.setIfInBounds_toArray, List.set_cons_zero, List.set_cons_succ]
    refine J_step (i := 19) (by kernel_rfl) rfl (fun K hK => ?_)
    go_simp
    refine hK.out _ _ (fun h => absurd rfl h) (fun _ => ?_)
    clear hK K
    try simp only [Act.put, List.setIfInBounds_toArray, List.set_cons_zero, List.set_cons_succ]
    refine J_done (by kernel_rfl) ?_ _
    refine NoPanic.normal ?_
    go_wp2
    go_ret
    exact HFIN.out.1 ▸ HFIN.out.2
end Go.Proofs.YtpoilaappcjbeaaGreatDoor
end

section
namespace Go.Proofs.YtpoilaappcjbeaaGreatDoor
open Go.RowKit
attribute [local go_sem] Oper.semAt_some

namespace Bc
def alB : List Bool := [] ++ headB 1 true ++ bdBits 1 [(0, 97)]
theorem alB_len : alB.length = 18 := by decide +kernel
theorem alB_val : Bt.packs false false alB = [75, 4, 0] := by decide +kernel
theorem al_fit : fit [97] [(0, 97)] 0 = true := by decide +kernel
end Bc
theorem bs_one (w : World) : Bs (w.alloc (.cells #[.int .u8 97] 5 (1, 2))) (some ⟨w.heap.size, 0, none⟩) 1 1 [97] := by
  refine ⟨rfl, Nat.le_refl _, by omega, by omega, fun h => (by cases h), fun i hi => ⟨w.heap.size, 0, rfl, by simp, ?_⟩⟩
  obtain rfl : i = 0 := by omega
  rw [cell_of_row _ _ _ _ _ (1, 2) (heap_alloc_last w _)]
  rfl
theorem ts_one (w : World) : Ts2 (w.alloc (.cells #[.int .i64 0, .int .i64 97] 59)) (some ⟨w.heap.size, 0, none⟩) 1 1 [(0, 97)] := by
  refine ⟨rfl, Nat.le_refl _, fun h => (by cases h), fun i hi => ⟨w.heap.size, 0, rfl, by simp, ?_⟩, fun i hi => ?_⟩
  · obtain rfl : i = 0 := by omega
    rw [cell_of_row _ _ _ _ _ (0, 0) (heap_alloc_last w _), cell_of_row _ _ _ _ _ (0, 0) (heap_alloc_last w _)]
    exact ⟨rfl, rfl⟩
  · obtain rfl : i = 0 := by omega
    decide
set_option maxRecDepth 100000 in
set_option maxHeartbeats 1000000 in
theorem alive10_any (w : World) (hoo : Bc.Oo w) (hz : 0 < w.heap.size) : Calls Tryz.prog 7 #[] w fun e w' => e = .returned (.bool true) ∧ Below w.heap.size w w' := by
  have HOO := Lib.hid (And.intro hoo hz)
  clear hoo hz
  go_enter Tryz.func7, Tryz.ntmps7
  go_wp2_with fail
  refine (newWriter_any false w.heap.size w (Nat.le_refl _)).mono ?_
  rintro e w1 ⟨rfl, hwr, hb1⟩
  have hal2 := below_alloc w1 (.cells #[.int .i64 0, .int .i64 97] 59)
  have hal3 := below_alloc (w1.alloc (.cells #[.int .i64 0, .int .i64 97] 59)) (.cells #[.int .u8 97] 5 (1, 2))
  have hb3 := below_then hb1 (below_then hal2 hal3)
  have hg := hwr.lt
  have kc2 := Lib.run_convert_bytes_const (P := Tryz.prog) (w1.alloc (.cells #[.int .i64 0, .int .i64 97] 59)) 22 5 #[.int .u8 97] 1 1 Tryz.underlying22 Tryz.underlying5
  have hsz : (w1.alloc (.cells #[.int .i64 0, .int .i64 97] 59)).heap.size = w1.heap.size + 1 := by simp
  have hwt := Bc.write_1 ((w1.alloc (.cells #[.int .i64 0, .int .i64 97] 59)).alloc (.cells #[.int .u8 97] 5 (1, 2))) w.heap.size w.heap.size (.slice none 0 0) [] (some ⟨w1.heap.size, 0, none⟩) 1 [(0, 97)] (some ⟨(w1.alloc (.cells #[.int .i64 0, .int .i64 97] 59)).heap.size, 0, none⟩) 1 1 [97] true
    (hwr.mono (below_then hal2 hal3)) hb3.size ((ts_one w1).mono hal3) (bs_one _) (by decide) (HOO.out.1.mono HOO.out.2 hb3) (Nat.lt_of_lt_of_le HOO.out.2 hb3.size)
    (fun _ ad e hk => by
      obtain rfl := Option.some.inj e
      rcases hk with hk | hk
      · simp only at hk; omega
      · simp [Value.ownBlock] at hk) Bc.al_fit (by decide)
  have HWT : Hid (Calls Tryz.prog 10 #[.pointer (some ⟨w.heap.size, 0, none⟩), .agg #[.int .i64 1, .slice (some ⟨w1.heap.size, 0, none⟩) 1 1, .slice (some ⟨(w1.alloc (.cells #[.int .i64 0, .int .i64 97] 59)).heap.size, 0, none⟩) 1 1], .bool true] ((w1.alloc (.cells #[.int .i64 0, .int .i64 97] 59)).alloc (.cells #[.int .u8 97] 5 (1, 2))) (Bc.WPost ((w1.alloc (.cells #[.int .i64 0, .int .i64 97] 59)).alloc (.cells #[.int .u8 97] 5 (1, 2))) w.heap.size w.heap.size (.slice none 0 0) Bc.alB)) := Lib.hid hwt
  have HB3 := Lib.hid hb3
  rw [hsz] at HWT kc2
  clear hsz
  clear hal2 hal3 hb3 hwt hwr hb1 hg
  go_wp2_with fail
  refine HWT.out.mono ?_
  rintro e w4 ⟨rfl, v4, hw4, hc4, _⟩
  have hb4 := HB3.out.trans (hc4.below HB3.out.size (fun j e => by
    rcases e with rfl | e
    · exact Nat.le_refl _
    · simp [Value.ownBlock] at e))
  have HBY := Lib.hid (bytes_any w4 w.heap.size w.heap.size false v4 Bc.alB hw4 (by rw [Bc.alB_len]; decide))
  have HB4 := Lib.hid hb4
  clear hw4 hc4 hb4 HWT HB3 kc2
  go_wp2_with fail
  refine HBY.out.mono ?_
  rintro e w5 ⟨x, rfl, ox, hb5⟩
  rw [Bc.alB_val, Bc.alB_len] at ox
  obtain ⟨xa, xc, rfl, hxs⟩ := own_bs ox (by decide)
  have hxs2 : Bs w5 xa 3 xc [75, 4, 0] := hxs
  obtain ⟨bx, offx, rfl, _, cx⟩ := hxs2.at' 0 (by omega)
  obtain ⟨bx1, offx1, e1, _, cx1⟩ := hxs2.at' 1 (by omega)
  obtain ⟨bx2, offx2, e2, _, cx2⟩ := hxs2.at' 2 (by omega)
  simp only [Option.some.injEq, Addr.mk.injEq, and_true] at e1 e2
  obtain ⟨rfl, rfl⟩ := e1
  obtain ⟨rfl, rfl⟩ := e2
  have k0 : w5.cell? ⟨bx, offx, none⟩ = some (.int .u8 75) := cx
  have k1 : w5.cell? ⟨bx, offx + 1, none⟩ = some (.int .u8 4) := cx1
  have k2 : w5.cell? ⟨bx, offx + 2, none⟩ = some (.int .u8 0) := cx2
  have HF := Lib.hid (below_then HB4.out hb5)
  clear hxs hxs2 cx cx1 cx2 ox hb5 HB4 HBY
  go_wp2
  go_ret
  exact ⟨rfl, HF.out⟩
end Go.Proofs.YtpoilaappcjbeaaGreatDoor
end

section
namespace Go.Proofs.YtpoilaappcjbeaaGreatDoor
open Go.ChangeShapes Go.WideShapes Go.ChangeAt Go.RowKit

theorem laid_oo : (Rows.laid_burnish_block_ownOrder : DataW Unit) = .agg (Bc.order.map fun n => .lit (.int .i64 ((n : Nat) : Int))) := by kernel_rfl
theorem oo_of_laid {W : World} (h : laidMetH Tryz.prog [("burnish/block.ownOrder", Rows.laid_burnish_block_ownOrder)] W) : Bc.Oo W ∧ 0 < W.heap.size := by
  rw [MakeChecks.laidMetH_plain _ _ _ (by kernel_rfl)] at h
  obtain ⟨ps, ⟨g, t, cs, fuel, p, q, hg, ht, hv, hd, _, _⟩, _, _⟩ := h
  obtain rfl := Option.some.inj ((show Tryz.prog.globalNamed "burnish/block.ownOrder" = some 0 by kernel_rfl).symm.trans hg)
  obtain rfl := Option.some.inj ((show (Tryz.prog.globals[0]?).map (·.type) = some 135 by kernel_rfl).symm.trans ht)
  obtain ⟨xs, m, _, ex, _, hl, hel⟩ := DataW.trod_array Tryz.underlying135 hd
  have c5 : Tryz.prog.cellsOf 3 = 1 := by kernel_rfl
  have hcell : Bc.Oo W := fun r hr => by
    have hE := hel r hr
    rw [c5, Nat.mul_one, List.getElem?_eq_getElem (by omega)] at hE
    obtain ⟨z, e1, e2, _⟩ := DataW.trod_int Tryz.underlying3 hE
    have hlen : Bc.order.length = 19 := by rfl
    have e3 : (xs.map (·.1)) = Bc.order.map fun n => .lit (.int .i64 ((n : Nat) : Int)) := by
      have := (Prod.mk.inj ex).1
      rw [laid_oo] at this
      exact (DataW.agg.inj this).symm
    have e4 : (xs.map (·.1))[r]? = (Bc.order.map fun n => (DataW.lit (.int .i64 ((n : Nat) : Int)) : DataW Unit))[r]? := by rw [e3]
    rw [List.getElem?_map, List.getElem?_map, List.getElem?_eq_getElem (by omega : r < xs.length), List.getElem?_eq_getElem (by omega : r < Bc.order.length), e2] at e4
    have hz : z = ((Bc.order.getD r 0 : Nat) : Int) := by
      simp only [Option.map_some, Option.some.injEq, DataW.lit.injEq, Lit.int.injEq, true_and] at e4
      rw [e4, List.getD, List.getElem?_eq_getElem (by omega : r < Bc.order.length)]; rfl
    rw [World.var?_cell hg hv r, ← hz]
    have : cs.toList[r]? = some (.int .i64 z) := by
      have h0 : ((cs.toList.drop r).take 1)[0]? = some (.int .i64 z) := by rw [e1]; rfl
      simpa using h0
    simpa using this
  refine ⟨hcell, ?_⟩
  have h0 := hcell 0 (by omega)
  rcases Nat.lt_or_ge 0 W.heap.size with hz | hz
  · exact hz
  · exfalso
    have hn : W.heap[0]? = none := Array.getElem?_eq_none (by omega)
    simp [World.cell?, hn] at h0
end Go.Proofs.YtpoilaappcjbeaaGreatDoor
end

section
namespace Go.Proofs.YtpoilaappcjbeaaGreatDoor
open Go.RowKit

set_option maxHeartbeats 1000000 in
theorem tokens_any (a b : Option Addr) (len cap cap' : Nat) (l : List Tok) (w : World) (h : Ts2 w a len cap l) (h' : Ts2 w b len cap' l) (hr : len ≤ 140737488355328) :
    Calls Tryz.prog 16 #[.slice a len cap, .slice b len cap'] w fun e w' => e = .returned (.bool true) ∧ ∃ n, w' = w.drewN n := by
  have H := Lib.hid h
  have H' := Lib.hid h'
  clear h h'
  go_enter Tryz.func16, Tryz.ntmps16
  go_wp2
  go_loopw [13] (fun i wr => ∃ k : Nat, k ≤ len ∧ i = .int .i64 k ∧ ∃ n, wr = w.drewN n) (fun i _ => len - (intOf i).toNat)
  case atStart => exact ⟨0, by omega, rfl, 0, rfl⟩
  case round =>
    obtain ⟨k, hk, rfl, dn, rfl⟩ := hrel
    by_cases hlt : k < len
    · obtain ⟨b1, off1, rfl, _, c0, c1⟩ := H.out.at' k hlt
      obtain ⟨b2, off2, rfl, _, d0, d1⟩ := H'.out.at' k hlt
      generalize l.getD k (0, 0) = t at *
      obtain ⟨x, y⟩ := t
      dsimp only at c0 c1 d0 d1
      go_wp2
      go_quiet (fail)
      go_wp2
      go_roundw
      case rel => exact ⟨k + 1, by omega, by go_num, _, rfl⟩
      case measure => simp [intOf]; omega
    · obtain rfl : len = k := by omega
      go_wp2
      go_ret
      exact ⟨rfl, _, rfl⟩
end Go.Proofs.YtpoilaappcjbeaaGreatDoor
end

section
namespace Go.Proofs.YtpoilaappcjbeaaGreatDoor
open Go.RowKit

theorem num_nil (w : World) : Calls Tryz.prog 50 #[.nilIface] w fun e w' => e = .returned (.int .i64 0) ∧ w = w' := by
  go_enter Tryz.func50, Tryz.ntmps50
  go_wp2
  go_ret
  exact ⟨rfl, rfl⟩
theorem num_err (n : Int) (h0 : (n == 0) = false) (w : World) : Calls Tryz.prog 50 #[.iface 51 (.int .i64 n)] w fun e w' => e = .returned (.int .i64 n) ∧ w = w' := by
  have hta : ∀ (x : Int) (w : World), (Instr.typeAssert (.iface 51 (.int .i64 x)) 32 51 true).run Tryz.prog w = .ok (.tuple #[.int .i64 x, .bool true]) w := fun _ _ => by kernel_rfl
  go_enter Tryz.func50, Tryz.ntmps50
  go_wp2
  go_ret
  exact ⟨rfl, rfl⟩
end Go.Proofs.YtpoilaappcjbeaaGreatDoor
end

section
namespace Go.Proofs.YtpoilaappcjbeaaGreatDoor
open Go.RowKit

theorem same_any (a b : Option Addr) (len cap len' cap' : Nat) (l m : List UInt8) (w : World) (h : Bs w a len cap l) (h' : Bs w b len' cap' m) :
    Calls Tryz.prog 22 #[.slice a len cap, .slice b len' cap'] w fun e w' => e = .returned (.bool (l == m)) ∧ w = w' := by
  have c1 := conv_bs (P := Tryz.prog) h 22 9 5 Tryz.underlying22 Tryz.underlying5 Tryz.underlying9
  have c2 := conv_bs (P := Tryz.prog) h' 22 9 5 Tryz.underlying22 Tryz.underlying5 Tryz.underlying9
  clear h h'
  have HE : Hid (((str l).toList == (str m).toList) = (l == m)) := Lib.hid (by rw [str_list, str_list])
  go_enter Tryz.func22, Tryz.ntmps22
  go_wp2
  go_ret
  exact ⟨by show Ending.returned (.bool ((str l).toList == (str m).toList)) = _; rw [HE.out], rfl⟩

end Go.Proofs.YtpoilaappcjbeaaGreatDoor
end

section
namespace Go.Proofs.YtpoilaappcjbeaaGreatDoor
open Go.ChangeShapes Go.WideShapes Go.ChangeAt Go.RowKit

/-- A JPEG's codes as they lie. -/
def codesV (c : Nat → Int) (v : Value) : Value := .agg #[.int .i64 (c 0), .int .i64 (c 1), .int .i64 (c 2), .int .i64 (c 3), .int .i64 (c 4), .int .i64 (c 5), .int .i64 (c 6), .int .i64 (c 7), .int .i64 (c 8), .int .i64 (c 9), .int .i64 (c 10), .int .i64 (c 11), .int .i64 (c 12), .int .i64 (c 13), .int .i64 (c 14), .int .i64 (c 15), v]
section
variable {H : Type} {enc : TypeId × Value → H} {P : Program} {W : World}
theorem sized_parts {ts : List TypeId} {ds : List (DataW H)} (h : (DataW.weightsEach P ts ds).all (· ≤ reachBytes) = true) {j : Nat} {t : TypeId} {fs : Array Field} {parts : List (DataW H)} (ht : ts[j]? = some t) (hd : ds[j]? = some (.agg parts)) (hu : P.underlying t = some (.struct fs)) :
    (DataW.weightsEach P (fs.toList.map (·.type)) parts).all (· ≤ reachBytes) = true := by
  rw [List.all_eq_true] at h ⊢
  intro n hn
  exact h n (DataW.weights_mem_each ht hd n (by simpa [DataW.weights, hu] using hn))
theorem slice_cell {t e : TypeId} {fuel : Nat} {c0 : Value} {x : DataW H × List MemPlace} (ht : P.underlying t = some (.slice e)) (h : DataW.trod enc P W 0 (fun _ => true) true fuel t [c0] = some x) : ∃ a len cap, c0 = .slice a len cap := by
  rcases Go.Deep.open_slice ht h with ⟨hcs, _⟩ | ⟨ad, len, cap, m, n, D, Pl, hcs, _⟩
  · exact ⟨_, _, _, by simpa using hcs⟩
  · exact ⟨_, _, _, by simpa using hcs⟩
theorem open_read {t e0 e1 : TypeId} {f0 f1 f2 f3 : Field} (ht : P.underlying t = some (.struct #[f0, f1, f2, f3])) (hc : P.cellsOf t = 4)
    (u0 : P.underlying f0.type = some (.slice e0)) (x0 : P.underlying e0 = some (.int .i64)) (k0 : P.cellsOf e0 = 1) (b0 : P.bytesOf e0 = 8)
    (u1 : P.underlying f1.type = some (.slice e1)) (x1 : P.underlying e1 = some (.int .u8)) (k1 : P.cellsOf e1 = 1) (b1 : P.bytesOf e1 = 1)
    (u2 : P.underlying f2.type = some .bool) (u3 : P.underlying f3.type = some (.int .i64))
    (c0 : P.cellsOf f0.type = 1) (c1 : P.cellsOf f1.type = 1) (c2 : P.cellsOf f2.type = 1) (c3 : P.cellsOf f3.type = 1) (o0 : f0.offset = 0) (o1 : f1.offset = 1) (o2 : f2.offset = 2) (o3 : f3.offset = 3)
    {v : Value} {r : Reach} {base : Nat} (hv : Value.okWide P W r base t v) {d : DataW H} {p : List MemPlace} (h : DataW.Trod enc P W 0 (fun _ => true) true t v d p)
    {ts : List TypeId} {ds : List (DataW H)} (hsz : (DataW.weightsEach P ts ds).all (· ≤ reachBytes) = true) (j : Nat) (htj : ts[j]? = some t) (hdj : ds[j]? = some d) :
    ∃ a len cap l a2 len2 cap2 l2 hi n, v = .agg #[.slice a len cap, .slice a2 len2 cap2, .bool hi, .int .i64 n] ∧ Is .i64 W a len cap l ∧ cap * 8 ≤ 140737488351232 ∧ Bs W a2 len2 cap2 l2 ∧ cap2 ≤ 140737488351232 ∧ (Lit.int .i64 n).wf = true := by
  obtain ⟨cs, rfl, hcs⟩ := okWide_struct ht hv
  rw [hc] at hcs
  obtain ⟨v0, v1, v2, v3, rfl⟩ := Go.Joins.array4 hcs
  obtain ⟨fuel, hf⟩ := h
  obtain ⟨y0, y1, y2, y3, n, hx, _, t0, t1, t2, t3⟩ := Go.Joins.trod_struct4 ht hf
  rw [o0, c0] at t0
  rw [o1, c1] at t1
  rw [o2, c2] at t2
  rw [o3, c3] at t3
  simp only [Value.cells, List.drop_zero, List.drop_succ_cons, List.take_succ_cons, List.take_zero] at t0 t1 t2 t3
  simp only [Prod.mk.injEq] at hx
  obtain ⟨rfl, _⟩ := hx
  have hp := sized_parts hsz htj hdj ht
  obtain ⟨a, len, cap, rfl⟩ := slice_cell u0 t0
  obtain ⟨a2, len2, cap2, rfl⟩ := slice_cell u1 t1
  obtain ⟨b, e2, _⟩ := DataW.trod_bool u2 t2
  obtain ⟨m, e3, _, w3⟩ := DataW.trod_int u3 t3
  simp only [List.cons.injEq, and_true] at e2 e3
  subst e2 e3
  obtain ⟨l, hl, hr⟩ := open_is u0 x0 k0 b0 (d := y0.1) (p := y0.2) ⟨n, t0⟩ hp 0 rfl rfl
  obtain ⟨l2, hl2, hr2⟩ := open_bs u1 x1 k1 b1 (d := y1.1) (p := y1.2) ⟨n, t1⟩ hp 1 rfl rfl
  exact ⟨a, len, cap, l, a2, len2, cap2, l2, b, m, rfl, hl, hr, hl2, hr2, w3⟩
set_option maxHeartbeats 1000000 in
theorem open_codes {t e e1 : TypeId} {f0 f1 : Field} (ht : P.underlying t = some (.struct #[f0, f1])) (hc : P.cellsOf t = 17)
    (u0 : P.underlying f0.type = some (.array 16 e)) (x0 : P.underlying e = some (.int .i64)) (k0 : P.cellsOf e = 1)
    (u1 : P.underlying f1.type = some (.slice e1)) (x1 : P.underlying e1 = some (.int .u8)) (k1 : P.cellsOf e1 = 1) (b1 : P.bytesOf e1 = 1)
    (c0 : P.cellsOf f0.type = 16) (c1 : P.cellsOf f1.type = 1) (o0 : f0.offset = 0) (o1 : f1.offset = 16)
    {v : Value} {r : Reach} {base : Nat} (hv : Value.okWide P W r base t v) {d : DataW H} {p : List MemPlace} (h : DataW.Trod enc P W 0 (fun _ => true) true t v d p)
    {ts : List TypeId} {ds : List (DataW H)} (hsz : (DataW.weightsEach P ts ds).all (· ≤ reachBytes) = true) (j : Nat) (htj : ts[j]? = some t) (hdj : ds[j]? = some d) :
    ∃ c a len cap l, v = codesV c (.slice a len cap) ∧ (∀ i, i < 16 → (Lit.int .i64 (c i)).wf = true) ∧ Bs W a len cap l ∧ cap ≤ 140737488351232 := by
  obtain ⟨cs, rfl, hcs⟩ := okWide_struct ht hv
  rw [hc] at hcs
  obtain ⟨fuel, hf⟩ := h
  obtain ⟨y0, y1, n, hx, _, t0, t1⟩ := Go.ChangeShapes.trod_struct2 ht hf
  rw [o0, c0] at t0
  rw [o1, c1] at t1
  simp only [Prod.mk.injEq] at hx
  obtain ⟨rfl, _⟩ := hx
  have hp := sized_parts hsz htj hdj ht
  obtain ⟨xs, m, _, _, _, hxl, hat⟩ := DataW.trod_array u0 t0
  have ho : ∀ i, i < 16 → ∃ n, (((Value.agg cs).cells.toList.drop 0).take 16 |>.drop i).take 1 = [.int .i64 n] ∧ True ∧ (Lit.int .i64 n).wf = true := by
    intro i hi
    have h1 := hat i hi
    rw [k0, Nat.mul_one, List.getElem?_eq_getElem (by omega)] at h1
    obtain ⟨n, e1, _, w1⟩ := DataW.trod_int x0 h1
    exact ⟨n, e1, trivial, w1⟩
  clear hat t0
  obtain ⟨l⟩ := cs
  match l, hcs with
  | [c0, c1, c2, c3, c4, c5, c6, c7, c8, c9, c10, c11, c12, c13, c14, c15, c16], _ =>
    simp only [Value.cells] at ho t1
    obtain ⟨n0, e0, _, w0⟩ := ho 0 (by omega)
    simp only [List.drop_zero, List.drop_succ_cons, List.take_succ_cons, List.take_zero, List.cons.injEq, and_true] at e0
    subst e0
    obtain ⟨n1, e1, _, w1⟩ := ho 1 (by omega)
    simp only [List.drop_zero, List.drop_succ_cons, List.take_succ_cons, List.take_zero, List.cons.injEq, and_true] at e1
    subst e1
    obtain ⟨n2, e2, _, w2⟩ := ho 2 (by omega)
    simp only [List.drop_zero, List.drop_succ_cons, List.take_succ_cons, List.take_zero, List.cons.injEq, and_true] at e2
    subst e2
    obtain ⟨n3, e3, _, w3⟩ := ho 3 (by omega)
    simp only [List.drop_zero, List.drop_succ_cons, List.take_succ_cons, List.take_zero, List.cons.injEq, and_true] at e3
    subst e3
    obtain ⟨n4, e4, _, w4⟩ := ho 4 (by omega)
    simp only [List.drop_zero, List.drop_succ_cons, List.take_succ_cons, List.take_zero, List.cons.injEq, and_true] at e4
    subst e4
    obtain ⟨n5, e5, _, w5⟩ := ho 5 (by omega)
    simp only [List.drop_zero, List.drop_succ_cons, List.take_succ_cons, List.take_zero, List.cons.injEq, and_true] at e5
    subst e5
    obtain ⟨n6, e6, _, w6⟩ := ho 6 (by omega)
    simp only [List.drop_zero, List.drop_succ_cons, List.take_succ_cons, List.take_zero, List.cons.injEq, and_true] at e6
    subst e6
    obtain ⟨n7, e7, _, w7⟩ := ho 7 (by omega)
    simp only [List.drop_zero, List.drop_succ_cons, List.take_succ_cons, List.take_zero, List.cons.injEq, and_true] at e7
    subst e7
    obtain ⟨n8, e8, _, w8⟩ := ho 8 (by omega)
    simp only [List.drop_zero, List.drop_succ_cons, List.take_succ_cons, List.take_zero, List.cons.injEq, and_true] at e8
    subst e8
    obtain ⟨n9, e9, _, w9⟩ := ho 9 (by omega)
    simp only [List.drop_zero, List.drop_succ_cons, List.take_succ_cons, List.take_zero, List.cons.injEq, and_true] at e9
    subst e9
    obtain ⟨n10, e10, _, w10⟩ := ho 10 (by omega)
    simp only [List.drop_zero, List.drop_succ_cons, List.take_succ_cons, List.take_zero, List.cons.injEq, and_true] at e10
    subst e10
    obtain ⟨n11, e11, _, w11⟩ := ho 11 (by omega)
    simp only [List.drop_zero, List.drop_succ_cons, List.take_succ_cons, List.take_zero, List.cons.injEq, and_true] at e11
    subst e11
    obtain ⟨n12, e12, _, w12⟩ := ho 12 (by omega)
    simp only [List.drop_zero, List.drop_succ_cons, List.take_succ_cons, List.take_zero, List.cons.injEq, and_true] at e12
    subst e12
    obtain ⟨n13, e13, _, w13⟩ := ho 13 (by omega)
    simp only [List.drop_zero, List.drop_succ_cons, List.take_succ_cons, List.take_zero, List.cons.injEq, and_true] at e13
    subst e13
    obtain ⟨n14, e14, _, w14⟩ := ho 14 (by omega)
    simp only [List.drop_zero, List.drop_succ_cons, List.take_succ_cons, List.take_zero, List.cons.injEq, and_true] at e14
    subst e14
    obtain ⟨n15, e15, _, w15⟩ := ho 15 (by omega)
    simp only [List.drop_zero, List.drop_succ_cons, List.take_succ_cons, List.take_zero, List.cons.injEq, and_true] at e15
    subst e15
    simp only [List.drop_zero, List.drop_succ_cons, List.take_succ_cons, List.take_zero] at t1
    obtain ⟨a, len, cap, rfl⟩ := slice_cell u1 t1
    obtain ⟨l, hl, hr⟩ := open_bs u1 x1 k1 b1 (d := y1.1) (p := y1.2) ⟨n, t1⟩ hp 1 rfl rfl
    refine ⟨fun i => [n0, n1, n2, n3, n4, n5, n6, n7, n8, n9, n10, n11, n12, n13, n14, n15].getD i 0, a, len, cap, l, rfl, fun i hi => ?_, hl, hr⟩
    match i, hi with
    | 0, _ => exact w0
    | 1, _ => exact w1
    | 2, _ => exact w2
    | 3, _ => exact w3
    | 4, _ => exact w4
    | 5, _ => exact w5
    | 6, _ => exact w6
    | 7, _ => exact w7
    | 8, _ => exact w8
    | 9, _ => exact w9
    | 10, _ => exact w10
    | 11, _ => exact w11
    | 12, _ => exact w12
    | 13, _ => exact w13
    | 14, _ => exact w14
    | 15, _ => exact w15
    | i + 16, h => omega
end
end Go.Proofs.YtpoilaappcjbeaaGreatDoor
end

section
namespace Go.Proofs.YtpoilaappcjbeaaGreatDoor
open Go.ChangeShapes Go.WideShapes Go.ChangeAt Go.RowKit

section
variable {H : Type} {enc : TypeId × Value → H} {P : Program} {W : World}
theorem open_toks {t e : TypeId} {f0 f1 : Field} (ht : P.underlying t = some (.slice e)) (he : P.underlying e = some (.struct #[f0, f1]))
    (u0 : P.underlying f0.type = some (.int .i64)) (u1 : P.underlying f1.type = some (.int .i64))
    (k0 : P.cellsOf f0.type = 1) (k1 : P.cellsOf f1.type = 1) (o0 : f0.offset = 0) (o1 : f1.offset = 1) (hc : P.cellsOf e = 2) (hby : P.bytesOf e = 16)
    {a : Option Addr} {len cap : Nat} {d : DataW H} {p : List MemPlace} (h : DataW.Trod enc P W 0 (fun _ => true) true t (.slice a len cap) d p)
    {ts : List TypeId} {ds : List (DataW H)} (hsz : (DataW.weightsEach P ts ds).all (· ≤ reachBytes) = true) (j : Nat) (htj : ts[j]? = some t) (hdj : ds[j]? = some d) :
    ∃ l, Ts2 W a len cap l ∧ cap * 16 ≤ 140737488351232 := by
  obtain ⟨fuel, hf⟩ := h
  rcases Go.Deep.open_slice ht hf with ⟨hcs, _⟩ | ⟨ad, len', cap', m, n, D, Pl, hcs, _, hl, _, hmm, hx, hi⟩
  · simp [Value.cells] at hcs
    obtain ⟨rfl, rfl, rfl⟩ := hcs
    exact ⟨[], ⟨rfl, Nat.le_refl _, fun _ => rfl, fun i hi => absurd hi (by omega), fun i hi => absurd hi (by omega)⟩, by omega⟩
  · simp [Value.cells] at hcs
    obtain ⟨rfl, rfl, rfl⟩ := hcs
    simp only [if_true] at hmm
    subst hmm
    simp only [Prod.mk.injEq] at hx
    obtain ⟨rfl, _⟩ := hx
    have hreach : m * 16 ≤ 140737488351232 := by
      have := sized_slice hsz htj hdj ht
      rw [hby] at this
      simp only [List.length_map, List.length_range, reachBytes] at this
      omega
    have row : ∀ i, i < len → ∃ q : Tok, W.cell? (ad.add (i * 2)) = some (.int .i64 q.1) ∧ W.cell? (ad.add (i * 2 + 1)) = some (.int .i64 q.2) ∧
        (Lit.int .i64 q.1).wf = true ∧ (Lit.int .i64 q.2).wf = true := by
      intro i hil
      obtain ⟨cs', hcc, htr⟩ := hi i (by omega)
      rw [hc] at hcc
      obtain ⟨_, hcl, hat⟩ := World.cells?_some hcc
      obtain ⟨y0, y1, n', _, _, t0, t1⟩ := trod_struct2 he htr
      rw [o0, k0] at t0
      rw [o1, k1] at t1
      obtain ⟨n0, e0, _, w0⟩ := DataW.trod_int u0 t0
      obtain ⟨n1, e1, _, w1⟩ := DataW.trod_int u1 t1
      match cs', hcl with
      | [c0, c1], _ =>
        simp at e0 e1
        subst e0 e1
        have a0 := hat 0 (by omega)
        have a1 := hat 1 (by omega)
        rw [Go.Deep.add_add] at a0 a1
        exact ⟨(n0, n1), a0, a1, w0, w1⟩
    by_cases h0 : len = 0
    · subst h0
      exact ⟨[], ⟨rfl, by omega, fun e => by simp at e, fun i hi => absurd hi (by omega), fun i hi => absurd hi (by omega)⟩, hreach⟩
    · obtain ⟨b, off, spot⟩ := ad
      have hspot : spot = none := by
        obtain ⟨q, hq, _⟩ := row 0 (by omega)
        simpa [Addr.add] using World.cell?_spot hq
      subst hspot
      have each : ∀ i, ∃ q : Tok, i < len → b < W.heap.size ∧ W.cell? ⟨b, off + i * 2, none⟩ = some (.int .i64 q.1) ∧ W.cell? ⟨b, off + i * 2 + 1, none⟩ = some (.int .i64 q.2) ∧
          (Lit.int .i64 q.1).wf = true ∧ (Lit.int .i64 q.2).wf = true := by
        intro i
        by_cases hil : i < len
        · obtain ⟨q, a0, a1, w0, w1⟩ := row i hil
          rw [Go.WideShapes.add_plain] at a0 a1
          refine ⟨q, fun _ => ⟨block_lt_of_cell a0, a0, ?_, w0, w1⟩⟩
          rw [Nat.add_assoc]; exact a1
        · exact ⟨(0, 0), fun h => absurd h hil⟩
      refine ⟨(List.range len).map fun i => Classical.choose (each i), ⟨by simp, by omega, fun e => by simp at e, fun i hi => ?_, fun i hi => ?_⟩, hreach⟩
      · have e : ((List.range len).map fun i => Classical.choose (each i)).getD i (0, 0) = Classical.choose (each i) := by simp [List.getD, List.getElem?_range hi]
        rw [e]
        obtain ⟨hb, a0, a1, _⟩ := Classical.choose_spec (each i) hi
        exact ⟨b, off, rfl, hb, a0, a1⟩
      · have e : ((List.range len).map fun i => Classical.choose (each i)).getD i (0, 0) = Classical.choose (each i) := by simp [List.getD, List.getElem?_range hi]
        rw [e]
        obtain ⟨_, _, _, w0, w1⟩ := Classical.choose_spec (each i) hi
        exact ⟨w0, w1⟩
end
end Go.Proofs.YtpoilaappcjbeaaGreatDoor
end

section
namespace Go.Proofs.YtpoilaappcjbeaaGreatDoor
open Go.ChangeShapes Go.WideShapes Go.ChangeAt Go.RowKit

section
variable {H : Type} {enc : TypeId × Value → H} {P : Program} {W : World}
theorem open_case {t e0 e1 : TypeId} {f0 f1 f2 f3 g0 g1 : Field} (ht : P.underlying t = some (.struct #[f0, f1, f2, f3])) (hc : P.cellsOf t = 4)
    (u0 : P.underlying f0.type = some (.slice e0)) (x0 : P.underlying e0 = some (.int .u8)) (k0 : P.cellsOf e0 = 1) (b0 : P.bytesOf e0 = 1)
    (u1 : P.underlying f1.type = some (.slice e1)) (x1 : P.underlying e1 = some (.struct #[g0, g1])) (y0' : P.underlying g0.type = some (.int .i64)) (y1' : P.underlying g1.type = some (.int .i64)) (z0 : P.cellsOf g0.type = 1) (z1 : P.cellsOf g1.type = 1) (q0 : g0.offset = 0) (q1 : g1.offset = 1) (k1 : P.cellsOf e1 = 2) (b1 : P.bytesOf e1 = 16)
    (u2 : P.underlying f2.type = some (.int .i64)) (u3 : P.underlying f3.type = some .bool)
    (c0 : P.cellsOf f0.type = 1) (c1 : P.cellsOf f1.type = 1) (c2 : P.cellsOf f2.type = 1) (c3 : P.cellsOf f3.type = 1) (o0 : f0.offset = 0) (o1 : f1.offset = 1) (o2 : f2.offset = 2) (o3 : f3.offset = 3)
    {v : Value} {r : Reach} {base : Nat} (hv : Value.okWide P W r base t v) {d : DataW H} {p : List MemPlace} (h : DataW.Trod enc P W 0 (fun _ => true) true t v d p)
    {ts : List TypeId} {ds : List (DataW H)} (hsz : (DataW.weightsEach P ts ds).all (· ≤ reachBytes) = true) (j : Nat) (htj : ts[j]? = some t) (hdj : ds[j]? = some d) :
    ∃ a len cap l a2 len2 cap2 l2 n b, v = .agg #[.slice a len cap, .slice a2 len2 cap2, .int .i64 n, .bool b] ∧ Bs W a len cap l ∧ cap ≤ 140737488351232 ∧ Ts2 W a2 len2 cap2 l2 ∧ cap2 * 16 ≤ 140737488351232 ∧ (Lit.int .i64 n).wf = true := by
  obtain ⟨cs, rfl, hcs⟩ := okWide_struct ht hv
  rw [hc] at hcs
  obtain ⟨v0, v1, v2, v3, rfl⟩ := Go.Joins.array4 hcs
  obtain ⟨fuel, hf⟩ := h
  obtain ⟨y0, y1, y2, y3, n, hx, _, t0, t1, t2, t3⟩ := Go.Joins.trod_struct4 ht hf
  rw [o0, c0] at t0
  rw [o1, c1] at t1
  rw [o2, c2] at t2
  rw [o3, c3] at t3
  simp only [Value.cells, List.drop_zero, List.drop_succ_cons, List.take_succ_cons, List.take_zero] at t0 t1 t2 t3
  simp only [Prod.mk.injEq] at hx
  obtain ⟨rfl, _⟩ := hx
  have hp := sized_parts hsz htj hdj ht
  obtain ⟨a, len, cap, rfl⟩ := slice_cell u0 t0
  obtain ⟨a2, len2, cap2, rfl⟩ := slice_cell u1 t1
  obtain ⟨m2, e2, _, w2⟩ := DataW.trod_int u2 t2
  obtain ⟨b, e3, _⟩ := DataW.trod_bool u3 t3
  simp only [List.cons.injEq, and_true] at e2 e3
  subst e2 e3
  obtain ⟨l, hl, hr⟩ := open_bs u0 x0 k0 b0 (d := y0.1) (p := y0.2) ⟨n, t0⟩ hp 0 rfl rfl
  obtain ⟨l2, hl2, hr2⟩ := open_toks u1 x1 y0' y1' z0 z1 q0 q1 k1 b1 (d := y1.1) (p := y1.2) ⟨n, t1⟩ hp 1 rfl rfl
  exact ⟨a, len, cap, l, a2, len2, cap2, l2, m2, b, rfl, hl, hr, hl2, hr2, w2⟩
end
end Go.Proofs.YtpoilaappcjbeaaGreatDoor
end
