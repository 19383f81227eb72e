/- (*Writer).Bytes: its contract. -/
import Derived.Test.YtkjdekaipphlpaaBitsFill
import Derived.Test.YtkjdekaipphlpaaBytesClone
import Derived.Test.YtkjdekaipphlpaaBitsAdd
namespace Go.Proofs.Ytkjdekaipphlpaa
open Go.RowKit

def BytesWPost (w : World) (h : Bool) (l : List Bool) (e : Ending) (w' : World) : Prop :=
  ∃ v, e = .returned v ∧ w'.ownsRow w.heap.size 5 1 v ((l.length + 7) / 8) (bvs (Bt.packs h h l)) ∧ Below w.heap.size w w'
theorem Bt.fill_val (x m : Nat) (h : Bool) (hx : x < 256) (hm : m ≤ 7) :
    bits .or .u8 (x : Int) (IntKind.u8.wrap ((if h then 2 ^ m - 1 else 0 : Nat) : Int)) = ((x ||| (if h then 2 ^ m - 1 else 0) : Nat) : Int) ∧ x ||| (if h then 2 ^ m - 1 else 0) < 256 := by
  have h1 : (if h then 2 ^ m - 1 else 0) < 256 := by
    have := Bt.pow_le m 7 hm
    simp only [Nat.reducePow] at this
    split <;> omega
  generalize (if h then 2 ^ m - 1 else 0) = y at *
  rw [IntWalk.u8_in _ ⟨by omega, by omega⟩]
  exact ⟨u8_or_nat x y hx h1, Nat.or_lt_two_pow (n := 8) hx h1⟩
set_option maxHeartbeats 2000000 in
set_option maxRecDepth 100000 in
theorem bytes_any (w : World) (B g : Nat) (h : Bool) (v : Value) (l : List Bool) (H : Wr w B g h v l) (hl : l.length ≤ 1000000000000) :
    Calls Try.prog 31 #[.pointer (some ⟨g, 0, none⟩)] w (BytesWPost w h l) := by
  have k1 := H.c1
  have k2 := H.c2
  by_cases h0 : l.length = 0
  · have hnil : l = [] := List.eq_nil_of_length_eq_zero h0
    subst hnil
    clear H k1
    have k2' : w.cell? ⟨g, 2, none⟩ = some (.int .i64 0) := k2
    clear k2 h0
    go_enter Try.func31, Try.ntmps31
    go_wp2
    go_ret
    exact ⟨_, rfl, World.ownsRow_nil _ _ _ _, Below.refl _ _⟩
  · have H0 := Lib.hid H
    clear H
    obtain ⟨va, vc, rfl, hbs⟩ := own_bs H0.out.own (by omega)
    have HB := Lib.hid hbs
    clear hbs
    have hz : ((l.length : Int) == 0) = false := by simpa using h0
    go_enter Try.func31, Try.ntmps31
    go_wp2_with fail
    refine (clone_any _ _ _ _ _ HB.out (by omega)).mono ?_
    rintro e w1 ⟨v1, rfl, own1, hb1⟩
    obtain ⟨q, hq⟩ : ∃ q, (l.length + 7) / 8 = q + 1 := ⟨(l.length + 7) / 8 - 1, by omega⟩
    rw [hq] at own1
    rcases own_nil_or own1 with ⟨_, hx⟩ | ⟨gv, cap2, rfl, hle, hbg, hgl, _⟩
    · omega
    have H1 := H0.out.mono hb1
    have j0 := H1.c0
    have j2 := H1.c2
    have hgw := H0.out.lt
    have hne : g ≠ gv := by omega
    have hlen := Bt.packs_length h false l
    rw [hq] at hlen
    have o1 : w1.cell? ⟨gv, q, none⟩ = some (.int .u8 (gb (Bt.packs h false l) q)) := by
      rw [own1.cellAt q (by omega), bvs_get _ _ (by rw [hlen]; omega)]
    have o2 : w1.frozen? ⟨gv, q, none⟩ = false := own_frozen own1 q
    have n0 := World.new_ne _ _ j0
    have n2 := World.new_ne _ _ j2
    have n1 := World.new_ne _ _ o1
    have o3 : (w1.alloc (.cells #[.bool h] 69)).cell? ⟨gv, q, none⟩ = some (.int .u8 (gb (Bt.packs h false l) q)) := by
      rw [World.cell?_of_block (Below.heap_alloc w1 _ _ (block_lt_of_cell o1))]; exact o1
    have o4 : (w1.alloc (.cells #[.bool h] 69)).frozen? ⟨gv, q, none⟩ = false := by
      rw [World.frozen?_of_block (Below.heap_alloc w1 _ _ (block_lt_of_cell o1))]; exact o2
    have i0 : (w1.alloc (.cells #[.bool h] 69)).cell? ⟨g, 0, none⟩ = some (.bool h) := by
      rw [World.cell?_of_block (Below.heap_alloc w1 _ _ (block_lt_of_cell j0))]; exact j0
    have i2 : (w1.alloc (.cells #[.bool h] 69)).cell? ⟨g, 2, none⟩ = some (.int .i64 (l.length : Nat)) := by
      rw [World.cell?_of_block (Below.heap_alloc w1 _ _ (block_lt_of_cell j2))]; exact j2
    have hfin := Bt.packs_fill h l (by omega)
    rw [hlen, Nat.add_sub_cancel] at hfin
    have hg256 := gb_lt (Bt.packs h false l) q
    obtain ⟨m, hm⟩ : ∃ m, (8 - l.length % 8) % 8 = m := ⟨_, rfl⟩
    have hm8 : m ≤ 7 := by omega
    rw [hm] at hfin
    obtain ⟨e1, e2⟩ := Bt.fill_val (gb (Bt.packs h false l) q) m h hg256 hm8
    have HFIN : Hid (bits .or .u8 (gb (Bt.packs h false l) q : Int) (IntKind.u8.wrap ((if h then 2 ^ m - 1 else 0 : Nat) : Int)) = ((gb (Bt.packs h false l) q ||| (if h then 2 ^ m - 1 else 0) : Nat) : Int) ∧
        BytesWPost w h l (.returned (.slice (some ⟨gv, 0, none⟩) (q + 1) cap2)) ((w1.setCell ⟨gv, q, none⟩ (.int .u8 ((gb (Bt.packs h false l) q ||| (if h then 2 ^ m - 1 else 0) : Nat) : Int))).alloc (.cells #[.bool h] 69)).drew) := Lib.hid (by
      refine ⟨e1, _, rfl, ?_, (((hb1.setCell hbg _).alloc (by simp; exact hb1.size) _)).drew⟩
      have hs := own1.stored q (.int .u8 ((gb (Bt.packs h false l) q ||| (if h then 2 ^ m - 1 else 0) : Nat) : Int))
      have e3 : (bvs (Bt.packs h false l)).set q (.int .u8 ((gb (Bt.packs h false l) q ||| (if h then 2 ^ m - 1 else 0) : Nat) : Int)) = bvs (Bt.packs h h l) := by
        rw [hfin, ← bvs_set, Nat.mod_eq_of_lt e2]
      rw [hq, ← e3]
      exact own_below (hs.1.alloc _) (Below.refl _ _).drew)
    have HM := Lib.hid hm
    clear hfin e1 e2 hm own1 hb1 H1 hlen hz k1 k2
    have HQ := Lib.hid hq
    clear hq
    obtain ⟨t, ht⟩ : ∃ t, (if h then 2 ^ m - 1 else 0) = t := ⟨_, rfl⟩
    rw [ht] at HFIN
    have HT := Lib.hid ht
    clear ht
    generalize gb (Bt.packs h false l) q = x at *
    have a1 : IntKind.i64.wrap (q : Int) = q := IntWalk.i64_in _ (by omega)
    have a2 : (0 : Int) ≤ q := by omega
    have a3 : (q : Int) < q + 1 := by omega
    go_upto_region 4 with (fail)
    refine wp_region_noPanic ?_
    refine region_J 19 (fun w' => w'.cell? ⟨g, 0, none⟩ = some (.bool h) ∧ w'.cell? ⟨g, 2, none⟩ = some (.int .i64 (l.length : Nat)) ∧ w'.cell? ⟨gv, q, none⟩ = some (.int .u8 (x : Nat))) (by kernel_rfl) ?_
    refine J_take (i := 0) (v := ?_) rfl (by kernel_rfl) (by kernel_rfl) (by kernel_rfl) (by kernel_rfl) (fun _ _ _ h => h) ⟨j0, j2, o1⟩ (by rfl) ?_ ?_
    rotate_left
    · (intro w' hw'; obtain ⟨c0, c1, c2⟩ := hw'; first | (go_simp; done) | (go_simp; with_reducible rfl))
    try simp only [Act.put, List.setIfInBounds_toArray, List.set_cons_zero, List.set_cons_succ]
    refine J_take (i := 1) (v := ?_) rfl (by kernel_rfl) (by kernel_rfl) (by kernel_rfl) (by kernel_rfl) (fun _ _ _ h => h) ⟨j0, j2, o1⟩ (by rfl) ?_ ?_
    rotate_left
    · (intro w' hw'; obtain ⟨c0, c1, c2⟩ := hw'; first | (go_simp; done) | (go_simp; with_reducible rfl))
    try simp only [Act.put, List.setIfInBounds_toArray, List.set_cons_zero, List.set_cons_succ]
    refine J_take (i := 2) (v := ?_) rfl (by kernel_rfl) (by kernel_rfl) (by kernel_rfl) (by kernel_rfl) (fun _ _ _ h => h) ⟨j0, j2, o1⟩ (by rfl) ?_ ?_
    rotate_left
    · (intro w' hw'; obtain ⟨c0, c1, c2⟩ := hw'; first | (go_simp; done) | (go_simp; with_reducible rfl))
    try simp only [Act.put, List.setIfInBounds_toArray, List.set_cons_zero, List.set_cons_succ]
    refine J_take (i := 3) (v := ?_) rfl (by kernel_rfl) (by kernel_rfl) (by kernel_rfl) (by kernel_rfl) (fun _ _ _ h => h) ⟨j0, j2, o1⟩ (by rfl) ?_ ?_
    rotate_left
    · (intro w' hw'; obtain ⟨c0, c1, c2⟩ := hw'; first | (go_simp; done) | (go_simp; with_reducible rfl))
    try simp only [Act.put, List.setIfInBounds_toArray, List.set_cons_zero, List.set_cons_succ]
    refine J_take (i := 4) (v := ?_) rfl (by kernel_rfl) (by kernel_rfl) (by kernel_rfl) (by kernel_rfl) (fun _ _ _ h => h) ⟨j0, j2, o1⟩ (by rfl) ?_ ?_
    rotate_left
    · (intro w' hw'; obtain ⟨c0, c1, c2⟩ := hw'; first | (go_simp; done) | (go_simp; with_reducible rfl))
    try simp only [Act.put, List.setIfInBounds_toArray, List.set_cons_zero, List.set_cons_succ]
    refine J_take (i := 5) (v := ?_) rfl (by kernel_rfl) (by kernel_rfl) (by kernel_rfl) (by kernel_rfl) (fun _ _ _ h => h) ⟨j0, j2, o1⟩ (by rfl) ?_ ?_
    rotate_left
    · (intro w' hw'; obtain ⟨c0, c1, c2⟩ := hw'; first | (go_simp; done) | (go_simp; with_reducible rfl))
    try simp only [Act.put, List.setIfInBounds_toArray, List.set_cons_zero, List.set_cons_succ]
    refine J_take (i := 6) (v := ?_) rfl (by kernel_rfl) (by kernel_rfl) (by kernel_rfl) (by kernel_rfl) (fun _ _ _ h => h) ⟨j0, j2, o1⟩ (by rfl) ?_ ?_
    rotate_left
    · (intro w' hw'; obtain ⟨c0, c1, c2⟩ := hw'; first | (go_simp; done) | (go_simp; with_reducible rfl))
    try simp only [Act.put, List.setIfInBounds_toArray, List.set_cons_zero, List.set_cons_succ]
    refine J_take (i := 7) (v := ?_) rfl (by kernel_rfl) (by kernel_rfl) (by kernel_rfl) (by kernel_rfl) (fun _ _ _ h => h) ⟨j0, j2, o1⟩ (by rfl) ?_ ?_
    rotate_left
    · (intro w' hw'; obtain ⟨c0, c1, c2⟩ := hw'; first | (go_simp; done) | (go_simp; with_reducible rfl))
    try simp only [Act.put, List.setIfInBounds_toArray, List.set_cons_zero, List.set_cons_succ]
    refine J_take (i := 8) (v := ?_) rfl (by kernel_rfl) (by kernel_rfl) (by kernel_rfl) (by kernel_rfl) (fun _ _ _ h => h) ⟨j0, j2, o1⟩ (by rfl) ?_ ?_
    rotate_left
    · (intro w' hw'; obtain ⟨c0, c1, c2⟩ := hw'; first | (go_simp; done) | (go_simp; with_reducible rfl))
    try simp only [Act.put, List.setIfInBounds_toArray, List.set_cons_zero, List.set_cons_succ]
    refine J_take (i := 9) (v := ?_) rfl (by kernel_rfl) (by kernel_rfl) (by kernel_rfl) (by kernel_rfl) (fun _ _ _ h => h) ⟨j0, j2, o1⟩ (by rfl) ?_ ?_
    rotate_left
    · (intro w' hw'; obtain ⟨c0, c1, c2⟩ := hw'; first | (go_simp; done) | (go_simp; with_reducible rfl))
    try simp only [Act.put, List.setIfInBounds_toArray, List.set_cons_zero, List.set_cons_succ]
    refine J_take (i := 10) (v := ?_) rfl (by kernel_rfl) (by kernel_rfl) (by kernel_rfl) (by kernel_rfl) (fun _ _ _ h => h) ⟨j0, j2, o1⟩ (by rfl) ?_ ?_
    rotate_left
    · (intro w' hw'; obtain ⟨c0, c1, c2⟩ := hw'; first | (go_simp; done) | (go_simp; with_reducible rfl))
    try simp only [Act.put, List.setIfInBounds_toArray, List.set_cons_zero, List.set_cons_succ]
    refine J_take (i := 11) (v := ?_) rfl (by kernel_rfl) (by kernel_rfl) (by kernel_rfl) (by kernel_rfl) (fun _ _ _ h => h) ⟨j0, j2, o1⟩ (by rfl) ?_ ?_
    rotate_left
    · (intro w' hw'; obtain ⟨c0, c1, c2⟩ := hw'; first | (go_simp; done) | (go_simp; with_reducible rfl))
    try simp only [Act.put, List.setIfInBounds_toArray, List.set_cons_zero, List.set_cons_succ]
    refine J_take (i := 12) (v := ?_) rfl (by kernel_rfl) (by kernel_rfl) (by kernel_rfl) (by kernel_rfl) (fun _ _ _ h => h) ⟨j0, j2, o1⟩ (by rfl) ?_ ?_
    rotate_left
    · (intro w' hw'; obtain ⟨c0, c1, c2⟩ := hw'; first | (go_simp; done) | (go_simp; with_reducible rfl))
    try simp only [Act.put, List.setIfInBounds_toArray, List.set_cons_zero, List.set_cons_succ]
    refine J_take (i := 13) (v := ?_) rfl (by kernel_rfl) (by kernel_rfl) (by kernel_rfl) (by kernel_rfl) (fun _ _ _ h => h) ⟨j0, j2, o1⟩ (by rfl) ?_ ?_
    rotate_left
    · (intro w' hw'; obtain ⟨c0, c1, c2⟩ := hw'; first | (go_simp; done) | (go_simp; with_reducible rfl))
    try simp only [Act.put, List.setIfInBounds_toArray, List.set_cons_zero, List.set_cons_succ]
    refine J_step (i := 14) (by kernel_rfl) rfl (fun K hK => ?_)
    go_simp
    go_at_call 45
    refine (missing_any l.length _ hl).mono ?_
    rintro e w' ⟨rfl, rfl⟩
    rw [HM.out]
    go_simp
    refine hK.out _ _ (fun _ => ⟨j0, j2, o1⟩) (fun _ => ?_)
    clear hK K
    try simp only [Act.put, List.setIfInBounds_toArray, List.set_cons_zero, List.set_cons_succ]
    refine J_step (i := 15) (by kernel_rfl) rfl (fun K hK => ?_)
    go_simp
    go_at_call 44
    refine (fill_any h m _ hm8).mono ?_
    rintro e w' ⟨rfl, rfl⟩
    rw [HT.out]
    go_simp
    refine hK.out _ _ (fun _ => ⟨i0, i2, o3⟩) (fun _ => ?_)
    clear hK K
    try simp only [Act.put, List.setIfInBounds_toArray, List.set_cons_zero, List.set_cons_succ]
    refine J_take (i := 16) (v := ?_) rfl (by kernel_rfl) (by kernel_rfl) (by kernel_rfl) (by kernel_rfl) (fun _ _ _ h => h) ⟨i0, i2, o3⟩ (by rfl) ?_ ?_
    rotate_left
    · (intro w' hw'; obtain ⟨c0, c1, c2⟩ := hw'; first | (go_simp; done) | (go_simp; with_reducible rfl))
    try simp only [Act.put, List.setIfInBounds_toArray, List.set_cons_zero, List.set_cons_succ]
    refine J_take (i := 17) (v := ?_) rfl (by kernel_rfl) (by kernel_rfl) (by kernel_rfl) (by kernel_rfl) (fun _ _ _ h => h) ⟨i0, i2, o3⟩ (by rfl) ?_ ?_
    rotate_left
    · (intro w' hw'; obtain ⟨c0, c1, c2⟩ := hw'; first | (go_simp; done) | (go_simp; with_reducible rfl))
    try simp only [Act.put, List.setIfInBounds_toArray, List.set_cons_zero, List.set_cons_succ]
    refine J_take (i := 18) (v := ?_) rfl (by kernel_rfl) (by kernel_rfl) (by kernel_rfl) (by kernel_rfl) (fun _ _ _ h => h) ⟨i0, i2, o3⟩ (by rfl) ?_ ?_
    rotate_left
    · (intro w' hw'; obtain ⟨c0, c1, c2⟩ := hw'; first | (go_simp; done) | (go_simp; with_reducible rfl))
    try simp only [Act.put, List.setIfInBounds_toArray, List.set_cons_zero, List.set_cons_succ]
    refine J_step (i := 19) (by kernel_rfl) rfl (fun K hK => ?_)
    go_simp
    refine hK.out _ _ (fun h => absurd rfl h) (fun _ => ?_)
    clear hK K
    try simp only [Act.put, List.setIfInBounds_toArray, List.set_cons_zero, List.set_cons_succ]
    refine J_done (by kernel_rfl) ?_ _
    refine NoPanic.normal ?_
    go_wp2
    go_ret
    exact HFIN.out.1 ▸ HFIN.out.2
end Go.Proofs.Ytkjdekaipphlpaa
