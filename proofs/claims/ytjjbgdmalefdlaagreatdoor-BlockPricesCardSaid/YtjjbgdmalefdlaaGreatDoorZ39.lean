/- What merge.least lays in memory. merge.least: its contract, for two symbols or more. -/
import Derived.Test.YtjjbgdmalefdlaaGreatDoorZ3
import Derived.Test.YtjjbgdmalefdlaaGreatDoorZ9
import Derived.Test.YtjjbgdmalefdlaaGreatDoorZ14
import Derived.Test.YtjjbgdmalefdlaaGreatDoorZ16
import Derived.Test.YtjjbgdmalefdlaaGreatDoorZ23
import Derived.Test.YtjjbgdmalefdlaaGreatDoorZ29
import Derived.Test.YtjjbgdmalefdlaaGreatDoorZ38
set_option linter.unusedSimpArgs false
set_option linter.unusedVariables false
section
namespace Go.Proofs.YtjjbgdmalefdlaaGreatDoor
open Go.RowKit
open Mg (Itm)

def LeastPost (w : World) (R : List Int) (L : Nat) (e : Ending) (w' : World) : Prop :=
  ∃ v, e = .returned v ∧ w'.ownsRow w.heap.size 3 1 v R.length (ivs (Mg.lens R L)) ∧ Below w.heap.size w w'
theorem tyRs : RowTy Tryz.prog 179 180 (.slice none 0 0) 1 24 := ⟨Tryz.underlying179, by kernel_rfl, rfl, by omega⟩
theorem kf_refl (B : Nat) (A : World) : KeepsFrom B A A := ⟨Nat.le_refl _, fun _ _ _ h _ => h⟩
theorem kf_alloc {B : Nat} {A W : World} (h : KeepsFrom B A W) (o : Obj) : KeepsFrom B A (W.alloc o) :=
  ⟨by have := h.size; simp; omega, fun k x hk hx hc => ((KeepsOthers.alloc W o).from B).same k x hk (h.same k x hk hx hc) hc⟩
theorem kf_set {B : Nat} {A W : World} (h : KeepsFrom B A W) (p : Addr) (v : Value) : KeepsFrom B A (W.setCell p v) :=
  ⟨by have := h.size; simpa using this, fun k x hk hx hc => ((KeepsOthers.setCell W p v).from B).same k x hk (h.same k x hk hx hc) hc⟩
theorem own_src {w : World} {base g n cap : Nat} {e : TypeId} {xs : List Value} (h : w.ownsRow base e 1 (.slice (some ⟨g, 0, none⟩) n cap) n xs) (f : Nat → Value) (hf : ∀ i, i < n → xs[i]? = some (f i)) (U : Nat → Prop) (hU : ¬ U g) : Bk.Src w U (some ⟨g, 0, none⟩) n f := fun i hi => by
  rcases h.2 with ⟨h1, _⟩ | ⟨g2, cap2, cur, h1, _, hg, _, _, _, hx⟩
  · simp at h1
  · simp only [Value.slice.injEq, Option.some.injEq, Addr.mk.injEq, and_true, true_and] at h1
    obtain ⟨rfl, rfl⟩ := h1
    refine ⟨g, 0, cur, _, _, rfl, hU, hg, ?_⟩
    have := hf i hi
    rw [← hx] at this
    rw [Nat.zero_add, ← this]
    simp [List.getElem?_take]
    omega
/-- k rounds are laid. -/
def rvs (vs : Nat → Value) (L k : Nat) : List Value := (List.range L).map fun i => if i < k then vs i else .slice none 0 0
theorem rvs_length (vs : Nat → Value) (L k : Nat) : (rvs vs L k).length = L := by simp [rvs]
theorem rvs_get (vs : Nat → Value) (L k i : Nat) (h : i < L) : (rvs vs L k)[i]? = some (if i < k then vs i else .slice none 0 0) := by simp [rvs, List.getElem?_range h]
theorem rvs_zero (vs : Nat → Value) (L : Nat) : rvs vs L 0 = List.replicate L (.slice none 0 0) := by
  rw [List.eq_replicate_iff]
  refine ⟨rvs_length _ _ _, fun b hb => ?_⟩
  simp only [rvs, List.mem_map] at hb
  obtain ⟨i, _, rfl⟩ := hb
  rw [if_neg (by omega)]
theorem rvs_set (vs : Nat → Value) (L k : Nat) (v : Value) (h : k < L) : (rvs vs L k).set k v = rvs (fun i => if i = k then v else vs i) L (k + 1) := by
  apply List.ext_getElem?
  intro i
  rw [List.getElem?_set, rvs_length]
  by_cases hi : i < L
  · rw [rvs_get _ _ _ _ hi, rvs_get _ _ _ _ hi]
    by_cases hk : k = i
    · subst hk
      rw [if_pos rfl, if_pos hi, if_pos (by omega), if_pos rfl]
    · rw [if_neg hk]
      by_cases h2 : i < k
      · rw [if_pos h2, if_pos (by omega), if_neg (by omega)]
      · rw [if_neg h2, if_neg (by omega)]
  · have e1 : ∀ vs k, (rvs vs L k)[i]? = none := fun vs k => by rw [List.getElem?_eq_none]; rw [rvs_length]; omega
    rw [e1, e1]
    split
    · omega
    · rfl
theorem made_rvs (L : Nat) (vs : Nat → Value) : (madeCells #[.slice none 0 0] (L * 1)).toList = rvs vs L 0 := by
  rw [made_all _ _ (.slice none 0 0) (by simp) (fun i hi => by
    match i, hi with
    | 0, _ => rfl), Nat.mul_one, rvs_zero]
structure RS (w wr : World) (R : List Int) (L rb : Nat) (vs : Nat → Value) (k : Nat) : Prop where
  bel : Below w.heap.size w wr
  rows : wr.ownsRow w.heap.size 180 1 (.slice (some ⟨rb, 0, none⟩) L L) L (rvs vs L k)
  each : ∀ i, i < k → wr.ownsRow w.heap.size 186 2 (vs i) (Mg.rnd R (i + 1)).length (itv (Mg.rnd R (i + 1)))
  ne : ∀ i, i < k → ∀ g, (vs i).ownBlock = some g → g ≠ rb
theorem RS.mono {w wr wx : World} {R : List Int} {L rb : Nat} {vs : Nat → Value} {k : Nat} (h : RS w wr R L rb vs k) (hb : Below wr.heap.size wr wx) : RS w wx R L rb vs k :=
  ⟨below_then h.bel hb, own_below h.rows hb, fun i hi => own_below (h.each i hi) hb, h.ne⟩
theorem RS.put {w wr wx : World} {R : List Int} {L rb : Nat} {vs : Nat → Value} {k : Nat} (h : RS w wr R L rb vs k) (hk : k < L) {v : Value} (hb : Below wr.heap.size wr wx)
    (hv : wx.ownsRow wr.heap.size 186 2 v (Mg.rnd R (k + 1)).length (itv (Mg.rnd R (k + 1)))) :
    RS w (wx.setCell ⟨rb, k, none⟩ v) R L rb (fun i => if i = k then v else vs i) (k + 1) := by
  have h2 := h.mono hb
  have hrb := h.rows.lt rb rfl
  have c : Ch wx (wx.setCell ⟨rb, k, none⟩ v) (fun j => j = rb) := (Ch.refl wx (fun j => j = rb)).set (.inl rfl) _
  refine ⟨h2.bel.setCell (p := ⟨rb, k, none⟩) hrb.1 _, ?_, fun i hi => ?_, fun i hi g hg => ?_⟩
  · rw [← rvs_set vs L k v hk]; exact (h2.rows.stored k v).1
  · by_cases e : i = k
    · subst e
      rw [if_pos rfl]
      exact c.own (own_base hv (fun g hg => Nat.le_trans h.bel.size (hv.lt g hg).1)) (fun g hg e => by have := (hv.lt g hg).1; omega)
    · rw [if_neg e]
      exact c.own (h2.each i (by omega)) (h2.ne i (by omega))
  · by_cases e : i = k
    · subst e
      rw [if_pos rfl] at hg
      have := (hv.lt g hg).1; omega
    · skip
      rw [if_neg e] at hg
      exact h.ne i (by omega) g hg
/-- While the rounds are taken, the last one first. -/
structure LS (w W5 W : World) (n q qb tq t : Nat) (o : List Int) : Prop where
  own : W.ownsRow w.heap.size 3 1 (.slice (some ⟨q, 0, none⟩) n n) n (ivs o)
  bel : Below w.heap.size w W
  bx : Boxed W qb 53 (.slice (some ⟨q, 0, none⟩) n n)
  tk : Boxed W tq 3 (.int .i64 (t : Nat))
  kc : Bk.Kc (fun k => k = q ∨ k = tq) W5 W
  sz : W5.heap.size ≤ W.heap.size
section
variable {w W5 W : World} {n q qb tq t : Nat} {o : List Int}
theorem LS.abide (h : LS w W5 W n q qb tq t o) (h5 : w.heap.size ≤ W5.heap.size) {C : World} {row : Option Nat} (hg : W.grownBy C row) (hr : ∀ r, row = some r → W5.heap.size ≤ r ∧ ∃ o : Obj, W.heap[r]? = some o ∧ o.isCells = false) : LS w W5 C n q qb tq t o := by
  have c := Bk.kc_cells hg (fun r e => (hr r e).2)
  exact ⟨Bk.own_kc h.own c (fun _ _ h => h), h.bel.grown hg h.bel.size (fun r e => by have := (hr r e).1; omega), c qb _ h.bx rfl (fun h => h), c tq _ h.tk rfl (fun h => h), h.kc.trans (fun k o hk ho _ => c k o hk ho (fun h => h)), Nat.le_trans h.sz hg.size⟩
theorem LS.alloc (h : LS w W5 W n q qb tq t o) (x : Obj) : LS w W5 (W.alloc x) n q qb tq t o :=
  ⟨own_below h.own (below_alloc W x), h.bel.alloc h.bel.size x, h.bx.alloc x, h.tk.alloc x, h.kc.trans (Bk.Kc.alloc _ _ _), by have := h.sz; simp; omega⟩
theorem LS.set (h : LS w W5 W n q qb tq t o) (h1 : qb ≠ q) (h2 : tq ≠ q) (k : Nat) (z : Int) : LS w W5 (W.setCell ⟨q, k, none⟩ (.int .i64 z)) n q qb tq t (o.set k z) := by
  have hq := (h.own.lt q rfl).1
  exact ⟨own_set h.own k z, h.bel.setCell (p := ⟨q, k, none⟩) hq _, Bk.boxed_setO h.bx h1 k _, Bk.boxed_setO h.tk h2 k _, h.kc.trans (Bk.Kc.set (U := fun k => k = q ∨ k = tq) W ⟨q, k, none⟩ (.inl rfl) _), by simpa using h.sz⟩
theorem LS.take (h : LS w W5 W n q qb tq t o) (h1 : qb ≠ tq) (h2 : q ≠ tq) (h3 : w.heap.size ≤ tq) (z : Nat) : LS w W5 (W.setCell ⟨tq, 0, none⟩ (.int .i64 (z : Nat))) n q qb tq z o := by
  have c : Ch W (W.setCell ⟨tq, 0, none⟩ (.int .i64 (z : Nat))) (fun j => j = tq) := (Ch.refl W (fun j => j = tq)).set (.inl rfl) _
  refine ⟨c.own h.own (fun g hg e => by simp [Value.ownBlock] at hg; omega), h.bel.setCell (p := ⟨tq, 0, none⟩) h3 _, Bk.boxed_setO h.bx h1 0 _, ?_, h.kc.trans (Bk.Kc.set (U := fun k => k = q ∨ k = tq) W ⟨tq, 0, none⟩ (.inr rfl) _), by simpa using h.sz⟩
  exact (heap_setCell_same W tq 0 _ _ (.int .i64 (z : Nat)) h.tk).trans (by simp)
end
end Go.Proofs.YtjjbgdmalefdlaaGreatDoor
end

section
namespace Go.Proofs.YtjjbgdmalefdlaaGreatDoor
open Go.RowKit Go.Shelf
open Mg (Itm)
attribute [local go_sem] Oper.semAt_some

set_option maxRecDepth 100000 in
set_option maxHeartbeats 8000000 in
theorem least_two (a : Option Addr) (n cap : Nat) (R : List Int) (L : Nat) (w : World) (h : Is .i64 w a n cap R) (hn : 2 ≤ n) (hn3 : n ≤ 300) (hL : 1 ≤ L) (hL16 : L ≤ 16) (hnL : n ≤ 2 ^ L) (hR : ∀ x ∈ R, 0 ≤ x ∧ x ≤ 1099511627776) :
    Calls Tryz.prog 114 #[.slice a n cap, .int .i64 (L : Nat)] w (LeastPost w R L) := by
  have HL := Lib.hid h.hlen
  have H := Lib.hid h
  have HR := Lib.hid (fun r (hr : r ≤ 16) (x : Int) hx => (show 0 ≤ x ∧ x ≤ 1152921504606846976 from by
    have h1 := Mg.rnd_weight R 1099511627776 (by omega) hR r x hx
    have h2 : (2 : Int) ^ r ≤ 2 ^ 16 := by exact_mod_cast Nat.pow_le_pow_right (by omega) hr
    have h3 := Int.mul_le_mul_of_nonneg_left h2 (show (0 : Int) ≤ 1099511627776 by omega)
    simp only [Int.reducePow] at h3
    omega))
  have HROOM := Lib.hid (Mg.rnd_room R (by rw [HL.out]; omega) L (by omega) (by rw [HL.out]; exact hnL))
  clear h hR hnL
  refine (callsIn_wide (n := 3)).1 ?_
  have hro : (Fence.wide).round = none := rfl
  refine callsIn_of_wp_marks Tryz.func114 rfl trivial ?_ hro
  simp only [Tryz.ntmps114, List.size_toArray, List.length_cons, List.length_nil, Nat.reduceAdd, Nat.reduceSub, Array.replicate_succ, Array.replicate_zero, List.push_toArray, List.append_toArray, List.nil_append, List.cons_append]
  have d2 : decide ((n : Int) < 2) = false := by simp; omega
  gi_wp2_with (gi_at_make; refine wplIn_make_full tyRs rfl _ _ rfl w.heap.size .i64 .i64 _ _ L rfl rfl rfl rfl (by omega) (by omega) (Nat.le_refl _) ?_)
  intro w1 own1 hg1
  have hb1 : Below w.heap.size w w1 := (Below.refl _ _).grown hg1 (Nat.le_refl _) (by simp)
  have HS : Hid (RS w w1 R L w.heap.size (fun _ => .nilIface) 0) := Lib.hid ⟨hb1, by rw [← made_rvs, Nat.mul_one]; exact own1, fun i hi => by omega, fun i hi => by omega⟩
  clear own1 hg1 hb1
  generalize hrb : w.heap.size = rb at HS ⊢
  have HRB := Lib.hid hrb
  clear hrb
  gi_wp2
  gi_loopw [6, 25] (fun lv i wr => ∃ (k : Nat) (vs : Nat → Value), k ≤ L ∧ i = .int .i64 k ∧ (∃ a c, lv = .slice a (Mg.rnd R k).length c ∧ Its wr a (Mg.rnd R k).length c (Mg.rnd R k)) ∧ Hid (RS w wr R L rb vs k)) (fun _ i _ => L - (intOf i).toNat)
  case atStart => exact ⟨0, _, by omega, rfl, ⟨none, 0, rfl, its_nil _⟩, HS⟩
  case round =>
    obtain ⟨k, vs, hk, rfl, ⟨la, lc, rfl, hit⟩, HK⟩ := hrel
    have HIT := Lib.hid hit
    clear hit
    by_cases hlt : k < L
    · have hsz := Mg.rnd_size R k
      rw [HL.out] at hsz
      gi_wp2_with fail
      refine ⟨trivial, (callsIn_wide.2 (next_any a n cap R la _ lc (Mg.rnd R k) wr (H.out.mono HK.out.bel) HIT.out (by omega) (by omega) (HR.out k (by omega)))).mono ?_⟩
      rintro e w3 ⟨v, rfl, own3, hb3⟩
      rw [← Mg.rnd_length R k] at own3
      obtain ⟨va, vc, rfl, _⟩ := own_its own3
      have HP := Lib.hid (HK.out.put hlt hb3 own3)
      have HI3 : Hid (Its (w3.setCell ⟨rb, k, none⟩ (.slice va (Mg.rnd R (k + 1)).length vc)) va (Mg.rnd R (k + 1)).length vc (Mg.rnd R (k + 1))) := Lib.hid (by
        have h1 := HP.out.each k (by omega)
        rw [if_pos rfl] at h1
        obtain ⟨va2, vc2, e, hi⟩ := own_its h1
        simp only [Value.slice.injEq, true_and] at e
        obtain ⟨rfl, rfl⟩ := e
        exact hi)
      obtain ⟨⟨z0, g0⟩, f0⟩ := own_slot (HK.out.mono hb3).rows k hlt
      clear own3 hb3 HIT HK
      gi_wp2
      go_roundw
      case rel => exact ⟨k + 1, _, by omega, by go_num, ⟨va, vc, rfl, HI3.out⟩, HP⟩
      case measure => simp [intOf]; omega
    · obtain rfl : L = k := by omega
      clear HIT HS
      have hw := HK.out.bel.size
      gi_wp2_with (gi_at_make; refine wplIn_make_full tyI rfl _ _ rfl w.heap.size .i64 .i64 _ _ n rfl rfl rfl rfl (by omega) (by omega) hw ?_)
      intro w2 own2 hg2
      have hb2 : Below wr.heap.size wr w2 := (Below.refl _ _).grown hg2 (Nat.le_refl _) (by simp)
      have own3 : w2.ownsRow w.heap.size 3 1 (.slice (some ⟨wr.heap.size, 0, none⟩) n n) n (ivs (Mg.outL R L (2 * R.length - 2) 0 0)) := by
        rw [Mg.outL_start, HL.out]
        have e := made_ints1 n
        rw [Nat.mul_one] at e
        rw [← e]; exact own2
      have HO := Lib.hid own3
      have HK2 := Lib.hid (HK.out.mono hb2)
      have hq : wr.heap.size < w2.heap.size := (own3.lt _ rfl).2
      have hrq : rb < wr.heap.size := (HK.out.rows.lt rb rfl).2
      have HVB := Lib.hid (fun i (hi : i < L) g hg => (show g < wr.heap.size from ((HK.out.each i hi).lt g hg).2))
      have hqw := HK.out.bel.size
      clear own2 own3 hg2 hb2 HK
      generalize wr.heap.size = q at *
      have ew : (2 : Int) * (n : Int) - 2 = ((2 * n - 2 : Nat) : Int) := by omega
      gi_wp2_with fail
      refine ⟨trivial, (Bk.backR_in Fence.wide 2 trivial rfl _ _ _ _ rfl _).mono ?_⟩
      rintro e w' ⟨rfl, rfl⟩
      have hz : ((w2.alloc (.cells #[.slice (some ⟨q, 0, none⟩) n n] 53)).alloc (.cells #[.int .i64 ((2 * n - 2 : Nat) : Int)] 3)).heap.size = w2.heap.size + 2 := by simp
      have h1 : Boxed (((w2.alloc (.cells #[.slice (some ⟨q, 0, none⟩) n n] 53)).alloc (.cells #[.int .i64 ((2 * n - 2 : Nat) : Int)] 3)).alloc (.cells #[.slice (some ⟨rb, 0, none⟩) L L] 179)) w2.heap.size 53 (.slice (some ⟨q, 0, none⟩) n n) :=
        (Boxed.alloc (Boxed.alloc (World.alloc_heap_new w2 _) _) _)
      have h2 : Boxed (((w2.alloc (.cells #[.slice (some ⟨q, 0, none⟩) n n] 53)).alloc (.cells #[.int .i64 ((2 * n - 2 : Nat) : Int)] 3)).alloc (.cells #[.slice (some ⟨rb, 0, none⟩) L L] 179)) (w2.heap.size + 1) 3 (.int .i64 ((2 * n - 2 : Nat) : Int)) :=
        Boxed.alloc (heap_alloc2_new _ _ _) _
      have h3 : Boxed (((w2.alloc (.cells #[.slice (some ⟨q, 0, none⟩) n n] 53)).alloc (.cells #[.int .i64 ((2 * n - 2 : Nat) : Int)] 3)).alloc (.cells #[.slice (some ⟨rb, 0, none⟩) L L] 179)) (w2.heap.size + 2) 179 (.slice (some ⟨rb, 0, none⟩) L L) := by
        rw [← hz]; exact World.alloc_heap_new _ _
      have hb5 : Below w2.heap.size w2 (((w2.alloc (.cells #[.slice (some ⟨q, 0, none⟩) n n] 53)).alloc (.cells #[.int .i64 ((2 * n - 2 : Nat) : Int)] 3)).alloc (.cells #[.slice (some ⟨rb, 0, none⟩) L L] 179)) :=
        (below_alloc2 w2 _ _).alloc (by simp; omega) _
      rw [hz]
      have hz5 : (((w2.alloc (.cells #[.slice (some ⟨q, 0, none⟩) n n] 53)).alloc (.cells #[.int .i64 ((2 * n - 2 : Nat) : Int)] 3)).alloc (.cells #[.slice (some ⟨rb, 0, none⟩) L L] 179)).heap.size = w2.heap.size + 3 := by simp
      revert h1 h2 h3 hb5 hz5
      generalize World.alloc _ _ = W5
      intro h1 h2 h3 hb5 hz5
      clear hz
      gi_wp2
      have hU : ∀ k, k < q → ¬ (k = q ∨ k = w2.heap.size + 1) := fun k hk h => by omega
      have hit := Bk.backR_iter Fence.wide 2 trivial rfl (by omega) (w2.heap.size + 2) (some ⟨rb, 0, none⟩) L L (fun k => k = q ∨ k = w2.heap.size + 1) vs 179 (by omega) W5 (fun h => by omega) h3
        (own_src (own_below HK2.out.rows hb5) vs (fun i hi => by rw [rvs_get _ _ _ _ hi, if_pos hi]) _ (hU rb hrq))
      have hbw : Below w.heap.size w W5 := below_then HK2.out.bel hb5
      have HLS : Hid (LS w W5 W5 n q w2.heap.size (w2.heap.size + 1) (2 * n - 2) (Mg.outL R L (2 * n - 2) 0 0)) := Lib.hid ⟨by rw [HL.out] at HO; exact own_below HO.out hb5, hbw, h1, h2, Bk.Kc.refl _ _, Nat.le_refl _⟩
      have HV5 := Lib.hid (fun i (hi : i < L) => own_below (HK2.out.each i hi) hb5)
      have hw5 := hbw.size
      have hroom : 2 * n - 2 ≤ (Mg.rnd R L).length := by rw [← HL.out]; exact HROOM.out
      have HTK := Lib.hid (fun m hm => Mg.tk_le R L (2 * n - 2) hroom m hm)
      have HEND : Hid (Mg.outL R L (2 * n - 2) L 0 = Mg.lens R L) := Lib.hid (by rw [← HL.out]; exact Mg.outL_end R L (by rw [HL.out]; exact hn))
      clear h1 h2 h3 hb5 hbw HK2 HO hU ew hroom HROOM
      generalize w2.heap.size = qb at *
      apply range_iterN (F := Fence.wide) (n := 3) (P := Tryz.prog) (gf := 129) (lb := #[.pointer (some ⟨qb + 2, 0, none⟩)]) (encs := fun x : Nat => #[.int .i64 (x : Nat), vs x]) (hseq := hit)
        (I := fun pre W => pre = Bk.down L pre.length ∧ LS w W5 W n q qb (qb + 1) (Mg.tk R L (2 * n - 2) pre.length) (Mg.outL R L (2 * n - 2) pre.length 0)) (Ix := fun _ _ _ => False)
      case has =>
        intro k x A K hK
        gi_wp2
        exact hK
      case hro => exact hro
      case h1 => omega
      case hg => rfl
      case hF => trivial
      case eg => exact enters_of Tryz.func129 (by kernel_rfl) rfl
      case hKt => exact fun h1 h2 => h1.trans h2
      case hKb => exact fun W l o o' hl hc => Bk.Kc.put W l o o' hl hc
      case hps => exact fun _ => rfl
      case hI =>
        rintro s A C row ⟨h1, h2⟩ hg hr
        exact ⟨h1, h2.abide hw5 hg hr⟩
      case hX => exact fun c s A C row hs _ _ => hs
      case h0 => exact ⟨rfl, HLS.out⟩
      case hout =>
        rintro c pre A _ h _
        exact h.elim
      case hend =>
        rintro xs A hS ⟨_, h2⟩ hK
        subst hS
        rw [Bk.down_length] at h2
        rw [HEND.out] at h2
        have hbx := h2.bx.cell
        have HP : Hid (LeastPost w R L (.returned (.slice (some ⟨q, 0, none⟩) n n)) (A.putObj W5.heap.size (.deferred none))) := Lib.hid (by
          have c := Bk.Kc.put (U := fun _ => False) A W5.heap.size _ (.deferred none) hK rfl
          refine ⟨_, rfl, ?_, h2.bel.grown (grownBy_putObj' A W5.heap.size (.deferred none)) h2.bel.size (fun r e => by cases e; exact hw5)⟩
          rw [HL.out]
          exact Bk.own_kc h2.own c (fun _ _ h => h))
        clear h2 hit
        gi_wp2
        refine ⟨by simp, .inl ⟨_, _, rfl, run_takeDeferred hK, ?_⟩⟩
        exact ⟨_, results_tmp rfl _ _ _, by exact HP.out⟩
      case hbo =>
        rintro k pre x A ⟨h1, h2⟩ ⟨n1, _, n2⟩
        have hx : x < L := by omega
        have hlen : L - pre.length = x + 1 := by omega
        have hA := Mg.rnd_length R x
        rw [HL.out] at hA
        have hsz := Mg.rnd_size R (x + 1)
        rw [HL.out] at hsz
        obtain ⟨g, vc, hv, hgq⟩ : ∃ g vc, vs x = .slice (some ⟨g, 0, none⟩) (Mg.rnd R (x + 1)).length vc ∧ g < q := by
          rcases own_nil_or (HV5.out x hx) with ⟨_, h⟩ | ⟨g, vc, hv, _⟩
          · omega
          · exact ⟨g, vc, hv, HVB.out x hx g (by rw [hv]; rfl)⟩
        have hvc : (Mg.rnd R (x + 1)).length ≤ vc := by
          have h := HV5.out x hx
          rw [hv] at h
          rcases own_nil_or h with ⟨h, _⟩ | ⟨_, _, h, hle, _⟩
          · simp at h
          · simp only [Value.slice.injEq] at h; omega
        have HITS : Hid (∀ W, Bk.Kc (fun k => k = q ∨ k = qb + 1) W5 W → Its W (some ⟨g, 0, none⟩) (Mg.rnd R (x + 1)).length vc (Mg.rnd R (x + 1))) := Lib.hid (fun W c => by
          have h := Bk.own_kc (HV5.out x hx) c (fun j hj hu => by
            have h1 := HVB.out x hx j hj
            rcases hu with hu | hu <;> omega)
          rw [hv] at h
          obtain ⟨a2, c2, e, hi⟩ := own_its h
          simp only [Value.slice.injEq, true_and] at e
          obtain ⟨rfl, rfl⟩ := e
          exact hi)
        have ht := HTK.out pre.length (by omega)
        rw [hlen] at ht
        have HCUT : Hid (Mg.syN (Mg.rnd R (x + 1)) (Mg.tk R L (2 * n - 2) pre.length) = Mg.cut R L (2 * n - 2) pre.length) := Lib.hid (by unfold Mg.cut; rw [hlen])
        have HTK1 : Hid (Mg.tk R L (2 * n - 2) (pre.length + 1) = 2 * (Mg.tk R L (2 * n - 2) pre.length - Mg.cut R L (2 * n - 2) pre.length)) := Lib.hid rfl
        have HNX : Hid (pre ++ [x] = Bk.down L (pre ++ [x]).length ∧ (pre ++ [x]).length = pre.length + 1) := Lib.hid ⟨by
          rw [List.length_append, List.length_singleton, Bk.down_succ, ← h1]
          congr 2; omega, by simp⟩
        have HSY := Lib.hid (fun j (hj : j ≤ (Mg.rnd R (x + 1)).length) => Mg.rnd_syms R (x + 1) j hj)
        rw [hv]
        have HL2 := Lib.hid h2
        have hm16 : pre.length ≤ 16 := by omega
        clear h1 h2 n1 n2 hlen hv hit HLS HEND HTK
        generalize pre.length = m at *
        generalize hAX : Mg.rnd R (x + 1) = AX at *
        generalize Mg.tk R L (2 * n - 2) m = t at *
        have hb0 := HL2.out.tk.cell
        gi_wp2
        clear hb0
        gi_loopw [12, 51] (fun s i wr => ∃ j : Nat, j ≤ t ∧ i = .int .i64 j ∧ s = .int .i64 (Mg.syN AX j : Nat) ∧ Hid (LS w W5 wr n q qb (qb + 1) t (Mg.outL R L (2 * n - 2) m (Mg.syN AX j)) ∧ KeepsFrom W5.heap.size A wr ∧ Bk.Kc (fun k => k = q ∨ k = qb + 1) A wr)) (fun _ i _ => t - (intOf i).toNat)
        case atStart => exact ⟨0, by omega, rfl, by rw [Mg.syN_zero]; rfl, Lib.hid ⟨by rw [Mg.syN_zero]; exact HL2.out, kf_refl _ _, Bk.Kc.refl _ _⟩⟩
        case round =>
          obtain ⟨j, hj, rfl, rfl, HJ⟩ := hrel
          have hsj := HSY.out j (by omega)
          rw [HL.out] at hsj
          by_cases hlt : j < t
          · have hjA : j < AX.length := by omega
            obtain ⟨b2, o2, hbe, _, c1, c2⟩ := (HITS.out wr HJ.out.1.kc).at' j hjA
            simp only [Option.some.injEq, Addr.mk.injEq, and_true] at hbe
            obtain ⟨rfl, rfl⟩ := hbe
            rw [Nat.zero_add] at c1 c2
            have HS1 := Mg.syN_succ AX j hjA
            have hs1 := HSY.out (j + 1) hjA
            rw [HL.out] at hs1
            obtain ⟨iw, ib, hI⟩ : ∃ iw ib, AX.getD j (0, false) = (iw, ib) := ⟨_, _, rfl⟩
            rw [hI] at c1 c2 HS1
            dsimp only at c1 c2 HS1
            have HJA := Lib.hid (And.intro (HJ.out.1.alloc (.cells #[.int .i64 iw, .bool ib] 186)) (And.intro (kf_alloc HJ.out.2.1 (.cells #[.int .i64 iw, .bool ib] 186)) (HJ.out.2.2.trans (Bk.Kc.alloc _ wr (.cells #[.int .i64 iw, .bool ib] 186)))))
            have hnew := World.alloc_heap_new wr (.cells #[.int .i64 iw, .bool ib] 186)
            cases ib with
            | false =>
              have HS2 := Lib.hid (show Mg.syN AX (j + 1) = Mg.syN AX j from by rw [HS1]; simp)
              clear HS1 hs1 hI HJ
              gi_wp2
              go_roundw
              case rel => exact ⟨j + 1, by omega, by go_num, by rw [HS2.out], Lib.hid (by rw [HS2.out]; exact HJA.out)⟩
              case measure => simp [intOf]; omega
            | true =>
              have HS2 := Lib.hid (show Mg.syN AX (j + 1) = Mg.syN AX j + 1 from by rw [HS1]; simp)
              rw [HS2.out] at hs1
              have hbx := HJA.out.1.bx.cell
              obtain ⟨_, f0⟩ := own_slot HJA.out.1.own (Mg.syN AX j) (by omega)
              have g0 := HJA.out.1.own.cellAt (Mg.syN AX j) (by omega)
              rw [ivs_get _ _ (by rw [Mg.outL_length, HL.out]; omega), Mg.outL_get _ _ _ _ _ _ (by rw [HL.out]; omega), if_neg (by omega), Nat.add_zero] at g0
              have HST := Mg.outL_set R L (2 * n - 2) m (Mg.syN AX j) (by rw [HL.out]; omega)
              have htm := Mg.tim_le R L (2 * n - 2) m (Mg.syN AX j)
              have HJ2 : Hid (LS w W5 ((wr.alloc (.cells #[.int .i64 iw, .bool true] 186)).setCell ⟨q, Mg.syN AX j, none⟩ (.int .i64 (((Mg.tim R L (2 * n - 2) m (Mg.syN AX j) : Nat) : Int) + 1))) n q qb (qb + 1) t (Mg.outL R L (2 * n - 2) m (Mg.syN AX (j + 1))) ∧
                  KeepsFrom W5.heap.size A ((wr.alloc (.cells #[.int .i64 iw, .bool true] 186)).setCell ⟨q, Mg.syN AX j, none⟩ (.int .i64 (((Mg.tim R L (2 * n - 2) m (Mg.syN AX j) : Nat) : Int) + 1))) ∧
                  Bk.Kc (fun k => k = q ∨ k = qb + 1) A ((wr.alloc (.cells #[.int .i64 iw, .bool true] 186)).setCell ⟨q, Mg.syN AX j, none⟩ (.int .i64 (((Mg.tim R L (2 * n - 2) m (Mg.syN AX j) : Nat) : Int) + 1)))) :=
                Lib.hid ⟨by rw [HS2.out, ← HST]; exact HJA.out.1.set (by omega) (by omega) _ _, kf_set HJA.out.2.1 _ _, HJA.out.2.2.trans (Bk.Kc.set (U := fun k => k = q ∨ k = qb + 1) _ ⟨q, _, none⟩ (.inl rfl) _)⟩
              clear HS1 hI HJ HST HJA
              generalize Mg.tim R L (2 * n - 2) m (Mg.syN AX j) = tm at *
              gi_wp2
              go_roundw
              case rel => exact ⟨j + 1, by omega, by go_num, int_eq (by rw [HS2.out]; omega), HJ2⟩
              case measure => simp [intOf]; omega
          · obtain rfl : t = j := by omega
            have hbt := HJ.out.1.tk.cell
            have fbt := HJ.out.1.tk.frozen
            have hst := Mg.syN_le AX t
            have HN : Hid (Mg.tk R L (2 * n - 2) (m + 1) = 2 * (t - Mg.syN AX t)) := Lib.hid (by rw [HTK1.out, HCUT.out])
            have HE : Hid (LS w W5 (wr.setCell ⟨qb + 1, 0, none⟩ (.int .i64 ((2 * (t - Mg.syN AX t) : Nat) : Int))) n q qb (qb + 1) (Mg.tk R L (2 * n - 2) (m + 1)) (Mg.outL R L (2 * n - 2) (m + 1) 0) ∧
                KeepsFrom W5.heap.size A (wr.setCell ⟨qb + 1, 0, none⟩ (.int .i64 ((2 * (t - Mg.syN AX t) : Nat) : Int))) ∧ Bk.Kc (fun k => k = q ∨ k = qb + 1) A (wr.setCell ⟨qb + 1, 0, none⟩ (.int .i64 ((2 * (t - Mg.syN AX t) : Nat) : Int)))) :=
              Lib.hid ⟨by rw [HN.out, ← Mg.outL_next, ← HCUT.out]; exact HJ.out.1.take (by omega) (by omega) (by omega) _, kf_set HJ.out.2.1 _ _, HJ.out.2.2.trans (Bk.Kc.set (U := fun k => k = q ∨ k = qb + 1) _ ⟨qb + 1, 0, none⟩ (.inr rfl) _)⟩
            have e2 : (2 : Int) * ((t : Int) - (Mg.syN AX t : Int)) = ((2 * (t - Mg.syN AX t) : Nat) : Int) := by omega
            clear HJ HN
            generalize Mg.syN AX t = sy at *
            gi_wp2
            rw [show (2 : Int) * ((t - sy : Nat) : Int) = ((2 * (t - sy) : Nat) : Int) by omega]
            refine ⟨HE.out.2.1, HE.out.2.2, HNX.out.1, ?_⟩
            rw [HNX.out.2]
            exact HE.out.1
end Go.Proofs.YtjjbgdmalefdlaaGreatDoor
end
