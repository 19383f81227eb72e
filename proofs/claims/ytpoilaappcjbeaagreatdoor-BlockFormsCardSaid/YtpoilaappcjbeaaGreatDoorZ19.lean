/- The order of merge.rarestFirst: its comparison, by contract. merge.rarestFirst: its contract. merge.areWithin: its contract. merge.Lengths: its contract. What the laws on lengths share. -/
import Derived.Test.YtpoilaappcjbeaaGreatDoorZ18
import Derived.Deep.QuietTactic
import Derived.BigQuiet
import Derived.Shelf.SlSortCmp.NoneTotal
import Derived.Shelf.SlicesG.Cmp
import Derived.Shelf.Lay
import Derived.Ground.SlsfProg
import Derived.Ground.SlgcProg
import Derived.Deep.RegionHeld3
import Derived.Lib.RowBridge
import Derived.Lib.SortBridge
set_option linter.unusedSimpArgs false
set_option linter.unusedVariables false
section
namespace Go.Proofs
open Go.Shelf
shelf_lay_g SlLaysF.n6 Slsf 6 at Tryz 119 as YtpoilaappcjbeaaGreatDoor.sortL
shelf_lay_g SlLaysC2.n5 Slgc 5 at Tryz 122 as YtpoilaappcjbeaaGreatDoor.cmpL
end Go.Proofs
namespace Go.Proofs.YtpoilaappcjbeaaGreatDoor
open Go.RowKit Go.Shelf

theorem cmp_any (x y : Int) (w : World) : Calls Tryz.prog 122 #[.int .i64 x, .int .i64 y] w fun e w' => e = .returned (.int .i64 (Lib.compareInt x y)) ∧ w = w' := by
  have hcon := AnyG.cmp_Compare_int YtpoilaappcjbeaaGreatDoor.cmpL x y w
  change Calls Tryz.prog 122 _ _ _ at hcon
  exact hcon.mono (by rintro e w' ⟨h1, h2⟩; exact ⟨h1, h2.symm⟩)
def orI (x y : Int) : Int := if x = 0 then y else x
theorem or_any (g : Nat) (x y : Int) (w : World) (h0 : w.cell? ⟨g, 0, none⟩ = some (.int .i64 x)) (h1 : w.cell? ⟨g, 1, none⟩ = some (.int .i64 y)) :
    Calls Tryz.prog 121 #[.slice (some ⟨g, 0, none⟩) 2 2] w fun e w' => e = .returned (.int .i64 (orI x y)) ∧ w = w' := by
  go_enter Tryz.func121, Tryz.ntmps121
  go_wp2
  go_loop [8] (fun i => ∃ k : Nat, k ≤ 2 ∧ i = .int .i64 k ∧ (0 < k → x = 0) ∧ (1 < k → y = 0)) (fun i => 2 - (intOf i).toNat)
  case atStart => exact ⟨0, by omega, rfl, by omega, by omega⟩
  case round =>
    obtain ⟨k, hk, rfl, hx, hy⟩ := hrel
    match k, hk with
    | 0, _ =>
      by_cases hz : x = 0
      · subst hz
        go_wp2
        go_round
        case rel => exact ⟨1, by omega, rfl, fun _ => trivial, by omega⟩
        case measure => simp [intOf]
      · have dz : (x != 0) = true := by simpa using hz
        go_wp2
        go_ret
        exact ⟨by unfold orI; rw [if_neg hz]; rfl, rfl⟩
    | 1, _ =>
      have hx0 := hx (by omega)
      subst hx0
      by_cases hz : y = 0
      · subst hz
        go_wp2
        go_round
        case rel => exact ⟨2, by omega, rfl, fun _ => trivial, fun _ => trivial⟩
        case measure => simp [intOf]
      · have dz : (y != 0) = true := by simpa using hz
        go_wp2
        go_ret
        exact ⟨by unfold orI; rw [if_pos rfl]; rfl, rfl⟩
    | 2, _ =>
      have hx0 := hx (by omega)
      have hy0 := hy (by omega)
      subst hx0
      subst hy0
      go_wp2
      go_ret
      exact ⟨by unfold orI; rw [if_pos rfl]; rfl, rfl⟩
/-- Which of two symbols comes first: the rarer one; of those that stand equally often, the greater one. -/
def cfO (c : Int → Int) (x y : Int) : Int := orI (Lib.compareInt (c x) (c y)) (Lib.compareInt y x)
set_option maxHeartbeats 4000000 in
set_option maxRecDepth 100000 in
theorem less_any (X b off len cap : Nat) (c : Int → Int) (x y : Nat) (W : World) (hx : x < len) (hy : y < len) (h0 : W.cell? ⟨X, 0, none⟩ = some (.slice (some ⟨b, off, none⟩) len cap))
    (h1 : W.cell? ⟨b, off + x, none⟩ = some (.int .i64 (c x))) (h2 : W.cell? ⟨b, off + y, none⟩ = some (.int .i64 (c y))) :
    Calls Tryz.prog 120 #[.int .i64 (x : Nat), .int .i64 (y : Nat), .pointer (some ⟨X, 0, none⟩)] W fun e w' => e = .returned (.int .i64 (cfO c x y)) ∧ ∃ q os', w' = Sort.grow (W.drewN q) os' := by
  have hcf : Hid (cfO c x y = orI (Lib.compareInt (c x) (c y)) (Lib.compareInt y x)) := Lib.hid rfl
  generalize c x = cx at *
  generalize c y = cy at *
  have hxi : ((x : Nat) : Int) < (len : Int) := by omega
  have hyi : ((y : Nat) : Int) < (len : Int) := by omega
  go_enter Tryz.func120, Tryz.ntmps120
  go_wp2
  go_region_held3 (fun w' => w'.cell? ⟨X, 0, none⟩ = some (.slice (some ⟨b, off, none⟩) len cap) ∧ w'.cell? ⟨b, off + x, none⟩ = some (.int .i64 cx) ∧ w'.cell? ⟨b, off + y, none⟩ = some (.int .i64 cy)) (go_keep)
    (first
      | (go_at_call 122; refine (cmp_any _ _ _).mono ?_; rintro e w' ⟨rfl, rfl⟩)
      | (go_at_call 121; refine (or_any _ (Lib.compareInt cx cy) (Lib.compareInt y x) _ (by change (World.alloc W _).cell? _ = _; rw [World.cell?_alloc_at _ _ _ _ rfl]; rfl) (by change (World.alloc W _).cell? _ = _; rw [World.cell?_alloc_at _ _ _ _ rfl]; rfl)).mono ?_; rintro e w' ⟨rfl, rfl⟩))
  go_wp2
  go_ret
  exact ⟨by rw [hcf.out]; rfl, 1, #[_], by rw [Sort.alloc_eq_grow]; rfl⟩
end Go.Proofs.YtpoilaappcjbeaaGreatDoor
end

section
namespace Go.Proofs.YtpoilaappcjbeaaGreatDoor
open Go.RowKit Go.Shelf

theorem tapp (w : World) (os : Array Obj) : Below w.heap.size w (Sort.grow w os) := ⟨rfl, rfl, rfl, by simp [Sort.grow], fun k hk => by simp [Sort.grow, Array.getElem?_append, hk]⟩
theorem own_setCells {base n cap g : Nat} {e : TypeId} : ∀ (vs : List Value) (o : Nat) (w : World) (xs : List Value), w.ownsRow base e 1 (.slice (some ⟨g, 0, none⟩) n cap) n xs → o + vs.length ≤ n →
    (w.setCells g o vs).ownsRow base e 1 (.slice (some ⟨g, 0, none⟩) n cap) n (xs.take o ++ vs ++ xs.drop (o + vs.length))
  | [], o, w, xs, h, _ => by
    have : xs.take o ++ [] ++ xs.drop (o + ([] : List Value).length) = xs := by simp
    rw [this]; exact h
  | v :: r, o, w, xs, h, hl => by
    have hx := h.1
    have h1 := (h.stored o v).1
    have h2 := own_setCells r (o + 1) (w.setCell ⟨g, o, none⟩ v) (xs.set o v) h1 (by simp at hl ⊢; omega)
    have e : (xs.set o v).take (o + 1) ++ r ++ (xs.set o v).drop (o + 1 + r.length) = xs.take o ++ (v :: r) ++ xs.drop (o + (v :: r).length) := by
      have ho : o < xs.length := by simp at hl; omega
      rw [List.take_set, List.drop_set_of_lt (by omega), List.take_succ_eq_append_getElem ho, List.set_append_right _ _ (by rw [List.length_take]; omega), List.length_take, Nat.min_eq_left (by omega), Nat.sub_self]
      simp only [List.set_cons_zero, List.append_assoc, List.cons_append, List.nil_append, List.length_cons]
      rw [show o + 1 + r.length = o + (r.length + 1) by omega]
    rw [e] at h2
    exact h2
def RarePost (w : World) (l : List Int) (e : Ending) (w' : World) : Prop :=
  ∃ vs vr, e = .returned (.tuple #[vs, vr]) ∧ w'.ownsRow w.heap.size 3 1 vs (Mg.order l).length (ivs ((Mg.order l).map fun (i : Nat) => (i : Int))) ∧ w'.ownsRow w.heap.size 3 1 vr (Mg.order l).length (ivs (Mg.rise l)) ∧ Below w.heap.size w w'
/-- The comparison, at symbols of the counts. -/
def cfF (l : List Int) (n : Nat) (x y : Fin n) : Int := cfO (fun i => l.getD i.toNat 0) x.val y.val
theorem ltF (l : List Int) (n : Nat) (x y : Fin n) : ltOf (cfF l n) x y = decide (l.getD x.val 0 < l.getD y.val 0 ∨ l.getD x.val 0 = l.getD y.val 0 ∧ y.val < x.val) := by
  have e : cfF l n x y = orI (Lib.compareInt (l.getD x.val 0) (l.getD y.val 0)) (Lib.compareInt (y.val : Int) (x.val : Int)) := rfl
  unfold ltOf
  rw [e]
  generalize l.getD x.val 0 = a
  generalize l.getD y.val 0 = b
  have c1 : ∀ p q : Int, p < q → Lib.compareInt p q = -1 := fun p q h => by unfold Lib.compareInt; rw [if_pos h]
  have c2 : ∀ p q : Int, q < p → Lib.compareInt p q = 1 := fun p q h => by unfold Lib.compareInt; rw [if_neg (by omega), if_pos h]
  have c3 : ∀ p : Int, Lib.compareInt p p = 0 := fun p => by unfold Lib.compareInt; rw [if_neg (by omega), if_neg (by omega)]
  apply decide_eq_decide.2
  unfold orI
  rcases Int.lt_trichotomy a b with h | rfl | h
  · rw [c1 a b h, if_neg (by omega)]
    exact ⟨fun _ => .inl h, fun _ => by omega⟩
  · rw [c3, if_pos rfl]
    rcases Nat.lt_trichotomy y.val x.val with k | k | k
    · rw [c1 _ _ (by omega)]; exact ⟨fun _ => .inr ⟨rfl, k⟩, fun _ => by omega⟩
    · rw [k, c3]; exact ⟨fun h => by omega, fun h => by omega⟩
    · rw [c2 _ _ (by omega)]; exact ⟨fun h => by omega, fun h => by omega⟩
  · rw [c2 a b h, if_neg (by omega)]
    exact ⟨fun h => by omega, fun h => by omega⟩
theorem swoF (l : List Int) (n : Nat) : Sort.SWO (ltOf (cfF l n)) where
  irrefl x := by rw [ltF]; simp
  trans x y z h1 h2 := by rw [ltF] at *; simp only [decide_eq_true_eq] at *; omega
  ntrans x y z h1 h2 := by rw [ltF] at *; simp only [decide_eq_false_iff_not] at *; omega
theorem totF (l : List Int) (n : Nat) (x y : Fin n) (h1 : ltOf (cfF l n) x y = false) (h2 : ltOf (cfF l n) y x = false) : x = y := by
  rw [ltF] at *; simp only [decide_eq_false_iff_not] at *; exact Fin.ext (by omega)
/-- What the sort comes to. -/
theorem sort_order (l : List Int) (d : List (Fin l.length)) (hd : d.map Fin.val = Mg.stand l l.length) : (d.mergeSort fun x y => !ltOf (cfF l l.length) y x).map Fin.val = Mg.order l := by
  have hle : ∀ x y : Fin l.length, (!ltOf (cfF l l.length) y x) = Mg.leO l x.val y.val := fun x y => by
    rw [ltF]
    unfold Mg.leO
    rw [← decide_not]
    apply decide_eq_decide.2
    omega
  refine Mg.sort_unique l _ _ ?_ ?_ (Mg.order_sort l)
  · refine ((List.mergeSort_perm d _).map Fin.val).trans ?_
    rw [hd]; exact (Mg.order_perm l).symm
  · have h := List.pairwise_mergeSort (le := fun x y => !ltOf (cfF l l.length) y x) (fun a b c h1 h2 => by rw [hle] at *; exact Mg.leO_trans h1 h2) (fun a b => by rw [hle, hle]; have := Mg.leO_total l a.val b.val; simpa using this) d
    unfold Mg.SortO
    rw [List.pairwise_map]
    exact h.imp (fun h => by rw [hle] at h; exact h)
theorem cell_at2 {k : IntKind} {w : World} {b off len cap : Nat} {l : List Int} (h : Is k w (some ⟨b, off, none⟩) len cap l) (i : Nat) (hi : i < len) : w.cell? ⟨b, off + i, none⟩ = some (.int k (l.getD i 0)) := by
  obtain ⟨b', off', e, _, hc⟩ := h.at' i hi
  simp only [Option.some.injEq, Addr.mk.injEq, and_true] at e
  obtain ⟨rfl, rfl⟩ := e
  exact hc
def nums (r : List Nat) : List Int := r.map fun (i : Nat) => (i : Int)
theorem nums_length (r : List Nat) : (nums r).length = r.length := by simp [nums]
theorem nums_getD (r : List Nat) (i : Nat) : (nums r).getD i 0 = ((r.getD i 0 : Nat) : Int) := by
  by_cases h : i < r.length
  · simp [nums, List.getD, List.getElem?_eq_getElem h]
  · simp [nums, List.getD, List.getElem?_eq_none (Nat.le_of_not_lt h)]
theorem nums_wf (r : List Nat) (h : ∀ x ∈ r, x ≤ 1000000000) : Wf (nums r) := by
  intro n hn
  simp only [nums, List.mem_map] at hn
  obtain ⟨x, hx, rfl⟩ := hn
  have := h x hx
  simp only [Lit.wf, IntKind.min, IntKind.max, IntKind.signed, IntKind.bits, Bool.and_eq_true, decide_eq_true_eq, if_true]
  simp; omega
set_option maxHeartbeats 1000000 in
/-- The sort of the symbols: in place. -/
theorem sort_any (X b off len cap g k c : Nat) (l : List Int) (w : World) (base : Nat) (h : Is .i64 w (some ⟨b, off, none⟩) len cap l) (hX : w.cell? ⟨X, 0, none⟩ = some (.slice (some ⟨b, off, none⟩) len cap)) (hXl : X < w.heap.size) (hXg : X ≠ g) (hbg : b ≠ g) (hl : len ≤ 1000000)
    (hown : w.ownsRow base 3 1 (.slice (some ⟨g, 0, none⟩) k c) k (ivs (nums (Mg.stand l len)))) (hk : 0 < k) :
    Calls Tryz.prog 119 #[.slice (some ⟨g, 0, none⟩) k c, .func (.func 120) #[] #[.pointer (some ⟨X, 0, none⟩)]] w fun e w' =>
      e = .returned (.tuple #[]) ∧ w'.ownsRow base 3 1 (.slice (some ⟨g, 0, none⟩) k c) k (ivs (nums (Mg.order l))) ∧ Below base w w' ∧ (∀ p : Addr, p.block < w.heap.size → p.block ≠ g → w'.cell? p = w.cell? p) := by
  have hLl := h.hlen
  subst hLl
  have hsl : (Mg.stand l l.length).length = k := by have := hown.1; rw [ivs_length, nums_length] at this; omega
  have hpos : 0 < l.length := by have := Mg.stand_le l l.length; omega
  haveI : Inhabited (Fin l.length) := ⟨⟨0, hpos⟩⟩
  obtain ⟨d, hd⟩ : ∃ d : List (Fin l.length), d.map Fin.val = Mg.stand l l.length := by
    refine ⟨(Mg.stand l l.length).pmap (fun i (hi : i < l.length) => ⟨i, hi⟩) (fun i hi => ((Mg.stand_mem l _ i).1 hi).1), ?_⟩
    rw [List.map_pmap]; simp
  have hdl : d.length = k := by rw [← hsl, ← hd, List.length_map]
  have hgl := (hown.lt g rfl).2
  have hbl : b < w.heap.size := by obtain ⟨b', o', e, hb, _⟩ := h.at' 0 hpos; cases e; exact hb
  have ev : ivs (nums (Mg.stand l l.length)) = d.map fun x => Value.int .i64 (x.val : Nat) := by rw [← hd]; simp [ivs, nums]
  have hH : Sort.Holds (fun x : Fin l.length => Value.int .i64 (x.val : Nat)) w g 0 d.toArray := fun j hj => by
    have hj' : j < k := by rw [← hdl]; simpa using hj
    have hfr : w.frozen? ⟨g, 0 + j, none⟩ = false := by
      rcases hown.2 with ⟨h1, _⟩ | ⟨g2, cap2, cur, h1, _, hg, _⟩
      · simp at h1
      · simp only [Value.slice.injEq, Option.some.injEq, Addr.mk.injEq, and_true, true_and] at h1
        obtain ⟨rfl, rfl⟩ := h1
        exact frozen_of_row _ _ _ _ _ hg
    refine ⟨?_, hfr⟩
    rw [Nat.zero_add, hown.cellAt j (by omega), ev, List.getElem?_map, List.getElem?_eq_getElem (by omega)]
    simp [getElem!_def, List.getElem?_eq_getElem (show j < d.length by omega)]
  have eg : ∀ args w, (callFunc 120 args).run Tryz.prog w = .ok (.enter 120 args) w := enters_of Tryz.func120 (by kernel_rfl) rfl
  have other : ∀ (m : Nat) (os : Array Obj) (dk : Array (Fin l.length)) (p : Addr), p.block < w.heap.size → p.block ≠ g → (sortWorld (fun x : Fin l.length => Value.int .i64 (x.val : Nat)) w g 0 m dk os).cell? p = w.cell? p := fun m os dk p hp hg => by
    unfold sortWorld
    rw [Sort.cell?_grow _ _ _ (by simp [Sort.putRow, Sort.mapBlock, Sort.ahead]; exact hp), Sort.cell?_putRow_other _ _ _ _ _ _ (.inl hg)]
    rfl
  have hcmp : CmpLays1 Tryz.prog 120 #[.pointer (some ⟨X, 0, none⟩)] (fun x : Fin l.length => Value.int .i64 (x.val : Nat)) (cfF l l.length) g 0 d.toArray.size w := fun m os dk _ x y =>
    less_any X b off l.length cap (fun i => l.getD i.toNat 0) x.val y.val _ x.isLt y.isLt (by rw [other _ _ _ _ hXl hXg]; exact hX)
      (by rw [other _ _ _ _ hbl hbg]; exact cell_at2 h x.val x.isLt) (by rw [other _ _ _ _ hbl hbg]; exact cell_at2 h y.val y.isLt)
  have hS := Any.slices_SortFunc_total YtpoilaappcjbeaaGreatDoor.sortL (fun x : Fin l.length => Value.int .i64 (x.val : Nat)) (fun _ => rfl) (cfF l l.length) (swoF l l.length) 120 #[.pointer (some ⟨X, 0, none⟩)] g 0 c d.toArray w eg hcmp hH hgl (by have := Mg.stand_le l l.length; simp; omega) (totF l l.length)
  change Calls Tryz.prog 119 _ _ _ at hS
  have hsz : d.toArray.size = k := by simpa using hdl
  rw [hsz] at hS
  refine hS.mono ?_
  rintro e w' ⟨rfl, n, os, hw⟩
  have hot := other n os (d.mergeSort fun x y => !ltOf (cfF l l.length) y x).toArray
  have hml : (d.mergeSort fun x y => !ltOf (cfF l l.length) y x).length = d.toArray.size := by simp
  refine ⟨rfl, ?_, ?_, fun p hp hg => by rw [hw]; exact hot p hp hg⟩
  · rw [hw]
    unfold sortWorld
    rw [Lib.sorted_world _ w g 0 n _ _ os hH hml]
    have h2 := own_setCells ((d.mergeSort fun x y => !ltOf (cfF l l.length) y x).map fun x => Value.int .i64 (x.val : Nat)) 0 (w.drewN n) _ (own_below hown (drewN_is w n)) (by simp; omega)
    have e2 : List.take 0 (ivs (nums (Mg.stand l l.length))) ++ ((d.mergeSort fun x y => !ltOf (cfF l l.length) y x).map fun x => Value.int .i64 (x.val : Nat)) ++ List.drop (0 + ((d.mergeSort fun x y => !ltOf (cfF l l.length) y x).map fun x => Value.int .i64 (x.val : Nat)).length) (ivs (nums (Mg.stand l l.length))) = ivs (nums (Mg.order l)) := by
      rw [List.take_zero, List.nil_append, List.drop_eq_nil_of_le (by rw [ivs_length, nums_length, List.length_map, List.length_mergeSort]; omega), List.append_nil, ← sort_order l d hd]
      simp [ivs, nums]
    rw [e2] at h2
    exact own_below h2 (tapp _ os)
  · rw [hw]
    unfold sortWorld
    rw [Lib.sorted_world _ w g 0 n _ _ os hH hml]
    have h3 : Below base w ((w.drewN n).setCells g 0 ((d.mergeSort fun x y => !ltOf (cfF l l.length) y x).map fun x => Value.int .i64 (x.val : Nat))) := below_setCells (hown.lt g rfl).1 _ _ _ ((drewN_is w n).mono (Nat.le_trans (hown.lt g rfl).1 (Nat.le_of_lt hgl)))
    exact h3.trans ((tapp _ os).mono (by simp; have := (hown.lt g rfl).1; omega))
set_option maxHeartbeats 4000000 in
set_option maxRecDepth 100000 in
theorem rarest_any (a : Option Addr) (len cap : Nat) (l : List Int) (w : World) (h : Is .i64 w a len cap l) (hl : len ≤ 1000) :
    Calls Tryz.prog 113 #[.slice a len cap] w (RarePost w l) := by
  have HL := Lib.hid h.hlen
  have H := Lib.hid h
  clear h
  go_enter Tryz.func113, Tryz.ntmps113
  have hbx : Boxed (w.alloc (.cells #[.slice a len cap] 53)) w.heap.size 53 (.slice a len cap) := World.alloc_heap_new w _
  have hb1 : Below w.heap.size w (w.alloc (.cells #[.slice a len cap] 53)) := below_alloc _ _
  have hz1 : (w.alloc (.cells #[.slice a len cap] 53)).heap.size = w.heap.size + 1 := Array.size_push _
  go_wp2
  generalize w.alloc (.cells #[.slice a len cap] 53) = w1 at hbx hb1 hz1 ⊢
  have HBX := Lib.hid hbx
  have HB1 := Lib.hid hb1
  have HZ1 := Lib.hid hz1
  clear hbx hb1 hz1
  go_loopw [2, 10] (fun v i wr => ∃ k : Nat, k ≤ len ∧ i = .int .i64 k ∧ Hid (Below w1.heap.size w1 wr ∧ wr.ownsRow w1.heap.size 3 1 v (Mg.stand l k).length (ivs (nums (Mg.stand l k))))) (fun _ i _ => len - (intOf i).toNat)
  case atStart => exact ⟨0, by omega, rfl, Lib.hid ⟨Below.refl _ _, World.ownsRow_nil _ _ _ _⟩⟩
  case round =>
    obtain ⟨k, hk, rfl, HK⟩ := hrel
    have hsl := Mg.stand_le l k
    by_cases hlt : k < len
    · obtain ⟨b, off, rfl, _, c1⟩ := (H.out.mono (below_then HB1.out HK.out.1)).at' k hlt
      have HSS := Mg.stand_succ l k
      generalize l.getD k 0 = z at *
      by_cases hz : 0 < z
      · have dz : decide (0 < z) = true := by simpa using hz
        rw [if_pos hz] at HSS
        have HS1 := Lib.hid HSS
        have hwz := HK.out.1.size
        clear hz HSS
        go_wp2_with (at_builtin; refine wpl_append tyI rfl _ _ rfl (own_below HK.out.2 (below_alloc wr _)) (src_int wr (k : Nat)) rfl rfl (by omega) (by omega) (by simp; omega) ?_)
        intro v' w' own' hg' _
        have hb' : Below w1.heap.size w1 w' := (HK.out.1.alloc hwz _).grown hg' (by simp; omega) (fun g hg => (HK.out.2.lt g hg).1)
        have own2 : w'.ownsRow w1.heap.size 3 1 v' (Mg.stand l (k + 1)).length (ivs (nums (Mg.stand l (k + 1)))) := by
          rw [HS1.out, List.length_append, List.length_singleton]
          have e : nums (Mg.stand l k ++ [k]) = nums (Mg.stand l k) ++ [(k : Int)] := by simp [nums]
          rw [e, ivs_append]; exact own'
        have HK2 := Lib.hid (And.intro hb' own2)
        clear own' own2 hb' hg' HK
        go_wp2
        go_roundw
        case rel => exact ⟨k + 1, by omega, by go_num, HK2⟩
        case measure => simp [intOf]; omega
      · have dz : decide (0 < z) = false := by simpa using hz
        rw [if_neg hz, List.append_nil] at HSS
        have HS1 := Lib.hid HSS
        clear hz HSS
        go_wp2
        go_roundw
        case rel => exact ⟨k + 1, by omega, by go_num, by rw [HS1.out]; exact HK⟩
        case measure => simp [intOf]; omega
    · obtain rfl : len = k := by omega
      have HOL : Hid ((Mg.order l).length = (Mg.stand l len).length) := Lib.hid (by rw [Mg.order_length, HL.out])
      have hbb : Hid (Below w.heap.size w wr) := Lib.hid (below_then HB1.out HK.out.1)
      have hcX : wr.cell? ⟨w.heap.size, 0, none⟩ = some (.slice a len cap) := by
        have := HK.out.1.cell (p := ⟨w.heap.size, 0, none⟩) (by rw [HZ1.out]; exact Nat.lt_succ_self _)
        rw [this]; exact HBX.out.cell
      have hwz := HK.out.1.size
      have HWR : Hid (Wf (Mg.rise l)) := Lib.hid (fun n hn => by
        simp only [Mg.rise, List.mem_map] at hn
        obtain ⟨i, hi, rfl⟩ := hn
        exact H.out.getW i (by rw [← HL.out]; exact ((Mg.order_mem l i).1 hi).1))
      have HST := Lib.hid (show (Mg.stand l len).length = (Mg.stand l len).length from rfl)
      generalize hnn : (Mg.stand l len).length = nn at HK HOL hsl HST
      by_cases hn0 : nn = 0
      · subst hn0
        have hsn : Mg.stand l len = [] := List.eq_nil_of_length_eq_zero hnn
        have hko := HK.out.2
        rw [hsn] at hko
        obtain ⟨pa, pc, rfl, _⟩ := own_is hko (fun n hn => by simp [nums] at hn)
        have hS := AnyF.slices_SortFunc_none (P := Tryz.prog) (ρ := YtpoilaappcjbeaaGreatDoor.sortL_ren) { YtpoilaappcjbeaaGreatDoor.sortL with } pa pc (.func (.func 120) #[] #[.pointer (some ⟨w.heap.size, 0, none⟩)]) wr
        change Calls Tryz.prog 119 _ _ _ at hS
        have ho0 : Mg.order l = [] := List.eq_nil_of_length_eq_zero HOL.out
        go_wp2_with fail
        refine hS.mono ?_
        rintro e wS ⟨rfl, rfl⟩
        have HO : Hid (wS.ownsRow w.heap.size 3 1 (.slice pa 0 pc) 0 (ivs (nums (Mg.order l))) ∧ Below w.heap.size w wS) := Lib.hid ⟨by rw [ho0]; exact own_base hko (fun j hj => by have := (hko.lt j hj).1; rw [HZ1.out] at this; omega), hbb.out⟩
        have hS0 := hbb.out.size
        have hXS : w.heap.size < wS.heap.size := by rw [HZ1.out] at hwz; omega
        clear hS hko
        obtain ⟨sa, sc, hsv, his⟩ := own_is HO.out.1 (nums_wf _ (fun x hx => by have := ((Mg.order_mem l x).1 hx).1; rw [HL.out] at this; omega))
        simp only [Value.slice.injEq, true_and] at hsv
        obtain ⟨rfl, rfl⟩ := hsv
        have HIS := Lib.hid his
        clear his
        go_wp2
        go_loopw [3, 27] (fun v i wr => ∃ k : Nat, k ≤ 0 ∧ i = .int .i64 k ∧ Hid (Below wS.heap.size wS wr ∧ wr.ownsRow wS.heap.size 3 1 v k (ivs ((Mg.rise l).take k)))) (fun _ i _ => 0 - (intOf i).toNat)
        case atStart => exact ⟨0, by omega, rfl, Lib.hid ⟨Below.refl _ _, World.ownsRow_nil _ _ _ _⟩⟩
        case round =>
          obtain ⟨k, hk, rfl, HK⟩ := hrel
          have hwS := HK.out.1.size
          by_cases hlt : k < 0
          · exact absurd hlt (by omega)
          · obtain rfl : k = 0 := by omega
            have hfull : (Mg.rise l).take 0 = Mg.rise l := List.take_of_length_le (by rw [Mg.rise_length, ← Mg.order_used, HOL.out]; exact Nat.le_refl _)
            rw [hfull] at HK
            obtain ⟨ra, rc, rfl, _⟩ := own_is HK.out.2 HWR.out
            go_wp2
            go_ret2
            exact ⟨_, _, rfl, by rw [HOL.out]; exact own_below HO.out.1 HK.out.1, by rw [HOL.out]; exact own_base HK.out.2 (fun g hg => Nat.le_trans hS0 (HK.out.2.lt g hg).1), HO.out.2.trans (HK.out.1.mono hS0)⟩
      · rcases own_nil_or HK.out.2 with ⟨rfl, hn1⟩ | ⟨g, cp, rfl, _, hgw, hgl, _⟩
        · exact absurd hn1 hn0
        · obtain ⟨b, off, rfl⟩ : ∃ b off, a = some ⟨b, off, none⟩ := by
            have hpos : 0 < len := by omega
            obtain ⟨b, off, e, _⟩ := H.out.at' 0 hpos
            exact ⟨b, off, e⟩
          have hbl : b < w.heap.size := by
            obtain ⟨b', off', e, hb, _⟩ := H.out.at' 0 (by omega)
            cases e; exact hb
          rw [HZ1.out] at hgw hwz
          have hS := sort_any w.heap.size b off len cap g nn cp l wr w1.heap.size (H.out.mono hbb.out) hcX (by omega) (by omega) (by omega) (by omega) HK.out.2 (by omega)
          have HS := Lib.hid hS
          clear hS
          go_wp2_with fail
          refine HS.out.mono ?_
          rintro e wS ⟨rfl, ownS, hbS, hoth⟩
          have HO : Hid (wS.ownsRow w.heap.size 3 1 (.slice (some ⟨g, 0, none⟩) nn cp) nn (ivs (nums (Mg.order l))) ∧ Below w.heap.size w wS) := Lib.hid ⟨own_base ownS (fun j hj => by have := (ownS.lt j hj).1; rw [HZ1.out] at this; omega), hbb.out.trans (hbS.mono (by rw [HZ1.out]; omega))⟩
          have hzS := hbS.size
          have hXS : w.heap.size < wS.heap.size := by have := HO.out.2.size; have := (ownS.lt g rfl).2; omega
          have hS0 : w.heap.size ≤ wS.heap.size := by omega
          have hcX2 := hoth ⟨w.heap.size, 0, none⟩ (show w.heap.size < wr.heap.size by omega) (show w.heap.size ≠ g by omega)
          rw [hcX] at hcX2
          clear hcX ownS hbS hoth HS
          have hcX := hcX2
          clear hcX2
          obtain ⟨sa, sc, hsv, his⟩ := own_is HO.out.1 (nums_wf _ (fun x hx => by have := ((Mg.order_mem l x).1 hx).1; rw [HL.out] at this; omega))
          simp only [Value.slice.injEq, true_and] at hsv
          obtain ⟨rfl, rfl⟩ := hsv
          have HIS := Lib.hid his
          clear his
          go_wp2
          go_loopw [3, 27] (fun v i wr => ∃ k : Nat, k ≤ nn ∧ i = .int .i64 k ∧ Hid (Below wS.heap.size wS wr ∧ wr.ownsRow wS.heap.size 3 1 v k (ivs ((Mg.rise l).take k)))) (fun _ i _ => nn - (intOf i).toNat)
          case atStart => exact ⟨0, by omega, rfl, Lib.hid ⟨Below.refl _ _, World.ownsRow_nil _ _ _ _⟩⟩
          case round =>
            obtain ⟨k, hk, rfl, HK⟩ := hrel
            have hwS := HK.out.1.size
            by_cases hlt : k < nn
            · obtain ⟨b2, o2, e2, _, c2⟩ := (HIS.out.mono HK.out.1).at' k hlt
              simp only [Option.some.injEq, Addr.mk.injEq, and_true] at e2
              obtain ⟨rfl, rfl⟩ := e2
              rw [nums_getD, Nat.zero_add] at c2
              have hko : k < (Mg.order l).length := by rw [HOL.out]; exact hlt
              have hso : (Mg.order l).getD k 0 < len := by
                have hm : (Mg.order l).getD k 0 ∈ Mg.order l := by simp [List.getD, List.getElem?_eq_getElem hko]
                have := ((Mg.order_mem l _).1 hm).1; rw [HL.out] at this; exact this
              have HT : Hid ((Mg.rise l).take (k + 1) = (Mg.rise l).take k ++ [l.getD ((Mg.order l).getD k 0) 0]) := Lib.hid (by
                have hkr : k < (Mg.rise l).length := by rw [Mg.rise_length, ← Mg.order_used]; exact hko
                rw [List.take_succ_eq_append_getElem hkr]
                simp [Mg.rise, List.getD, List.getElem?_eq_getElem hko])
              obtain ⟨b', off', hab, _, c1⟩ := (H.out.mono (HO.out.2.trans (HK.out.1.mono hS0))).at' _ hso
              have hcS := (HK.out.1.cell (p := ⟨w.heap.size, 0, none⟩) hXS).trans hcX
              simp only [Option.some.injEq, Addr.mk.injEq, and_true] at hab
              obtain ⟨rfl, rfl⟩ := hab
              generalize hsy : (Mg.order l).getD k 0 = sy at *
              generalize l.getD sy 0 = z at *
              go_wp2_with (at_builtin; refine wpl_append tyI rfl _ _ rfl (own_below HK.out.2 (below_alloc wr _)) (src_int wr z) rfl rfl (by omega) (by omega) (by simp; omega) ?_)
              intro v' w' own' hg' _
              have hb' : Below wS.heap.size wS w' := (HK.out.1.alloc hwS _).grown hg' (by simp; omega) (fun g hg => (HK.out.2.lt g hg).1)
              rw [← ivs_append, ← HT.out] at own'
              have HK2 := Lib.hid (And.intro hb' own')
              clear own' hb' hg' HK hcS c1 c2
              go_wp2
              go_roundw
              case rel => exact ⟨k + 1, by omega, by go_num, HK2⟩
              case measure => simp [intOf]; omega
            · obtain rfl : nn = k := by omega
              have hfull : (Mg.rise l).take nn = Mg.rise l := List.take_of_length_le (by rw [Mg.rise_length, ← Mg.order_used, HOL.out]; exact Nat.le_refl _)
              rw [hfull] at HK
              obtain ⟨ra, rc, rfl, _⟩ := own_is HK.out.2 HWR.out
              go_wp2
              go_ret2
              exact ⟨_, _, rfl, by rw [HOL.out]; exact own_below HO.out.1 HK.out.1, by rw [HOL.out]; exact own_base HK.out.2 (fun g hg => Nat.le_trans hS0 (HK.out.2.lt g hg).1), HO.out.2.trans (HK.out.1.mono hS0)⟩
end Go.Proofs.YtpoilaappcjbeaaGreatDoor
end

section
namespace Go.Proofs.YtpoilaappcjbeaaGreatDoor
open Go.RowKit

set_option maxHeartbeats 1000000 in
theorem within_any (a : Option Addr) (len cap : Nat) (l : List Int) (n : Nat) (t : Int) (w : World) (h : Is .i64 w a len cap l) (hr : len ≤ 140737488355328) (hn : n ≤ 1000000) (ht : 0 ≤ t ∧ t ≤ 1099511627776) :
    Calls Tryz.prog 112 #[.slice a len cap, .int .i64 n, .int .i64 t] w fun e w' => e = .returned (.bool (Mg.within l n t)) ∧ w = w' := by
  have HL := Lib.hid h.hlen
  have H := Lib.hid h
  clear h
  by_cases hbig : n < len
  · have d1 : decide ((n : Int) < (len : Int)) = true := by simp; omega
    have HX := Lib.hid (Mg.within_big l n t (by rw [HL.out]; exact hbig))
    go_enter Tryz.func112, Tryz.ntmps112
    go_wp2
    go_ret
    exact ⟨by rw [HX.out]; rfl, rfl⟩
  · have d1 : decide ((n : Int) < (len : Int)) = false := by simp; omega
    go_enter Tryz.func112, Tryz.ntmps112
    go_wp2
    go_loop [15] (fun i => ∃ k : Nat, k ≤ len ∧ i = .int .i64 k ∧ Hid (∀ j, j < k → 0 ≤ l.getD j 0 ∧ l.getD j 0 ≤ t)) (fun i => len - (intOf i).toNat)
    case atStart => exact ⟨0, by omega, rfl, Lib.hid (fun j hj => absurd hj (by omega))⟩
    case round =>
      obtain ⟨k, hk, rfl, HG⟩ := hrel
      by_cases hlt : k < len
      · obtain ⟨b, off, rfl, hb, hcell⟩ := H.out.at' k hlt
        have HB := Lib.hid (Mg.within_bad l n t k (by rw [HL.out]; exact hlt))
        have HG2 := Lib.hid (show 0 ≤ l.getD k 0 ∧ l.getD k 0 ≤ t → ∀ j, j < k + 1 → 0 ≤ l.getD j 0 ∧ l.getD j 0 ≤ t from fun hx j hj => by
          by_cases hjk : j < k
          · exact HG.out j hjk
          · obtain rfl : j = k := by omega
            exact hx)
        generalize l.getD k 0 = z at *
        by_cases hneg : z < 0
        · have dz : decide (z < 0) = true := by simpa using hneg
          have HX := Lib.hid (HB.out (.inl hneg))
          clear hneg
          go_wp2
          go_ret
          exact ⟨by rw [HX.out]; rfl, rfl⟩
        · have dz : decide (z < 0) = false := by simpa using hneg
          by_cases hhi : t < z
          · have dh : decide (t < z) = true := by simpa using hhi
            have HX := Lib.hid (HB.out (.inr hhi))
            clear hneg hhi
            go_wp2
            go_ret
            exact ⟨by rw [HX.out]; rfl, rfl⟩
          · have dh : decide (t < z) = false := by simpa using hhi
            have HG3 := Lib.hid (HG2.out ⟨by omega, by omega⟩)
            clear hneg hhi
            go_wp2
            go_round
            case rel => exact ⟨k + 1, by omega, by go_num, HG3⟩
            case measure => simp [intOf]; omega
      · obtain rfl : len = k := by omega
        have HX := Lib.hid (Mg.within_good l n t (by rw [HL.out]; omega) (fun j hj => HG.out j (by rw [HL.out] at hj; exact hj)))
        go_wp2
        go_ret
        exact ⟨by rw [HX.out]; rfl, rfl⟩
end Go.Proofs.YtpoilaappcjbeaaGreatDoor
end

section
namespace Go.Proofs.YtpoilaappcjbeaaGreatDoor
open Go.RowKit

def Mg.okB (l : List Int) : Bool := Mg.within l 300 1099511627776
def Mg.okL (l : List Int) (L : Int) : Bool := decide (1 ≤ L ∧ L ≤ 16 ∧ Mg.used l ≤ 2 ^ L.toNat)
def LenPost (w : World) (l : List Int) (L : Int) (e : Ending) (w' : World) : Prop :=
  Below w.heap.size w w' ∧
  ((Mg.okB l = false ∧ e = .returned (.tuple #[.slice none 0 0, .iface 51 (.int .i64 6)])) ∨
   (Mg.okB l = true ∧ Mg.okL l L = false ∧ e = .returned (.tuple #[.slice none 0 0, .iface 51 (.int .i64 7)])) ∨
   (Mg.okB l = true ∧ Mg.okL l L = true ∧ ∃ v, e = .returned (.tuple #[v, .nilIface]) ∧ w'.ownsRow w.heap.size 3 1 v l.length (ivs (Mg.lensOf l L.toNat))))
theorem lens_wf (R : List Int) (L : Nat) (hL : L ≤ 16) : ∀ x ∈ Mg.lens R L, 0 ≤ x ∧ x ≤ 16 := by
  intro x hx
  unfold Mg.lens at hx
  split at hx
  · have := List.eq_of_mem_replicate hx; omega
  · simp only [List.mem_map] at hx
    obtain ⟨i, _, rfl⟩ := hx
    have := Mg.tim_le R L (2 * R.length - 2) L i
    omega
set_option maxHeartbeats 4000000 in
set_option maxRecDepth 100000 in
theorem lengths_any (a : Option Addr) (len cap : Nat) (l : List Int) (L : Int) (w : World) (h : Is .i64 w a len cap l) (hr : len ≤ 140737488355328) :
    Calls Tryz.prog 97 #[.slice a len cap, .int .i64 L] w (LenPost w l L) := by
  have HL := Lib.hid h.hlen
  have H := Lib.hid h
  clear h
  go_enter Tryz.func97, Tryz.ntmps97
  go_wp2_with fail
  refine (within_any a len cap l 300 1099511627776 w H.out hr (by omega) (by omega)).mono ?_
  rintro e w' ⟨rfl, rfl⟩
  cases hb : Mg.within l 300 1099511627776
  · have HB := Lib.hid hb
    clear hb
    go_wp2
    go_ret2
    exact ⟨Below.refl _ _, .inl ⟨HB.out, rfl⟩⟩
  have HB := Lib.hid hb
  have h300 : len ≤ 300 := by have := Mg.within_len hb; rw [HL.out] at this; exact this
  have HWA := Lib.hid (fun k hk => Mg.within_at hb k hk)
  clear hb
  go_wp2_with fail
  refine (rarest_any a len cap l w H.out (by omega)).mono ?_
  rintro e w1 ⟨vs, vr, rfl, owns, ownr, hb1⟩
  have hou := Mg.order_used l
  have hul := Mg.used_le l
  rw [HL.out] at hul
  have HRW : Hid (∀ x ∈ Mg.rise l, 0 ≤ x ∧ x ≤ 1099511627776) := Lib.hid (fun x hx => ⟨Int.le_of_lt (Mg.rise_pos l x hx), Mg.rise_le l _ (fun k hk => (HWA.out k hk).2) x hx⟩)
  obtain ⟨sa, sc, rfl, his⟩ := own_is owns (nums_wf _ (fun x hx => by have := Mg.order_lt l x hx; rw [HL.out] at this; omega))
  obtain ⟨ra, rc, rfl, hir⟩ := own_is ownr (fun n hn => by
    have := HRW.out n hn
    simp only [Lit.wf, IntKind.min, IntKind.max, IntKind.signed, IntKind.bits, Bool.and_eq_true, decide_eq_true_eq, if_true]
    simp; omega)
  have HIS := Lib.hid his
  have HIR := Lib.hid hir
  have HSA0 := Lib.hid (fun ad (e : sa = some ad) => (show ad.block < w1.heap.size from (owns.lt ad.block (by rw [e]; rfl)).2))
  have HB1 := Lib.hid hb1
  clear owns ownr his hir hb1
  rw [hou] at HIS HIR ⊢
  have HOU := Lib.hid hou
  clear hou
  by_cases hlo : L < 1
  · have d1 : decide (L < 1) = true := by simpa using hlo
    have HX : Hid (Mg.okL l L = false) := Lib.hid (by unfold Mg.okL; exact decide_eq_false (by omega))
    clear hlo
    go_wp2
    go_ret2
    exact ⟨HB1.out, .inr (.inl ⟨HB.out, HX.out, rfl⟩)⟩
  have d1 : decide (L < 1) = false := by simpa using hlo
  by_cases hhi : 16 < L
  · have d2 : decide (16 < L) = true := by simpa using hhi
    have HX : Hid (Mg.okL l L = false) := Lib.hid (by unfold Mg.okL; exact decide_eq_false (by omega))
    clear hlo hhi
    go_wp2
    go_ret2
    exact ⟨HB1.out, .inr (.inl ⟨HB.out, HX.out, rfl⟩)⟩
  have d2 : decide (16 < L) = false := by simpa using hhi
  obtain ⟨n, rfl⟩ := Int.eq_ofNat_of_zero_le (show 0 ≤ L by omega)
  have hcast : ((2 ^ n : Nat) : Int) = (2 : Int) ^ n := Int.natCast_pow 2 n
  have hpn : 2 ^ n ≤ 65536 := (Nat.pow_le_pow_right (by omega) (show n ≤ 16 by omega) : 2 ^ n ≤ 2 ^ 16)
  have hpp : 0 < 2 ^ n := Nat.pow_pos (by omega)
  have hp16 : (2 : Int) ^ n ≤ 65536 := by rw [← hcast]; omega
  have hp0 : (0 : Int) < 2 ^ n := by rw [← hcast]; omega
  have hwr : wrap64 ((2 : Int) ^ n) = 2 ^ n := IntWalk.wrap64_in _ ⟨by omega, by omega⟩
  have HUS := Lib.hid (show Mg.okL l (n : Int) = decide (Mg.used l ≤ 2 ^ n) by
    unfold Mg.okL
    apply decide_eq_decide.2
    rw [Int.toNat_natCast]
    exact ⟨fun h => h.2.2, fun h => ⟨by omega, by omega, h⟩⟩)
  by_cases hfew : Mg.used l ≤ 2 ^ n
  rotate_left
  · have d3 : decide (wrap64 ((2 : Int) ^ n) < (Mg.used l : Int)) = true := by rw [hwr]; simp; omega
    have HX : Hid (Mg.okL l n = false) := Lib.hid (by rw [HUS.out]; exact decide_eq_false hfew)
    clear hfew hp16 hp0 hpn hpp hcast hwr
    go_wp2
    go_ret2
    exact ⟨HB1.out, .inr (.inl ⟨HB.out, HX.out, rfl⟩)⟩
  have d3 : decide (wrap64 ((2 : Int) ^ n) < (Mg.used l : Int)) = false := by rw [hwr]; simp; omega
  have HX : Hid (Mg.okL l n = true) := Lib.hid (by rw [HUS.out]; exact decide_eq_true hfew)
  have HF := Lib.hid hfew
  have hn1 : 1 ≤ n ∧ n ≤ 16 := by omega
  clear hfew hp16 hp0 hpn hpp hcast hwr HUS
  have hw1 := HB1.out.size
  go_wp2_with (at_make; refine wpl_make_full tyI rfl _ _ rfl w.heap.size .i64 .i64 _ _ len rfl rfl rfl rfl (by omega) (by omega) hw1 ?_)
  intro w2 own2 hg2
  have hb2 : Below w1.heap.size w1 w2 := (Below.refl _ _).grown hg2 (Nat.le_refl _) (by simp)
  have own3 : w2.ownsRow w.heap.size 3 1 (.slice (some ⟨w1.heap.size, 0, none⟩) len len) len (ivs (Mg.scat len (Mg.order l) (Mg.lens (Mg.rise l) n) 0)) := by
    have e := made_ints1 len
    rw [Nat.mul_one] at e
    rw [Mg.scat, ← e]; exact own2
  have HO := Lib.hid own3
  have hq : w1.heap.size < w2.heap.size := (own3.lt _ rfl).2
  have HIS2 := Lib.hid (HIS.out.mono hb2)
  have HIR2 := Lib.hid (HIR.out.mono hb2)
  have HB2 := Lib.hid (below_then HB1.out hb2)
  clear own2 own3 hg2 hb2 HIS HIR HB1
  have hqw : w.heap.size ≤ w1.heap.size := hw1
  have HSA := Lib.hid (fun ad (e : sa = some ad) (he : ad.block = w1.heap.size) => Nat.lt_irrefl _ (he ▸ HSA0.out ad e))
  clear HSA0
  generalize w1.heap.size = q at *
  go_wp2_with fail
  refine (least_any ra (Mg.used l) rc (Mg.rise l) n w2 HIR2.out (by omega) hn1.1 hn1.2 HF.out HRW.out).mono ?_
  rintro e w3 ⟨v, rfl, own3, hb3⟩
  rw [Mg.rise_length] at own3
  obtain ⟨la, lc, rfl, hil⟩ := own_is own3 (fun x hx => by
    have := lens_wf (Mg.rise l) n hn1.2 x hx
    simp only [Lit.wf, IntKind.min, IntKind.max, IntKind.signed, IntKind.bits, Bool.and_eq_true, decide_eq_true_eq, if_true]
    simp; omega)
  have HLO := Lib.hid own3
  have HSS := Lib.hid (HIS2.out.mono hb3)
  have HO3 := Lib.hid (own_below HO.out hb3)
  have HB3 := Lib.hid (below_then HB2.out hb3)
  have hlb : ∀ g, (Value.slice la (Mg.used l) lc).ownBlock = some g → g ≠ q := fun g hg => by have := (own3.lt g hg).1; omega
  have HLB := Lib.hid hlb
  have HLW : Hid (Wf (Mg.lens (Mg.rise l) n)) := Lib.hid hil.wf
  have HSN : Hid (∀ ad, sa = some ad → ¬ (fun j => j = q) ad.block) := Lib.hid (fun ad e he => HSA.out ad e he)
  clear own3 hil hb3 HIS2 HIR2 HB2 HO hlb
  go_wp2
  go_loopw [41] (fun i wr => ∃ k : Nat, k ≤ Mg.used l ∧ i = .int .i64 k ∧ Hid (Ch w3 wr (fun j => j = q) ∧ wr.ownsRow w.heap.size 3 1 (.slice (some ⟨q, 0, none⟩) len len) len (ivs (Mg.scat len (Mg.order l) (Mg.lens (Mg.rise l) n) k)))) (fun i _ => Mg.used l - (intOf i).toNat)
  case atStart => exact ⟨0, by omega, rfl, Lib.hid ⟨Ch.refl _ _, HO3.out⟩⟩
  case round =>
    obtain ⟨k, hk, rfl, HK⟩ := hrel
    by_cases hlt : k < Mg.used l
    · have hko : k < (Mg.order l).length := by rw [HOU.out]; exact hlt
      have hso : (Mg.order l).getD k 0 < len := by
        have hm : (Mg.order l).getD k 0 ∈ Mg.order l := by simp [List.getD, List.getElem?_eq_getElem hko]
        have := Mg.order_lt l _ hm; rw [HL.out] at this; exact this
      obtain ⟨b1, o1, rfl, _, c1⟩ := (own_is (HK.out.1.own HLO.out HLB.out) HLW.out).elim (fun a h => h.elim fun c h => (show ∃ b off, la = some ⟨b, off, none⟩ ∧ b < wr.heap.size ∧ wr.cell? ⟨b, off + k, none⟩ = some (.int .i64 ((Mg.lens (Mg.rise l) n).getD k 0)) from by
        have e := h.1
        simp only [Value.slice.injEq, true_and] at e
        obtain ⟨rfl, rfl⟩ := e
        exact h.2.at' k hlt))
      obtain ⟨b2, o2, rfl, _, c2⟩ := (HSS.out.kept HK.out.1 HSN.out).at' k hlt
      have e2 : (List.map (fun (i : Nat) => (i : Int)) (Mg.order l)).getD k 0 = (((Mg.order l).getD k 0 : Nat) : Int) := nums_getD _ _
      rw [e2] at c2
      obtain ⟨⟨z0, g0⟩, f0⟩ := own_slot HK.out.2 _ hso
      have HK2 : Hid (Ch w3 (wr.setCell ⟨q, (Mg.order l).getD k 0, none⟩ (.int .i64 ((Mg.lens (Mg.rise l) n).getD k 0))) (fun j => j = q) ∧ (wr.setCell ⟨q, (Mg.order l).getD k 0, none⟩ (.int .i64 ((Mg.lens (Mg.rise l) n).getD k 0))).ownsRow w.heap.size 3 1 (.slice (some ⟨q, 0, none⟩) len len) len (ivs (Mg.scat len (Mg.order l) (Mg.lens (Mg.rise l) n) (k + 1)))) :=
        Lib.hid ⟨HK.out.1.set (.inl rfl) _, own_set HK.out.2 _ _⟩
      clear HK
      generalize (Mg.order l).getD k 0 = sy at *
      generalize (Mg.lens (Mg.rise l) n).getD k 0 = z at *
      go_wp2
      go_roundw
      case rel => exact ⟨k + 1, by omega, by go_num, HK2⟩
      case measure => simp [intOf]; omega
    · obtain rfl : k = Mg.used l := by omega
      have HE : Hid (wr.ownsRow w.heap.size 3 1 (.slice (some ⟨q, 0, none⟩) len len) l.length (ivs (Mg.lensOf l n)) ∧ Below w.heap.size w wr) := Lib.hid ⟨by
        unfold Mg.lensOf
        rw [HL.out, HOU.out]; exact HK.out.2, HB3.out.trans (HK.out.1.below HB3.out.size (fun j hj => by subst hj; exact hqw))⟩
      clear HK
      go_wp2
      go_ret2
      exact ⟨HE.out.2, .inr (.inr ⟨HB.out, HX.out, _, rfl, by rw [Int.toNat_natCast]; exact HE.out.1⟩)⟩
end Go.Proofs.YtpoilaappcjbeaaGreatDoor
end

section
namespace Go.Proofs.YtpoilaappcjbeaaGreatDoor
open Go.RowKit

theorem wrap_pow16 (n : Nat) (h : n ≤ 16) : wrap64 ((2 : Int) ^ n) = ((2 ^ n : Nat) : Int) := by
  have hcast : ((2 ^ n : Nat) : Int) = (2 : Int) ^ n := Int.natCast_pow 2 n
  have hpn : 2 ^ n ≤ 2 ^ 16 := Nat.pow_le_pow_right (by omega) h
  have hpp : 0 < 2 ^ n := Nat.pow_pos (by omega)
  rw [← hcast]
  generalize 2 ^ n = p at *
  exact IntWalk.wrap64_in _ ⟨by omega, by omega⟩
theorem lensOf_wf (l : List Int) (L : Nat) (h0 : ∀ k, k < l.length → 0 ≤ l.getD k 0) (hL : 0 < L) (hL2 : L ≤ 16) (hu : Mg.used l ≤ 2 ^ L) : Wf (Mg.lensOf l L) := fun x hx => by
  obtain ⟨j, hj, rfl⟩ := List.mem_iff_getElem.1 hx
  have hj' := hj
  rw [Mg.lensOf_length] at hj'
  have := Mg.lensOf_range h0 hL hu j hj'
  rw [show (Mg.lensOf l L).getD j 0 = (Mg.lensOf l L)[j] by simp [List.getD, List.getElem?_eq_getElem hj]] at this
  simp only [Lit.wf, IntKind.min, IntKind.max, IntKind.signed, IntKind.bits, Bool.and_eq_true, decide_eq_true_eq, if_true]
  simp; omega
/-- A longest length that is let in. -/
theorem okL_nat {l : List Int} {L : Int} (h : Mg.okL l L = true) : ∃ n : Nat, L = n ∧ 1 ≤ n ∧ n ≤ 16 ∧ Mg.used l ≤ 2 ^ n := by
  unfold Mg.okL at h
  have h2 := of_decide_eq_true h
  exact ⟨L.toNat, by omega, by omega, by omega, h2.2.2⟩
end Go.Proofs.YtpoilaappcjbeaaGreatDoor
end
