/- merge.rarestFirst: its contract. -/
import Derived.Test.YtjjbgdmalefdlaaGreatDoorZ3
import Derived.Test.YtjjbgdmalefdlaaGreatDoorZ9
import Derived.Test.YtjjbgdmalefdlaaGreatDoorZ16
import Derived.Test.YtjjbgdmalefdlaaGreatDoorZ25
import Derived.Test.YtjjbgdmalefdlaaGreatDoorZ29
import Derived.Lib.RowBridge
import Derived.Lib.SortBridge
set_option linter.unusedSimpArgs false
set_option linter.unusedVariables false
section
namespace Go.Proofs.YtjjbgdmalefdlaaGreatDoor
open Go.RowKit Go.Shelf

theorem tapp (w : World) (os : Array Obj) : Below w.heap.size w (Sort.grow w os) := ⟨rfl, rfl, rfl, by simp [Sort.grow], fun k hk => by simp [Sort.grow, Array.getElem?_append, hk]⟩
theorem own_setCells {base n cap g : Nat} {e : TypeId} : ∀ (vs : List Value) (o : Nat) (w : World) (xs : List Value), w.ownsRow base e 1 (.slice (some ⟨g, 0, none⟩) n cap) n xs → o + vs.length ≤ n →
    (w.setCells g o vs).ownsRow base e 1 (.slice (some ⟨g, 0, none⟩) n cap) n (xs.take o ++ vs ++ xs.drop (o + vs.length))
  | [], o, w, xs, h, _ => by
    have : xs.take o ++ [] ++ xs.drop (o + ([] : List Value).length) = xs := by simp
    rw [this]; exact h
  | v :: r, o, w, xs, h, hl => by
    have hx := h.1
    have h1 := (h.stored o v).1
    have h2 := own_setCells r (o + 1) (w.setCell ⟨g, o, none⟩ v) (xs.set o v) h1 (by simp at hl ⊢; omega)
    have e : (xs.set o v).take (o + 1) ++ r ++ (xs.set o v).drop (o + 1 + r.length) = xs.take o ++ (v :: r) ++ xs.drop (o + (v :: r).length) := by
      have ho : o < xs.length := by simp at hl; omega
      rw [List.take_set, List.drop_set_of_lt (by omega), List.take_succ_eq_append_getElem ho, List.set_append_right _ _ (by rw [List.length_take]; omega), List.length_take, Nat.min_eq_left (by omega), Nat.sub_self]
      simp only [List.set_cons_zero, List.append_assoc, List.cons_append, List.nil_append, List.length_cons]
      rw [show o + 1 + r.length = o + (r.length + 1) by omega]
    rw [e] at h2
    exact h2
def RarePost (w : World) (l : List Int) (e : Ending) (w' : World) : Prop :=
  ∃ vs vr, e = .returned (.tuple #[vs, vr]) ∧ w'.ownsRow w.heap.size 3 1 vs (Mg.order l).length (ivs ((Mg.order l).map fun (i : Nat) => (i : Int))) ∧ w'.ownsRow w.heap.size 3 1 vr (Mg.order l).length (ivs (Mg.rise l)) ∧ Below w.heap.size w w'
/-- The comparison, at symbols of the counts. -/
def cfF (l : List Int) (n : Nat) (x y : Fin n) : Int := cfO (fun i => l.getD i.toNat 0) x.val y.val
theorem ltF (l : List Int) (n : Nat) (x y : Fin n) : ltOf (cfF l n) x y = decide (l.getD x.val 0 < l.getD y.val 0 ∨ l.getD x.val 0 = l.getD y.val 0 ∧ y.val < x.val) := by
  have e : cfF l n x y = orI (Lib.compareInt (l.getD x.val 0) (l.getD y.val 0)) (Lib.compareInt (y.val : Int) (x.val : Int)) := rfl
  unfold ltOf
  rw [e]
  generalize l.getD x.val 0 = a
  generalize l.getD y.val 0 = b
  have c1 : ∀ p q : Int, p < q → Lib.compareInt p q = -1 := fun p q h => by unfold Lib.compareInt; rw [if_pos h]
  have c2 : ∀ p q : Int, q < p → Lib.compareInt p q = 1 := fun p q h => by unfold Lib.compareInt; rw [if_neg (by omega), if_pos h]
  have c3 : ∀ p : Int, Lib.compareInt p p = 0 := fun p => by unfold Lib.compareInt; rw [if_neg (by omega), if_neg (by omega)]
  apply decide_eq_decide.2
  unfold orI
  rcases Int.lt_trichotomy a b with h | rfl | h
  · rw [c1 a b h, if_neg (by omega)]
    exact ⟨fun _ => .inl h, fun _ => by omega⟩
  · rw [c3, if_pos rfl]
    rcases Nat.lt_trichotomy y.val x.val with k | k | k
    · rw [c1 _ _ (by omega)]; exact ⟨fun _ => .inr ⟨rfl, k⟩, fun _ => by omega⟩
    · rw [k, c3]; exact ⟨fun h => by omega, fun h => by omega⟩
    · rw [c2 _ _ (by omega)]; exact ⟨fun h => by omega, fun h => by omega⟩
  · rw [c2 a b h, if_neg (by omega)]
    exact ⟨fun h => by omega, fun h => by omega⟩
theorem swoF (l : List Int) (n : Nat) : Sort.SWO (ltOf (cfF l n)) where
  irrefl x := by rw [ltF]; simp
  trans x y z h1 h2 := by rw [ltF] at *; simp only [decide_eq_true_eq] at *; omega
  ntrans x y z h1 h2 := by rw [ltF] at *; simp only [decide_eq_false_iff_not] at *; omega
theorem totF (l : List Int) (n : Nat) (x y : Fin n) (h1 : ltOf (cfF l n) x y = false) (h2 : ltOf (cfF l n) y x = false) : x = y := by
  rw [ltF] at *; simp only [decide_eq_false_iff_not] at *; exact Fin.ext (by omega)
/-- What the sort comes to. -/
theorem sort_order (l : List Int) (d : List (Fin l.length)) (hd : d.map Fin.val = Mg.stand l l.length) : (d.mergeSort fun x y => !ltOf (cfF l l.length) y x).map Fin.val = Mg.order l := by
  have hle : ∀ x y : Fin l.length, (!ltOf (cfF l l.length) y x) = Mg.leO l x.val y.val := fun x y => by
    rw [ltF]
    unfold Mg.leO
    rw [← decide_not]
    apply decide_eq_decide.2
    omega
  refine Mg.sort_unique l _ _ ?_ ?_ (Mg.order_sort l)
  · refine ((List.mergeSort_perm d _).map Fin.val).trans ?_
    rw [hd]; exact (Mg.order_perm l).symm
  · have h := List.pairwise_mergeSort (le := fun x y => !ltOf (cfF l l.length) y x) (fun a b c h1 h2 => by rw [hle] at *; exact Mg.leO_trans h1 h2) (fun a b => by rw [hle, hle]; have := Mg.leO_total l a.val b.val; simpa using this) d
    unfold Mg.SortO
    rw [List.pairwise_map]
    exact h.imp (fun h => by rw [hle] at h; exact h)
theorem cell_at2 {k : IntKind} {w : World} {b off len cap : Nat} {l : List Int} (h : Is k w (some ⟨b, off, none⟩) len cap l) (i : Nat) (hi : i < len) : w.cell? ⟨b, off + i, none⟩ = some (.int k (l.getD i 0)) := by
  obtain ⟨b', off', e, _, hc⟩ := h.at' i hi
  simp only [Option.some.injEq, Addr.mk.injEq, and_true] at e
  obtain ⟨rfl, rfl⟩ := e
  exact hc
def nums (r : List Nat) : List Int := r.map fun (i : Nat) => (i : Int)
theorem nums_length (r : List Nat) : (nums r).length = r.length := by simp [nums]
theorem nums_getD (r : List Nat) (i : Nat) : (nums r).getD i 0 = ((r.getD i 0 : Nat) : Int) := by
  by_cases h : i < r.length
  · simp [nums, List.getD, List.getElem?_eq_getElem h]
  · simp [nums, List.getD, List.getElem?_eq_none (Nat.le_of_not_lt h)]
theorem nums_wf (r : List Nat) (h : ∀ x ∈ r, x ≤ 1000000000) : Wf (nums r) := by
  intro n hn
  simp only [nums, List.mem_map] at hn
  obtain ⟨x, hx, rfl⟩ := hn
  have := h x hx
  simp only [Lit.wf, IntKind.min, IntKind.max, IntKind.signed, IntKind.bits, Bool.and_eq_true, decide_eq_true_eq, if_true]
  simp; omega
set_option maxHeartbeats 1000000 in
/-- The sort of the symbols: in place. -/
theorem sort_any (X b off len cap g k c : Nat) (l : List Int) (w : World) (base : Nat) (h : Is .i64 w (some ⟨b, off, none⟩) len cap l) (hX : w.cell? ⟨X, 0, none⟩ = some (.slice (some ⟨b, off, none⟩) len cap)) (hXl : X < w.heap.size) (hXg : X ≠ g) (hbg : b ≠ g) (hl : len ≤ 1000000)
    (hown : w.ownsRow base 3 1 (.slice (some ⟨g, 0, none⟩) k c) k (ivs (nums (Mg.stand l len)))) (hk : 0 < k) :
    Calls Tryz.prog 119 #[.slice (some ⟨g, 0, none⟩) k c, .func (.func 120) #[] #[.pointer (some ⟨X, 0, none⟩)]] w fun e w' =>
      e = .returned (.tuple #[]) ∧ w'.ownsRow base 3 1 (.slice (some ⟨g, 0, none⟩) k c) k (ivs (nums (Mg.order l))) ∧ Below base w w' ∧ (∀ p : Addr, p.block < w.heap.size → p.block ≠ g → w'.cell? p = w.cell? p) := by
  have hLl := h.hlen
  subst hLl
  have hsl : (Mg.stand l l.length).length = k := by have := hown.1; rw [ivs_length, nums_length] at this; omega
  have hpos : 0 < l.length := by have := Mg.stand_le l l.length; omega
  haveI : Inhabited (Fin l.length) := ⟨⟨0, hpos⟩⟩
  obtain ⟨d, hd⟩ : ∃ d : List (Fin l.length), d.map Fin.val = Mg.stand l l.length := by
    refine ⟨(Mg.stand l l.length).pmap (fun i (hi : i < l.length) => ⟨i, hi⟩) (fun i hi => ((Mg.stand_mem l _ i).1 hi).1), ?_⟩
    rw [List.map_pmap]; simp
  have hdl : d.length = k := by rw [← hsl, ← hd, List.length_map]
  have hgl := (hown.lt g rfl).2
  have hbl : b < w.heap.size := by obtain ⟨b', o', e, hb, _⟩ := h.at' 0 hpos; cases e; exact hb
  have ev : ivs (nums (Mg.stand l l.length)) = d.map fun x => Value.int .i64 (x.val : Nat) := by rw [← hd]; simp [ivs, nums]
  have hH : Sort.Holds (fun x : Fin l.length => Value.int .i64 (x.val : Nat)) w g 0 d.toArray := fun j hj => by
    have hj' : j < k := by rw [← hdl]; simpa using hj
    have hfr : w.frozen? ⟨g, 0 + j, none⟩ = false := by
      rcases hown.2 with ⟨h1, _⟩ | ⟨g2, cap2, cur, h1, _, hg, _⟩
      · simp at h1
      · simp only [Value.slice.injEq, Option.some.injEq, Addr.mk.injEq, and_true, true_and] at h1
        obtain ⟨rfl, rfl⟩ := h1
        exact frozen_of_row _ _ _ _ _ hg
    refine ⟨?_, hfr⟩
    rw [Nat.zero_add, hown.cellAt j (by omega), ev, List.getElem?_map, List.getElem?_eq_getElem (by omega)]
    simp [getElem!_def, List.getElem?_eq_getElem (show j < d.length by omega)]
  have eg : ∀ args w, (callFunc 120 args).run Tryz.prog w = .ok (.enter 120 args) w := enters_of Tryz.func120 (by kernel_rfl) rfl
  have other : ∀ (m : Nat) (os : Array Obj) (dk : Array (Fin l.length)) (p : Addr), p.block < w.heap.size → p.block ≠ g → (sortWorld (fun x : Fin l.length => Value.int .i64 (x.val : Nat)) w g 0 m dk os).cell? p = w.cell? p := fun m os dk p hp hg => by
    unfold sortWorld
    rw [Sort.cell?_grow _ _ _ (by simp [Sort.putRow, Sort.mapBlock, Sort.ahead]; exact hp), Sort.cell?_putRow_other _ _ _ _ _ _ (.inl hg)]
    rfl
  have hcmp : CmpLays1 Tryz.prog 120 #[.pointer (some ⟨X, 0, none⟩)] (fun x : Fin l.length => Value.int .i64 (x.val : Nat)) (cfF l l.length) g 0 d.toArray.size w := fun m os dk _ x y =>
    less_any X b off l.length cap (fun i => l.getD i.toNat 0) x.val y.val _ x.isLt y.isLt (by rw [other _ _ _ _ hXl hXg]; exact hX)
      (by rw [other _ _ _ _ hbl hbg]; exact cell_at2 h x.val x.isLt) (by rw [other _ _ _ _ hbl hbg]; exact cell_at2 h y.val y.isLt)
  have hS := Any.slices_SortFunc_total YtjjbgdmalefdlaaGreatDoor.sortL (fun x : Fin l.length => Value.int .i64 (x.val : Nat)) (fun _ => rfl) (cfF l l.length) (swoF l l.length) 120 #[.pointer (some ⟨X, 0, none⟩)] g 0 c d.toArray w eg hcmp hH hgl (by have := Mg.stand_le l l.length; simp; omega) (totF l l.length)
  change Calls Tryz.prog 119 _ _ _ at hS
  have hsz : d.toArray.size = k := by simpa using hdl
  rw [hsz] at hS
  refine hS.mono ?_
  rintro e w' ⟨rfl, n, os, hw⟩
  have hot := other n os (d.mergeSort fun x y => !ltOf (cfF l l.length) y x).toArray
  have hml : (d.mergeSort fun x y => !ltOf (cfF l l.length) y x).length = d.toArray.size := by simp
  refine ⟨rfl, ?_, ?_, fun p hp hg => by rw [hw]; exact hot p hp hg⟩
  · rw [hw]
    unfold sortWorld
    rw [Lib.sorted_world _ w g 0 n _ _ os hH hml]
    have h2 := own_setCells ((d.mergeSort fun x y => !ltOf (cfF l l.length) y x).map fun x => Value.int .i64 (x.val : Nat)) 0 (w.drewN n) _ (own_below hown (drewN_is w n)) (by simp; omega)
    have e2 : List.take 0 (ivs (nums (Mg.stand l l.length))) ++ ((d.mergeSort fun x y => !ltOf (cfF l l.length) y x).map fun x => Value.int .i64 (x.val : Nat)) ++ List.drop (0 + ((d.mergeSort fun x y => !ltOf (cfF l l.length) y x).map fun x => Value.int .i64 (x.val : Nat)).length) (ivs (nums (Mg.stand l l.length))) = ivs (nums (Mg.order l)) := by
      rw [List.take_zero, List.nil_append, List.drop_eq_nil_of_le (by rw [ivs_length, nums_length, List.length_map, List.length_mergeSort]; omega), List.append_nil, ← sort_order l d hd]
      simp [ivs, nums]
    rw [e2] at h2
    exact own_below h2 (tapp _ os)
  · rw [hw]
    unfold sortWorld
    rw [Lib.sorted_world _ w g 0 n _ _ os hH hml]
    have h3 : Below base w ((w.drewN n).setCells g 0 ((d.mergeSort fun x y => !ltOf (cfF l l.length) y x).map fun x => Value.int .i64 (x.val : Nat))) := below_setCells (hown.lt g rfl).1 _ _ _ ((drewN_is w n).mono (Nat.le_trans (hown.lt g rfl).1 (Nat.le_of_lt hgl)))
    exact h3.trans ((tapp _ os).mono (by simp; have := (hown.lt g rfl).1; omega))
set_option maxHeartbeats 4000000 in
set_option maxRecDepth 100000 in
theorem rarest_any (a : Option Addr) (len cap : Nat) (l : List Int) (w : World) (h : Is .i64 w a len cap l) (hl : len ≤ 1000) :
    Calls Tryz.prog 113 #[.slice a len cap] w (RarePost w l) := by
  have HL := Lib.hid h.hlen
  have H := Lib.hid h
  clear h
  go_enter Tryz.func113, Tryz.ntmps113
  have hbx : Boxed (w.alloc (.cells #[.slice a len cap] 53)) w.heap.size 53 (.slice a len cap) := World.alloc_heap_new w _
  have hb1 : Below w.heap.size w (w.alloc (.cells #[.slice a len cap] 53)) := below_alloc _ _
  have hz1 : (w.alloc (.cells #[.slice a len cap] 53)).heap.size = w.heap.size + 1 := Array.size_push _
  go_wp2
  generalize w.alloc (.cells #[.slice a len cap] 53) = w1 at hbx hb1 hz1 ⊢
  have HBX := Lib.hid hbx
  have HB1 := Lib.hid hb1
  have HZ1 := Lib.hid hz1
  clear hbx hb1 hz1
  go_loopw [2, 10] (fun v i wr => ∃ k : Nat, k ≤ len ∧ i = .int .i64 k ∧ Hid (Below w1.heap.size w1 wr ∧ wr.ownsRow w1.heap.size 3 1 v (Mg.stand l k).length (ivs (nums (Mg.stand l k))))) (fun _ i _ => len - (intOf i).toNat)
  case atStart => exact ⟨0, by omega, rfl, Lib.hid ⟨Below.refl _ _, World.ownsRow_nil _ _ _ _⟩⟩
  case round =>
    obtain ⟨k, hk, rfl, HK⟩ := hrel
    have hsl := Mg.stand_le l k
    by_cases hlt : k < len
    · obtain ⟨b, off, rfl, _, c1⟩ := (H.out.mono (below_then HB1.out HK.out.1)).at' k hlt
      have HSS := Mg.stand_succ l k
      generalize l.getD k 0 = z at *
      by_cases hz : 0 < z
      · have dz : decide (0 < z) = true := by simpa using hz
        rw [if_pos hz] at HSS
        have HS1 := Lib.hid HSS
        have hwz := HK.out.1.size
        clear hz HSS
        go_wp2_with (at_builtin; refine wpl_append tyI rfl _ _ rfl (own_below HK.out.2 (below_alloc wr _)) (src_int wr (k : Nat)) rfl rfl (by omega) (by omega) (by simp; omega) ?_)
        intro v' w' own' hg' _
        have hb' : Below w1.heap.size w1 w' := (HK.out.1.alloc hwz _).grown hg' (by simp; omega) (fun g hg => (HK.out.2.lt g hg).1)
        have own2 : w'.ownsRow w1.heap.size 3 1 v' (Mg.stand l (k + 1)).length (ivs (nums (Mg.stand l (k + 1)))) := by
          rw [HS1.out, List.length_append, List.length_singleton]
          have e : nums (Mg.stand l k ++ [k]) = nums (Mg.stand l k) ++ [(k : Int)] := by simp [nums]
          rw [e, ivs_append]; exact own'
        have HK2 := Lib.hid (And.intro hb' own2)
        clear own' own2 hb' hg' HK
        go_wp2
        go_roundw
        case rel => exact ⟨k + 1, by omega, by go_num, HK2⟩
        case measure => simp [intOf]; omega
      · have dz : decide (0 < z) = false := by simpa using hz
        rw [if_neg hz, List.append_nil] at HSS
        have HS1 := Lib.hid HSS
        clear hz HSS
        go_wp2
        go_roundw
        case rel => exact ⟨k + 1, by omega, by go_num, by rw [HS1.out]; exact HK⟩
        case measure => simp [intOf]; omega
    · obtain rfl : len = k := by omega
      have HOL : Hid ((Mg.order l).length = (Mg.stand l len).length) := Lib.hid (by rw [Mg.order_length, HL.out])
      have hbb : Hid (Below w.heap.size w wr) := Lib.hid (below_then HB1.out HK.out.1)
      have hcX : wr.cell? ⟨w.heap.size, 0, none⟩ = some (.slice a len cap) := by
        have := HK.out.1.cell (p := ⟨w.heap.size, 0, none⟩) (by rw [HZ1.out]; exact Nat.lt_succ_self _)
        rw [this]; exact HBX.out.cell
      have hwz := HK.out.1.size
      have HWR : Hid (Wf (Mg.rise l)) := Lib.hid (fun n hn => by
        simp only [Mg.rise, List.mem_map] at hn
        obtain ⟨i, hi, rfl⟩ := hn
        exact H.out.getW i (by rw [← HL.out]; exact ((Mg.order_mem l i).1 hi).1))
      have HST := Lib.hid (show (Mg.stand l len).length = (Mg.stand l len).length from rfl)
      generalize hnn : (Mg.stand l len).length = nn at HK HOL hsl HST
      by_cases hn0 : nn = 0
      · subst hn0
        have hsn : Mg.stand l len = [] := List.eq_nil_of_length_eq_zero hnn
        have hko := HK.out.2
        rw [hsn] at hko
        obtain ⟨pa, pc, rfl, _⟩ := own_is hko (fun n hn => by simp [nums] at hn)
        have hS := AnyF.slices_SortFunc_none (P := Tryz.prog) (ρ := YtjjbgdmalefdlaaGreatDoor.sortL_ren) { YtjjbgdmalefdlaaGreatDoor.sortL with } pa pc (.func (.func 120) #[] #[.pointer (some ⟨w.heap.size, 0, none⟩)]) wr
        change Calls Tryz.prog 119 _ _ _ at hS
        have ho0 : Mg.order l = [] := List.eq_nil_of_length_eq_zero HOL.out
        go_wp2_with fail
        refine hS.mono ?_
        rintro e wS ⟨rfl, rfl⟩
        have HO : Hid (wS.ownsRow w.heap.size 3 1 (.slice pa 0 pc) 0 (ivs (nums (Mg.order l))) ∧ Below w.heap.size w wS) := Lib.hid ⟨by rw [ho0]; exact own_base hko (fun j hj => by have := (hko.lt j hj).1; rw [HZ1.out] at this; omega), hbb.out⟩
        have hS0 := hbb.out.size
        have hXS : w.heap.size < wS.heap.size := by rw [HZ1.out] at hwz; omega
        clear hS hko
        obtain ⟨sa, sc, hsv, his⟩ := own_is HO.out.1 (nums_wf _ (fun x hx => by have := ((Mg.order_mem l x).1 hx).1; rw [HL.out] at this; omega))
        simp only [Value.slice.injEq, true_and] at hsv
        obtain ⟨rfl, rfl⟩ := hsv
        have HIS := Lib.hid his
        clear his
        go_wp2
        go_loopw [3, 27] (fun v i wr => ∃ k : Nat, k ≤ 0 ∧ i = .int .i64 k ∧ Hid (Below wS.heap.size wS wr ∧ wr.ownsRow wS.heap.size 3 1 v k (ivs ((Mg.rise l).take k)))) (fun _ i _ => 0 - (intOf i).toNat)
        case atStart => exact ⟨0, by omega, rfl, Lib.hid ⟨Below.refl _ _, World.ownsRow_nil _ _ _ _⟩⟩
        case round =>
          obtain ⟨k, hk, rfl, HK⟩ := hrel
          have hwS := HK.out.1.size
          by_cases hlt : k < 0
          · exact absurd hlt (by omega)
          · obtain rfl : k = 0 := by omega
            have hfull : (Mg.rise l).take 0 = Mg.rise l := List.take_of_length_le (by rw [Mg.rise_length, ← Mg.order_used, HOL.out]; exact Nat.le_refl _)
            rw [hfull] at HK
            obtain ⟨ra, rc, rfl, _⟩ := own_is HK.out.2 HWR.out
            go_wp2
            go_ret2
            exact ⟨_, _, rfl, by rw [HOL.out]; exact own_below HO.out.1 HK.out.1, by rw [HOL.out]; exact own_base HK.out.2 (fun g hg => Nat.le_trans hS0 (HK.out.2.lt g hg).1), HO.out.2.trans (HK.out.1.mono hS0)⟩
      · rcases own_nil_or HK.out.2 with ⟨rfl, hn1⟩ | ⟨g, cp, rfl, _, hgw, hgl, _⟩
        · exact absurd hn1 hn0
        · obtain ⟨b, off, rfl⟩ : ∃ b off, a = some ⟨b, off, none⟩ := by
            have hpos : 0 < len := by omega
            obtain ⟨b, off, e, _⟩ := H.out.at' 0 hpos
            exact ⟨b, off, e⟩
          have hbl : b < w.heap.size := by
            obtain ⟨b', off', e, hb, _⟩ := H.out.at' 0 (by omega)
            cases e; exact hb
          rw [HZ1.out] at hgw hwz
          have hS := sort_any w.heap.size b off len cap g nn cp l wr w1.heap.size (H.out.mono hbb.out) hcX (by omega) (by omega) (by omega) (by omega) HK.out.2 (by omega)
          have HS := Lib.hid hS
          clear hS
          go_wp2_with fail
          refine HS.out.mono ?_
          rintro e wS ⟨rfl, ownS, hbS, hoth⟩
          have HO : Hid (wS.ownsRow w.heap.size 3 1 (.slice (some ⟨g, 0, none⟩) nn cp) nn (ivs (nums (Mg.order l))) ∧ Below w.heap.size w wS) := Lib.hid ⟨own_base ownS (fun j hj => by have := (ownS.lt j hj).1; rw [HZ1.out] at this; omega), hbb.out.trans (hbS.mono (by rw [HZ1.out]; omega))⟩
          have hzS := hbS.size
          have hXS : w.heap.size < wS.heap.size := by have := HO.out.2.size; have := (ownS.lt g rfl).2; omega
          have hS0 : w.heap.size ≤ wS.heap.size := by omega
          have hcX2 := hoth ⟨w.heap.size, 0, none⟩ (show w.heap.size < wr.heap.size by omega) (show w.heap.size ≠ g by omega)
          rw [hcX] at hcX2
          clear hcX ownS hbS hoth HS
          have hcX := hcX2
          clear hcX2
          obtain ⟨sa, sc, hsv, his⟩ := own_is HO.out.1 (nums_wf _ (fun x hx => by have := ((Mg.order_mem l x).1 hx).1; rw [HL.out] at this; omega))
          simp only [Value.slice.injEq, true_and] at hsv
          obtain ⟨rfl, rfl⟩ := hsv
          have HIS := Lib.hid his
          clear his
          go_wp2
          go_loopw [3, 27] (fun v i wr => ∃ k : Nat, k ≤ nn ∧ i = .int .i64 k ∧ Hid (Below wS.heap.size wS wr ∧ wr.ownsRow wS.heap.size 3 1 v k (ivs ((Mg.rise l).take k)))) (fun _ i _ => nn - (intOf i).toNat)
          case atStart => exact ⟨0, by omega, rfl, Lib.hid ⟨Below.refl _ _, World.ownsRow_nil _ _ _ _⟩⟩
          case round =>
            obtain ⟨k, hk, rfl, HK⟩ := hrel
            have hwS := HK.out.1.size
            by_cases hlt : k < nn
            · obtain ⟨b2, o2, e2, _, c2⟩ := (HIS.out.mono HK.out.1).at' k hlt
              simp only [Option.some.injEq, Addr.mk.injEq, and_true] at e2
              obtain ⟨rfl, rfl⟩ := e2
              rw [nums_getD, Nat.zero_add] at c2
              have hko : k < (Mg.order l).length := by rw [HOL.out]; exact hlt
              have hso : (Mg.order l).getD k 0 < len := by
                have hm : (Mg.order l).getD k 0 ∈ Mg.order l := by simp [List.getD, List.getElem?_eq_getElem hko]
                have := ((Mg.order_mem l _).1 hm).1; rw [HL.out] at this; exact this
              have HT : Hid ((Mg.rise l).take (k + 1) = (Mg.rise l).take k ++ [l.getD ((Mg.order l).getD k 0) 0]) := Lib.hid (by
                have hkr : k < (Mg.rise l).length := by rw [Mg.rise_length, ← Mg.order_used]; exact hko
                rw [List.take_succ_eq_append_getElem hkr]
                simp [Mg.rise, List.getD, List.getElem?_eq_getElem hko])
              obtain ⟨b', off', hab, _, c1⟩ := (H.out.mono (HO.out.2.trans (HK.out.1.mono hS0))).at' _ hso
              have hcS := (HK.out.1.cell (p := ⟨w.heap.size, 0, none⟩) hXS).trans hcX
              simp only [Option.some.injEq, Addr.mk.injEq, and_true] at hab
              obtain ⟨rfl, rfl⟩ := hab
              generalize hsy : (Mg.order l).getD k 0 = sy at *
              generalize l.getD sy 0 = z at *
              go_wp2_with (at_builtin; refine wpl_append tyI rfl _ _ rfl (own_below HK.out.2 (below_alloc wr _)) (src_int wr z) rfl rfl (by omega) (by omega) (by simp; omega) ?_)
              intro v' w' own' hg' _
              have hb' : Below wS.heap.size wS w' := (HK.out.1.alloc hwS _).grown hg' (by simp; omega) (fun g hg => (HK.out.2.lt g hg).1)
              rw [← ivs_append, ← HT.out] at own'
              have HK2 := Lib.hid (And.intro hb' own')
              clear own' hb' hg' HK hcS c1 c2
              go_wp2
              go_roundw
              case rel => exact ⟨k + 1, by omega, by go_num, HK2⟩
              case measure => simp [intOf]; omega
            · obtain rfl : nn = k := by omega
              have hfull : (Mg.rise l).take nn = Mg.rise l := List.take_of_length_le (by rw [Mg.rise_length, ← Mg.order_used, HOL.out]; exact Nat.le_refl _)
              rw [hfull] at HK
              obtain ⟨ra, rc, rfl, _⟩ := own_is HK.out.2 HWR.out
              go_wp2
              go_ret2
              exact ⟨_, _, rfl, by rw [HOL.out]; exact own_below HO.out.1 HK.out.1, by rw [HOL.out]; exact own_base HK.out.2 (fun g hg => Nat.le_trans hS0 (HK.out.2.lt g hg).1), HO.out.2.trans (HK.out.1.mono hS0)⟩
end Go.Proofs.YtjjbgdmalefdlaaGreatDoor
end
