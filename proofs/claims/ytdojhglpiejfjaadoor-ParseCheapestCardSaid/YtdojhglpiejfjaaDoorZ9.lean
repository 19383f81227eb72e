/- Finder.rising: the iterator's contract. Finder.Len: its contract. A range over an iterator that tells what comes next, whose variable lies in memory. Finder.rising as an iterator. A function that ranges over functions more than once leaves with as many marks. -/
import Derived.Test.YtdojhglpiejfjaaDoorZ8
import Derived.RangeFuncNested
import Derived.RangeFuncBound
import Derived.RangeFuncCalls
import Derived.RangeFuncLeaves
import Derived.RangeFuncFrom
import Derived.Shelf.Abstract
import Derived.Shelf.RegionOpen
import Derived.OwnWalkIn
import Derived.TacticsInMore
import Derived.LoopNIn
import Derived.LoopIn
import Derived.RegionIn
import Derived.Stop.RegionWithIn
set_option linter.unusedSimpArgs false
set_option linter.unusedVariables false
section
namespace Go.Proofs.YtdojhglpiejfjaaDoor
open Go.RowKit Go.Shelf
attribute [local go_sem] Oper.semAt_some

/-- A record as it is handed over. -/
def rEnc (q : Nat × Nat) : Array Value := #[.agg #[.int .i64 (q.1 : Nat), .int .i64 (q.2 : Nat)]]
/-- The records of a place, none beyond the text. -/
def ra (Rs : List (List (Nat × Nat))) (p : Int) : List (Nat × Nat) := if p < 0 then [] else Rs.getD p.toNat []
theorem ra_in (Rs : List (List (Nat × Nat))) (t : Nat) : ra Rs (t : Int) = Rs.getD t [] := by unfold ra; rw [if_neg (by omega), Int.toNat_natCast]
theorem ra_out {l : List UInt8} {N : Nat} {Rs : List (List (Nat × Nat))} (h : Recs l N N Rs) {p : Int} (hp : p < 0 ∨ (N : Int) ≤ p) : ra Rs p = [] := by
  unfold ra
  rcases hp with hp | hp
  · rw [if_pos hp]
  · split
    · rfl
    · rw [List.getD, List.getElem?_eq_none (by rw [h.1]; omega)]; rfl
theorem ra_rec {l : List UInt8} {N : Nat} {Rs : List (List (Nat × Nat))} (h : Recs l N N Rs) {t : Nat} (ht : t < N) : Lz.Rec (gb l) N t (ra Rs (t : Int)) := by
  rw [ra_in]; exact h.2 t ht
theorem Fd.kc {w w' : World} {gf eb base N t : Nat} {l : List UInt8} {v : Value} {Rs : List (List (Nat × Nat))} {U : Nat → Prop} (h : Fd w gf eb base N l t v Rs) (c : Bk.Kc U w w') (n1 : ¬ U gf) (n2 : ¬ U eb) (n3 : ∀ b, v.ownBlock = some b → ¬ U b) : Fd w' gf eb base N l t v Rs := by
  obtain ⟨cs, h1, h2⟩ := h.ends
  exact ⟨c gf _ h.row rfl n1, Bk.own_kc h.own c n3, h.recs, ⟨cs, c eb _ h1 rfl n2, h2⟩, h.n1, h.n2⟩
theorem Fd.below {w w' : World} {gf eb base N t : Nat} {l : List UInt8} {v : Value} {Rs : List (List (Nat × Nat))} (h : Fd w gf eb base N l t v Rs) (c : Below w.heap.size w w') : Fd w' gf eb base N l t v Rs := by
  obtain ⟨cs, h1, h2⟩ := h.ends
  exact ⟨(c.block gf (Array.getElem?_eq_some_iff.1 h.row).1).trans h.row, own_below h.own c, h.recs, ⟨cs, (c.block eb (Array.getElem?_eq_some_iff.1 h1).1).trans h1, h2⟩, h.n1, h.n2⟩
theorem rising_in (F : Fence) (n : Nat) (h5 : F.fn 43) (hro : F.round = none) (p : Value) (at' : Int) (w : World) (hp : p = .pointer none ∨ ∃ g, p = .pointer (some ⟨g, 0, none⟩)) :
    CallsIn F n Tryd.prog 43 #[p, .int .i64 at'] w fun e w' => e = .returned (.func (.func 55) #[] #[.pointer (some ⟨w.heap.size + 1, 0, none⟩), .pointer (some ⟨w.heap.size, 0, none⟩)]) ∧ w' = (w.alloc (.cells #[p] 55)).alloc (.cells #[.int .i64 at'] 3) := by
  refine callsIn_of_wp Tryd.func43 rfl h5 ?_ hro
  simp only [Tryd.ntmps43, List.size_toArray, List.length_cons, List.length_nil, Nat.reduceAdd, Nat.reduceSub, Array.replicate_succ, Array.replicate_zero, List.push_toArray, List.append_toArray, List.nil_append, List.cons_append]
  rcases hp with rfl | ⟨g, rfl⟩
  · gi_wp2
    go_ret
    exact ⟨rfl, rfl⟩
  · gi_wp2
    go_ret
    exact ⟨rfl, rfl⟩
set_option maxRecDepth 100000 in
set_option maxHeartbeats 4000000 in
theorem rise_out (n : Nat) (hd : 1 ≤ n) (y A B : Nat) (p : Value) (N : Nat) (at' : Int) (W : World) (ha : W.cell? ⟨A, 0, none⟩ = some (.int .i64 at')) (hb : W.cell? ⟨B, 0, none⟩ = some p)
    (hp : ∀ w', Below W.heap.size W w' → Calls Tryd.prog 56 #[p] w' fun e w'' => e = .returned (.int .i64 (N : Nat)) ∧ w' = w'') (hpp : p = .pointer none ∨ ∃ g, p = .pointer (some ⟨g, 0, none⟩)) (hout : at' < 0 ∨ (N : Int) ≤ at') :
    CallsIn Fence.wide n Tryd.prog 55 #[.func (.yield y) #[] #[], .pointer (some ⟨A, 0, none⟩), .pointer (some ⟨B, 0, none⟩)] W fun e W' => (∃ v, e = .returned v) ∧ Below W.heap.size W W' := by
  have hro : (Fence.wide).round = none := rfl
  have h8 : (Fence.wide).fn 56 := trivial
  have hbd := Below.drew (Below.refl W.heap.size W)
  have HP := Lib.hid (hp _ hbd)
  have ha1 : W.drew.cell? ⟨A, 0, none⟩ = some (.int .i64 at') := ha
  have hb1 : W.drew.cell? ⟨B, 0, none⟩ = some p := hb
  clear hp
  refine callsIn_of_wp Tryd.func55 rfl trivial ?_ hro
  simp only [Tryd.ntmps55, List.size_toArray, List.length_cons, List.length_nil, Nat.reduceAdd, Nat.reduceSub, Array.replicate_succ, Array.replicate_zero, List.push_toArray, List.append_toArray, List.nil_append, List.cons_append]
  by_cases h0 : at' < 0
  · have d0 : decide (at' < 0) = true := by simp; omega
    clear hout HP
    rcases hpp with rfl | ⟨g, rfl⟩
    all_goals gi_wp2
    all_goals gi_region
    all_goals gi_wp2
    all_goals refine bodyPost_ret (results_none rfl _ _ _) rfl ?_
    all_goals exact ⟨⟨_, rfl⟩, hbd⟩
  have d0 : decide (at' < 0) = false := by simp; omega
  have d1 : decide ((N : Int) ≤ at') = true := by simp; omega
  clear hout
  rcases hpp with rfl | ⟨g, rfl⟩
  all_goals gi_wp2
  all_goals gi_region_with (refine (callsIn_wide.2 HP.out).mono ?_; rintro e w' ⟨rfl, rfl⟩)
  all_goals gi_wp2
  all_goals refine bodyPost_ret (results_none rfl _ _ _) rfl ?_
  all_goals exact ⟨⟨_, rfl⟩, hbd⟩
/-- Where the records of a place begin, and what stands there. -/
theorem flat_at (Rs : List (List (Nat × Nat))) (t : Nat) (h : t < Rs.length) : ends Rs t = (Rs.take t).flatten.length + (Rs.getD t []).length ∧ ends Rs t ≤ Rs.flatten.length ∧
    ∀ i, i < (Rs.getD t []).length → Rs.flatten.getD ((Rs.take t).flatten.length + i) (0, 0) = (Rs.getD t []).getD i (0, 0) := by
  have e0 : Rs.getD t [] = Rs[t] := by simp [List.getD, List.getElem?_eq_getElem h]
  have e1 : Rs.take (t + 1) = Rs.take t ++ [Rs[t]] := by rw [List.take_succ_eq_append_getElem h]
  have e3 : (Rs.take (t + 1)).flatten = (Rs.take t).flatten ++ Rs[t] := by rw [e1, List.flatten_append]; simp only [List.flatten_cons, List.flatten_nil, List.append_nil]
  have e2 : Rs.flatten = (Rs.take t).flatten ++ (Rs[t] ++ (Rs.drop (t + 1)).flatten) := by
    have h1 : Rs.flatten = (Rs.take (t + 1) ++ Rs.drop (t + 1)).flatten := by rw [List.take_append_drop]
    rw [h1, List.flatten_append, e3, List.append_assoc]
  refine ⟨?_, ?_, fun i hi => ?_⟩
  · unfold ends; rw [e3, e0, List.length_append]
  · unfold ends; rw [e3, e2, List.length_append, List.length_append, List.length_append]; omega
  · rw [e0] at hi ⊢
    rw [e2, List.getD, List.getElem?_append_right (by omega), Nat.add_sub_cancel_left, List.getElem?_append_left hi]; rfl
theorem own_drews {W : World} {B : Nat} {e : TypeId} {size : Nat} {v : Value} {n : Nat} {xs : List Value} (h : W.ownsRow B e size v n xs) : W.drew.drew.ownsRow B e size v n xs ∧ W.drew.drew.drew.ownsRow B e size v n xs := ⟨h, h⟩
theorem grown_drew (W : World) : W.grownBy W.drew none := ⟨rfl, rfl, rfl, Nat.le_refl _, fun _ _ _ => rfl⟩
set_option maxRecDepth 100000 in
set_option maxHeartbeats 4000000 in
theorem rise_in (n : Nat) (hd : 1 ≤ n) (y A B gf eb base N t : Nat) (l : List UInt8) (v : Value) (Rs : List (List (Nat × Nat))) (U : Nat → Prop) (J Jx : List (Nat × Nat) → World → Prop) (B0 : Nat)
    (hY : ∀ pre x W, J pre W → (∃ s, Rs.getD t [] = pre ++ x :: s) → YieldAt Fence.wide (n - 1) Tryd.prog y (rEnc x) W fun e W' => KeepsFrom B0 W W' ∧
      ((e = .returned (.bool true) ∧ J (pre ++ [x]) W' ∧ Bk.Kc U W W') ∨ (e = .returned (.bool false) ∧ Jx (pre ++ [x]) W')))
    (W : World) (hA : Boxed W A 3 (.int .i64 t)) (hB : Boxed W B 55 (.pointer (some ⟨gf, 0, none⟩))) (hfd : Fd W gf eb base N l N v Rs) (hN : N ≤ 1048576) (ht : t < N)
    (hlen : ∀ w', Below W.heap.size W w' → Calls Tryd.prog 56 #[.pointer (some ⟨gf, 0, none⟩)] w' fun e w'' => e = .returned (.int .i64 (N : Nat)) ∧ w' = w'')
    (nv : ∀ b, v.ownBlock = some b → ¬ U b) (h0 : J [] W) (hU : ∀ k, U k → k < W.heap.size) (hJn : ∀ xs A B, J xs A → A.grownBy B none → J xs B) :
    CallsIn Fence.wide n Tryd.prog 55 #[.func (.yield y) #[] #[], .pointer (some ⟨A, 0, none⟩), .pointer (some ⟨B, 0, none⟩)] W fun e W' => (∃ v, e = .returned v) ∧
      ((∃ ys, ys = Rs.getD t [] ∧ J ys W') ∨ (∃ pre, (∃ s, Rs.getD t [] = pre ++ s) ∧ Jx pre W')) := by
  have hro : (Fence.wide).round = none := rfl
  have h8 : (Fence.wide).fn 56 := trivial
  have HL := Lib.hid (hlen _ (Below.drew (Below.refl W.heap.size W)))
  obtain ⟨f1, f2, f3⟩ := flat_at Rs t (by rw [hfd.recs.1]; exact ht)
  have hrl := recs_len hfd.recs
  have hq : ∀ i, i < (Rs.getD t []).length → ((Rs.getD t []).getD i (0, 0)).1 < 65536 ∧ ((Rs.getD t []).getD i (0, 0)).2 < 65536 := fun i hi => by
    have hm : (Rs.getD t []).getD i (0, 0) ∈ Rs.getD t [] := by
      have e : (Rs.getD t []).getD i (0, 0) = (Rs.getD t [])[i] := by rw [List.getD, List.getElem?_eq_getElem hi]; rfl
      rw [e]; exact List.getElem_mem hi
    obtain ⟨_, _, q3, _, q5⟩ := (hfd.recs.2 t ht).2.1 _ hm
    have q6 := Lz.cp_le (gb l) (Lz.L N t) (t - ((Rs.getD t []).getD i (0, 0)).2) t
    have q7 : Lz.L N t ≤ 258 := by unfold Lz.L; omega
    omega
  have HQ := Lib.hid hq
  obtain ⟨cs, hcs, hcz, hce⟩ := hfd.ends
  have c0 : W.cell? ⟨gf, 0, none⟩ = some v := by rw [cell_of_row _ _ _ _ _ (0, 0) hfd.row]; rfl
  have c1 : W.cell? ⟨gf, 1, none⟩ = some (.slice (some ⟨eb, 0, none⟩) N N) := by rw [cell_of_row _ _ _ _ _ (0, 0) hfd.row]; rfl
  have ce : W.cell? ⟨eb, t, none⟩ = some (.int .i32 ((ends Rs t : Nat) : Int)) := by rw [cell_of_row _ _ _ _ _ (0, 0) hcs]; exact hce t ht
  have cp : 0 < t → W.cell? ⟨eb, t - 1, none⟩ = some (.int .i32 (((Rs.take t).flatten.length : Nat) : Int)) := fun h => by
    rw [cell_of_row _ _ _ _ _ (0, 0) hcs, hce (t - 1) (by omega)]
    unfold ends
    rw [Nat.sub_add_cancel h]
  have ca := hA.cell
  have cb := hB.cell
  have HO := Lib.hid hfd.own
  have hgr := grown_drew
  have HJD : Hid (J [] W.drew.drew ∧ J [] W.drew.drew.drew) := Lib.hid ⟨hJn _ _ _ (hJn _ _ _ h0 (hgr _)) (hgr _), hJn _ _ _ (hJn _ _ _ (hJn _ _ _ h0 (hgr _)) (hgr _)) (hgr _)⟩
  have HJN := Lib.hid hJn
  have HY := Lib.hid hY
  have HF3 := Lib.hid f3
  have HUU := Lib.hid hU
  have HNV := Lib.hid nv
  have HB := Lib.hid hB
  have d0 : decide ((t : Int) < 0) = false := by simp
  have d1 : decide ((N : Int) ≤ (t : Int)) = false := by simp; omega
  have dn : decide (t < N) = true := by simp; omega
  clear hY hlen hJn hfd hA hq hcs hcz hce hU nv h0 hgr hB
  generalize hR : Rs.getD t [] = R at *
  generalize hfl : Rs.flatten = fl at *
  generalize hbg : (Rs.take t).flatten.length = bg at *
  generalize hen : ends Rs t = en at *
  obtain ⟨ra, rc, rfl, hat, hcap⟩ : ∃ ra rc, v = .slice ra fl.length rc ∧ (∀ i, i < fl.length → ∃ rb, ra = some ⟨rb, 0, none⟩) ∧ fl.length ≤ rc := by
    rcases own_nil_or HO.out with ⟨h1, h2⟩ | ⟨rb, rc, h1, h2, _⟩
    · exact ⟨none, 0, by rw [h1, h2], fun i hi => by omega, by omega⟩
    · exact ⟨_, rc, h1, fun i _ => ⟨rb, rfl⟩, h2⟩
  have HAT := Lib.hid hat
  have HB0 : Hid (t = 0 → bg = 0) := Lib.hid (fun h => by subst h; rw [← hbg]; rfl)
  clear hat hR hfl hbg hen f3
  have w1 : W.drew.cell? ⟨A, 0, none⟩ = some (.int .i64 t) := ca
  have w2 : W.drew.cell? ⟨B, 0, none⟩ = some (.pointer (some ⟨gf, 0, none⟩)) := cb
  have dsl : decide (bg ≤ en) = true := by simp; omega
  have dsc : decide (en ≤ rc) = true := by simp; omega
  refine callsIn_of_wp Tryd.func55 rfl trivial ?_ hro
  simp only [Tryd.ntmps55, List.size_toArray, List.length_cons, List.length_nil, Nat.reduceAdd, Nat.reduceSub, Array.replicate_succ, Array.replicate_zero, List.push_toArray, List.append_toArray, List.nil_append, List.cons_append]
  -- WAYS
  by_cases hR0 : R.length = 0
  · obtain rfl := List.eq_nil_of_length_eq_zero hR0
    by_cases hp : 0 < t
    · have d2 : decide (0 < t) = true := by simp; omega
      have x1 : W.drew.drew.cell? ⟨A, 0, none⟩ = some (.int .i64 t) := ca
      have x2 : W.drew.drew.cell? ⟨B, 0, none⟩ = some (.pointer (some ⟨gf, 0, none⟩)) := cb
      have x3 : W.drew.drew.cell? ⟨gf, 1, none⟩ = some (.slice (some ⟨eb, 0, none⟩) N N) := c1
      have x4 : W.drew.drew.cell? ⟨eb, t - 1, none⟩ = some (.int .i32 (bg : Int)) := cp hp
      have hwr : (t : Int) - 1 = ((t - 1 : Nat) : Int) := by omega
      have dn1 : decide (t - 1 < N) = true := by simp; omega
      clear cp
      gi_wp2
      gi_region_with (refine (callsIn_wide.2 HL.out).mono ?_; rintro e w' ⟨rfl, rfl⟩)
      all_goals gi_wp2
      all_goals gi_region
      all_goals gi_wp2
      all_goals clear x1 x2 x3 x4
      all_goals have z1 : W.drew.drew.drew.cell? ⟨A, 0, none⟩ = some (.int .i64 t) := ca
      all_goals have z2 : W.drew.drew.drew.cell? ⟨B, 0, none⟩ = some (.pointer (some ⟨gf, 0, none⟩)) := cb
      all_goals have z3 : W.drew.drew.drew.cell? ⟨gf, 0, none⟩ = some (.slice ra fl.length rc) := c0
      all_goals have z4 : W.drew.drew.drew.cell? ⟨gf, 1, none⟩ = some (.slice (some ⟨eb, 0, none⟩) N N) := c1
      all_goals have z5 : W.drew.drew.drew.cell? ⟨eb, t, none⟩ = some (.int .i32 (en : Int)) := ce
      all_goals have HO2 : Hid (W.drew.drew.drew.ownsRow base 108 2 (.slice ra fl.length rc) fl.length (rvs fl)) := Lib.hid (own_drews HO.out).2
      all_goals have HJ0 := Lib.hid HJD.out.2
      all_goals gi_region
      all_goals gi_wp2
      all_goals clear z1 z2 z3 z4 z5
      all_goals revert HO2 HJ0
      all_goals generalize W.drew.drew.drew = V
      all_goals intro HO2 HJ0
      all_goals clear ca cb c0 c1 ce HO w1 w2
      all_goals try simp only [Nat.add_sub_cancel_left]
      all_goals
        gi_loopw [39] (fun i wr => i = .int .i64 0 ∧ Hid (J [] wr)) (fun i _ => 0)
        case atStart => exact ⟨rfl, HJ0⟩
        case round =>
          obtain ⟨rfl, HJ⟩ := hrel
          gi_wp2
          go_end0
          exact ⟨⟨_, rfl⟩, .inl ⟨_, rfl, HJ.out⟩⟩
    · have d2 : decide (0 < t) = false := by simp; omega
      obtain rfl : t = 0 := by omega
      obtain rfl : bg = 0 := HB0.out rfl
      clear cp
      gi_wp2
      gi_region_with (refine (callsIn_wide.2 HL.out).mono ?_; rintro e w' ⟨rfl, rfl⟩)
      all_goals gi_wp2
      all_goals have z1 : W.drew.drew.cell? ⟨A, 0, none⟩ = some (.int .i64 (0 : Nat)) := ca
      all_goals have z2 : W.drew.drew.cell? ⟨B, 0, none⟩ = some (.pointer (some ⟨gf, 0, none⟩)) := cb
      all_goals have z3 : W.drew.drew.cell? ⟨gf, 0, none⟩ = some (.slice ra fl.length rc) := c0
      all_goals have z4 : W.drew.drew.cell? ⟨gf, 1, none⟩ = some (.slice (some ⟨eb, 0, none⟩) N N) := c1
      all_goals have z5 : W.drew.drew.cell? ⟨eb, 0, none⟩ = some (.int .i32 (en : Int)) := ce
      all_goals have HO2 : Hid (W.drew.drew.ownsRow base 108 2 (.slice ra fl.length rc) fl.length (rvs fl)) := Lib.hid (own_drews HO.out).1
      all_goals have HJ0 := Lib.hid HJD.out.1
      all_goals gi_region
      all_goals gi_wp2
      all_goals clear z1 z2 z3 z4 z5
      all_goals revert HO2 HJ0
      all_goals generalize W.drew.drew = V
      all_goals intro HO2 HJ0
      all_goals clear ca cb c0 c1 ce HO w1 w2
      all_goals try simp only [Nat.add_sub_cancel_left]
      all_goals
        gi_loopw [39] (fun i wr => i = .int .i64 0 ∧ Hid (J [] wr)) (fun i _ => 0)
        case atStart => exact ⟨rfl, HJ0⟩
        case round =>
          obtain ⟨rfl, HJ⟩ := hrel
          gi_wp2
          go_end0
          exact ⟨⟨_, rfl⟩, .inl ⟨_, rfl, HJ.out⟩⟩
  · obtain ⟨rb, rfl⟩ := HAT.out 0 (by omega)
    by_cases hp : 0 < t
    · have d2 : decide (0 < t) = true := by simp; omega
      have x1 : W.drew.drew.cell? ⟨A, 0, none⟩ = some (.int .i64 t) := ca
      have x2 : W.drew.drew.cell? ⟨B, 0, none⟩ = some (.pointer (some ⟨gf, 0, none⟩)) := cb
      have x3 : W.drew.drew.cell? ⟨gf, 1, none⟩ = some (.slice (some ⟨eb, 0, none⟩) N N) := c1
      have x4 : W.drew.drew.cell? ⟨eb, t - 1, none⟩ = some (.int .i32 (bg : Int)) := cp hp
      have hwr : (t : Int) - 1 = ((t - 1 : Nat) : Int) := by omega
      have dn1 : decide (t - 1 < N) = true := by simp; omega
      clear cp
      gi_wp2
      gi_region_with (refine (callsIn_wide.2 HL.out).mono ?_; rintro e w' ⟨rfl, rfl⟩)
      all_goals gi_wp2
      all_goals gi_region
      all_goals gi_wp2
      all_goals clear x1 x2 x3 x4
      all_goals have z1 : W.drew.drew.drew.cell? ⟨A, 0, none⟩ = some (.int .i64 t) := ca
      all_goals have z2 : W.drew.drew.drew.cell? ⟨B, 0, none⟩ = some (.pointer (some ⟨gf, 0, none⟩)) := cb
      all_goals have z3 : W.drew.drew.drew.cell? ⟨gf, 0, none⟩ = some (.slice (some ⟨rb, 0, none⟩) fl.length rc) := c0
      all_goals have z4 : W.drew.drew.drew.cell? ⟨gf, 1, none⟩ = some (.slice (some ⟨eb, 0, none⟩) N N) := c1
      all_goals have z5 : W.drew.drew.drew.cell? ⟨eb, t, none⟩ = some (.int .i32 (en : Int)) := ce
      all_goals have HO2 : Hid (W.drew.drew.drew.ownsRow base 108 2 (.slice (some ⟨rb, 0, none⟩) fl.length rc) fl.length (rvs fl)) := Lib.hid (own_drews HO.out).2
      all_goals have HJ0 := Lib.hid HJD.out.2
      all_goals gi_region
      all_goals gi_wp2
      all_goals clear z1 z2 z3 z4 z5
      all_goals revert HO2 HJ0
      all_goals generalize W.drew.drew.drew = V
      all_goals intro HO2 HJ0
      all_goals clear ca cb c0 c1 ce HO w1 w2
      all_goals try simp only [Nat.add_sub_cancel_left]
      all_goals
        gi_loopw [39] (fun i wr => ∃ m : Nat, m ≤ R.length ∧ i = .int .i64 m ∧ Hid (J (R.take m) wr) ∧ Hid (wr.ownsRow base 108 2 (.slice (some ⟨rb, 0, none⟩) fl.length rc) fl.length (rvs fl))) (fun i _ => R.length - (intOf i).toNat)
        case atStart => exact ⟨0, by omega, rfl, HJ0, HO2⟩
        case round =>
          obtain ⟨m, hm, rfl, HJ, HOr⟩ := hrel
          by_cases hlt : m < R.length
          · first
            | (exfalso; omega)
            | (have hc3 := HF3.out m hlt
               have hq := HQ.out m hlt
               have hg := rvs_get fl (bg + m) (by omega)
               rw [hc3] at hg
               obtain ⟨s, hs⟩ : ∃ s, R = R.take m ++ R.getD m (0, 0) :: s := ⟨R.drop (m + 1), by
                 have e : R.getD m (0, 0) = R[m] := by rw [List.getD, List.getElem?_eq_getElem hlt]; rfl
                 rw [e, ← List.drop_eq_getElem_cons hlt, List.take_append_drop]⟩
               have ea : (bg + m) * 2 = bg * 2 + m * 2 := by omega
               have hk0 : wr.cell? ⟨rb, bg * 2 + m * 2, none⟩ = some (.int .u16 ((R.getD m (0, 0)).1 : Int)) := by rw [← ea, HOr.out.cellAt _ (by omega), hg.1]
               have hk1 : wr.cell? ⟨rb, bg * 2 + m * 2 + 1, none⟩ = some (.int .u16 ((R.getD m (0, 0)).2 : Int)) := by rw [← ea, HOr.out.cellAt _ (by omega), hg.2]
               have HRn : Hid (R.take m ++ [R.getD m (0, 0)] = R.take (m + 1)) := Lib.hid (by rw [List.take_add_one, List.getElem?_eq_getElem hlt]; congr 1; rw [List.getD, List.getElem?_eq_getElem hlt]; rfl)
               have HPX : Hid (∃ s', R = R.take (m + 1) ++ s') := Lib.hid ⟨R.drop (m + 1), by rw [List.take_append_drop]⟩
               clear hg ea hc3
               generalize R.getD m (0, 0) = q at *
               obtain ⟨q1, q2⟩ := q
               simp only at hk0 hk1 hq
               obtain ⟨fn, tmps, assign, body, hy, hRd⟩ := HY.out (R.take m) (q1, q2) (wr.alloc (.cells #[.int .u16 (q1 : Int), .int .u16 (q2 : Int)] 108)) (HJN.out _ _ _ HJ.out (World.grownBy_alloc wr _ none)) ⟨s, hs⟩
               have HO3 := Lib.hid (HOr.out.alloc (.cells #[.int .u16 (q1 : Int), .int .u16 (q2 : Int)] 108))
               unfold rEnc at hy
               simp only at hy
               clear hs
               gi_wp2
               refine hRd.mono ?_
               rintro e W3 ⟨_, (⟨rfl, hJ3, hk3⟩ | ⟨rfl, hJx3⟩)⟩
               · have HJ3 := Lib.hid (show J (R.take (m + 1)) W3 by rw [← HRn.out]; exact hJ3)
                 have HO4 := Lib.hid (Bk.own_kc HO3.out hk3 HNV.out)
                 clear hJ3 hk3 hRd hy hk0 hk1 hq
                 gi_wp2
                 go_roundw
                 case rel => exact ⟨m + 1, by omega, by go_num, HJ3, HO4⟩
                 case measure => simp [intOf]; omega
               · have HX3 := Lib.hid (show Jx (R.take (m + 1)) W3 by rw [← HRn.out]; exact hJx3)
                 clear hJx3 hRd hy hk0 hk1 hq
                 gi_wp2
                 refine bodyPost_ret (results_none rfl _ _ _) rfl ?_
                 exact ⟨⟨_, rfl⟩, .inr ⟨_, HPX.out, HX3.out⟩⟩)
          · obtain rfl : R.length = m := by omega
            gi_wp2
            go_end0
            exact ⟨⟨_, rfl⟩, .inl ⟨_, rfl, by have := HJ.out; rwa [List.take_length] at this⟩⟩
    · have d2 : decide (0 < t) = false := by simp; omega
      obtain rfl : t = 0 := by omega
      obtain rfl : bg = 0 := HB0.out rfl
      clear cp
      gi_wp2
      gi_region_with (refine (callsIn_wide.2 HL.out).mono ?_; rintro e w' ⟨rfl, rfl⟩)
      all_goals gi_wp2
      all_goals have z1 : W.drew.drew.cell? ⟨A, 0, none⟩ = some (.int .i64 (0 : Nat)) := ca
      all_goals have z2 : W.drew.drew.cell? ⟨B, 0, none⟩ = some (.pointer (some ⟨gf, 0, none⟩)) := cb
      all_goals have z3 : W.drew.drew.cell? ⟨gf, 0, none⟩ = some (.slice (some ⟨rb, 0, none⟩) fl.length rc) := c0
      all_goals have z4 : W.drew.drew.cell? ⟨gf, 1, none⟩ = some (.slice (some ⟨eb, 0, none⟩) N N) := c1
      all_goals have z5 : W.drew.drew.cell? ⟨eb, 0, none⟩ = some (.int .i32 (en : Int)) := ce
      all_goals have HO2 : Hid (W.drew.drew.ownsRow base 108 2 (.slice (some ⟨rb, 0, none⟩) fl.length rc) fl.length (rvs fl)) := Lib.hid (own_drews HO.out).1
      all_goals have HJ0 := Lib.hid HJD.out.1
      all_goals gi_region
      all_goals gi_wp2
      all_goals clear z1 z2 z3 z4 z5
      all_goals revert HO2 HJ0
      all_goals generalize W.drew.drew = V
      all_goals intro HO2 HJ0
      all_goals clear ca cb c0 c1 ce HO w1 w2
      all_goals try simp only [Nat.add_sub_cancel_left]
      all_goals
        gi_loopw [39] (fun i wr => ∃ m : Nat, m ≤ R.length ∧ i = .int .i64 m ∧ Hid (J (R.take m) wr) ∧ Hid (wr.ownsRow base 108 2 (.slice (some ⟨rb, 0, none⟩) fl.length rc) fl.length (rvs fl))) (fun i _ => R.length - (intOf i).toNat)
        case atStart => exact ⟨0, by omega, rfl, HJ0, HO2⟩
        case round =>
          obtain ⟨m, hm, rfl, HJ, HOr⟩ := hrel
          by_cases hlt : m < R.length
          · first
            | (exfalso; omega)
            | (have hc3 := HF3.out m hlt
               have hq := HQ.out m hlt
               have hg := rvs_get fl (0 + m) (by omega)
               rw [hc3] at hg
               obtain ⟨s, hs⟩ : ∃ s, R = R.take m ++ R.getD m (0, 0) :: s := ⟨R.drop (m + 1), by
                 have e : R.getD m (0, 0) = R[m] := by rw [List.getD, List.getElem?_eq_getElem hlt]; rfl
                 rw [e, ← List.drop_eq_getElem_cons hlt, List.take_append_drop]⟩
               have ea : (0 + m) * 2 = m * 2 := by omega
               have hk0 : wr.cell? ⟨rb, m * 2, none⟩ = some (.int .u16 ((R.getD m (0, 0)).1 : Int)) := by rw [← ea, HOr.out.cellAt _ (by omega), hg.1]
               have hk1 : wr.cell? ⟨rb, m * 2 + 1, none⟩ = some (.int .u16 ((R.getD m (0, 0)).2 : Int)) := by rw [← ea, HOr.out.cellAt _ (by omega), hg.2]
               have HRn : Hid (R.take m ++ [R.getD m (0, 0)] = R.take (m + 1)) := Lib.hid (by rw [List.take_add_one, List.getElem?_eq_getElem hlt]; congr 1; rw [List.getD, List.getElem?_eq_getElem hlt]; rfl)
               have HPX : Hid (∃ s', R = R.take (m + 1) ++ s') := Lib.hid ⟨R.drop (m + 1), by rw [List.take_append_drop]⟩
               clear hg ea hc3
               generalize R.getD m (0, 0) = q at *
               obtain ⟨q1, q2⟩ := q
               simp only at hk0 hk1 hq
               obtain ⟨fn, tmps, assign, body, hy, hRd⟩ := HY.out (R.take m) (q1, q2) (wr.alloc (.cells #[.int .u16 (q1 : Int), .int .u16 (q2 : Int)] 108)) (HJN.out _ _ _ HJ.out (World.grownBy_alloc wr _ none)) ⟨s, hs⟩
               have HO3 := Lib.hid (HOr.out.alloc (.cells #[.int .u16 (q1 : Int), .int .u16 (q2 : Int)] 108))
               unfold rEnc at hy
               simp only at hy
               clear hs
               gi_wp2
               refine hRd.mono ?_
               rintro e W3 ⟨_, (⟨rfl, hJ3, hk3⟩ | ⟨rfl, hJx3⟩)⟩
               · have HJ3 := Lib.hid (show J (R.take (m + 1)) W3 by rw [← HRn.out]; exact hJ3)
                 have HO4 := Lib.hid (Bk.own_kc HO3.out hk3 HNV.out)
                 clear hJ3 hk3 hRd hy hk0 hk1 hq
                 gi_wp2
                 go_roundw
                 case rel => exact ⟨m + 1, by omega, by go_num, HJ3, HO4⟩
                 case measure => simp [intOf]; omega
               · have HX3 := Lib.hid (show Jx (R.take (m + 1)) W3 by rw [← HRn.out]; exact hJx3)
                 clear hJx3 hRd hy hk0 hk1 hq
                 gi_wp2
                 refine bodyPost_ret (results_none rfl _ _ _) rfl ?_
                 exact ⟨⟨_, rfl⟩, .inr ⟨_, HPX.out, HX3.out⟩⟩)
          · obtain rfl : R.length = m := by omega
            gi_wp2
            go_end0
            exact ⟨⟨_, rfl⟩, .inl ⟨_, rfl, by have := HJ.out; rwa [List.take_length] at this⟩⟩
end Go.Proofs.YtdojhglpiejfjaaDoor
end

section
namespace Go.Proofs.YtdojhglpiejfjaaDoor
open Go.RowKit Go.Maps

theorem len_nil (w : World) : Calls Tryd.prog 56 #[.pointer none] w fun e w' => e = .returned (.int .i64 0) ∧ w = w' := by
  go_enter Tryd.func56, Tryd.ntmps56
  go_wp2
  go_ret
  exact ⟨rfl, rfl⟩
theorem len_any {w : World} {gf eb base N t : Nat} {l : List UInt8} {v : Value} {Rs : List (List (Nat × Nat))} (h : Fd w gf eb base N l t v Rs) :
    Calls Tryd.prog 56 #[.pointer (some ⟨gf, 0, none⟩)] w fun e w' => e = .returned (.int .i64 (N : Nat)) ∧ w = w' := by
  have c1 : w.cell? ⟨gf, 1, none⟩ = some (.slice (some ⟨eb, 0, none⟩) N N) := by rw [cell_of_row _ _ _ _ _ (0, 0) h.row]; rfl
  clear h
  go_enter Tryd.func56, Tryd.ntmps56
  go_wp2
  go_ret
  exact ⟨rfl, rfl⟩
end Go.Proofs.YtdojhglpiejfjaaDoor
end

section
namespace Go.Proofs.YtdojhglpiejfjaaDoor
open Go.RowKit

theorem range_iterA {F : Fence} {n : Nat} {P : Program} {α : Type} {g : Operand} {ps : Array Tmp} {assign body : Code} {Q : Exit → Act → World → Prop} {a : Act} {w : World}
    (hro : F.round = none) (h1 : 1 ≤ n) {gf : Nat} {lb : Array Value} (hg : a.eval g = .func (.func gf) #[] lb) (hF : F.fn gf) (eg : ∀ args w, (callFunc gf args).run P w = .ok (.enter gf args) w)
    {encs : α → Array Value} {Kp : World → World → Prop} {S Sp : List α → Prop} {Nx : List α → α → Prop} (hseq : IterN F (n - 1) P gf lb encs Kp S Sp Nx w)
    (hKt : ∀ {A B C : World}, Kp A B → Kp B C → Kp A C) (hKb : ∀ (A : World) (k : Nat) (o o' : Obj), A.heap[k]? = some o → o.isCells = false → Kp A (A.putObj k o')) (hps : ∀ x, (encs x).size = ps.size)
    (I : List α → World → Prop) (Ix : Code → List α → World → Prop) (hI : OwnFrom w.heap.size I) (hX : ∀ c, OwnFrom w.heap.size (Ix c)) (h0 : I [] w) (obj : α → Obj) (hob : ∀ x, (obj x).isCells = true) (hKa : ∀ (A : World) (o : Obj), Kp A (A.alloc o)) (act : α → Nat → Act)
    (has : ∀ (k : Nat) (x : α) (A : World) (K : Act → World → Prop), K (act x A.heap.size) (A.alloc (obj x)) → assign.wpIn (F.inRound k) (n - 1 - 1) P (Exit.then K (fun _ _ _ => False)) { tmps := (ps.zip (encs x)).foldl (fun t (p, v) => t.setIfInBounds p v) a.tmps, defers := [] } A)
    (hbo : ∀ (k : Nat) (pre : List α) (x : α) (A : World) (Bx : Nat), I pre A → Nx pre x → w.heap.size ≤ Bx → A.heap[Bx]? = some (obj x) → body.wpIn (F.inRound k) (n - 1 - 1) P (ownPostG w.heap.size Kp I Ix (pre ++ [x]) A) (act x Bx) A)
    (hend : ∀ (xs : List α) (A : World), S xs → I xs A → A.heap[w.heap.size]? = some (.deferred (some [])) → Q .normal { a with defers := { target := .collected w.heap.size, args := #[] } :: a.defers } A)
    (hout : ∀ (c : Code) (pre : List α) (A : World), Sp pre → Ix c pre A → A.heap[w.heap.size]? = some (.deferred (some [])) → c.wpIn F n P Q { a with defers := { target := .collected w.heap.size, args := #[] } :: a.defers } A) :
    (Code.rangeFunc g ps assign body).wpIn F n P Q a w := by
  refine wpIn_rangeFunc fun fn hfn => ?_
  rw [hro]
  obtain ⟨d, hd⟩ : ∃ d, w.heap.size = d := ⟨_, rfl⟩
  rw [hd] at hI hX hend hout
  simp only [hd] at hbo
  obtain ⟨L, hL⟩ : ∃ L : LoopState → Option Code → Loop, L = fun s c => { state := s, pending := c, fn, tmps := a.tmps, params := ps, assign, body, defers := d } := ⟨_, rfl⟩
  have hV : ∃ V, (w.alloc (.deferred (some []))).alloc (.loop (L .ready none)) = V := ⟨_, rfl⟩
  obtain ⟨V, hV⟩ := hV
  have vz : V.heap.size = d + 2 := by rw [← hV, ← hd]; simp
  have v1 : V.heap[d + 1]? = some (.loop (L .ready none)) := by
    have := World.alloc_heap_new (w.alloc (.deferred (some []))) (.loop (L .ready none))
    rw [World.size_alloc, hd, hV] at this
    exact this
  have v0 : V.heap[d]? = some (.deferred (some [])) := by
    have := (Below.heap_alloc (w.alloc (.deferred (some []))) (.loop (L .ready none)) d (by simp; omega))
    rw [hV] at this
    rw [this, ← hd]; exact World.alloc_heap_new w _
  have vI : I [] V := by rw [← hV]; exact hI.alloc _ (hI.alloc _ h0)
  have vb : Below w.heap.size w V := by rw [← hV]; exact ((Below.refl _ w).alloc (Nat.le_refl _) _).alloc (by simp) _
  refine ⟨d + 1, [{ target := .collected d, args := #[] }], V, { target := .fn (.func gf) lb, args := #[.func (.yield (d + 1)) #[] #[]] }, V, gf, #[.func (.yield (d + 1)) #[] #[]] ++ lb, V, ?_, ?_, ?_, ?_, fun _ => h1, ?_⟩
  · have := run_enterLoop_outer (P := P) (w := w) fn a.tmps ps assign body
    rw [hd] at this
    rw [this, ← hV, hL]
  · simp only [resolve, hg]; simp [go_sem]
  · intro f' hf'
    simp [Target.leads] at hf'
    subst hf'; exact hF
  · simp [invoke, go_sem, eg]
  have two : ∀ {A A' : World} {row : Option Nat} {s : LoopState} {c : Option Code}, A.grownBy A' row → (∀ r, row = some r → V.heap.size ≤ r ∧ ∃ o : Obj, A.heap[r]? = some o ∧ o.isCells = false) →
      A.heap[d + 1]? = some (.loop (L s c)) ∧ A.heap[d]? = some (.deferred (some [])) → A'.heap[d + 1]? = some (.loop (L s c)) ∧ A'.heap[d]? = some (.deferred (some [])) := fun hgr hr h =>
    ⟨(hgr.block _ (Array.getElem?_eq_some_iff.1 h.1).1 (fun e => by have := (hr _ e.symm).1; omega)).trans h.1, (hgr.block _ (Array.getElem?_eq_some_iff.1 h.2).1 (fun e => by have := (hr _ e.symm).1; omega)).trans h.2⟩
  have up : ∀ {A : World} {row : Option Nat}, (∀ r, row = some r → V.heap.size ≤ r ∧ ∃ o : Obj, A.heap[r]? = some o ∧ o.isCells = false) → ∀ r, row = some r → d ≤ r ∧ ∃ o : Obj, A.heap[r]? = some o ∧ o.isCells = false := fun hr r e => ⟨by have := (hr r e).1; omega, (hr r e).2⟩
  refine (hseq (d + 1) (fun pre A => I pre A ∧ A.heap[d + 1]? = some (.loop (L .ready none)) ∧ A.heap[d]? = some (.deferred (some [])))
    (fun pre A => ∃ c, Ix c pre A ∧ A.heap[d + 1]? = some (.loop (L .done (some c))) ∧ A.heap[d]? = some (.deferred (some []))) V vb
    (fun s A A' row h hgr hr => ⟨hI s A A' row h.1 hgr (up hr), two hgr hr h.2⟩) (fun s A A' row ⟨c, h1, h2⟩ hgr hr => ⟨c, hX c s A A' row h1 hgr (up hr), two hgr hr h2⟩) ⟨vI, v1, v0⟩ ?_).mono ?_
  · rintro pre x A ⟨aI, a1, a0⟩ hlen
    have hy := run_yield (P := P) (args := encs x) a1 (by rw [hL]; exact hps x)
    rw [hL] at hy
    have al := (Array.getElem?_eq_some_iff.1 a1).1
    have q1 : (A.alloc (obj x)).heap[d + 1]? = some (.loop (L .ready none)) := (Below.heap_alloc A (obj x) _ al).trans a1
    refine ⟨fn, _, assign, body, hy, roundIn_of_wpIn hfn (has _ x A _ ⟨_, run_beginRound q1 (by rw [hL]), ?_⟩)⟩
    have q0 : (A.alloc (obj x)).heap[d]? = some (.deferred (some [])) := (Below.heap_alloc A (obj x) _ (by omega)).trans a0
    obtain ⟨Z, hZ⟩ : ∃ Z, (A.alloc (obj x)).putObj (d + 1) (.loop { L .ready none with state := .busy }) = Z := ⟨_, rfl⟩
    have z1 : Z.heap[d + 1]? = some (.loop { L .ready none with state := .busy }) := by rw [← hZ]; exact putN_same q1
    have z0 : Z.heap[d]? = some (.deferred (some [])) := by rw [← hZ]; exact (World.putObj_heap_other (by omega)).trans q0
    have zx : Z.heap[A.heap.size]? = some (obj x) := by rw [← hZ]; exact (World.putObj_heap_other (by omega)).trans (World.alloc_heap_new A _)
    have zI : I pre Z := by rw [← hZ]; exact hI.putObj _ (hI.alloc _ aI) (by omega) q1 rfl
    have zK : Kp A Z := by rw [← hZ]; exact hKt (hKa _ _) (hKb _ _ _ _ q1 rfl)
    have zF : KeepsFrom V.heap.size A Z := by rw [← hZ]; exact ((KeepsOthers.alloc A _).from _).trans (putN_keeps _ (by omega))
    rw [hZ]
    have leave : ∀ (c : Option Code) (Y : World), KeepsFrom d Z Y → ∃ Y', (Instr.endRound (d + 1) c).run P Y = .ok (.bool c.isNone) Y' ∧ Y' = Y.putObj (d + 1) (.loop (L (if c.isNone then .ready else .done) c)) ∧ Y.heap[d + 1]? = some (.loop { L .ready none with state := .busy }) ∧
        (Y'.heap[d + 1]? = some (.loop (L (if c.isNone then .ready else .done) c)) ∧ Y'.heap[d]? = some (.deferred (some []))) ∧ KeepsFrom V.heap.size A Y' := fun c Y hY => by
      have y1 := hY.same _ _ (by omega) z1 rfl
      have y0 := hY.same _ _ (Nat.le_refl _) z0 rfl
      have r := run_endRound (P := P) c y1
      rw [hL] at r ⊢
      rw [hL] at y1
      refine ⟨_, r, rfl, y1, ⟨putN_same y1, (World.putObj_heap_other (by omega)).trans y0⟩, ?_⟩
      exact ⟨Nat.le_trans zF.size (by simpa using hY.size), fun k o hk hb hc => (World.putObj_heap_other (by omega)).trans (hY.same k o (by omega) (zF.same k o hk hb hc) hc)⟩
    refine wpIn_mono (hbo _ pre x Z _ zI hlen (by omega) zx) ?_
    intro e a' Y hp
    have stop : ∀ c, KeepsFrom d Z Y → Ix c (pre ++ [x]) Y → ∃ v Y', (Instr.endRound (d + 1) (some c)).run P Y = .ok v Y' ∧ KeepsFrom V.heap.size A Y' ∧ ((Ending.returned v = .returned (.bool true) ∧ (I (pre ++ [x]) Y' ∧ Y'.heap[d + 1]? = some (.loop (L .ready none)) ∧ Y'.heap[d]? = some (.deferred (some []))) ∧ Kp A Y') ∨
        (Ending.returned v = .returned (.bool false) ∧ ∃ c, Ix c (pre ++ [x]) Y' ∧ Y'.heap[d + 1]? = some (.loop (L .done (some c))) ∧ Y'.heap[d]? = some (.deferred (some [])))) := fun c hk hx => by
      obtain ⟨Y', r, rfl, y1, yy, yk⟩ := leave (some c) Y hk
      exact ⟨_, _, r, yk, .inr ⟨rfl, c, (hX c).putObj _ hx (by omega) y1 rfl, yy⟩⟩
    cases e with
    | normal =>
      obtain ⟨hk, hkp, hi⟩ := hp
      obtain ⟨Y', r, rfl, y1, yy, yk⟩ := leave none Y hk
      exact ⟨_, _, r, yk, .inl ⟨rfl, ⟨hI.putObj _ hi (by omega) y1 rfl, yy⟩, hKt (hKt zK hkp) (hKb _ _ _ _ y1 rfl)⟩⟩
    | ret => exact stop _ hp.1 hp.2
    | exit id => exact stop _ hp.1 hp.2
    | goto t => exact stop _ hp.1 hp.2
    | panic ch => exact hp.elim
    | outgrown => exact hp.elim
  · rintro e Y ⟨⟨v, rfl⟩, (⟨xs, hS, hi, y1, y0⟩ | ⟨pre, hSp, c, hi, y1, y0⟩)⟩
    · have r := run_endLoop (P := P) y1 (by rw [hL]; simp)
      rw [hL] at r
      exact ⟨none, _, r, hend xs _ hS (hI.putObj _ hi (by omega) y1 rfl) ((World.putObj_heap_other (by omega)).trans y0)⟩
    · have r := run_endLoop (P := P) y1 (by rw [hL]; simp)
      rw [hL] at r
      exact ⟨some c, _, r, hout c pre _ hSp ((hX c).putObj _ hi (by omega) y1 rfl) ((World.putObj_heap_other (by omega)).trans y0)⟩
end Go.Proofs.YtdojhglpiejfjaaDoor
end

section
namespace Go.Proofs.YtdojhglpiejfjaaDoor
open Go.RowKit Go.Shelf
def tokO (q : Nat × Nat) : Obj := .cells #[.int .i64 (q.1 : Nat), .int .i64 (q.2 : Nat)] 46 (0, 0)
theorem grown_of_below {W W' : World} (h : Below W.heap.size W W') : W.grownBy W' none := ⟨h.os, h.tape, h.output, h.size, fun k hk _ => h.block k hk⟩
theorem fd_len {w w' : World} {gf eb base N t : Nat} {l : List UInt8} {v : Value} {Rs : List (List (Nat × Nat))} (h : Fd w gf eb base N l t v Rs) (hb : Below w.heap.size w w') :
    Calls Tryd.prog 56 #[.pointer (some ⟨gf, 0, none⟩)] w' fun e w'' => e = .returned (.int .i64 (N : Nat)) ∧ w' = w'' := len_any (h.below hb)
/-- What rising hands over, at any place of a text that isn't too long. -/
theorem rise_iter (n : Nat) (hd : 1 ≤ n) (A B gf eb base N : Nat) (at' : Int) (l : List UInt8) (v : Value) (Rs : List (List (Nat × Nat))) (U : Nat → Prop)
    (w : World) (hA : Boxed w A 3 (.int .i64 at')) (hB : Boxed w B 55 (.pointer (some ⟨gf, 0, none⟩))) (hfd : Fd w gf eb base N l N v Rs) (hN : N ≤ 1048576)
    (nv : ∀ b, v.ownBlock = some b → ¬ U b) (hU : ∀ k, U k → k < w.heap.size) :
    IterN Fence.wide n Tryd.prog 55 #[.pointer (some ⟨A, 0, none⟩), .pointer (some ⟨B, 0, none⟩)] rEnc (Bk.Kc U) (fun xs => xs = ra Rs at') (fun pre => ∃ s, ra Rs at' = pre ++ s) (fun pre x => ∃ s, ra Rs at' = pre ++ x :: s) w := fun y J Jx V hV hJ hJx h0 hY => by
  have hA' : Boxed V A 3 (.int .i64 at') := (hV.block A hA.lt).trans hA
  have hB' : Boxed V B 55 (.pointer (some ⟨gf, 0, none⟩)) := (hV.block B hB.lt).trans hB
  have hfd' := hfd.below hV
  by_cases hin : 0 ≤ at' ∧ at' < (N : Int)
  · obtain ⟨t, rfl⟩ : ∃ t : Nat, at' = (t : Int) := ⟨at'.toNat, by omega⟩
    rw [ra_in] at hY ⊢
    exact rise_in n hd y A B gf eb base N t l v Rs U J Jx V.heap.size hY V hA' hB' hfd' hN (by omega) (fun w' hb => fd_len hfd' hb) nv h0 (fun k hk => Nat.lt_of_lt_of_le (hU k hk) hV.size)
      (fun xs X Y h1 h2 => hJ xs X Y none h1 h2 (fun r e => by cases e))
  · rw [ra_out hfd.recs (p := at') (by omega)]
    refine (rise_out n hd y A B _ N at' V hA'.cell hB'.cell (fun w' hb => fd_len hfd' hb) (.inr ⟨gf, rfl⟩) (by omega)).mono ?_
    rintro e W' ⟨he, hb⟩
    exact ⟨he, .inl ⟨[], rfl, hJ [] V W' none h0 (grown_of_below hb) (fun r e => by cases e)⟩⟩
/-- A nil finder's. -/
theorem rise_iter_nil (n : Nat) (hd : 1 ≤ n) (A B : Nat) (at' : Int) (Kp : World → World → Prop) (Sp : List (Nat × Nat) → Prop) (Nx : List (Nat × Nat) → Nat × Nat → Prop)
    (w : World) (hA : Boxed w A 3 (.int .i64 at')) (hB : Boxed w B 55 (.pointer none)) :
    IterN Fence.wide n Tryd.prog 55 #[.pointer (some ⟨A, 0, none⟩), .pointer (some ⟨B, 0, none⟩)] rEnc Kp (fun xs => xs = []) Sp Nx w := fun y J Jx V hV hJ hJx h0 _ => by
  have hA' : Boxed V A 3 (.int .i64 at') := (hV.block A hA.lt).trans hA
  have hB' : Boxed V B 55 (.pointer none) := (hV.block B hB.lt).trans hB
  refine (rise_out n hd y A B _ 0 at' V hA'.cell hB'.cell (fun w' _ => len_nil w') (.inl rfl) (by omega)).mono ?_
  rintro e W' ⟨he, hb⟩
  exact ⟨he, .inl ⟨[], rfl, hJ [] V W' none h0 (grown_of_below hb) (fun r e => by cases e)⟩⟩
end Go.Proofs.YtdojhglpiejfjaaDoor
end

section
namespace Go.Proofs.YtdojhglpiejfjaaDoor
open Go.RowKit

def mkD (D : Nat) : Deferred := { target := .collected D, args := #[] }
/-- The marks' blocks. -/
def Marks (B : Nat) (Ds : List Nat) (W : World) : Prop := Ds.Nodup ∧ ∀ D ∈ Ds, B ≤ D ∧ W.heap[D]? = some (.deferred (some []))
theorem Marks.lt {B : Nat} {Ds : List Nat} {W : World} (h : Marks B Ds W) : ∀ D ∈ Ds, D < W.heap.size := fun D hD => (Array.getElem?_eq_some_iff.1 (h.2 D hD).2).1
theorem Marks.cons {B D : Nat} {Ds : List Nat} {W W' : World} (h : Marks B Ds W) (hb : ∀ k ∈ Ds, W'.heap[k]? = W.heap[k]?) (hD : W.heap.size ≤ D) (hB : B ≤ D) (hd : W'.heap[D]? = some (.deferred (some []))) : Marks B (D :: Ds) W' := by
  refine ⟨List.nodup_cons.2 ⟨fun hm => by have := h.lt D hm; omega, h.1⟩, fun k hk => ?_⟩
  rcases List.mem_cons.1 hk with rfl | hk
  · exact ⟨hB, hd⟩
  · exact ⟨(h.2 k hk).1, (hb k hk).trans (h.2 k hk).2⟩
theorem leaves_marks {F : Fence} {n : Nat} {P : Program} {fn : Func} {tmps : Array Value} {R : Ending → World → Prop} {B : Nat} (Q : World → Prop)
    (hQ : ∀ W D, Q W → B ≤ D → W.heap[D]? = some (.deferred (some [])) → Q (W.putObj D (.deferred none)))
    (hR : ∀ W, Q W → ∃ v, (results fn tmps).run P W = .ok v W ∧ R (.returned v) W) :
    ∀ (Ds : List Nat) (W : World), Marks B Ds W → Q W → LeavesInM F n P fn tmps R (Ds.map mkD) .returning W
  | [], W, _, hq => hR W hq
  | D :: Ds, W, hm, hq => by
    have hD := hm.2 D (by simp)
    refine ⟨by simp, .inl ⟨D, _, rfl, run_takeDeferred hD.2, ?_⟩⟩
    refine leaves_marks Q hQ hR Ds _ ⟨(List.nodup_cons.1 hm.1).2, fun k hk => ⟨(hm.2 k (List.mem_cons_of_mem _ hk)).1, ?_⟩⟩ (hQ W D hq hD.1 hD.2)
    rw [World.putObj_heap_other (fun e => (List.nodup_cons.1 hm.1).1 (by rw [← e]; exact hk))]
    exact (hm.2 k (List.mem_cons_of_mem _ hk)).2
end Go.Proofs.YtdojhglpiejfjaaDoor
end
