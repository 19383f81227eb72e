/- Finder.rising: the iterator's contract. -/
import Derived.RangeFuncNested
import Derived.RangeFuncBound
import Derived.RangeFuncCalls
import Derived.RangeFuncLeaves
import Derived.RangeFuncFrom
import Derived.Shelf.Abstract
import Derived.Shelf.RegionOpen
import Derived.OwnWalkIn
import Derived.TacticsInMore
import Derived.LoopNIn
import Derived.LoopIn
import Derived.RegionIn
import Derived.Stop.RegionWithIn
import Derived.Test.YtedncnaeojomcaaDoorFront
import Derived.Test.YtedncnaeojomcaaDoorLzFinder
import Derived.Test.YtedncnaeojomcaaDoorLzWant
import Derived.Test.YtedncnaeojomcaaDoorIterN
namespace Go.Proofs.YtedncnaeojomcaaDoor
open Go.RowKit Go.Shelf
attribute [local go_sem] Oper.semAt_some

/-- A record as it is handed over. -/
def rEnc (q : Nat × Nat) : Array Value := #[.agg #[.int .i64 (q.1 : Nat), .int .i64 (q.2 : Nat)]]
/-- The records of a place, none beyond the text. -/
def ra (Rs : List (List (Nat × Nat))) (p : Int) : List (Nat × Nat) := if p < 0 then [] else Rs.getD p.toNat []
theorem ra_in (Rs : List (List (Nat × Nat))) (t : Nat) : ra Rs (t : Int) = Rs.getD t [] := by unfold ra; rw [if_neg (by omega), Int.toNat_natCast]
theorem ra_out {l : List UInt8} {N : Nat} {Rs : List (List (Nat × Nat))} (h : Recs l N N Rs) {p : Int} (hp : p < 0 ∨ (N : Int) ≤ p) : ra Rs p = [] := by
  unfold ra
  rcases hp with hp | hp
  · rw [if_pos hp]
  · split
    · rfl
    · rw [List.getD, List.getElem?_eq_none (by rw [h.1]; omega)]; rfl
theorem ra_rec {l : List UInt8} {N : Nat} {Rs : List (List (Nat × Nat))} (h : Recs l N N Rs) {t : Nat} (ht : t < N) : Lz.Rec (gb l) N t (ra Rs (t : Int)) := by
  rw [ra_in]; exact h.2 t ht
theorem Fd.kc {w w' : World} {gf eb base N t : Nat} {l : List UInt8} {v : Value} {Rs : List (List (Nat × Nat))} {U : Nat → Prop} (h : Fd w gf eb base N l t v Rs) (c : Bk.Kc U w w') (n1 : ¬ U gf) (n2 : ¬ U eb) (n3 : ∀ b, v.ownBlock = some b → ¬ U b) : Fd w' gf eb base N l t v Rs := by
  obtain ⟨cs, h1, h2⟩ := h.ends
  exact ⟨c gf _ h.row rfl n1, Bk.own_kc h.own c n3, h.recs, ⟨cs, c eb _ h1 rfl n2, h2⟩, h.n1, h.n2⟩
theorem Fd.below {w w' : World} {gf eb base N t : Nat} {l : List UInt8} {v : Value} {Rs : List (List (Nat × Nat))} (h : Fd w gf eb base N l t v Rs) (c : Below w.heap.size w w') : Fd w' gf eb base N l t v Rs := by
  obtain ⟨cs, h1, h2⟩ := h.ends
  exact ⟨(c.block gf (Array.getElem?_eq_some_iff.1 h.row).1).trans h.row, own_below h.own c, h.recs, ⟨cs, (c.block eb (Array.getElem?_eq_some_iff.1 h1).1).trans h1, h2⟩, h.n1, h.n2⟩
theorem rising_in (F : Fence) (n : Nat) (h5 : F.fn 36) (hro : F.round = none) (p : Value) (at' : Int) (w : World) (hp : p = .pointer none ∨ ∃ g, p = .pointer (some ⟨g, 0, none⟩)) :
    CallsIn F n Tryd.prog 36 #[p, .int .i64 at'] w fun e w' => e = .returned (.func (.func 57) #[] #[.pointer (some ⟨w.heap.size + 1, 0, none⟩), .pointer (some ⟨w.heap.size, 0, none⟩)]) ∧ w' = (w.alloc (.cells #[p] 25)).alloc (.cells #[.int .i64 at'] 3) := by
  refine callsIn_of_wp Tryd.func36 rfl h5 ?_ hro
  simp only [Tryd.ntmps36, List.size_toArray, List.length_cons, List.length_nil, Nat.reduceAdd, Nat.reduceSub, Array.replicate_succ, Array.replicate_zero, List.push_toArray, List.append_toArray, List.nil_append, List.cons_append]
  rcases hp with rfl | ⟨g, rfl⟩
  · gi_wp2
    go_ret
    exact ⟨rfl, rfl⟩
  · gi_wp2
    go_ret
    exact ⟨rfl, rfl⟩
set_option maxRecDepth 100000 in
set_option maxHeartbeats 4000000 in
theorem rise_out (n : Nat) (hd : 1 ≤ n) (y A B : Nat) (p : Value) (N : Nat) (at' : Int) (W : World) (ha : W.cell? ⟨A, 0, none⟩ = some (.int .i64 at')) (hb : W.cell? ⟨B, 0, none⟩ = some p)
    (hp : ∀ w', Below W.heap.size W w' → Calls Tryd.prog 17 #[p] w' fun e w'' => e = .returned (.int .i64 (N : Nat)) ∧ w' = w'') (hpp : p = .pointer none ∨ ∃ g, p = .pointer (some ⟨g, 0, none⟩)) (hout : at' < 0 ∨ (N : Int) ≤ at') :
    CallsIn Fence.wide n Tryd.prog 57 #[.func (.yield y) #[] #[], .pointer (some ⟨A, 0, none⟩), .pointer (some ⟨B, 0, none⟩)] W fun e W' => (∃ v, e = .returned v) ∧ Below W.heap.size W W' := by
  have hro : (Fence.wide).round = none := rfl
  have h8 : (Fence.wide).fn 17 := trivial
  have hbd := Below.drew (Below.refl W.heap.size W)
  have HP := Lib.hid (hp _ hbd)
  have ha1 : W.drew.cell? ⟨A, 0, none⟩ = some (.int .i64 at') := ha
  have hb1 : W.drew.cell? ⟨B, 0, none⟩ = some p := hb
  clear hp
  refine callsIn_of_wp Tryd.func57 rfl trivial ?_ hro
  simp only [Tryd.ntmps57, List.size_toArray, List.length_cons, List.length_nil, Nat.reduceAdd, Nat.reduceSub, Array.replicate_succ, Array.replicate_zero, List.push_toArray, List.append_toArray, List.nil_append, List.cons_append]
  by_cases h0 : at' < 0
  · have d0 : decide (at' < 0) = true := by simp; omega
    clear hout HP
    rcases hpp with rfl | ⟨g, rfl⟩
    all_goals gi_wp2
    all_goals gi_region
    all_goals gi_wp2
    all_goals refine bodyPost_ret (results_none rfl _ _ _) rfl ?_
    all_goals exact ⟨⟨_, rfl⟩, hbd⟩
  have d0 : decide (at' < 0) = false := by simp; omega
  have d1 : decide ((N : Int) ≤ at') = true := by simp; omega
  clear hout
  rcases hpp with rfl | ⟨g, rfl⟩
  all_goals gi_wp2
  all_goals gi_region_with (refine (callsIn_wide.2 HP.out).mono ?_; rintro e w' ⟨rfl, rfl⟩)
  all_goals gi_wp2
  all_goals refine bodyPost_ret (results_none rfl _ _ _) rfl ?_
  all_goals exact ⟨⟨_, rfl⟩, hbd⟩
/-- Where the records of a place begin, and what stands there. -/
theorem flat_at (Rs : List (List (Nat × Nat))) (t : Nat) (h : t < Rs.length) : ends Rs t = (Rs.take t).flatten.length + (Rs.getD t []).length ∧ ends Rs t ≤ Rs.flatten.length ∧
    ∀ i, i < (Rs.getD t []).length → Rs.flatten.getD ((Rs.take t).flatten.length + i) (0, 0) = (Rs.getD t []).getD i (0, 0) := by
  have e0 : Rs.getD t [] = Rs[t] := by simp [List.getD, List.getElem?_eq_getElem h]
  have e1 : Rs.take (t + 1) = Rs.take t ++ [Rs[t]] := by rw [List.take_succ_eq_append_getElem h]
  have e3 : (Rs.take (t + 1)).flatten = (Rs.take t).flatten ++ Rs[t] := by rw [e1, List.flatten_append]; simp only [List.flatten_cons, List.flatten_nil, List.append_nil]
  have e2 : Rs.flatten = (Rs.take t).flatten ++ (Rs[t] ++ (Rs.drop (t + 1)).flatten) := by
    have h1 : Rs.flatten = (Rs.take (t + 1) ++ Rs.drop (t + 1)).flatten := by rw [List.take_append_drop]
    rw [h1, List.flatten_append, e3, List.append_assoc]
  refine ⟨?_, ?_, fun i hi => ?_⟩
  · unfold ends; rw [e3, e0, List.length_append]
  · unfold ends; rw [e3, e2, List.length_append, List.length_append, List.length_append]; omega
  · rw [e0] at hi ⊢
    rw [e2, List.getD, List.getElem?_append_right (by omega), Nat.add_sub_cancel_left, List.getElem?_append_left hi]; rfl
theorem own_drews {W : World} {B : Nat} {e : TypeId} {size : Nat} {v : Value} {n : Nat} {xs : List Value} (h : W.ownsRow B e size v n xs) : W.drew.drew.ownsRow B e size v n xs ∧ W.drew.drew.drew.ownsRow B e size v n xs := ⟨h, h⟩
theorem grown_drew (W : World) : W.grownBy W.drew none := ⟨rfl, rfl, rfl, Nat.le_refl _, fun _ _ _ => rfl⟩
set_option maxRecDepth 100000 in
set_option maxHeartbeats 4000000 in
theorem rise_in (n : Nat) (hd : 1 ≤ n) (y A B gf eb base N t : Nat) (l : List UInt8) (v : Value) (Rs : List (List (Nat × Nat))) (U : Nat → Prop) (J Jx : List (Nat × Nat) → World → Prop) (B0 : Nat)
    (hY : ∀ pre x W, J pre W → (∃ s, Rs.getD t [] = pre ++ x :: s) → YieldAt Fence.wide (n - 1) Tryd.prog y (rEnc x) W fun e W' => KeepsFrom B0 W W' ∧
      ((e = .returned (.bool true) ∧ J (pre ++ [x]) W' ∧ Bk.Kc U W W') ∨ (e = .returned (.bool false) ∧ Jx (pre ++ [x]) W')))
    (W : World) (hA : Boxed W A 3 (.int .i64 t)) (hB : Boxed W B 25 (.pointer (some ⟨gf, 0, none⟩))) (hfd : Fd W gf eb base N l N v Rs) (hN : N ≤ 1048576) (ht : t < N)
    (hlen : ∀ w', Below W.heap.size W w' → Calls Tryd.prog 17 #[.pointer (some ⟨gf, 0, none⟩)] w' fun e w'' => e = .returned (.int .i64 (N : Nat)) ∧ w' = w'')
    (nv : ∀ b, v.ownBlock = some b → ¬ U b) (h0 : J [] W) (hU : ∀ k, U k → k < W.heap.size) (hJn : ∀ xs A B, J xs A → A.grownBy B none → J xs B) :
    CallsIn Fence.wide n Tryd.prog 57 #[.func (.yield y) #[] #[], .pointer (some ⟨A, 0, none⟩), .pointer (some ⟨B, 0, none⟩)] W fun e W' => (∃ v, e = .returned v) ∧
      ((∃ ys, ys = Rs.getD t [] ∧ J ys W') ∨ (∃ pre, (∃ s, Rs.getD t [] = pre ++ s) ∧ Jx pre W')) := by
  have hro : (Fence.wide).round = none := rfl
  have h8 : (Fence.wide).fn 17 := trivial
  have HL := Lib.hid (hlen _ (Below.drew (Below.refl W.heap.size W)))
  obtain ⟨f1, f2, f3⟩ := flat_at Rs t (by rw [hfd.recs.1]; exact ht)
  have hrl := recs_len hfd.recs
  have hq : ∀ i, i < (Rs.getD t []).length → ((Rs.getD t []).getD i (0, 0)).1 < 65536 ∧ ((Rs.getD t []).getD i (0, 0)).2 < 65536 := fun i hi => by
    have hm : (Rs.getD t []).getD i (0, 0) ∈ Rs.getD t [] := by
      have e : (Rs.getD t []).getD i (0, 0) = (Rs.getD t [])[i] := by rw [List.getD, List.getElem?_eq_getElem hi]; rfl
      rw [e]; exact List.getElem_mem hi
    obtain ⟨_, _, q3, _, q5⟩ := (hfd.recs.2 t ht).2.1 _ hm
    have q6 := Lz.cp_le (gb l) (Lz.L N t) (t - ((Rs.getD t []).getD i (0, 0)).2) t
    have q7 : Lz.L N t ≤ 258 := by unfold Lz.L; omega
    omega
  have HQ := Lib.hid hq
  obtain ⟨cs, hcs, hcz, hce⟩ := hfd.ends
  have c0 : W.cell? ⟨gf, 0, none⟩ = some v := by rw [cell_of_row _ _ _ _ _ (0, 0) hfd.row]; rfl
  have c1 : W.cell? ⟨gf, 1, none⟩ = some (.slice (some ⟨eb, 0, none⟩) N N) := by rw [cell_of_row _ _ _ _ _ (0, 0) hfd.row]; rfl
  have ce : W.cell? ⟨eb, t, none⟩ = some (.int .i32 ((ends Rs t : Nat) : Int)) := by rw [cell_of_row _ _ _ _ _ (0, 0) hcs]; exact hce t ht
  have cp : 0 < t → W.cell? ⟨eb, t - 1, none⟩ = some (.int .i32 (((Rs.take t).flatten.length : Nat) : Int)) := fun h => by
    rw [cell_of_row _ _ _ _ _ (0, 0) hcs, hce (t - 1) (by omega)]
    unfold ends
    rw [Nat.sub_add_cancel h]
  have ca := hA.cell
  have cb := hB.cell
  have HO := Lib.hid hfd.own
  have hgr := grown_drew
  have HJD : Hid (J [] W.drew.drew ∧ J [] W.drew.drew.drew) := Lib.hid ⟨hJn _ _ _ (hJn _ _ _ h0 (hgr _)) (hgr _), hJn _ _ _ (hJn _ _ _ (hJn _ _ _ h0 (hgr _)) (hgr _)) (hgr _)⟩
  have HJN := Lib.hid hJn
  have HY := Lib.hid hY
  have HF3 := Lib.hid f3
  have HUU := Lib.hid hU
  have HNV := Lib.hid nv
  have HB := Lib.hid hB
  have d0 : decide ((t : Int) < 0) = false := by simp
  have d1 : decide ((N : Int) ≤ (t : Int)) = false := by simp; omega
  have dn : decide (t < N) = true := by simp; omega
  clear hY hlen hJn hfd hA hq hcs hcz hce hU nv h0 hgr hB
  generalize hR : Rs.getD t [] = R at *
  generalize hfl : Rs.flatten = fl at *
  generalize hbg : (Rs.take t).flatten.length = bg at *
  generalize hen : ends Rs t = en at *
  obtain ⟨ra, rc, rfl, hat, hcap⟩ : ∃ ra rc, v = .slice ra fl.length rc ∧ (∀ i, i < fl.length → ∃ rb, ra = some ⟨rb, 0, none⟩) ∧ fl.length ≤ rc := by
    rcases own_nil_or HO.out with ⟨h1, h2⟩ | ⟨rb, rc, h1, h2, _⟩
    · exact ⟨none, 0, by rw [h1, h2], fun i hi => by omega, by omega⟩
    · exact ⟨_, rc, h1, fun i _ => ⟨rb, rfl⟩, h2⟩
  have HAT := Lib.hid hat
  have HB0 : Hid (t = 0 → bg = 0) := Lib.hid (fun h => by subst h; rw [← hbg]; rfl)
  clear hat hR hfl hbg hen f3
  have w1 : W.drew.cell? ⟨A, 0, none⟩ = some (.int .i64 t) := ca
  have w2 : W.drew.cell? ⟨B, 0, none⟩ = some (.pointer (some ⟨gf, 0, none⟩)) := cb
  have dsl : decide (bg ≤ en) = true := by simp; omega
  have dsc : decide (en ≤ rc) = true := by simp; omega
  refine callsIn_of_wp Tryd.func57 rfl trivial ?_ hro
  simp only [Tryd.ntmps57, List.size_toArray, List.length_cons, List.length_nil, Nat.reduceAdd, Nat.reduceSub, Array.replicate_succ, Array.replicate_zero, List.push_toArray, List.append_toArray, List.nil_append, List.cons_append]
  -- WAYS
  by_cases hR0 : R.length = 0
  · obtain rfl := List.eq_nil_of_length_eq_zero hR0
    by_cases hp : 0 < t
    · have d2 : decide (0 < t) = true := by simp; omega
      have x1 : W.drew.drew.cell? ⟨A, 0, none⟩ = some (.int .i64 t) := ca
      have x2 : W.drew.drew.cell? ⟨B, 0, none⟩ = some (.pointer (some ⟨gf, 0, none⟩)) := cb
      have x3 : W.drew.drew.cell? ⟨gf, 1, none⟩ = some (.slice (some ⟨eb, 0, none⟩) N N) := c1
      have x4 : W.drew.drew.cell? ⟨eb, t - 1, none⟩ = some (.int .i32 (bg : Int)) := cp hp
      have hwr : (t : Int) - 1 = ((t - 1 : Nat) : Int) := by omega
      have dn1 : decide (t - 1 < N) = true := by simp; omega
      clear cp
      gi_wp2
      gi_region_with (refine (callsIn_wide.2 HL.out).mono ?_; rintro e w' ⟨rfl, rfl⟩)
      all_goals gi_wp2
      all_goals gi_region
      all_goals gi_wp2
      all_goals clear x1 x2 x3 x4
      all_goals have z1 : W.drew.drew.drew.cell? ⟨A, 0, none⟩ = some (.int .i64 t) := ca
      all_goals have z2 : W.drew.drew.drew.cell? ⟨B, 0, none⟩ = some (.pointer (some ⟨gf, 0, none⟩)) := cb
      all_goals have z3 : W.drew.drew.drew.cell? ⟨gf, 0, none⟩ = some (.slice ra fl.length rc) := c0
      all_goals have z4 : W.drew.drew.drew.cell? ⟨gf, 1, none⟩ = some (.slice (some ⟨eb, 0, none⟩) N N) := c1
      all_goals have z5 : W.drew.drew.drew.cell? ⟨eb, t, none⟩ = some (.int .i32 (en : Int)) := ce
      all_goals have HO2 : Hid (W.drew.drew.drew.ownsRow base 106 2 (.slice ra fl.length rc) fl.length (rvs fl)) := Lib.hid (own_drews HO.out).2
      all_goals have HJ0 := Lib.hid HJD.out.2
      all_goals gi_region
      all_goals gi_wp2
      all_goals clear z1 z2 z3 z4 z5
      all_goals revert HO2 HJ0
      all_goals generalize W.drew.drew.drew = V
      all_goals intro HO2 HJ0
      all_goals clear ca cb c0 c1 ce HO w1 w2
      all_goals try simp only [Nat.add_sub_cancel_left]
      all_goals
        gi_loopw [39] (fun i wr => i = .int .i64 0 ∧ Hid (J [] wr)) (fun i _ => 0)
        case atStart => exact ⟨rfl, HJ0⟩
        case round =>
          obtain ⟨rfl, HJ⟩ := hrel
          gi_wp2
          go_end0
          exact ⟨⟨_, rfl⟩, .inl ⟨_, rfl, HJ.out⟩⟩
    · have d2 : decide (0 < t) = false := by simp; omega
      obtain rfl : t = 0 := by omega
      obtain rfl : bg = 0 := HB0.out rfl
      clear cp
      gi_wp2
      gi_region_with (refine (callsIn_wide.2 HL.out).mono ?_; rintro e w' ⟨rfl, rfl⟩)
      all_goals gi_wp2
      all_goals have z1 : W.drew.drew.cell? ⟨A, 0, none⟩ = some (.int .i64 (0 : Nat)) := ca
      all_goals have z2 : W.drew.drew.cell? ⟨B, 0, none⟩ = some (.pointer (some ⟨gf, 0, none⟩)) := cb
      all_goals have z3 : W.drew.drew.cell? ⟨gf, 0, none⟩ = some (.slice ra fl.length rc) := c0
      all_goals have z4 : W.drew.drew.cell? ⟨gf, 1, none⟩ = some (.slice (some ⟨eb, 0, none⟩) N N) := c1
      all_goals have z5 : W.drew.drew.cell? ⟨eb, 0, none⟩ = some (.int .i32 (en : Int)) := ce
      all_goals have HO2 : Hid (W.drew.drew.ownsRow base 106 2 (.slice ra fl.length rc) fl.length (rvs fl)) := Lib.hid (own_drews HO.out).1
      all_goals have HJ0 := Lib.hid HJD.out.1
      all_goals gi_region
      all_goals gi_wp2
      all_goals clear z1 z2 z3 z4 z5
      all_goals revert HO2 HJ0
      all_goals generalize W.drew.drew = V
      all_goals intro HO2 HJ0
      all_goals clear ca cb c0 c1 ce HO w1 w2
      all_goals try simp only [Nat.add_sub_cancel_left]
      all_goals
        gi_loopw [39] (fun i wr => i = .int .i64 0 ∧ Hid (J [] wr)) (fun i _ => 0)
        case atStart => exact ⟨rfl, HJ0⟩
        case round =>
          obtain ⟨rfl, HJ⟩ := hrel
          gi_wp2
          go_end0
          exact ⟨⟨_, rfl⟩, .inl ⟨_, rfl, HJ.out⟩⟩
  · obtain ⟨rb, rfl⟩ := HAT.out 0 (by omega)
    by_cases hp : 0 < t
    · have d2 : decide (0 < t) = true := by simp; omega
      have x1 : W.drew.drew.cell? ⟨A, 0, none⟩ = some (.int .i64 t) := ca
      have x2 : W.drew.drew.cell? ⟨B, 0, none⟩ = some (.pointer (some ⟨gf, 0, none⟩)) := cb
      have x3 : W.drew.drew.cell? ⟨gf, 1, none⟩ = some (.slice (some ⟨eb, 0, none⟩) N N) := c1
      have x4 : W.drew.drew.cell? ⟨eb, t - 1, none⟩ = some (.int .i32 (bg : Int)) := cp hp
      have hwr : (t : Int) - 1 = ((t - 1 : Nat) : Int) := by omega
      have dn1 : decide (t - 1 < N) = true := by simp; omega
      clear cp
      gi_wp2
      gi_region_with (refine (callsIn_wide.2 HL.out).mono ?_; rintro e w' ⟨rfl, rfl⟩)
      all_goals gi_wp2
      all_goals gi_region
      all_goals gi_wp2
      all_goals clear x1 x2 x3 x4
      all_goals have z1 : W.drew.drew.drew.cell? ⟨A, 0, none⟩ = some (.int .i64 t) := ca
      all_goals have z2 : W.drew.drew.drew.cell? ⟨B, 0, none⟩ = some (.pointer (some ⟨gf, 0, none⟩)) := cb
      all_goals have z3 : W.drew.drew.drew.cell? ⟨gf, 0, none⟩ = some (.slice (some ⟨rb, 0, none⟩) fl.length rc) := c0
      all_goals have z4 : W.drew.drew.drew.cell? ⟨gf, 1, none⟩ = some (.slice (some ⟨eb, 0, none⟩) N N) := c1
      all_goals have z5 : W.drew.drew.drew.cell? ⟨eb, t, none⟩ = some (.int .i32 (en : Int)) := ce
      all_goals have HO2 : Hid (W.drew.drew.drew.ownsRow base 106 2 (.slice (some ⟨rb, 0, none⟩) fl.length rc) fl.length (rvs fl)) := Lib.hid (own_drews HO.out).2
      all_goals have HJ0 := Lib.hid HJD.out.2
      all_goals gi_region
      all_goals gi_wp2
      all_goals clear z1 z2 z3 z4 z5
      all_goals revert HO2 HJ0
      all_goals generalize W.drew.drew.drew = V
      all_goals intro HO2 HJ0
      all_goals clear ca cb c0 c1 ce HO w1 w2
      all_goals try simp only [Nat.add_sub_cancel_left]
      all_goals
        gi_loopw [39] (fun i wr => ∃ m : Nat, m ≤ R.length ∧ i = .int .i64 m ∧ Hid (J (R.take m) wr) ∧ Hid (wr.ownsRow base 106 2 (.slice (some ⟨rb, 0, none⟩) fl.length rc) fl.length (rvs fl))) (fun i _ => R.length - (intOf i).toNat)
        case atStart => exact ⟨0, by omega, rfl, HJ0, HO2⟩
        case round =>
          obtain ⟨m, hm, rfl, HJ, HOr⟩ := hrel
          by_cases hlt : m < R.length
          · first
            | (exfalso; omega)
            | (have hc3 := HF3.out m hlt
               have hq := HQ.out m hlt
               have hg := rvs_get fl (bg + m) (by omega)
               rw [hc3] at hg
               obtain ⟨s, hs⟩ : ∃ s, R = R.take m ++ R.getD m (0, 0) :: s := ⟨R.drop (m + 1), by
                 have e : R.getD m (0, 0) = R[m] := by rw [List.getD, List.getElem?_eq_getElem hlt]; rfl
                 rw [e, ← List.drop_eq_getElem_cons hlt, List.take_append_drop]⟩
               have ea : (bg + m) * 2 = bg * 2 + m * 2 := by omega
               have hk0 : wr.cell? ⟨rb, bg * 2 + m * 2, none⟩ = some (.int .u16 ((R.getD m (0, 0)).1 : Int)) := by rw [← ea, HOr.out.cellAt _ (by omega), hg.1]
               have hk1 : wr.cell? ⟨rb, bg * 2 + m * 2 + 1, none⟩ = some (.int .u16 ((R.getD m (0, 0)).2 : Int)) := by rw [← ea, HOr.out.cellAt _ (by omega), hg.2]
               have HRn : Hid (R.take m ++ [R.getD m (0, 0)] = R.take (m + 1)) := Lib.hid (by rw [List.take_add_one, List.getElem?_eq_getElem hlt]; congr 1; rw [List.getD, List.getElem?_eq_getElem hlt]; rfl)
               have HPX : Hid (∃ s', R = R.take (m + 1) ++ s') := Lib.hid ⟨R.drop (m + 1), by rw [List.take_append_drop]⟩
               clear hg ea hc3
               generalize R.getD m (0, 0) = q at *
               obtain ⟨q1, q2⟩ := q
               simp only at hk0 hk1 hq
               obtain ⟨fn, tmps, assign, body, hy, hRd⟩ := HY.out (R.take m) (q1, q2) (wr.alloc (.cells #[.int .u16 (q1 : Int), .int .u16 (q2 : Int)] 106)) (HJN.out _ _ _ HJ.out (World.grownBy_alloc wr _ none)) ⟨s, hs⟩
               have HO3 := Lib.hid (HOr.out.alloc (.cells #[.int .u16 (q1 : Int), .int .u16 (q2 : Int)] 106))
               unfold rEnc at hy
               simp only at hy
               clear hs
               gi_wp2
               refine hRd.mono ?_
               rintro e W3 ⟨_, (⟨rfl, hJ3, hk3⟩ | ⟨rfl, hJx3⟩)⟩
               · have HJ3 := Lib.hid (show J (R.take (m + 1)) W3 by rw [← HRn.out]; exact hJ3)
                 have HO4 := Lib.hid (Bk.own_kc HO3.out hk3 HNV.out)
                 clear hJ3 hk3 hRd hy hk0 hk1 hq
                 gi_wp2
                 go_roundw
                 case rel => exact ⟨m + 1, by omega, by go_num, HJ3, HO4⟩
                 case measure => simp [intOf]; omega
               · have HX3 := Lib.hid (show Jx (R.take (m + 1)) W3 by rw [← HRn.out]; exact hJx3)
                 clear hJx3 hRd hy hk0 hk1 hq
                 gi_wp2
                 refine bodyPost_ret (results_none rfl _ _ _) rfl ?_
                 exact ⟨⟨_, rfl⟩, .inr ⟨_, HPX.out, HX3.out⟩⟩)
          · obtain rfl : R.length = m := by omega
            gi_wp2
            go_end0
            exact ⟨⟨_, rfl⟩, .inl ⟨_, rfl, by have := HJ.out; rwa [List.take_length] at this⟩⟩
    · have d2 : decide (0 < t) = false := by simp; omega
      obtain rfl : t = 0 := by omega
      obtain rfl : bg = 0 := HB0.out rfl
      clear cp
      gi_wp2
      gi_region_with (refine (callsIn_wide.2 HL.out).mono ?_; rintro e w' ⟨rfl, rfl⟩)
      all_goals gi_wp2
      all_goals have z1 : W.drew.drew.cell? ⟨A, 0, none⟩ = some (.int .i64 (0 : Nat)) := ca
      all_goals have z2 : W.drew.drew.cell? ⟨B, 0, none⟩ = some (.pointer (some ⟨gf, 0, none⟩)) := cb
      all_goals have z3 : W.drew.drew.cell? ⟨gf, 0, none⟩ = some (.slice (some ⟨rb, 0, none⟩) fl.length rc) := c0
      all_goals have z4 : W.drew.drew.cell? ⟨gf, 1, none⟩ = some (.slice (some ⟨eb, 0, none⟩) N N) := c1
      all_goals have z5 : W.drew.drew.cell? ⟨eb, 0, none⟩ = some (.int .i32 (en : Int)) := ce
      all_goals have HO2 : Hid (W.drew.drew.ownsRow base 106 2 (.slice (some ⟨rb, 0, none⟩) fl.length rc) fl.length (rvs fl)) := Lib.hid (own_drews HO.out).1
      all_goals have HJ0 := Lib.hid HJD.out.1
      all_goals gi_region
      all_goals gi_wp2
      all_goals clear z1 z2 z3 z4 z5
      all_goals revert HO2 HJ0
      all_goals generalize W.drew.drew = V
      all_goals intro HO2 HJ0
      all_goals clear ca cb c0 c1 ce HO w1 w2
      all_goals try simp only [Nat.add_sub_cancel_left]
      all_goals
        gi_loopw [39] (fun i wr => ∃ m : Nat, m ≤ R.length ∧ i = .int .i64 m ∧ Hid (J (R.take m) wr) ∧ Hid (wr.ownsRow base 106 2 (.slice (some ⟨rb, 0, none⟩) fl.length rc) fl.length (rvs fl))) (fun i _ => R.length - (intOf i).toNat)
        case atStart => exact ⟨0, by omega, rfl, HJ0, HO2⟩
        case round =>
          obtain ⟨m, hm, rfl, HJ, HOr⟩ := hrel
          by_cases hlt : m < R.length
          · first
            | (exfalso; omega)
            | (have hc3 := HF3.out m hlt
               have hq := HQ.out m hlt
               have hg := rvs_get fl (0 + m) (by omega)
               rw [hc3] at hg
               obtain ⟨s, hs⟩ : ∃ s, R = R.take m ++ R.getD m (0, 0) :: s := ⟨R.drop (m + 1), by
                 have e : R.getD m (0, 0) = R[m] := by rw [List.getD, List.getElem?_eq_getElem hlt]; rfl
                 rw [e, ← List.drop_eq_getElem_cons hlt, List.take_append_drop]⟩
               have ea : (0 + m) * 2 = m * 2 := by omega
               have hk0 : wr.cell? ⟨rb, m * 2, none⟩ = some (.int .u16 ((R.getD m (0, 0)).1 : Int)) := by rw [← ea, HOr.out.cellAt _ (by omega), hg.1]
               have hk1 : wr.cell? ⟨rb, m * 2 + 1, none⟩ = some (.int .u16 ((R.getD m (0, 0)).2 : Int)) := by rw [← ea, HOr.out.cellAt _ (by omega), hg.2]
               have HRn : Hid (R.take m ++ [R.getD m (0, 0)] = R.take (m + 1)) := Lib.hid (by rw [List.take_add_one, List.getElem?_eq_getElem hlt]; congr 1; rw [List.getD, List.getElem?_eq_getElem hlt]; rfl)
               have HPX : Hid (∃ s', R = R.take (m + 1) ++ s') := Lib.hid ⟨R.drop (m + 1), by rw [List.take_append_drop]⟩
               clear hg ea hc3
               generalize R.getD m (0, 0) = q at *
               obtain ⟨q1, q2⟩ := q
               simp only at hk0 hk1 hq
               obtain ⟨fn, tmps, assign, body, hy, hRd⟩ := HY.out (R.take m) (q1, q2) (wr.alloc (.cells #[.int .u16 (q1 : Int), .int .u16 (q2 : Int)] 106)) (HJN.out _ _ _ HJ.out (World.grownBy_alloc wr _ none)) ⟨s, hs⟩
               have HO3 := Lib.hid (HOr.out.alloc (.cells #[.int .u16 (q1 : Int), .int .u16 (q2 : Int)] 106))
               unfold rEnc at hy
               simp only at hy
               clear hs
               gi_wp2
               refine hRd.mono ?_
               rintro e W3 ⟨_, (⟨rfl, hJ3, hk3⟩ | ⟨rfl, hJx3⟩)⟩
               · have HJ3 := Lib.hid (show J (R.take (m + 1)) W3 by rw [← HRn.out]; exact hJ3)
                 have HO4 := Lib.hid (Bk.own_kc HO3.out hk3 HNV.out)
                 clear hJ3 hk3 hRd hy hk0 hk1 hq
                 gi_wp2
                 go_roundw
                 case rel => exact ⟨m + 1, by omega, by go_num, HJ3, HO4⟩
                 case measure => simp [intOf]; omega
               · have HX3 := Lib.hid (show Jx (R.take (m + 1)) W3 by rw [← HRn.out]; exact hJx3)
                 clear hJx3 hRd hy hk0 hk1 hq
                 gi_wp2
                 refine bodyPost_ret (results_none rfl _ _ _) rfl ?_
                 exact ⟨⟨_, rfl⟩, .inr ⟨_, HPX.out, HX3.out⟩⟩)
          · obtain rfl : R.length = m := by omega
            gi_wp2
            go_end0
            exact ⟨⟨_, rfl⟩, .inl ⟨_, rfl, by have := HJ.out; rwa [List.take_length] at this⟩⟩
end Go.Proofs.YtedncnaeojomcaaDoor
