/- burnishref05.Used: its contract. -/
import Derived.Test.YtjjbgdmalefdlaaGreatDoorZ3
import Derived.Test.YtjjbgdmalefdlaaGreatDoorZ8
import Derived.Test.YtjjbgdmalefdlaaGreatDoorZ9
import Derived.Test.YtjjbgdmalefdlaaGreatDoorZ16
import Derived.Test.YtjjbgdmalefdlaaGreatDoorZ19
import Derived.Test.YtjjbgdmalefdlaaGreatDoorZ22
import Derived.Test.YtjjbgdmalefdlaaGreatDoorZ42
import Derived.Deep.QuietTactic
import Derived.BigQuiet
import Derived.BigRegion
import Derived.Deep.LoopGhost
import Derived.Deep.DeepCutAuto
set_option linter.unusedSimpArgs false
set_option linter.unusedVariables false
section
namespace Go.Proofs.YtjjbgdmalefdlaaGreatDoor
open Go.RowKit
set_option linter.unusedSimpArgs false

namespace Mg
def Dn1 (l : List Int) : Prop := l.Pairwise fun x y => y ≤ x
/-- A number goes in behind those that aren't less. -/
theorem ins_down (o : List Int) (c : Int) (k : Nat) (h : Dn1 o) (hk : k ≤ o.length) (h1 : k = 0 ∨ c ≤ o.getD (k - 1) 0) (h2 : ∀ j, k ≤ j → j < o.length → o.getD j 0 < c) : Dn1 (o.take k ++ (c :: o.drop k)) ∧ (o.take k ++ (c :: o.drop k)).Perm (c :: o) := by
  have hp : (o.take k ++ (c :: o.drop k)).Perm (c :: o) := by
    have := List.perm_middle (a := c) (l₁ := o.take k) (l₂ := o.drop k)
    rwa [List.take_append_drop] at this
  refine ⟨?_, hp⟩
  have e : ∀ j (hj : j < o.length), o.getD j 0 = o[j] := fun j hj => by simp [List.getD, List.getElem?_eq_getElem hj]
  have hT : ∀ x ∈ o.take k, c ≤ x := fun x hx => by
    obtain ⟨j, hj, rfl⟩ := List.mem_iff_getElem.1 hx
    rw [List.length_take] at hj
    rw [List.getElem_take]
    rcases h1 with rfl | h1
    · omega
    · rw [e _ (by omega)] at h1
      by_cases hjk : j = k - 1
      · subst hjk; exact h1
      · have := (List.pairwise_iff_getElem.1 h) j (k - 1) (by omega) (by omega) (by omega); omega
  have hD : ∀ x ∈ o.drop k, x ≤ c := fun x hx => by
    obtain ⟨j, hj, rfl⟩ := List.mem_iff_getElem.1 hx
    rw [List.length_drop] at hj
    rw [List.getElem_drop]
    have := h2 (k + j) (by omega) (by omega)
    rw [e _ (by omega)] at this; omega
  have hsplit : Dn1 (o.take k ++ o.drop k) := by rw [List.take_append_drop]; exact h
  have hs := List.pairwise_append.1 hsplit
  refine List.pairwise_append.2 ⟨hs.1, List.pairwise_cons.2 ⟨hD, hs.2.1⟩, fun x hx y hy => ?_⟩
  rcases List.mem_cons.1 hy with rfl | hy
  · exact hT x hx
  · have := hT x hx; have := hD y hy; omega
theorem down_unique : ∀ (r s : List Int), r.Perm s → Dn1 r → Dn1 s → r = s
  | [], s, h, _, _ => by rw [List.nil_perm] at h; exact h.symm
  | x :: r, [], h, _, _ => by have := h.length_eq; simp at this
  | x :: r, y :: s, h, hr, hs => by
    have h1 := List.pairwise_cons.1 hr
    have h2 := List.pairwise_cons.1 hs
    have hxy : x = y := by
      have hx : x ∈ y :: s := h.mem_iff.1 (by simp)
      have hy : y ∈ x :: r := h.mem_iff.2 (by simp)
      rcases List.mem_cons.1 hx with e | hx
      · exact e
      · rcases List.mem_cons.1 hy with e | hy
        · exact e.symm
        · have := h1.1 y hy; have := h2.1 x hx; omega
    subst hxy
    rw [down_unique r s (List.Perm.cons_inv h) h1.2 h2.2]
/-- The counts that stand, as they come. -/
def posL (l : List Int) : List Int := l.filter fun x => decide (0 < x)
theorem posL_snoc (l : List Int) (k : Nat) (h : k < l.length) : posL (l.take (k + 1)) = posL (l.take k) ++ (if 0 < l.getD k 0 then [l.getD k 0] else []) := by
  have e : l.take (k + 1) = l.take k ++ [l.getD k 0] := by rw [List.take_succ_eq_append_getElem h]; simp [List.getD, List.getElem?_eq_getElem h]
  rw [e]
  unfold posL
  rw [List.filter_append]
  by_cases hp : 0 < l.getD k 0
  · rw [if_pos hp, List.filter_cons, if_pos (decide_eq_true hp)]; rfl
  · rw [if_neg hp, List.filter_cons, if_neg (by rw [decide_eq_false hp]; simp)]; rfl
theorem posL_stand (l : List Int) : ∀ k, k ≤ l.length → posL (l.take k) = (stand l k).map fun i => l.getD i 0
  | 0, _ => rfl
  | k + 1, h => by
    rw [posL_snoc l k (by omega), posL_stand l k (by omega), stand_succ, List.map_append]
    by_cases hp : 0 < l.getD k 0
    · rw [if_pos hp, if_pos hp]; rfl
    · rw [if_neg hp, if_neg hp]; rfl
/-- The greatest first: the other way round. -/
theorem down_rise (l : List Int) (o : List Int) (hd : Dn1 o) (hp : o.Perm (posL l)) : o.reverse = rise l := by
  have h1 : o = (rise l).reverse := by
    refine down_unique _ _ (hp.trans ?_) hd ?_
    · have e := posL_stand l l.length (Nat.le_refl _)
      rw [List.take_length] at e
      rw [e]
      exact ((order_perm l).symm.map _).trans (List.reverse_perm _).symm
    · unfold Dn1
      rw [List.pairwise_reverse]
      exact rise_up l
  rw [h1, List.reverse_reverse]
end Mg
section
variable {P : Program} {w : World} {ops : Array Oper} {o : Oper} {a : Act} {Q : Exit → Act → World → Prop} {K : Act → World → Prop} {E : Prop}
variable {t e : TypeId} {z : Value} {size by' : Nat}
/-- append of whatever, as one step of a region that draws. -/
theorem step_append (R : RowTy P t e z size by') (hg : o.guard = none) (s x : Operand) (hop : o.op = Op.call { callee := Callee.builtin Builtin.append, args := #[s, x], argTypes := #[t, t] })
    {base n : Nat} {v : Value} {xs : List Value} (hown : w.ownsRow base e size v n xs) {ao : Option Addr} {m c : Nat} {news : List Value} (hsrc : SrcRow w ao m c news size)
    (hs : a.eval s = v) (hx : a.eval x = .slice ao m c) (h63 : n + m ≤ 9223372036854775807) (hbytes : (n + m) * by' ≤ 140737488355328) (hbase : base ≤ w.heap.size)
    (hK : ∀ v' w', w'.ownsRow base e size v' (n + m) (xs ++ news) → w.grownBy w' v.ownBlock → K (a.put o.dst v') w') :
    if Region.wanted o (yielded ops a.tmps) = true then Oper.wp P o a w K Q else E := by
  have hw : Region.wanted o (yielded ops a.tmps) = true := by simp [Region.wanted, hg]
  rw [if_pos hw]
  obtain ⟨i0, hi, hz0, hz1, hz2⟩ := info_parts R.info
  cases ao with
  | some ad =>
    obtain ⟨v', w', hrun, r1, r2, _⟩ := run_append_own (P := P) w base t o.type e i0 z size by' R.ht hi hz0 hz1 hz2 R.hzs R.hsz v n xs hown ad m c news hsrc.hl (hsrc.hc ad rfl) hsrc.h1 (by unfold maxLen; omega) hbytes hbase
    unfold Oper.wp
    simp [execOp, hop, resolve, invoke, builtin, hs, hx, hrun, Result.andThen]
    exact hK _ _ r1 r2
  | none =>
    obtain ⟨rfl, rfl⟩ := hsrc.hnone rfl
    have hnews : news = [] := List.eq_nil_of_length_eq_zero (by simpa using hsrc.hl)
    subst hnews
    have hrun := run_append_owned_none (P := P) w base t o.type e i0 size R.ht hi v n xs hown
    unfold Oper.wp
    simp [execOp, hop, resolve, invoke, builtin, hs, hx, hrun, Result.andThen]
    exact hK v w (by simpa using hown) (World.grownBy.refl _ _)
end
def UsedPost (w : World) (l : List Int) (e : Ending) (w' : World) : Prop :=
  ∃ v o, e = .returned v ∧ w'.ownsRow w.heap.size 3 1 v o.length (ivs o) ∧ Below w.heap.size w w' ∧ o.reverse = Mg.rise l ∧ o.length = Mg.used l
/-- In the midst: the counts that stand, in order. -/
structure US (w wr : World) (v : Value) (l o : List Int) (k : Nat) : Prop where
  own : wr.ownsRow w.heap.size 3 1 v o.length (ivs o)
  bel : Below w.heap.size w wr
  dn : Mg.Dn1 o
  perm : o.Perm (Mg.posL (l.take k))
  wf : Wf o
  len : o.length ≤ k
set_option maxHeartbeats 4000000 in
set_option maxRecDepth 100000 in
theorem used05_any (a : Option Addr) (len cap : Nat) (l : List Int) (w : World) (h : Is .i64 w a len cap l) (hl : len ≤ 1000) :
    Calls Tryz.prog 30 #[.slice a len cap] w (UsedPost w l) := by
  have HL := Lib.hid h.hlen
  have H := Lib.hid h
  clear h
  go_enter Tryz.func30, Tryz.ntmps30
  go_wp2
  go_loopw [3, 4] (fun v i wr => ∃ (k : Nat) (o : List Int), k ≤ len ∧ i = .int .i64 k ∧ Hid (US w wr v l o k)) (fun _ i _ => len - (intOf i).toNat)
  case atStart => exact ⟨0, [], by omega, rfl, Lib.hid ⟨World.ownsRow_nil _ _ _ _, Below.refl _ _, List.Pairwise.nil, by simp [Mg.posL], fun n hn => by simp at hn, Nat.le_refl _⟩⟩
  case round =>
    obtain ⟨k, o, hk, rfl, HK⟩ := hrel
    have hol := HK.out.len
    by_cases hlt : k < len
    · obtain ⟨b, off, rfl, hbl0, c1⟩ := (H.out.mono HK.out.bel).at' k hlt
      have hbw : b < w.heap.size := by
        obtain ⟨b', o', e, h, _⟩ := H.out.at' k hlt
        simp only [Option.some.injEq, Addr.mk.injEq, and_true] at e
        rw [e.1]; exact h
      have HPS := Lib.hid (Mg.posL_snoc l k (by rw [HL.out]; exact hlt))
      have hwk := H.out.getW k hlt
      obtain ⟨z, hz⟩ : ∃ z, l.getD k 0 = z := ⟨_, rfl⟩
      rw [hz] at c1 HPS hwk
      have HZ := Lib.hid hz
      clear hz
      obtain ⟨va, vc, rfl, hio⟩ := own_is HK.out.own HK.out.wf
      have HIO := Lib.hid hio
      clear hio
      by_cases hpz : 0 < z
      · have dz : decide (0 < z) = true := by simpa using hpz
        rw [if_pos hpz] at HPS
        clear hpz
        rcases own_nil_or HK.out.own with ⟨hvn, hn1⟩ | ⟨g, cp, hvs, _⟩
        · simp only [Value.slice.injEq] at hvn
          obtain ⟨rfl, _, rfl⟩ := hvn
          go_wp2
          go_loopw [5] (fun jv wx => ∃ j n : Nat, j ≤ o.length ∧ jv = .int .i64 j ∧ wx = wr.drewN n ∧ Hid (∀ t, j ≤ t → t < o.length → o.getD t 0 < z)) (fun jv _ => (intOf jv).toNat)
          case atStart => exact ⟨0, 0, by omega, rfl, rfl, Lib.hid (fun t h1 h2 => by omega)⟩
          case round =>
            obtain ⟨j, dn, hj, rfl, rfl, HLT⟩ := hrel
            have HEX : Hid ((j = 0 ∨ z ≤ o.getD (j - 1) 0) → True) := Lib.hid (fun _ => trivial)
            have hbl : b < (wr.drewN dn).heap.size := hbl0
            obtain ⟨wx, hwx⟩ : ∃ wx, wr.drewN dn = wx := ⟨_, rfl⟩
            have HK2 : Hid (US w wx (.slice none o.length 0) l o k) := Lib.hid (by
              rw [← hwx]
              exact ⟨own_below HK.out.own (drewN_is wr dn), HK.out.bel.trans ((drewN_is wr dn).mono HK.out.bel.size), HK.out.dn, HK.out.perm, HK.out.wf, HK.out.len⟩)
            have HIO2 := Lib.hid (HIO.out.mono (drewN_is wr dn))
            have c1x : wx.cell? ⟨b, off + k, none⟩ = some (.int .i64 z) := by rw [← hwx]; exact c1
            rw [hwx] at HIO2 hbl ⊢
            have HWX := Lib.hid hwx
            clear hwx
            cases j with
            | succ j =>
              exact absurd hj (by omega)
            | zero =>
              go_wp2
              go_big_region
              go_wp2
              have HKy : Hid (US w wx.drew (.slice none o.length 0) l o k) := Lib.hid ⟨own_below HK2.out.own (drewN_is wx 1), HK2.out.bel.trans ((drewN_is wx 1).mono HK2.out.bel.size), HK2.out.dn, HK2.out.perm, HK2.out.wf, HK2.out.len⟩
              have HIOy : Hid (Is .i64 wx.drew none o.length 0 o) := Lib.hid (HIO2.out.mono (drewN_is wx 1))
              have c1y : wx.drew.cell? ⟨b, off + k, none⟩ = some (.int .i64 z) := c1x
              have hbl2 : b < wx.drew.heap.size := hbl
              clear HK2 HIO2 c1x hbl HK HIO
              generalize wx.drew = wy at *
              have c1 := c1y
              have hbl := hbl2
              clear c1y hbl2 hbl0
              have e : o = [] := List.eq_nil_of_length_eq_zero hn1
              have HPRE : Hid (wy.ownsRow w.heap.size 3 1 (.slice none 0 0) 0 (ivs (o.take 0))) := Lib.hid (by rw [List.take_zero]; exact World.ownsRow_nil _ _ _ _)
              have HDR : Hid (Is .i64 wy none 0 0 (o.drop 0)) := Lib.hid (by rw [e]; exact is_nil wy)
              clear e
              -- the region in which it goes in
              have hIN := Mg.ins_down o z 0 HKy.out.dn hj (.inl rfl) HLT.out
              have hdl : (o.drop 0).length = o.length - 0 := List.length_drop
              have HNEW : Hid (∀ v' w', w'.ownsRow w.heap.size 3 1 v' (0 + (1 + (o.length - 0))) (ivs (o.take 0) ++ ivs (z :: o.drop 0)) → Below w.heap.size w w' → US w w' v' l (o.take 0 ++ (z :: o.drop 0)) (k + 1)) := Lib.hid (fun v' w' hown hbel => ⟨by
                  have e : (o.take 0 ++ (z :: o.drop 0)).length = 0 + (1 + (o.length - 0)) := by simp; omega
                  rw [e, ivs_append]; exact hown, hbel, hIN.1, by
                  rw [HPS.out]
                  exact hIN.2.trans ((HKy.out.perm.cons z).trans (List.perm_append_comm (l₁ := [z]))), fun x hx => by
                  rcases List.mem_append.1 hx with h | h
                  · exact HKy.out.wf x (List.mem_of_mem_take h)
                  · rcases List.mem_cons.1 h with rfl | h
                    · exact hwk
                    · exact HKy.out.wf x (List.mem_of_mem_drop h), by simp; omega⟩)
              clear hIN
              refine wp_region_noPanic ?_
              refine region_J 13 (fun w' => w'.cell? ⟨b, off + k, none⟩ = some (.int .i64 z)) (by kernel_rfl) ?_
              have hS : wy.drew.cell? ⟨b, off + k, none⟩ = some (.int .i64 z) := c1
              have HPR : Hid (wy.drew.ownsRow w.heap.size 3 1 (  .slice none 0 0) 0 (ivs (o.take 0))) := Lib.hid (own_below HPRE.out (drewN_is wy 1))
              have HSRC : Hid (Is .i64 wy.drew none 0 0 (o.drop 0)) := Lib.hid (HDR.out.mono (drewN_is wy 1))
              have HBW : Hid (Below w.heap.size w wy.drew) := Lib.hid (HKy.out.bel.trans ((drewN_is wy 1).mono HKy.out.bel.size))
              have hbW : b < wy.drew.heap.size := hbl
              clear HPRE HDR
              revert hS HPR HSRC HBW hbW
              generalize wy.drew = w3
              intro hS HPR HSRC HBW hbW
              refine J_take (i := 0) (v := ?_) rfl (by kernel_rfl) (by kernel_rfl) (by kernel_rfl) (by kernel_rfl) (fun _ _ _ h => h) hS (by rfl) ?_ ?_
              rotate_left
              · (intro w' hw'; first | (go_simp; done) | (go_simp; with_reducible rfl))
              try simp only [Act.put, List.setIfInBounds_toArray, List.set_cons_zero, List.set_cons_succ]
              refine J_take (i := 1) (v := ?_) rfl (by kernel_rfl) (by kernel_rfl) (by kernel_rfl) (by kernel_rfl) (fun _ _ _ h => h) hS (by rfl) ?_ ?_
              rotate_left
              · (intro w' hw'; first | (go_simp; done) | (go_simp; with_reducible rfl))
              try simp only [Act.put, List.setIfInBounds_toArray, List.set_cons_zero, List.set_cons_succ]
              refine J_take (i := 2) (v := ?_) rfl (by kernel_rfl) (by kernel_rfl) (by kernel_rfl) (by kernel_rfl) (fun _ _ _ h => h) hS (by rfl) ?_ ?_
              rotate_left
              · (intro w' hw'; first | (go_simp; done) | (go_simp; with_reducible rfl))
              try simp only [Act.put, List.setIfInBounds_toArray, List.set_cons_zero, List.set_cons_succ]
              refine J_take (i := 3) (v := ?_) rfl (by kernel_rfl) (by kernel_rfl) (by kernel_rfl) (by kernel_rfl) (fun _ _ _ h => h) hS (by rfl) ?_ ?_
              rotate_left
              · (intro w' hw'; first | (go_simp; done) | (go_simp; with_reducible rfl))
              try simp only [Act.put, List.setIfInBounds_toArray, List.set_cons_zero, List.set_cons_succ]
              refine J_take (i := 4) (v := ?_) rfl (by kernel_rfl) (by kernel_rfl) (by kernel_rfl) (by kernel_rfl) (fun _ _ _ h => h) hS (by rfl) ?_ ?_
              rotate_left
              · (intro w' hw'; first | (go_simp; done) | (go_simp; with_reducible rfl))
              try simp only [Act.put, List.setIfInBounds_toArray, List.set_cons_zero, List.set_cons_succ]
              refine J_take (i := 5) (v := ?_) rfl (by kernel_rfl) (by kernel_rfl) (by kernel_rfl) (by kernel_rfl) (fun _ _ _ h => h) hS (by rfl) ?_ ?_
              rotate_left
              · (intro w' hw'; first | (go_simp; done) | (go_simp; with_reducible rfl))
              try simp only [Act.put, List.setIfInBounds_toArray, List.set_cons_zero, List.set_cons_succ]
              refine J_take (i := 6) (v := ?_) rfl (by kernel_rfl) (by kernel_rfl) (by kernel_rfl) (by kernel_rfl) (fun _ _ _ h => h) hS (by rfl) ?_ ?_
              rotate_left
              · (intro w' hw'; first | (go_simp; done) | (go_simp; with_reducible rfl))
              try simp only [Act.put, List.setIfInBounds_toArray, List.set_cons_zero, List.set_cons_succ]
              refine J_take (i := 8) (v := ?_) rfl (by kernel_rfl) (by kernel_rfl) (by kernel_rfl) (by kernel_rfl) (fun _ _ _ h => h) hS (by rfl) ?_ ?_
              rotate_left
              · (intro w' hw'; first | (go_simp; done) | (go_simp; with_reducible rfl))
              try simp only [Act.put, List.setIfInBounds_toArray, List.set_cons_zero, List.set_cons_succ]
              refine J_take (i := 9) (v := ?_) rfl (by kernel_rfl) (by kernel_rfl) (by kernel_rfl) (by kernel_rfl) (fun _ _ _ h => h) hS (by rfl) ?_ ?_
              rotate_left
              · (intro w' hw'; first | (go_simp; done) | (go_simp; with_reducible rfl))
              try simp only [Act.put, List.setIfInBounds_toArray, List.set_cons_zero, List.set_cons_succ]
              refine J_take (i := 10) (v := ?_) rfl (by kernel_rfl) (by kernel_rfl) (by kernel_rfl) (by kernel_rfl) (fun _ _ _ h => h) hS (by rfl) ?_ ?_
              rotate_left
              · (intro w' hw'; first | (go_simp; done) | (go_simp; with_reducible rfl))
              try simp only [Act.put, List.setIfInBounds_toArray, List.set_cons_zero, List.set_cons_succ]
              refine J_step (i := 7) (by kernel_rfl) rfl (fun K hK => ?_)
              go_simp
              refine hK.out _ _ (fun _ => (World.cell?_alloc_old _ _ _ (Nat.ne_of_lt hbW)).trans hS) (fun _ => ?_)
              clear hK K
              try simp only [Act.put, List.setIfInBounds_toArray, List.set_cons_zero, List.set_cons_succ]
              have hw3 := HBW.out.size
              refine J_step (i := 11) (by kernel_rfl) rfl (fun K hK => ?_)
              refine step_append tyI rfl _ _ rfl (own_int w3 w3.heap.size z (Nat.le_refl _)) ((HSRC.out.mono (below_alloc w3 _)).src) rfl rfl (by omega) (by omega) (by simp) ?_
              intro v1 w4 own4 hg4
              have hb4 : Below w3.heap.size w3 w4 := (below_alloc w3 (.cells #[Value.int .i64 z] 3)).grown hg4 (by simp) (fun j hj => by cases hj; exact Nat.le_refl _)
              rw [← ivs_append] at own4
              obtain ⟨a4, c4, rfl, hi4⟩ := own_is own4 (fun x hx => by
                rcases List.mem_append.1 hx with h | h
                · rw [List.mem_singleton.1 h]; exact hwk
                · exact HKy.out.wf x (List.mem_of_mem_drop h))
              have hS4 : w4.cell? ⟨b, off + k, none⟩ = some (.int .i64 z) := (hb4.cell (p := ⟨b, off + k, none⟩) hbW).trans hS
              refine hK.out _ _ (fun _ => hS4) (fun _ => ?_)
              clear hK K
              try simp only [Act.put, List.setIfInBounds_toArray, List.set_cons_zero, List.set_cons_succ]
              have hzw4 := hb4.size
              refine J_step (i := 12) (by kernel_rfl) rfl (fun K hK => ?_)
              refine step_append tyI rfl _ _ rfl (own_below HPR.out hb4) hi4.src rfl rfl (by omega) (by omega) (by omega) ?_
              intro v5 w5 own5 hg5
              have hb5 : Below w.heap.size w w5 := (HBW.out.trans (hb4.mono hw3)).grown hg5 (by omega) (fun g hg => (HPR.out.lt g hg).1)
              have hS5 : w5.cell? ⟨b, off + k, none⟩ = some (.int .i64 z) := (hg5.cell hS4 (fun e => by have := (HPR.out.lt b e.symm).1; omega))
              have HF := Lib.hid (HNEW.out _ _ (by rw [hn1]; exact own5) hb5)
              refine hK.out _ _ (fun _ => hS5) (fun _ => ?_)
              clear hK K own4 own5 hg4 hg5 hi4
              try simp only [Act.put, List.setIfInBounds_toArray, List.set_cons_zero, List.set_cons_succ]
              refine J_step (i := 13) (by kernel_rfl) rfl (fun K hK => ?_)
              go_simp
              refine hK.out _ _ (fun h => absurd rfl h) (fun _ => ?_)
              clear hK K
              try simp only [Act.put, List.setIfInBounds_toArray, List.set_cons_zero, List.set_cons_succ]
              refine J_done (by kernel_rfl) ?_ _
              refine NoPanic.normal ?_
              go_wp2
              go_roundw
              case rel => exact ⟨k + 1, _, by omega, by go_num, HF⟩
              case measure => simp [intOf]; omega
        · simp only [Value.slice.injEq, true_and] at hvs
          obtain ⟨rfl, rfl⟩ := hvs
          go_wp2
          go_loopw [5] (fun jv wx => ∃ j n : Nat, j ≤ o.length ∧ jv = .int .i64 j ∧ wx = wr.drewN n ∧ Hid (∀ t, j ≤ t → t < o.length → o.getD t 0 < z)) (fun jv _ => (intOf jv).toNat)
          case atStart => exact ⟨o.length, 0, Nat.le_refl _, rfl, rfl, Lib.hid (fun t h1 h2 => by omega)⟩
          case round =>
            obtain ⟨j, dn, hj, rfl, rfl, HLT⟩ := hrel
            have HEX : Hid ((j = 0 ∨ z ≤ o.getD (j - 1) 0) → True) := Lib.hid (fun _ => trivial)
            have hbl : b < (wr.drewN dn).heap.size := hbl0
            obtain ⟨wx, hwx⟩ : ∃ wx, wr.drewN dn = wx := ⟨_, rfl⟩
            have HK2 : Hid (US w wx (.slice (some ⟨g, 0, none⟩) o.length vc) l o k) := Lib.hid (by
              rw [← hwx]
              exact ⟨own_below HK.out.own (drewN_is wr dn), HK.out.bel.trans ((drewN_is wr dn).mono HK.out.bel.size), HK.out.dn, HK.out.perm, HK.out.wf, HK.out.len⟩)
            have HIO2 := Lib.hid (HIO.out.mono (drewN_is wr dn))
            have c1x : wx.cell? ⟨b, off + k, none⟩ = some (.int .i64 z) := by rw [← hwx]; exact c1
            rw [hwx] at HIO2 hbl ⊢
            have HWX := Lib.hid hwx
            clear hwx
            cases j with
            | succ j =>
              have e1 : ((j + 1 : Nat) : Int) - 1 = (j : Int) := by omega
              have d0 : decide (0 < ((j + 1 : Nat) : Int)) = true := decide_eq_true (by omega)
              obtain ⟨b2, o2, e2, _, c2⟩ := HIO2.out.at' j (by omega)
              simp only [Option.some.injEq, Addr.mk.injEq, and_true] at e2
              obtain ⟨rfl, rfl⟩ := e2
              rw [Nat.zero_add] at c2
              obtain ⟨y, hy⟩ : ∃ y, o.getD j 0 = y := ⟨_, rfl⟩
              rw [hy] at c2
              have HYY := Lib.hid hy
              clear hy
              by_cases hyz : y < z
              · have dyz : decide (y < z) = true := by simpa using hyz
                have HLT2 : Hid (∀ t, j ≤ t → t < o.length → o.getD t 0 < z) := Lib.hid (fun t h1 h2 => by
                  by_cases e : t = j
                  · subst e; rw [HYY.out]; exact hyz
                  · exact HLT.out t (by omega) h2)
                clear hyz
                go_wp2
                go_big_region
                go_wp2
                go_roundw
                case rel => exact ⟨j, dn + 1, by omega, by go_num, by rw [← HWX.out]; rfl, HLT2⟩
                case measure => simp [intOf]
              · have dyz : decide (y < z) = false := by simpa using hyz
                have HY : Hid (j + 1 = 0 ∨ z ≤ o.getD (j + 1 - 1) 0) := Lib.hid (.inr (by rw [Nat.add_sub_cancel, HYY.out]; omega))
                clear hyz
                go_wp2
                go_big_region
                go_wp2
                clear c2 HYY e1 d0
                have HKy : Hid (US w wx.drew (.slice (some ⟨g, 0, none⟩) o.length vc) l o k) := Lib.hid ⟨own_below HK2.out.own (drewN_is wx 1), HK2.out.bel.trans ((drewN_is wx 1).mono HK2.out.bel.size), HK2.out.dn, HK2.out.perm, HK2.out.wf, HK2.out.len⟩
                have HIOy : Hid (Is .i64 wx.drew (some ⟨g, 0, none⟩) o.length vc o) := Lib.hid (HIO2.out.mono (drewN_is wx 1))
                have c1y : wx.drew.cell? ⟨b, off + k, none⟩ = some (.int .i64 z) := c1x
                have hbl2 : b < wx.drew.heap.size := hbl
                clear HK2 HIO2 c1x hbl HK HIO
                generalize wx.drew = wy at *
                have c1 := c1y
                have hbl := hbl2
                clear c1y hbl2 hbl0
                generalize j + 1 = j at *
                by_cases hvcj : j = vc
                · subst hvcj
                  have HPRE : Hid (wy.ownsRow w.heap.size 3 1 (.slice (some ⟨g, 0, none⟩) j j) j (ivs (o.take j))) := Lib.hid (by
                    have h := own_prefix HKy.out.own j hj
                    have e : (ivs o).take j = ivs (o.take j) := by simp [ivs, List.map_take]
                    rw [e] at h; exact h)
                  have hoj : o.length - j = 0 := by have := HIOy.out.hle; omega
                  have HDR : Hid (Is .i64 wy (some ⟨g, 0, none⟩) 0 0 (o.drop j)) := Lib.hid (by
                    have h := HIOy.out.tail j hj (some ⟨g, 0, none⟩) (fun h => absurd rfl h)
                    rw [Nat.sub_self, hoj] at h; exact h)
                  have HOJ := Lib.hid hoj
                  clear hoj
                  -- the region in which it goes in
                  have hIN := Mg.ins_down o z j HKy.out.dn hj HY.out HLT.out
                  have hdl : (o.drop j).length = o.length - j := List.length_drop
                  have HNEW : Hid (∀ v' w', w'.ownsRow w.heap.size 3 1 v' (j + (1 + (o.length - j))) (ivs (o.take j) ++ ivs (z :: o.drop j)) → Below w.heap.size w w' → US w w' v' l (o.take j ++ (z :: o.drop j)) (k + 1)) := Lib.hid (fun v' w' hown hbel => ⟨by
                      have e : (o.take j ++ (z :: o.drop j)).length = j + (1 + (o.length - j)) := by simp; omega
                      rw [e, ivs_append]; exact hown, hbel, hIN.1, by
                      rw [HPS.out]
                      exact hIN.2.trans ((HKy.out.perm.cons z).trans (List.perm_append_comm (l₁ := [z]))), fun x hx => by
                      rcases List.mem_append.1 hx with h | h
                      · exact HKy.out.wf x (List.mem_of_mem_take h)
                      · rcases List.mem_cons.1 h with rfl | h
                        · exact hwk
                        · exact HKy.out.wf x (List.mem_of_mem_drop h), by simp; omega⟩)
                  clear hIN
                  refine wp_region_noPanic ?_
                  refine region_J 13 (fun w' => w'.cell? ⟨b, off + k, none⟩ = some (.int .i64 z)) (by kernel_rfl) ?_
                  have hS : wy.drew.cell? ⟨b, off + k, none⟩ = some (.int .i64 z) := c1
                  have HPR : Hid (wy.drew.ownsRow w.heap.size 3 1 (.slice (some ⟨g, 0, none⟩) j j) j (ivs (o.take j))) := Lib.hid (own_below HPRE.out (drewN_is wy 1))
                  have HSRC : Hid (Is .i64 wy.drew (some ⟨g, 0, none⟩) 0 0 (o.drop j)) := Lib.hid (HDR.out.mono (drewN_is wy 1))
                  have HBW : Hid (Below w.heap.size w wy.drew) := Lib.hid (HKy.out.bel.trans ((drewN_is wy 1).mono HKy.out.bel.size))
                  have hbW : b < wy.drew.heap.size := hbl
                  clear HPRE HDR
                  revert hS HPR HSRC HBW hbW
                  generalize wy.drew = w3
                  intro hS HPR HSRC HBW hbW
                  refine J_take (i := 0) (v := ?_) rfl (by kernel_rfl) (by kernel_rfl) (by kernel_rfl) (by kernel_rfl) (fun _ _ _ h => h) hS (by rfl) ?_ ?_
                  rotate_left
                  · (intro w' hw'; first | (go_simp; done) | (go_simp; with_reducible rfl))
                  try simp only [Act.put, List.setIfInBounds_toArray, List.set_cons_zero, List.set_cons_succ]
                  refine J_take (i := 1) (v := ?_) rfl (by kernel_rfl) (by kernel_rfl) (by kernel_rfl) (by kernel_rfl) (fun _ _ _ h => h) hS (by rfl) ?_ ?_
                  rotate_left
                  · (intro w' hw'; first | (go_simp; done) | (go_simp; with_reducible rfl))
                  try simp only [Act.put, List.setIfInBounds_toArray, List.set_cons_zero, List.set_cons_succ]
                  refine J_take (i := 2) (v := ?_) rfl (by kernel_rfl) (by kernel_rfl) (by kernel_rfl) (by kernel_rfl) (fun _ _ _ h => h) hS (by rfl) ?_ ?_
                  rotate_left
                  · (intro w' hw'; first | (go_simp; done) | (go_simp; with_reducible rfl))
                  try simp only [Act.put, List.setIfInBounds_toArray, List.set_cons_zero, List.set_cons_succ]
                  refine J_take (i := 3) (v := ?_) rfl (by kernel_rfl) (by kernel_rfl) (by kernel_rfl) (by kernel_rfl) (fun _ _ _ h => h) hS (by rfl) ?_ ?_
                  rotate_left
                  · (intro w' hw'; first | (go_simp; done) | (go_simp; with_reducible rfl))
                  try simp only [Act.put, List.setIfInBounds_toArray, List.set_cons_zero, List.set_cons_succ]
                  refine J_take (i := 4) (v := ?_) rfl (by kernel_rfl) (by kernel_rfl) (by kernel_rfl) (by kernel_rfl) (fun _ _ _ h => h) hS (by rfl) ?_ ?_
                  rotate_left
                  · (intro w' hw'; first | (go_simp; done) | (go_simp; with_reducible rfl))
                  try simp only [Act.put, List.setIfInBounds_toArray, List.set_cons_zero, List.set_cons_succ]
                  refine J_take (i := 5) (v := ?_) rfl (by kernel_rfl) (by kernel_rfl) (by kernel_rfl) (by kernel_rfl) (fun _ _ _ h => h) hS (by rfl) ?_ ?_
                  rotate_left
                  · (intro w' hw'; first | (go_simp; done) | (go_simp; with_reducible rfl))
                  try simp only [Act.put, List.setIfInBounds_toArray, List.set_cons_zero, List.set_cons_succ]
                  refine J_take (i := 6) (v := ?_) rfl (by kernel_rfl) (by kernel_rfl) (by kernel_rfl) (by kernel_rfl) (fun _ _ _ h => h) hS (by rfl) ?_ ?_
                  rotate_left
                  · (intro w' hw'; first | (go_simp; done) | (go_simp; with_reducible rfl))
                  try simp only [Act.put, List.setIfInBounds_toArray, List.set_cons_zero, List.set_cons_succ]
                  refine J_take (i := 8) (v := ?_) rfl (by kernel_rfl) (by kernel_rfl) (by kernel_rfl) (by kernel_rfl) (fun _ _ _ h => h) hS (by rfl) ?_ ?_
                  rotate_left
                  · (intro w' hw'; first | (go_simp; done) | (go_simp; with_reducible rfl))
                  try simp only [Act.put, List.setIfInBounds_toArray, List.set_cons_zero, List.set_cons_succ]
                  refine J_take (i := 9) (v := ?_) rfl (by kernel_rfl) (by kernel_rfl) (by kernel_rfl) (by kernel_rfl) (fun _ _ _ h => h) hS (by rfl) ?_ ?_
                  rotate_left
                  · (intro w' hw'; first | (go_simp; done) | (go_simp; with_reducible rfl))
                  try simp only [Act.put, List.setIfInBounds_toArray, List.set_cons_zero, List.set_cons_succ]
                  refine J_take (i := 10) (v := ?_) rfl (by kernel_rfl) (by kernel_rfl) (by kernel_rfl) (by kernel_rfl) (fun _ _ _ h => h) hS (by rfl) ?_ ?_
                  rotate_left
                  · (intro w' hw'; first | (go_simp; done) | (go_simp; with_reducible rfl))
                  try simp only [Act.put, List.setIfInBounds_toArray, List.set_cons_zero, List.set_cons_succ]
                  refine J_step (i := 7) (by kernel_rfl) rfl (fun K hK => ?_)
                  go_simp
                  refine hK.out _ _ (fun _ => (World.cell?_alloc_old _ _ _ (Nat.ne_of_lt hbW)).trans hS) (fun _ => ?_)
                  clear hK K
                  try simp only [Act.put, List.setIfInBounds_toArray, List.set_cons_zero, List.set_cons_succ]
                  have hw3 := HBW.out.size
                  refine J_step (i := 11) (by kernel_rfl) rfl (fun K hK => ?_)
                  refine step_append tyI rfl _ _ rfl (own_int w3 w3.heap.size z (Nat.le_refl _)) ((HSRC.out.mono (below_alloc w3 _)).src) rfl rfl (by omega) (by omega) (by simp) ?_
                  intro v1 w4 own4 hg4
                  have hb4 : Below w3.heap.size w3 w4 := (below_alloc w3 (.cells #[Value.int .i64 z] 3)).grown hg4 (by simp) (fun j hj => by cases hj; exact Nat.le_refl _)
                  rw [← ivs_append] at own4
                  obtain ⟨a4, c4, rfl, hi4⟩ := own_is own4 (fun x hx => by
                    rcases List.mem_append.1 hx with h | h
                    · rw [List.mem_singleton.1 h]; exact hwk
                    · exact HKy.out.wf x (List.mem_of_mem_drop h))
                  have hS4 : w4.cell? ⟨b, off + k, none⟩ = some (.int .i64 z) := (hb4.cell (p := ⟨b, off + k, none⟩) hbW).trans hS
                  refine hK.out _ _ (fun _ => hS4) (fun _ => ?_)
                  clear hK K
                  try simp only [Act.put, List.setIfInBounds_toArray, List.set_cons_zero, List.set_cons_succ]
                  have hzw4 := hb4.size
                  refine J_step (i := 12) (by kernel_rfl) rfl (fun K hK => ?_)
                  refine step_append tyI rfl _ _ rfl (own_below HPR.out hb4) hi4.src rfl rfl (by omega) (by omega) (by omega) ?_
                  intro v5 w5 own5 hg5
                  have hb5 : Below w.heap.size w w5 := (HBW.out.trans (hb4.mono hw3)).grown hg5 (by omega) (fun g hg => (HPR.out.lt g hg).1)
                  have hS5 : w5.cell? ⟨b, off + k, none⟩ = some (.int .i64 z) := (hg5.cell hS4 (fun e => by have := (HPR.out.lt b e.symm).1; omega))
                  have HF := Lib.hid (HNEW.out _ _ (by rw [HOJ.out]; exact own5) hb5)
                  refine hK.out _ _ (fun _ => hS5) (fun _ => ?_)
                  clear hK K own4 own5 hg4 hg5 hi4
                  try simp only [Act.put, List.setIfInBounds_toArray, List.set_cons_zero, List.set_cons_succ]
                  refine J_step (i := 13) (by kernel_rfl) rfl (fun K hK => ?_)
                  go_simp
                  refine hK.out _ _ (fun h => absurd rfl h) (fun _ => ?_)
                  clear hK K
                  try simp only [Act.put, List.setIfInBounds_toArray, List.set_cons_zero, List.set_cons_succ]
                  refine J_done (by kernel_rfl) ?_ _
                  refine NoPanic.normal ?_
                  go_wp2
                  go_roundw
                  case rel => exact ⟨k + 1, _, by omega, by go_num, HF⟩
                  case measure => simp [intOf]; omega
                · have hvcj' : ¬ vc = j := fun h => hvcj h.symm
                  have hvle : j ≤ vc := by have := HIOy.out.hle; omega
                  have HPRE : Hid (wy.ownsRow w.heap.size 3 1 (.slice (some ⟨g, 0, none⟩) j vc) j (ivs (o.take j))) := Lib.hid (by
                    have h := own_prefix HKy.out.own j hj
                    have e : (ivs o).take j = ivs (o.take j) := by simp [ivs, List.map_take]
                    rw [e] at h; exact h)
                  have HDR : Hid (Is .i64 wy (some ⟨g, j, none⟩) (o.length - j) (vc - j) (o.drop j)) := Lib.hid (HIOy.out.tail j hj _ (fun _ => by rw [Nat.zero_add]))
                  -- the region in which it goes in
                  have hIN := Mg.ins_down o z j HKy.out.dn hj HY.out HLT.out
                  have hdl : (o.drop j).length = o.length - j := List.length_drop
                  have HNEW : Hid (∀ v' w', w'.ownsRow w.heap.size 3 1 v' (j + (1 + (o.length - j))) (ivs (o.take j) ++ ivs (z :: o.drop j)) → Below w.heap.size w w' → US w w' v' l (o.take j ++ (z :: o.drop j)) (k + 1)) := Lib.hid (fun v' w' hown hbel => ⟨by
                      have e : (o.take j ++ (z :: o.drop j)).length = j + (1 + (o.length - j)) := by simp; omega
                      rw [e, ivs_append]; exact hown, hbel, hIN.1, by
                      rw [HPS.out]
                      exact hIN.2.trans ((HKy.out.perm.cons z).trans (List.perm_append_comm (l₁ := [z]))), fun x hx => by
                      rcases List.mem_append.1 hx with h | h
                      · exact HKy.out.wf x (List.mem_of_mem_take h)
                      · rcases List.mem_cons.1 h with rfl | h
                        · exact hwk
                        · exact HKy.out.wf x (List.mem_of_mem_drop h), by simp; omega⟩)
                  clear hIN
                  refine wp_region_noPanic ?_
                  refine region_J 13 (fun w' => w'.cell? ⟨b, off + k, none⟩ = some (.int .i64 z)) (by kernel_rfl) ?_
                  have hS : wy.drew.cell? ⟨b, off + k, none⟩ = some (.int .i64 z) := c1
                  have HPR : Hid (wy.drew.ownsRow w.heap.size 3 1 (.slice (some ⟨g, 0, none⟩) j vc) j (ivs (o.take j))) := Lib.hid (own_below HPRE.out (drewN_is wy 1))
                  have HSRC : Hid (Is .i64 wy.drew (some ⟨g, j, none⟩) (o.length - j) (vc - j) (o.drop j)) := Lib.hid (HDR.out.mono (drewN_is wy 1))
                  have HBW : Hid (Below w.heap.size w wy.drew) := Lib.hid (HKy.out.bel.trans ((drewN_is wy 1).mono HKy.out.bel.size))
                  have hbW : b < wy.drew.heap.size := hbl
                  clear HPRE HDR
                  revert hS HPR HSRC HBW hbW
                  generalize wy.drew = w3
                  intro hS HPR HSRC HBW hbW
                  refine J_take (i := 0) (v := ?_) rfl (by kernel_rfl) (by kernel_rfl) (by kernel_rfl) (by kernel_rfl) (fun _ _ _ h => h) hS (by rfl) ?_ ?_
                  rotate_left
                  · (intro w' hw'; first | (go_simp; done) | (go_simp; with_reducible rfl))
                  try simp only [Act.put, List.setIfInBounds_toArray, List.set_cons_zero, List.set_cons_succ]
                  refine J_take (i := 1) (v := ?_) rfl (by kernel_rfl) (by kernel_rfl) (by kernel_rfl) (by kernel_rfl) (fun _ _ _ h => h) hS (by rfl) ?_ ?_
                  rotate_left
                  · (intro w' hw'; first | (go_simp; done) | (go_simp; with_reducible rfl))
                  try simp only [Act.put, List.setIfInBounds_toArray, List.set_cons_zero, List.set_cons_succ]
                  refine J_take (i := 2) (v := ?_) rfl (by kernel_rfl) (by kernel_rfl) (by kernel_rfl) (by kernel_rfl) (fun _ _ _ h => h) hS (by rfl) ?_ ?_
                  rotate_left
                  · (intro w' hw'; first | (go_simp; done) | (go_simp; with_reducible rfl))
                  try simp only [Act.put, List.setIfInBounds_toArray, List.set_cons_zero, List.set_cons_succ]
                  refine J_take (i := 3) (v := ?_) rfl (by kernel_rfl) (by kernel_rfl) (by kernel_rfl) (by kernel_rfl) (fun _ _ _ h => h) hS (by rfl) ?_ ?_
                  rotate_left
                  · (intro w' hw'; first | (go_simp; done) | (go_simp; with_reducible rfl))
                  try simp only [Act.put, List.setIfInBounds_toArray, List.set_cons_zero, List.set_cons_succ]
                  refine J_take (i := 4) (v := ?_) rfl (by kernel_rfl) (by kernel_rfl) (by kernel_rfl) (by kernel_rfl) (fun _ _ _ h => h) hS (by rfl) ?_ ?_
                  rotate_left
                  · (intro w' hw'; first | (go_simp; done) | (go_simp; with_reducible rfl))
                  try simp only [Act.put, List.setIfInBounds_toArray, List.set_cons_zero, List.set_cons_succ]
                  refine J_take (i := 5) (v := ?_) rfl (by kernel_rfl) (by kernel_rfl) (by kernel_rfl) (by kernel_rfl) (fun _ _ _ h => h) hS (by rfl) ?_ ?_
                  rotate_left
                  · (intro w' hw'; first | (go_simp; done) | (go_simp; with_reducible rfl))
                  try simp only [Act.put, List.setIfInBounds_toArray, List.set_cons_zero, List.set_cons_succ]
                  refine J_take (i := 6) (v := ?_) rfl (by kernel_rfl) (by kernel_rfl) (by kernel_rfl) (by kernel_rfl) (fun _ _ _ h => h) hS (by rfl) ?_ ?_
                  rotate_left
                  · (intro w' hw'; first | (go_simp; done) | (go_simp; with_reducible rfl))
                  try simp only [Act.put, List.setIfInBounds_toArray, List.set_cons_zero, List.set_cons_succ]
                  refine J_take (i := 8) (v := ?_) rfl (by kernel_rfl) (by kernel_rfl) (by kernel_rfl) (by kernel_rfl) (fun _ _ _ h => h) hS (by rfl) ?_ ?_
                  rotate_left
                  · (intro w' hw'; first | (go_simp; done) | (go_simp; with_reducible rfl))
                  try simp only [Act.put, List.setIfInBounds_toArray, List.set_cons_zero, List.set_cons_succ]
                  refine J_take (i := 9) (v := ?_) rfl (by kernel_rfl) (by kernel_rfl) (by kernel_rfl) (by kernel_rfl) (fun _ _ _ h => h) hS (by rfl) ?_ ?_
                  rotate_left
                  · (intro w' hw'; first | (go_simp; done) | (go_simp; with_reducible rfl))
                  try simp only [Act.put, List.setIfInBounds_toArray, List.set_cons_zero, List.set_cons_succ]
                  refine J_take (i := 10) (v := ?_) rfl (by kernel_rfl) (by kernel_rfl) (by kernel_rfl) (by kernel_rfl) (fun _ _ _ h => h) hS (by rfl) ?_ ?_
                  rotate_left
                  · (intro w' hw'; first | (go_simp; done) | (go_simp; with_reducible rfl))
                  try simp only [Act.put, List.setIfInBounds_toArray, List.set_cons_zero, List.set_cons_succ]
                  refine J_step (i := 7) (by kernel_rfl) rfl (fun K hK => ?_)
                  go_simp
                  refine hK.out _ _ (fun _ => (World.cell?_alloc_old _ _ _ (Nat.ne_of_lt hbW)).trans hS) (fun _ => ?_)
                  clear hK K
                  try simp only [Act.put, List.setIfInBounds_toArray, List.set_cons_zero, List.set_cons_succ]
                  have hw3 := HBW.out.size
                  refine J_step (i := 11) (by kernel_rfl) rfl (fun K hK => ?_)
                  refine step_append tyI rfl _ _ rfl (own_int w3 w3.heap.size z (Nat.le_refl _)) ((HSRC.out.mono (below_alloc w3 _)).src) rfl rfl (by omega) (by omega) (by simp) ?_
                  intro v1 w4 own4 hg4
                  have hb4 : Below w3.heap.size w3 w4 := (below_alloc w3 (.cells #[Value.int .i64 z] 3)).grown hg4 (by simp) (fun j hj => by cases hj; exact Nat.le_refl _)
                  rw [← ivs_append] at own4
                  obtain ⟨a4, c4, rfl, hi4⟩ := own_is own4 (fun x hx => by
                    rcases List.mem_append.1 hx with h | h
                    · rw [List.mem_singleton.1 h]; exact hwk
                    · exact HKy.out.wf x (List.mem_of_mem_drop h))
                  have hS4 : w4.cell? ⟨b, off + k, none⟩ = some (.int .i64 z) := (hb4.cell (p := ⟨b, off + k, none⟩) hbW).trans hS
                  refine hK.out _ _ (fun _ => hS4) (fun _ => ?_)
                  clear hK K
                  try simp only [Act.put, List.setIfInBounds_toArray, List.set_cons_zero, List.set_cons_succ]
                  have hzw4 := hb4.size
                  refine J_step (i := 12) (by kernel_rfl) rfl (fun K hK => ?_)
                  refine step_append tyI rfl _ _ rfl (own_below HPR.out hb4) hi4.src rfl rfl (by omega) (by omega) (by omega) ?_
                  intro v5 w5 own5 hg5
                  have hb5 : Below w.heap.size w w5 := (HBW.out.trans (hb4.mono hw3)).grown hg5 (by omega) (fun g hg => (HPR.out.lt g hg).1)
                  have hS5 : w5.cell? ⟨b, off + k, none⟩ = some (.int .i64 z) := (hg5.cell hS4 (fun e => by have := (HPR.out.lt b e.symm).1; omega))
                  have HF := Lib.hid (HNEW.out _ _ own5 hb5)
                  refine hK.out _ _ (fun _ => hS5) (fun _ => ?_)
                  clear hK K own4 own5 hg4 hg5 hi4
                  try simp only [Act.put, List.setIfInBounds_toArray, List.set_cons_zero, List.set_cons_succ]
                  refine J_step (i := 13) (by kernel_rfl) rfl (fun K hK => ?_)
                  go_simp
                  refine hK.out _ _ (fun h => absurd rfl h) (fun _ => ?_)
                  clear hK K
                  try simp only [Act.put, List.setIfInBounds_toArray, List.set_cons_zero, List.set_cons_succ]
                  refine J_done (by kernel_rfl) ?_ _
                  refine NoPanic.normal ?_
                  go_wp2
                  go_roundw
                  case rel => exact ⟨k + 1, _, by omega, by go_num, HF⟩
                  case measure => simp [intOf]; omega
            | zero =>
              go_wp2
              go_big_region
              go_wp2
              have HKy : Hid (US w wx.drew (.slice (some ⟨g, 0, none⟩) o.length vc) l o k) := Lib.hid ⟨own_below HK2.out.own (drewN_is wx 1), HK2.out.bel.trans ((drewN_is wx 1).mono HK2.out.bel.size), HK2.out.dn, HK2.out.perm, HK2.out.wf, HK2.out.len⟩
              have HIOy : Hid (Is .i64 wx.drew (some ⟨g, 0, none⟩) o.length vc o) := Lib.hid (HIO2.out.mono (drewN_is wx 1))
              have c1y : wx.drew.cell? ⟨b, off + k, none⟩ = some (.int .i64 z) := c1x
              have hbl2 : b < wx.drew.heap.size := hbl
              clear HK2 HIO2 c1x hbl HK HIO
              generalize wx.drew = wy at *
              have c1 := c1y
              have hbl := hbl2
              clear c1y hbl2 hbl0
              by_cases hvcj : 0 = vc
              · subst hvcj
                have HPRE : Hid (wy.ownsRow w.heap.size 3 1 (.slice (some ⟨g, 0, none⟩) 0 0) 0 (ivs (o.take 0))) := Lib.hid (by
                  have h := own_prefix HKy.out.own 0 hj
                  have e : (ivs o).take 0 = ivs (o.take 0) := by simp [ivs, List.map_take]
                  rw [e] at h; exact h)
                have hoj : o.length - 0 = 0 := by have := HIOy.out.hle; omega
                have HDR : Hid (Is .i64 wy (some ⟨g, 0, none⟩) 0 0 (o.drop 0)) := Lib.hid (by
                  have h := HIOy.out.tail 0 hj (some ⟨g, 0, none⟩) (fun h => absurd rfl h)
                  rw [Nat.sub_self, hoj] at h; exact h)
                have HOJ := Lib.hid hoj
                clear hoj
                -- the region in which it goes in
                have hIN := Mg.ins_down o z 0 HKy.out.dn hj (.inl rfl) HLT.out
                have hdl : (o.drop 0).length = o.length - 0 := List.length_drop
                have HNEW : Hid (∀ v' w', w'.ownsRow w.heap.size 3 1 v' (0 + (1 + (o.length - 0))) (ivs (o.take 0) ++ ivs (z :: o.drop 0)) → Below w.heap.size w w' → US w w' v' l (o.take 0 ++ (z :: o.drop 0)) (k + 1)) := Lib.hid (fun v' w' hown hbel => ⟨by
                    have e : (o.take 0 ++ (z :: o.drop 0)).length = 0 + (1 + (o.length - 0)) := by simp; omega
                    rw [e, ivs_append]; exact hown, hbel, hIN.1, by
                    rw [HPS.out]
                    exact hIN.2.trans ((HKy.out.perm.cons z).trans (List.perm_append_comm (l₁ := [z]))), fun x hx => by
                    rcases List.mem_append.1 hx with h | h
                    · exact HKy.out.wf x (List.mem_of_mem_take h)
                    · rcases List.mem_cons.1 h with rfl | h
                      · exact hwk
                      · exact HKy.out.wf x (List.mem_of_mem_drop h), by simp; omega⟩)
                clear hIN
                refine wp_region_noPanic ?_
                refine region_J 13 (fun w' => w'.cell? ⟨b, off + k, none⟩ = some (.int .i64 z)) (by kernel_rfl) ?_
                have hS : wy.drew.cell? ⟨b, off + k, none⟩ = some (.int .i64 z) := c1
                have HPR : Hid (wy.drew.ownsRow w.heap.size 3 1 (.slice (some ⟨g, 0, none⟩) 0 0) 0 (ivs (o.take 0))) := Lib.hid (own_below HPRE.out (drewN_is wy 1))
                have HSRC : Hid (Is .i64 wy.drew (some ⟨g, 0, none⟩) 0 0 (o.drop 0)) := Lib.hid (HDR.out.mono (drewN_is wy 1))
                have HBW : Hid (Below w.heap.size w wy.drew) := Lib.hid (HKy.out.bel.trans ((drewN_is wy 1).mono HKy.out.bel.size))
                have hbW : b < wy.drew.heap.size := hbl
                clear HPRE HDR
                revert hS HPR HSRC HBW hbW
                generalize wy.drew = w3
                intro hS HPR HSRC HBW hbW
                refine J_take (i := 0) (v := ?_) rfl (by kernel_rfl) (by kernel_rfl) (by kernel_rfl) (by kernel_rfl) (fun _ _ _ h => h) hS (by rfl) ?_ ?_
                rotate_left
                · (intro w' hw'; first | (go_simp; done) | (go_simp; with_reducible rfl))
                try simp only [Act.put, List.setIfInBounds_toArray, List.set_cons_zero, List.set_cons_succ]
                refine J_take (i := 1) (v := ?_) rfl (by kernel_rfl) (by kernel_rfl) (by kernel_rfl) (by kernel_rfl) (fun _ _ _ h => h) hS (by rfl) ?_ ?_
                rotate_left
                · (intro w' hw'; first | (go_simp; done) | (go_simp; with_reducible rfl))
                try simp only [Act.put, List.setIfInBounds_toArray, List.set_cons_zero, List.set_cons_succ]
                refine J_take (i := 2) (v := ?_) rfl (by kernel_rfl) (by kernel_rfl) (by kernel_rfl) (by kernel_rfl) (fun _ _ _ h => h) hS (by rfl) ?_ ?_
                rotate_left
                · (intro w' hw'; first | (go_simp; done) | (go_simp; with_reducible rfl))
                try simp only [Act.put, List.setIfInBounds_toArray, List.set_cons_zero, List.set_cons_succ]
                refine J_take (i := 3) (v := ?_) rfl (by kernel_rfl) (by kernel_rfl) (by kernel_rfl) (by kernel_rfl) (fun _ _ _ h => h) hS (by rfl) ?_ ?_
                rotate_left
                · (intro w' hw'; first | (go_simp; done) | (go_simp; with_reducible rfl))
                try simp only [Act.put, List.setIfInBounds_toArray, List.set_cons_zero, List.set_cons_succ]
                refine J_take (i := 4) (v := ?_) rfl (by kernel_rfl) (by kernel_rfl) (by kernel_rfl) (by kernel_rfl) (fun _ _ _ h => h) hS (by rfl) ?_ ?_
                rotate_left
                · (intro w' hw'; first | (go_simp; done) | (go_simp; with_reducible rfl))
                try simp only [Act.put, List.setIfInBounds_toArray, List.set_cons_zero, List.set_cons_succ]
                refine J_take (i := 5) (v := ?_) rfl (by kernel_rfl) (by kernel_rfl) (by kernel_rfl) (by kernel_rfl) (fun _ _ _ h => h) hS (by rfl) ?_ ?_
                rotate_left
                · (intro w' hw'; first | (go_simp; done) | (go_simp; with_reducible rfl))
                try simp only [Act.put, List.setIfInBounds_toArray, List.set_cons_zero, List.set_cons_succ]
                refine J_take (i := 6) (v := ?_) rfl (by kernel_rfl) (by kernel_rfl) (by kernel_rfl) (by kernel_rfl) (fun _ _ _ h => h) hS (by rfl) ?_ ?_
                rotate_left
                · (intro w' hw'; first | (go_simp; done) | (go_simp; with_reducible rfl))
                try simp only [Act.put, List.setIfInBounds_toArray, List.set_cons_zero, List.set_cons_succ]
                refine J_take (i := 8) (v := ?_) rfl (by kernel_rfl) (by kernel_rfl) (by kernel_rfl) (by kernel_rfl) (fun _ _ _ h => h) hS (by rfl) ?_ ?_
                rotate_left
                · (intro w' hw'; first | (go_simp; done) | (go_simp; with_reducible rfl))
                try simp only [Act.put, List.setIfInBounds_toArray, List.set_cons_zero, List.set_cons_succ]
                refine J_take (i := 9) (v := ?_) rfl (by kernel_rfl) (by kernel_rfl) (by kernel_rfl) (by kernel_rfl) (fun _ _ _ h => h) hS (by rfl) ?_ ?_
                rotate_left
                · (intro w' hw'; first | (go_simp; done) | (go_simp; with_reducible rfl))
                try simp only [Act.put, List.setIfInBounds_toArray, List.set_cons_zero, List.set_cons_succ]
                refine J_take (i := 10) (v := ?_) rfl (by kernel_rfl) (by kernel_rfl) (by kernel_rfl) (by kernel_rfl) (fun _ _ _ h => h) hS (by rfl) ?_ ?_
                rotate_left
                · (intro w' hw'; first | (go_simp; done) | (go_simp; with_reducible rfl))
                try simp only [Act.put, List.setIfInBounds_toArray, List.set_cons_zero, List.set_cons_succ]
                refine J_step (i := 7) (by kernel_rfl) rfl (fun K hK => ?_)
                go_simp
                refine hK.out _ _ (fun _ => (World.cell?_alloc_old _ _ _ (Nat.ne_of_lt hbW)).trans hS) (fun _ => ?_)
                clear hK K
                try simp only [Act.put, List.setIfInBounds_toArray, List.set_cons_zero, List.set_cons_succ]
                have hw3 := HBW.out.size
                refine J_step (i := 11) (by kernel_rfl) rfl (fun K hK => ?_)
                refine step_append tyI rfl _ _ rfl (own_int w3 w3.heap.size z (Nat.le_refl _)) ((HSRC.out.mono (below_alloc w3 _)).src) rfl rfl (by omega) (by omega) (by simp) ?_
                intro v1 w4 own4 hg4
                have hb4 : Below w3.heap.size w3 w4 := (below_alloc w3 (.cells #[Value.int .i64 z] 3)).grown hg4 (by simp) (fun q hq => by cases hq; exact Nat.le_refl _)
                rw [← ivs_append] at own4
                obtain ⟨a4, c4, rfl, hi4⟩ := own_is own4 (fun x hx => by
                  rcases List.mem_append.1 hx with h | h
                  · rw [List.mem_singleton.1 h]; exact hwk
                  · exact HKy.out.wf x (List.mem_of_mem_drop h))
                have hS4 : w4.cell? ⟨b, off + k, none⟩ = some (.int .i64 z) := (hb4.cell (p := ⟨b, off + k, none⟩) hbW).trans hS
                refine hK.out _ _ (fun _ => hS4) (fun _ => ?_)
                clear hK K
                try simp only [Act.put, List.setIfInBounds_toArray, List.set_cons_zero, List.set_cons_succ]
                have hzw4 := hb4.size
                refine J_step (i := 12) (by kernel_rfl) rfl (fun K hK => ?_)
                refine step_append tyI rfl _ _ rfl (own_below HPR.out hb4) hi4.src rfl rfl (by omega) (by omega) (by omega) ?_
                intro v5 w5 own5 hg5
                have hb5 : Below w.heap.size w w5 := (HBW.out.trans (hb4.mono hw3)).grown hg5 (by omega) (fun g hg => (HPR.out.lt g hg).1)
                have hS5 : w5.cell? ⟨b, off + k, none⟩ = some (.int .i64 z) := (hg5.cell hS4 (fun e => by have := (HPR.out.lt b e.symm).1; omega))
                have HF := Lib.hid (HNEW.out _ _ (by rw [HOJ.out]; exact own5) hb5)
                refine hK.out _ _ (fun _ => hS5) (fun _ => ?_)
                clear hK K own4 own5 hg4 hg5 hi4
                try simp only [Act.put, List.setIfInBounds_toArray, List.set_cons_zero, List.set_cons_succ]
                refine J_step (i := 13) (by kernel_rfl) rfl (fun K hK => ?_)
                go_simp
                refine hK.out _ _ (fun h => absurd rfl h) (fun _ => ?_)
                clear hK K
                try simp only [Act.put, List.setIfInBounds_toArray, List.set_cons_zero, List.set_cons_succ]
                refine J_done (by kernel_rfl) ?_ _
                refine NoPanic.normal ?_
                go_wp2
                go_roundw
                case rel => exact ⟨k + 1, _, by omega, by go_num, HF⟩
                case measure => simp [intOf]; omega
              · have hvcj' : ¬ vc = 0 := fun h => hvcj h.symm
                have hvle : 0 ≤ vc := by have := HIOy.out.hle; omega
                have HPRE : Hid (wy.ownsRow w.heap.size 3 1 (.slice (some ⟨g, 0, none⟩) 0 vc) 0 (ivs (o.take 0))) := Lib.hid (by
                  have h := own_prefix HKy.out.own 0 hj
                  have e : (ivs o).take 0 = ivs (o.take 0) := by simp [ivs, List.map_take]
                  rw [e] at h; exact h)
                have HDR : Hid (Is .i64 wy (some ⟨g, 0 + 0, none⟩) (o.length - 0) (vc - 0) (o.drop 0)) := Lib.hid (HIOy.out.tail 0 hj _ (fun _ => rfl))
                -- the region in which it goes in
                have hIN := Mg.ins_down o z 0 HKy.out.dn hj (.inl rfl) HLT.out
                have hdl : (o.drop 0).length = o.length - 0 := List.length_drop
                have HNEW : Hid (∀ v' w', w'.ownsRow w.heap.size 3 1 v' (0 + (1 + (o.length - 0))) (ivs (o.take 0) ++ ivs (z :: o.drop 0)) → Below w.heap.size w w' → US w w' v' l (o.take 0 ++ (z :: o.drop 0)) (k + 1)) := Lib.hid (fun v' w' hown hbel => ⟨by
                    have e : (o.take 0 ++ (z :: o.drop 0)).length = 0 + (1 + (o.length - 0)) := by simp; omega
                    rw [e, ivs_append]; exact hown, hbel, hIN.1, by
                    rw [HPS.out]
                    exact hIN.2.trans ((HKy.out.perm.cons z).trans (List.perm_append_comm (l₁ := [z]))), fun x hx => by
                    rcases List.mem_append.1 hx with h | h
                    · exact HKy.out.wf x (List.mem_of_mem_take h)
                    · rcases List.mem_cons.1 h with rfl | h
                      · exact hwk
                      · exact HKy.out.wf x (List.mem_of_mem_drop h), by simp; omega⟩)
                clear hIN
                refine wp_region_noPanic ?_
                refine region_J 13 (fun w' => w'.cell? ⟨b, off + k, none⟩ = some (.int .i64 z)) (by kernel_rfl) ?_
                have hS : wy.drew.cell? ⟨b, off + k, none⟩ = some (.int .i64 z) := c1
                have HPR : Hid (wy.drew.ownsRow w.heap.size 3 1 (.slice (some ⟨g, 0, none⟩) 0 vc) 0 (ivs (o.take 0))) := Lib.hid (own_below HPRE.out (drewN_is wy 1))
                have HSRC : Hid (Is .i64 wy.drew (some ⟨g, 0 + 0, none⟩) (o.length - 0) (vc - 0) (o.drop 0)) := Lib.hid (HDR.out.mono (drewN_is wy 1))
                have HBW : Hid (Below w.heap.size w wy.drew) := Lib.hid (HKy.out.bel.trans ((drewN_is wy 1).mono HKy.out.bel.size))
                have hbW : b < wy.drew.heap.size := hbl
                clear HPRE HDR
                revert hS HPR HSRC HBW hbW
                generalize wy.drew = w3
                intro hS HPR HSRC HBW hbW
                refine J_take (i := 0) (v := ?_) rfl (by kernel_rfl) (by kernel_rfl) (by kernel_rfl) (by kernel_rfl) (fun _ _ _ h => h) hS (by rfl) ?_ ?_
                rotate_left
                · (intro w' hw'; first | (go_simp; done) | (go_simp; with_reducible rfl))
                try simp only [Act.put, List.setIfInBounds_toArray, List.set_cons_zero, List.set_cons_succ]
                refine J_take (i := 1) (v := ?_) rfl (by kernel_rfl) (by kernel_rfl) (by kernel_rfl) (by kernel_rfl) (fun _ _ _ h => h) hS (by rfl) ?_ ?_
                rotate_left
                · (intro w' hw'; first | (go_simp; done) | (go_simp; with_reducible rfl))
                try simp only [Act.put, List.setIfInBounds_toArray, List.set_cons_zero, List.set_cons_succ]
                refine J_take (i := 2) (v := ?_) rfl (by kernel_rfl) (by kernel_rfl) (by kernel_rfl) (by kernel_rfl) (fun _ _ _ h => h) hS (by rfl) ?_ ?_
                rotate_left
                · (intro w' hw'; first | (go_simp; done) | (go_simp; with_reducible rfl))
                try simp only [Act.put, List.setIfInBounds_toArray, List.set_cons_zero, List.set_cons_succ]
                refine J_take (i := 3) (v := ?_) rfl (by kernel_rfl) (by kernel_rfl) (by kernel_rfl) (by kernel_rfl) (fun _ _ _ h => h) hS (by rfl) ?_ ?_
                rotate_left
                · (intro w' hw'; first | (go_simp; done) | (go_simp; with_reducible rfl))
                try simp only [Act.put, List.setIfInBounds_toArray, List.set_cons_zero, List.set_cons_succ]
                refine J_take (i := 4) (v := ?_) rfl (by kernel_rfl) (by kernel_rfl) (by kernel_rfl) (by kernel_rfl) (fun _ _ _ h => h) hS (by rfl) ?_ ?_
                rotate_left
                · (intro w' hw'; first | (go_simp; done) | (go_simp; with_reducible rfl))
                try simp only [Act.put, List.setIfInBounds_toArray, List.set_cons_zero, List.set_cons_succ]
                refine J_take (i := 5) (v := ?_) rfl (by kernel_rfl) (by kernel_rfl) (by kernel_rfl) (by kernel_rfl) (fun _ _ _ h => h) hS (by rfl) ?_ ?_
                rotate_left
                · (intro w' hw'; first | (go_simp; done) | (go_simp; with_reducible rfl))
                try simp only [Act.put, List.setIfInBounds_toArray, List.set_cons_zero, List.set_cons_succ]
                refine J_take (i := 6) (v := ?_) rfl (by kernel_rfl) (by kernel_rfl) (by kernel_rfl) (by kernel_rfl) (fun _ _ _ h => h) hS (by rfl) ?_ ?_
                rotate_left
                · (intro w' hw'; first | (go_simp; done) | (go_simp; with_reducible rfl))
                try simp only [Act.put, List.setIfInBounds_toArray, List.set_cons_zero, List.set_cons_succ]
                refine J_take (i := 8) (v := ?_) rfl (by kernel_rfl) (by kernel_rfl) (by kernel_rfl) (by kernel_rfl) (fun _ _ _ h => h) hS (by rfl) ?_ ?_
                rotate_left
                · (intro w' hw'; first | (go_simp; done) | (go_simp; with_reducible rfl))
                try simp only [Act.put, List.setIfInBounds_toArray, List.set_cons_zero, List.set_cons_succ]
                refine J_take (i := 9) (v := ?_) rfl (by kernel_rfl) (by kernel_rfl) (by kernel_rfl) (by kernel_rfl) (fun _ _ _ h => h) hS (by rfl) ?_ ?_
                rotate_left
                · (intro w' hw'; first | (go_simp; done) | (go_simp; with_reducible rfl))
                try simp only [Act.put, List.setIfInBounds_toArray, List.set_cons_zero, List.set_cons_succ]
                refine J_take (i := 10) (v := ?_) rfl (by kernel_rfl) (by kernel_rfl) (by kernel_rfl) (by kernel_rfl) (fun _ _ _ h => h) hS (by rfl) ?_ ?_
                rotate_left
                · (intro w' hw'; first | (go_simp; done) | (go_simp; with_reducible rfl))
                try simp only [Act.put, List.setIfInBounds_toArray, List.set_cons_zero, List.set_cons_succ]
                refine J_step (i := 7) (by kernel_rfl) rfl (fun K hK => ?_)
                go_simp
                refine hK.out _ _ (fun _ => (World.cell?_alloc_old _ _ _ (Nat.ne_of_lt hbW)).trans hS) (fun _ => ?_)
                clear hK K
                try simp only [Act.put, List.setIfInBounds_toArray, List.set_cons_zero, List.set_cons_succ]
                have hw3 := HBW.out.size
                refine J_step (i := 11) (by kernel_rfl) rfl (fun K hK => ?_)
                refine step_append tyI rfl _ _ rfl (own_int w3 w3.heap.size z (Nat.le_refl _)) ((HSRC.out.mono (below_alloc w3 _)).src) rfl rfl (by omega) (by omega) (by simp) ?_
                intro v1 w4 own4 hg4
                have hb4 : Below w3.heap.size w3 w4 := (below_alloc w3 (.cells #[Value.int .i64 z] 3)).grown hg4 (by simp) (fun q hq => by cases hq; exact Nat.le_refl _)
                rw [← ivs_append] at own4
                obtain ⟨a4, c4, rfl, hi4⟩ := own_is own4 (fun x hx => by
                  rcases List.mem_append.1 hx with h | h
                  · rw [List.mem_singleton.1 h]; exact hwk
                  · exact HKy.out.wf x (List.mem_of_mem_drop h))
                have hS4 : w4.cell? ⟨b, off + k, none⟩ = some (.int .i64 z) := (hb4.cell (p := ⟨b, off + k, none⟩) hbW).trans hS
                refine hK.out _ _ (fun _ => hS4) (fun _ => ?_)
                clear hK K
                try simp only [Act.put, List.setIfInBounds_toArray, List.set_cons_zero, List.set_cons_succ]
                have hzw4 := hb4.size
                refine J_step (i := 12) (by kernel_rfl) rfl (fun K hK => ?_)
                refine step_append tyI rfl _ _ rfl (own_below HPR.out hb4) hi4.src rfl rfl (by omega) (by omega) (by omega) ?_
                intro v5 w5 own5 hg5
                have hb5 : Below w.heap.size w w5 := (HBW.out.trans (hb4.mono hw3)).grown hg5 (by omega) (fun g hg => (HPR.out.lt g hg).1)
                have hS5 : w5.cell? ⟨b, off + k, none⟩ = some (.int .i64 z) := (hg5.cell hS4 (fun e => by have := (HPR.out.lt b e.symm).1; omega))
                have HF := Lib.hid (HNEW.out _ _ own5 hb5)
                refine hK.out _ _ (fun _ => hS5) (fun _ => ?_)
                clear hK K own4 own5 hg4 hg5 hi4
                try simp only [Act.put, List.setIfInBounds_toArray, List.set_cons_zero, List.set_cons_succ]
                refine J_step (i := 13) (by kernel_rfl) rfl (fun K hK => ?_)
                go_simp
                refine hK.out _ _ (fun h => absurd rfl h) (fun _ => ?_)
                clear hK K
                try simp only [Act.put, List.setIfInBounds_toArray, List.set_cons_zero, List.set_cons_succ]
                refine J_done (by kernel_rfl) ?_ _
                refine NoPanic.normal ?_
                go_wp2
                go_roundw
                case rel => exact ⟨k + 1, _, by omega, by go_num, HF⟩
                case measure => simp [intOf]; omega
      · have dz : decide (0 < z) = false := by simpa using hpz
        rw [if_neg hpz, List.append_nil] at HPS
        have HK2 : Hid (US w wr (.slice va o.length vc) l o (k + 1)) := Lib.hid ⟨HK.out.own, HK.out.bel, HK.out.dn, by rw [HPS.out]; exact HK.out.perm, HK.out.wf, by omega⟩
        clear hpz HK
        go_wp2
        go_roundw
        case rel => exact ⟨k + 1, o, by omega, by go_num, HK2⟩
        case measure => simp [intOf]; omega
    · obtain rfl : len = k := by omega
      obtain ⟨va, vc, rfl, hio⟩ := own_is HK.out.own HK.out.wf
      have hfull : l.take len = l := List.take_of_length_le (by rw [HL.out]; exact Nat.le_refl _)
      have hp := HK.out.perm
      rw [hfull] at hp
      have HE := Lib.hid (Mg.down_rise l o HK.out.dn hp)
      clear hio hp hfull
      go_wp2
      go_ret
      exact ⟨_, o, rfl, HK.out.own, HK.out.bel, HE.out, by rw [← Mg.rise_length, ← HE.out, List.length_reverse]⟩
end Go.Proofs.YtjjbgdmalefdlaaGreatDoor
end
