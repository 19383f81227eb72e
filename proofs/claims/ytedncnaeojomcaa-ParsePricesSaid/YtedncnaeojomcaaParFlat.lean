/- The law's flat prices. -/
import Derived.Test.YtedncnaeojomcaaParGood
import Derived.Test.YtedncnaeojomcaaIntsGet
import Derived.Test.YtedncnaeojomcaaCh
namespace Go.Proofs.Ytedncnaeojomcaa
open Go.RowKit
namespace Pa
def fl1 (x : Int) (k : Nat) : List Int := List.replicate k x
def fl2 (x : Int) (k : Nat) : List Int := (List.range k).map fun n : Nat => x + (n : Int) % 7
def fl3 (x : Int) (k : Nat) : List Int := (List.range k).map fun n : Nat => x * (n : Int)
theorem fl1_next (x : Int) (k : Nat) : fl1 x (k + 1) = fl1 x k ++ [x] := by unfold fl1; rw [List.replicate_succ', ]
theorem fl2_next (x : Int) (k : Nat) : fl2 x (k + 1) = fl2 x k ++ [x + (k : Int) % 7] := by unfold fl2; rw [List.range_succ, List.map_append]; rfl
theorem fl3_next (x : Int) (k : Nat) : fl3 x (k + 1) = fl3 x k ++ [x * (k : Int)] := by unfold fl3; rw [List.range_succ, List.map_append]; rfl
end Pa
namespace Pa
def nl : Value := .slice none 0 0
/-- The prices as they grow. -/
structure Fq (w0 wr : World) (B : Nat) (cs : Array Value) : Prop where
  row : wr.heap[w0.heap.size + 1]? = some (.cells cs 25 (0, 0))
  res : wr.heap[w0.heap.size]? = some (.cells #[nl, nl, nl] 25 (0, 0))
  bel : Below w0.heap.size w0 wr
  b1 : w0.heap.size + 2 ≤ B
  b2 : B ≤ wr.heap.size
theorem Fq.up {w0 wr : World} {B B' : Nat} {cs : Array Value} (h : Fq w0 wr B cs) (h1 : B ≤ B') (h2 : B' ≤ wr.heap.size) : Fq w0 wr B' cs := ⟨h.row, h.res, h.bel, Nat.le_trans h.b1 h1, h2⟩
theorem fq_step {w0 wr w' : World} {B j m m' : Nat} {cs : Array Value} {v v' : Value} {l l' : List Value} {o : Obj} (h : Fq w0 wr B cs) (hv : wr.ownsRow B 3 1 v m l) (hg : (wr.alloc o).grownBy w' v.ownBlock) (hv' : w'.ownsRow B 3 1 v' m' l') :
    Fq w0 (w'.setCell ⟨w0.heap.size + 1, j, none⟩ v') B (cs.setIfInBounds j v') ∧ (w'.setCell ⟨w0.heap.size + 1, j, none⟩ v').ownsRow B 3 1 v' m' l' ∧
      ∀ {B0 : Nat} {u : Value} {n : Nat} {xs : List Value}, w0.heap.size + 2 ≤ B0 → wr.ownsRow B0 3 1 u n xs → (∀ b, u.ownBlock = some b → b < B) → (w'.setCell ⟨w0.heap.size + 1, j, none⟩ v').ownsRow B0 3 1 u n xs := by
  have hb1 := h.b1
  have hb2 := h.b2
  have hvb : ∀ k, k < B → some k ≠ v.ownBlock := fun k hk e => by have := (hv.lt k e.symm).1; omega
  have kp : ∀ k, k < B → w'.heap[k]? = wr.heap[k]? := fun k hk => (hg.block k (by simp; omega) (hvb k hk)).trans (Below.heap_alloc wr o k (by omega))
  have hr1 := (kp (w0.heap.size + 1) (by omega)).trans h.row
  have hr0 := (kp w0.heap.size (by omega)).trans h.res
  have hc : Ch w' (w'.setCell ⟨w0.heap.size + 1, j, none⟩ v') (fun k => k = w0.heap.size + 1) := (Ch.refl w' (fun k => k = w0.heap.size + 1)).set (.inl rfl) _
  have hsz : wr.heap.size ≤ w'.heap.size := Nat.le_trans (by simp) hg.size
  have hbw : Below w0.heap.size w0 w' := (h.bel.alloc h.bel.size o).grown hg (by simp; have := h.bel.size; omega) (fun k e => by have := (hv.lt k e).1; omega)
  refine ⟨⟨heap_setCell_same w' _ j _ _ _ hr1, (hc.block _ (Array.getElem?_eq_some_iff.1 hr0).1 (by omega)).trans hr0, hbw.setCell (p := ⟨w0.heap.size + 1, j, none⟩) (by show w0.heap.size ≤ w0.heap.size + 1; omega) _, hb1, Nat.le_trans (by omega) hc.size⟩, hc.own hv' (fun b e => by have := (hv'.lt b e).1; omega), @fun B0 u n xs hB0 hu hub => ?_⟩
  have h1 := own_below hu (below_alloc wr o)
  have h2 := h1.kept hg (by
    cases e : u.ownBlock with
    | none => exact .inl rfl
    | some b => exact .inr (hvb b (hub b e)))
  exact hc.own h2 (fun b e => by have := (hu.lt b e).1; omega)
end Pa
set_option maxRecDepth 100000 in
set_option maxHeartbeats 8000000 in
theorem flat_any (x1 x2 x3 : Nat) (w : World) (h1 : x1 ≤ 100000) (h2 : x2 ≤ 100000) (h3 : x3 ≤ 100000) :
    Calls Try.prog 7 #[.int .i64 (x1 : Nat), .int .i64 (x2 : Nat), .int .i64 (x3 : Nat)] w fun e w' => ∃ v1 v2 v3, e = .returned (.agg #[v1, v2, v3]) ∧ w'.ownsRow w.heap.size 3 1 v1 256 (ivs (Pa.fl1 x1 256)) ∧ w'.ownsRow w.heap.size 3 1 v2 259 (ivs (Pa.fl2 x2 259)) ∧ w'.ownsRow w.heap.size 3 1 v3 30 (ivs (Pa.fl3 x3 30)) ∧ Below w.heap.size w w' := by
  go_enter Try.func7, Try.ntmps7
  have hb0 := below_alloc2 w (.cells #[.slice none 0 0, .slice none 0 0, .slice none 0 0] 25) (.cells #[.slice none 0 0, .slice none 0 0, .slice none 0 0] 25)
  have HQ0 : Hid (Pa.Fq w ((w.alloc (.cells #[.slice none 0 0, .slice none 0 0, .slice none 0 0] 25)).alloc (.cells #[.slice none 0 0, .slice none 0 0, .slice none 0 0] 25)) (w.heap.size + 2) #[Pa.nl, Pa.nl, Pa.nl]) :=
    Lib.hid ⟨heap_alloc2_new w _ _, heap_alloc2_old w _ _, hb0, Nat.le_refl _, by simp⟩
  clear hb0
  go_wp2
  revert HQ0
  generalize (w.alloc (.cells #[.slice none 0 0, .slice none 0 0, .slice none 0 0] 25)).alloc (.cells #[.slice none 0 0, .slice none 0 0, .slice none 0 0] 25) = W0
  intro HQ0
  go_loopw [11] (fun i wr => ∃ k : Nat, k ≤ 256 ∧ i = .int .i64 ((k : Nat) : Int) ∧ Hid (∃ v1, Pa.Fq w wr (w.heap.size + 2) #[v1, Pa.nl, Pa.nl] ∧ wr.ownsRow (w.heap.size + 2) 3 1 v1 k (ivs (Pa.fl1 x1 k)))) (fun i _ => 256 - (intOf i).toNat)
  case atStart => exact ⟨0, by omega, rfl, Lib.hid ⟨Pa.nl, HQ0.out, World.ownsRow_nil _ _ _ _⟩⟩
  case round =>
    clear HQ0
    obtain ⟨k, hk, rfl, HQ⟩ := hrel
    obtain ⟨v1, hq, ho⟩ := HQ.out
    obtain ⟨va, vc, rfl⟩ : ∃ va vc, v1 = .slice va k vc := by
      rcases own_nil_or ho with ⟨h1, h2⟩ | ⟨g', cap', h1, _⟩
      · exact ⟨none, 0, by rw [h1, h2]⟩
      · exact ⟨_, _, h1⟩
    have hbz := hq.b2
    have hb1 := hq.b1
    have c0 : wr.cell? ⟨w.heap.size + 1, 0, none⟩ = some (.slice va k vc) := by rw [cell_of_row _ _ _ _ _ (0, 0) hq.row]; rfl
    by_cases hlt : k < 256
    · have d1 : decide ((k : Int) < 256) = true := by simp; omega
      have HNX : Hid (Pa.fl1 x1 (k + 1) = Pa.fl1 x1 k ++ [(x1 : Int)]) := Lib.hid (Pa.fl1_next _ _)
      skip
      go_wp2_with (at_builtin; refine wpl_append tyI rfl _ _ rfl (own_below ho (below_alloc wr _)) (src_int wr (x1 : Nat)) rfl rfl (by omega) (by omega) (by simp; omega) ?_)
      intro v' w' own' hg' _
      rw [← ivs_append, ← HNX.out] at own'
      obtain ⟨hq', ho', hkp⟩ := Pa.fq_step (j := 0) hq ho hg' own'
      obtain ⟨va', vc', rfl⟩ : ∃ va' vc', v' = .slice va' (k + 1) vc' := by
        rcases own_nil_or own' with ⟨h1, h2⟩ | ⟨g', cap', h1, _⟩
        · omega
        · exact ⟨_, _, h1⟩
      have hrw := hq'.row
      have HN : Hid (∃ v1, Pa.Fq w (w'.setCell ⟨w.heap.size + 1, 0, none⟩ (.slice va' (k + 1) vc')) (w.heap.size + 2) #[v1, Pa.nl, Pa.nl] ∧ (w'.setCell ⟨w.heap.size + 1, 0, none⟩ (.slice va' (k + 1) vc')).ownsRow (w.heap.size + 2) 3 1 v1 (k + 1) (ivs (Pa.fl1 x1 (k + 1)))) := Lib.hid ⟨_, hq', ho'⟩
      have hw0 : ∃ z, w'.cell? ⟨w.heap.size + 1, 0, none⟩ = some z ∧ w'.frozen? ⟨w.heap.size + 1, 0, none⟩ = false := by
        have e := (hg'.block (w.heap.size + 1) (by simp; omega) (fun e => by have := (ho.lt _ e.symm).1; omega)).trans ((Below.heap_alloc wr _ (w.heap.size + 1) (by omega)).trans hq.row)
        exact ⟨_, by rw [cell_of_row _ _ _ _ _ (0, 0) e]; rfl, frozen_of_row w' _ 0 _ _ e⟩
      obtain ⟨z0, z1, z2⟩ := hw0
      clear hq ho hg' own' hq' ho' hkp hrw c0 HQ
      go_wp2
      go_roundw
      case rel => exact ⟨k + 1, by omega, by go_num, HN⟩
      case measure => simp [intOf]; omega
    · have ek : k = 256 := by omega
      have d1 : decide ((k : Int) < 256) = false := by simp; omega
      have ho2 : wr.ownsRow (w.heap.size + 2) 3 1 (.slice va k vc) 256 (ivs (Pa.fl1 x1 256)) := by have h9 := ho; rw [ek] at h9 ⊢; exact h9
      obtain ⟨B2, hB2⟩ : ∃ B2, wr.heap.size = B2 := ⟨_, rfl⟩
      have HQ1 : Hid (Pa.Fq w wr B2 #[.slice va k vc, Pa.nl, Pa.nl] ∧ wr.ownsRow (w.heap.size + 2) 3 1 (.slice va k vc) 256 (ivs (Pa.fl1 x1 256))) := Lib.hid ⟨hq.up (by omega) (by omega), ho2⟩
      have HV1 : Hid (∀ b, (Value.slice va k vc).ownBlock = some b → b < B2) := Lib.hid (fun b e => by have := (ho.lt b e).2; omega)
      clear hq ho ho2 ek hk hlt c0 HQ hB2
      generalize Value.slice va k vc = v1 at *
      go_wp2
      go_loopw [20] (fun i wr => ∃ k : Nat, k ≤ 259 ∧ i = .int .i64 ((k : Nat) : Int) ∧ Hid (∃ v2, Pa.Fq w wr B2 #[v1, v2, Pa.nl] ∧ wr.ownsRow (w.heap.size + 2) 3 1 v1 256 (ivs (Pa.fl1 x1 256)) ∧ wr.ownsRow B2 3 1 v2 k (ivs (Pa.fl2 x2 k)))) (fun i _ => 259 - (intOf i).toNat)
      case atStart => exact ⟨0, by omega, rfl, Lib.hid ⟨Pa.nl, HQ1.out.1, HQ1.out.2, World.ownsRow_nil _ _ _ _⟩⟩
      case round =>
        clear HQ1
        obtain ⟨k, hk, rfl, HQ⟩ := hrel
        obtain ⟨v2, hq, hk1, ho⟩ := HQ.out
        obtain ⟨va, vc, rfl⟩ : ∃ va vc, v2 = .slice va k vc := by
          rcases own_nil_or ho with ⟨h1, h2⟩ | ⟨g', cap', h1, _⟩
          · exact ⟨none, 0, by rw [h1, h2]⟩
          · exact ⟨_, _, h1⟩
        have hbz := hq.b2
        have hb1 := hq.b1
        have c0 : wr.cell? ⟨w.heap.size + 1, 1, none⟩ = some (.slice va k vc) := by rw [cell_of_row _ _ _ _ _ (0, 0) hq.row]; rfl
        by_cases hlt : k < 259
        · have d1 : decide ((k : Int) < 259) = true := by simp; omega
          have HNX : Hid (Pa.fl2 x2 (k + 1) = Pa.fl2 x2 k ++ [(x2 : Int) + (k : Int) % 7]) := Lib.hid (Pa.fl2_next _ _)
          have hm7 : wrap64 ((x2 : Int) + (k : Int) % 7) = (x2 : Int) + (k : Int) % 7 := by rw [IntWalk.wrap64_in _ ⟨by omega, by omega⟩]
          go_wp2_with (at_builtin; refine wpl_append tyI rfl _ _ rfl (own_below ho (below_alloc wr _)) (src_int wr _) rfl rfl (by omega) (by omega) (by simp; omega) ?_)
          intro v' w' own' hg' _
          rw [← ivs_append, ← HNX.out] at own'
          obtain ⟨hq', ho', hkp⟩ := Pa.fq_step (j := 1) hq ho hg' own'
          obtain ⟨va', vc', rfl⟩ : ∃ va' vc', v' = .slice va' (k + 1) vc' := by
            rcases own_nil_or own' with ⟨h1, h2⟩ | ⟨g', cap', h1, _⟩
            · omega
            · exact ⟨_, _, h1⟩
          have hrw := hq'.row
          have HN : Hid (∃ v2, Pa.Fq w (w'.setCell ⟨w.heap.size + 1, 1, none⟩ (.slice va' (k + 1) vc')) B2 #[v1, v2, Pa.nl] ∧ (w'.setCell ⟨w.heap.size + 1, 1, none⟩ (.slice va' (k + 1) vc')).ownsRow (w.heap.size + 2) 3 1 v1 256 (ivs (Pa.fl1 x1 256)) ∧ (w'.setCell ⟨w.heap.size + 1, 1, none⟩ (.slice va' (k + 1) vc')).ownsRow B2 3 1 v2 (k + 1) (ivs (Pa.fl2 x2 (k + 1)))) := Lib.hid ⟨_, hq', hkp (by omega) hk1 HV1.out, ho'⟩
          have hw0 : ∃ z, w'.cell? ⟨w.heap.size + 1, 1, none⟩ = some z ∧ w'.frozen? ⟨w.heap.size + 1, 1, none⟩ = false := by
            have e := (hg'.block (w.heap.size + 1) (by simp; omega) (fun e => by have := (ho.lt _ e.symm).1; omega)).trans ((Below.heap_alloc wr _ (w.heap.size + 1) (by omega)).trans hq.row)
            exact ⟨_, by rw [cell_of_row _ _ _ _ _ (0, 0) e]; rfl, frozen_of_row w' _ 1 _ _ e⟩
          obtain ⟨z0, z1, z2⟩ := hw0
          clear hq ho hg' own' hq' ho' hkp hrw c0 HQ hk1
          go_wp2
          go_roundw
          case rel => exact ⟨k + 1, by omega, by go_num, HN⟩
          case measure => simp [intOf]; omega
        · have ek : k = 259 := by omega
          have d1 : decide ((k : Int) < 259) = false := by simp; omega
          have ho2 : wr.ownsRow B2 3 1 (.slice va k vc) 259 (ivs (Pa.fl2 x2 259)) := by have h9 := ho; rw [ek] at h9 ⊢; exact h9
          obtain ⟨B3, hB3⟩ : ∃ B3, wr.heap.size = B3 := ⟨_, rfl⟩
          have HQ2 : Hid (Pa.Fq w wr B3 #[v1, .slice va k vc, Pa.nl] ∧ wr.ownsRow (w.heap.size + 2) 3 1 v1 256 (ivs (Pa.fl1 x1 256)) ∧ wr.ownsRow B2 3 1 (.slice va k vc) 259 (ivs (Pa.fl2 x2 259))) := Lib.hid ⟨hq.up (by omega) (by omega), hk1, ho2⟩
          have HV2 : Hid (∀ b, (Value.slice va k vc).ownBlock = some b → b < B3) := Lib.hid (fun b e => by have := (ho.lt b e).2; omega)
          have HV13 : Hid (∀ b, v1.ownBlock = some b → b < B3) := Lib.hid (fun b e => by have := (hk1.lt b e).2; omega)
          have HBB : Hid (w.heap.size + 2 ≤ B2) := Lib.hid hb1
          clear hq ho ho2 ek hk hlt hk1 c0 HQ hB3
          generalize Value.slice va k vc = v2 at *
          go_wp2
          go_loopw [33] (fun i wr => ∃ k : Nat, k ≤ 30 ∧ i = .int .i64 ((k : Nat) : Int) ∧ Hid (∃ v3, Pa.Fq w wr B3 #[v1, v2, v3] ∧ wr.ownsRow (w.heap.size + 2) 3 1 v1 256 (ivs (Pa.fl1 x1 256)) ∧ wr.ownsRow B2 3 1 v2 259 (ivs (Pa.fl2 x2 259)) ∧ wr.ownsRow B3 3 1 v3 k (ivs (Pa.fl3 x3 k)))) (fun i _ => 30 - (intOf i).toNat)
          case atStart => exact ⟨0, by omega, rfl, Lib.hid ⟨Pa.nl, HQ2.out.1, HQ2.out.2.1, HQ2.out.2.2, World.ownsRow_nil _ _ _ _⟩⟩
          case round =>
            clear HQ2
            obtain ⟨k, hk, rfl, HQ⟩ := hrel
            obtain ⟨v3, hq, hk1, hk2, ho⟩ := HQ.out
            obtain ⟨va, vc, rfl⟩ : ∃ va vc, v3 = .slice va k vc := by
              rcases own_nil_or ho with ⟨h1, h2⟩ | ⟨g', cap', h1, _⟩
              · exact ⟨none, 0, by rw [h1, h2]⟩
              · exact ⟨_, _, h1⟩
            have hbz := hq.b2
            have hb1 := hq.b1
            have c0 : wr.cell? ⟨w.heap.size + 1, 2, none⟩ = some (.slice va k vc) := by rw [cell_of_row _ _ _ _ _ (0, 0) hq.row]; rfl
            by_cases hlt : k < 30
            · have d1 : decide ((k : Int) < 30) = true := by simp; omega
              have HNX : Hid (Pa.fl3 x3 (k + 1) = Pa.fl3 x3 k ++ [(x3 : Int) * (k : Int)]) := Lib.hid (Pa.fl3_next _ _)
              have hme : (x3 : Int) * (k : Int) = ((x3 * k : Nat) : Int) := by simp
              have hmn : x3 * k ≤ 100000 * 30 := Nat.mul_le_mul h3 (by omega)
              have hm : wrap64 ((x3 : Int) * (k : Int)) = (x3 : Int) * (k : Int) := by rw [IntWalk.wrap64_in _ ⟨by omega, by omega⟩]
              clear hme hmn
              go_wp2_with (at_builtin; refine wpl_append tyI rfl _ _ rfl (own_below ho (below_alloc wr _)) (src_int wr _) rfl rfl (by omega) (by omega) (by simp; omega) ?_)
              intro v' w' own' hg' _
              rw [← ivs_append, ← HNX.out] at own'
              obtain ⟨hq', ho', hkp⟩ := Pa.fq_step (j := 2) hq ho hg' own'
              obtain ⟨va', vc', rfl⟩ : ∃ va' vc', v' = .slice va' (k + 1) vc' := by
                rcases own_nil_or own' with ⟨h1, h2⟩ | ⟨g', cap', h1, _⟩
                · omega
                · exact ⟨_, _, h1⟩
              have hrw := hq'.row
              have HN : Hid (∃ v3, Pa.Fq w (w'.setCell ⟨w.heap.size + 1, 2, none⟩ (.slice va' (k + 1) vc')) B3 #[v1, v2, v3] ∧ (w'.setCell ⟨w.heap.size + 1, 2, none⟩ (.slice va' (k + 1) vc')).ownsRow (w.heap.size + 2) 3 1 v1 256 (ivs (Pa.fl1 x1 256)) ∧ (w'.setCell ⟨w.heap.size + 1, 2, none⟩ (.slice va' (k + 1) vc')).ownsRow B2 3 1 v2 259 (ivs (Pa.fl2 x2 259)) ∧ (w'.setCell ⟨w.heap.size + 1, 2, none⟩ (.slice va' (k + 1) vc')).ownsRow B3 3 1 v3 (k + 1) (ivs (Pa.fl3 x3 (k + 1)))) := Lib.hid ⟨_, hq', hkp (by omega) hk1 HV13.out, hkp (HBB.out) hk2 HV2.out, ho'⟩
              have hw0 : ∃ z, w'.cell? ⟨w.heap.size + 1, 2, none⟩ = some z ∧ w'.frozen? ⟨w.heap.size + 1, 2, none⟩ = false := by
                have e := (hg'.block (w.heap.size + 1) (by simp; omega) (fun e => by have := (ho.lt _ e.symm).1; omega)).trans ((Below.heap_alloc wr _ (w.heap.size + 1) (by omega)).trans hq.row)
                exact ⟨_, by rw [cell_of_row _ _ _ _ _ (0, 0) e]; rfl, frozen_of_row w' _ 2 _ _ e⟩
              obtain ⟨z0, z1, z2⟩ := hw0
              clear hq ho hg' own' hq' ho' hkp hrw c0 HQ hk1 hk2
              go_wp2
              go_roundw
              case rel => exact ⟨k + 1, by omega, by go_num, HN⟩
              case measure => simp [intOf]; omega
            · have ek : k = 30 := by omega
              have d1 : decide ((k : Int) < 30) = false := by simp; omega
              have ho2 : wr.ownsRow B3 3 1 (.slice va k vc) 30 (ivs (Pa.fl3 x3 30)) := by have h9 := ho; rw [ek] at h9 ⊢; exact h9
              obtain ⟨y1, z1, rfl⟩ : ∃ y1 z1, v1 = .slice (some ⟨y1, 0, none⟩) 256 z1 := by
                rcases own_nil_or hk1 with ⟨_, h2⟩ | ⟨g', cap', h1, _⟩
                · omega
                · exact ⟨_, _, h1⟩
              obtain ⟨y2, z2, rfl⟩ : ∃ y2 z2, v2 = .slice (some ⟨y2, 0, none⟩) 259 z2 := by
                rcases own_nil_or hk2 with ⟨_, h2⟩ | ⟨g', cap', h1, _⟩
                · omega
                · exact ⟨_, _, h1⟩
              have hbz2 := HBB.out
              have cp0 : wr.cell? ⟨w.heap.size + 1, 0, none⟩ = some (.slice (some ⟨y1, 0, none⟩) 256 z1) := by rw [cell_of_row _ _ _ _ _ (0, 0) hq.row]; rfl
              have cp1 : wr.cell? ⟨w.heap.size + 1, 1, none⟩ = some (.slice (some ⟨y2, 0, none⟩) 259 z2) := by rw [cell_of_row _ _ _ _ _ (0, 0) hq.row]; rfl
              have cr0 : wr.cell? ⟨w.heap.size, 0, none⟩ = some Pa.nl := by rw [cell_of_row _ _ _ _ _ (0, 0) hq.res]; rfl
              have cr1 : wr.cell? ⟨w.heap.size, 1, none⟩ = some Pa.nl := by rw [cell_of_row _ _ _ _ _ (0, 0) hq.res]; rfl
              have cr2 : wr.cell? ⟨w.heap.size, 2, none⟩ = some Pa.nl := by rw [cell_of_row _ _ _ _ _ (0, 0) hq.res]; rfl
              have fr0 := frozen_of_row wr w.heap.size 0 _ _ hq.res
              have fr1 := frozen_of_row wr w.heap.size 1 _ _ hq.res
              have fr2 := frozen_of_row wr w.heap.size 2 _ _ hq.res
              have HFIN := Lib.hid (And.intro hq (And.intro hk1 (And.intro hk2 ho2)))
              clear hq hk1 hk2 ho ho2 HQ ek hk hlt
              go_wp2
              obtain ⟨hq, hk1, hk2, ho⟩ := HFIN.out
              have r1 := heap_setCell_same wr w.heap.size 0 _ _ (.slice (some ⟨y1, 0, none⟩) 256 z1) hq.res
              have r2 := heap_setCell_same _ w.heap.size 1 _ _ (.slice (some ⟨y2, 0, none⟩) 259 z2) r1
              have r3 := heap_setCell_same _ w.heap.size 2 _ _ (.slice va k vc) r2
              have hc : Ch wr (((wr.setCell ⟨w.heap.size, 0, none⟩ (.slice (some ⟨y1, 0, none⟩) 256 z1)).setCell ⟨w.heap.size, 1, none⟩ (.slice (some ⟨y2, 0, none⟩) 259 z2)).setCell ⟨w.heap.size, 2, none⟩ (.slice va k vc)) (fun j => j = w.heap.size) :=
                (((Ch.refl wr (fun j => j = w.heap.size)).set (p := ⟨w.heap.size, 0, none⟩) (.inl rfl) _).set (p := ⟨w.heap.size, 1, none⟩) (.inl rfl) _).set (p := ⟨w.heap.size, 2, none⟩) (.inl rfl) _
              refine bodyPost_ret (results_cell_row (fn := Try.f7) (p := 6) rfl _ _ w.heap.size _ _ (0, 0) _ rfl r3 Try.underlying25 rfl (by kernel_rfl)) rfl ⟨_, _, _, rfl, ?_, ?_, ?_, hq.bel.trans (hc.below hq.bel.size (fun j hj => by rw [hj]; exact Nat.le_refl _))⟩
              · exact own_base (hc.own hk1 (fun b e => by have := (hk1.lt b e).1; omega)) (fun b e => by have := (hk1.lt b e).1; omega)
              · exact own_base (hc.own hk2 (fun b e => by have := (hk2.lt b e).1; omega)) (fun b e => by have := (hk2.lt b e).1; omega)
              · exact own_base (hc.own ho (fun b e => by have := (ho.lt b e).1; omega)) (fun b e => by have := (ho.lt b e).1; omega)
end Go.Proofs.Ytedncnaeojomcaa
