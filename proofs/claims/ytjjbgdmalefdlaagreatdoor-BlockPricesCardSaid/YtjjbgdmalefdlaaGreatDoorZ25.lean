/- The order of merge.rarestFirst: its comparison, by contract. -/
import Derived.Test.YtjjbgdmalefdlaaGreatDoorZ8
import Derived.Test.YtjjbgdmalefdlaaGreatDoorZ9
import Derived.Test.YtjjbgdmalefdlaaGreatDoorZ13
import Derived.Deep.QuietTactic
import Derived.BigQuiet
import Derived.Shelf.SlSortCmp.NoneTotal
import Derived.Shelf.SlicesG.Cmp
import Derived.Shelf.Lay
import Derived.Ground.SlsfProg
import Derived.Ground.SlgcProg
import Derived.Deep.RegionHeld3
set_option linter.unusedSimpArgs false
set_option linter.unusedVariables false
section
namespace Go.Proofs
open Go.Shelf
shelf_lay_g SlLaysF.n6 Slsf 6 at Tryz 119 as YtjjbgdmalefdlaaGreatDoor.sortL
shelf_lay_g SlLaysC2.n5 Slgc 5 at Tryz 122 as YtjjbgdmalefdlaaGreatDoor.cmpL
end Go.Proofs
namespace Go.Proofs.YtjjbgdmalefdlaaGreatDoor
open Go.RowKit Go.Shelf

theorem cmp_any (x y : Int) (w : World) : Calls Tryz.prog 122 #[.int .i64 x, .int .i64 y] w fun e w' => e = .returned (.int .i64 (Lib.compareInt x y)) ∧ w = w' := by
  have hcon := AnyG.cmp_Compare_int YtjjbgdmalefdlaaGreatDoor.cmpL x y w
  change Calls Tryz.prog 122 _ _ _ at hcon
  exact hcon.mono (by rintro e w' ⟨h1, h2⟩; exact ⟨h1, h2.symm⟩)
def orI (x y : Int) : Int := if x = 0 then y else x
theorem or_any (g : Nat) (x y : Int) (w : World) (h0 : w.cell? ⟨g, 0, none⟩ = some (.int .i64 x)) (h1 : w.cell? ⟨g, 1, none⟩ = some (.int .i64 y)) :
    Calls Tryz.prog 121 #[.slice (some ⟨g, 0, none⟩) 2 2] w fun e w' => e = .returned (.int .i64 (orI x y)) ∧ w = w' := by
  go_enter Tryz.func121, Tryz.ntmps121
  go_wp2
  go_loop [8] (fun i => ∃ k : Nat, k ≤ 2 ∧ i = .int .i64 k ∧ (0 < k → x = 0) ∧ (1 < k → y = 0)) (fun i => 2 - (intOf i).toNat)
  case atStart => exact ⟨0, by omega, rfl, by omega, by omega⟩
  case round =>
    obtain ⟨k, hk, rfl, hx, hy⟩ := hrel
    match k, hk with
    | 0, _ =>
      by_cases hz : x = 0
      · subst hz
        go_wp2
        go_round
        case rel => exact ⟨1, by omega, rfl, fun _ => trivial, by omega⟩
        case measure => simp [intOf]
      · have dz : (x != 0) = true := by simpa using hz
        go_wp2
        go_ret
        exact ⟨by unfold orI; rw [if_neg hz]; rfl, rfl⟩
    | 1, _ =>
      have hx0 := hx (by omega)
      subst hx0
      by_cases hz : y = 0
      · subst hz
        go_wp2
        go_round
        case rel => exact ⟨2, by omega, rfl, fun _ => trivial, fun _ => trivial⟩
        case measure => simp [intOf]
      · have dz : (y != 0) = true := by simpa using hz
        go_wp2
        go_ret
        exact ⟨by unfold orI; rw [if_pos rfl]; rfl, rfl⟩
    | 2, _ =>
      have hx0 := hx (by omega)
      have hy0 := hy (by omega)
      subst hx0
      subst hy0
      go_wp2
      go_ret
      exact ⟨by unfold orI; rw [if_pos rfl]; rfl, rfl⟩
/-- Which of two symbols comes first: the rarer one; of those that stand equally often, the greater one. -/
def cfO (c : Int → Int) (x y : Int) : Int := orI (Lib.compareInt (c x) (c y)) (Lib.compareInt y x)
set_option maxHeartbeats 4000000 in
set_option maxRecDepth 100000 in
theorem less_any (X b off len cap : Nat) (c : Int → Int) (x y : Nat) (W : World) (hx : x < len) (hy : y < len) (h0 : W.cell? ⟨X, 0, none⟩ = some (.slice (some ⟨b, off, none⟩) len cap))
    (h1 : W.cell? ⟨b, off + x, none⟩ = some (.int .i64 (c x))) (h2 : W.cell? ⟨b, off + y, none⟩ = some (.int .i64 (c y))) :
    Calls Tryz.prog 120 #[.int .i64 (x : Nat), .int .i64 (y : Nat), .pointer (some ⟨X, 0, none⟩)] W fun e w' => e = .returned (.int .i64 (cfO c x y)) ∧ ∃ q os', w' = Sort.grow (W.drewN q) os' := by
  have hcf : Hid (cfO c x y = orI (Lib.compareInt (c x) (c y)) (Lib.compareInt y x)) := Lib.hid rfl
  generalize c x = cx at *
  generalize c y = cy at *
  have hxi : ((x : Nat) : Int) < (len : Int) := by omega
  have hyi : ((y : Nat) : Int) < (len : Int) := by omega
  go_enter Tryz.func120, Tryz.ntmps120
  go_wp2
  go_region_held3 (fun w' => w'.cell? ⟨X, 0, none⟩ = some (.slice (some ⟨b, off, none⟩) len cap) ∧ w'.cell? ⟨b, off + x, none⟩ = some (.int .i64 cx) ∧ w'.cell? ⟨b, off + y, none⟩ = some (.int .i64 cy)) (go_keep)
    (first
      | (go_at_call 122; refine (cmp_any _ _ _).mono ?_; rintro e w' ⟨rfl, rfl⟩)
      | (go_at_call 121; refine (or_any _ (Lib.compareInt cx cy) (Lib.compareInt y x) _ (by change (World.alloc W _).cell? _ = _; rw [World.cell?_alloc_at _ _ _ _ rfl]; rfl) (by change (World.alloc W _).cell? _ = _; rw [World.cell?_alloc_at _ _ _ _ rfl]; rfl)).mono ?_; rintro e w' ⟨rfl, rfl⟩))
  go_wp2
  go_ret
  exact ⟨by rw [hcf.out]; rfl, 1, #[_], by rw [Sort.alloc_eq_grow]; rfl⟩
end Go.Proofs.YtjjbgdmalefdlaaGreatDoor
end
