/- merge.least: its contract. -/
import Derived.Test.YtjjbgdmalefdlaaGreatDoorZ8
import Derived.Test.YtjjbgdmalefdlaaGreatDoorZ21
import Derived.Test.YtjjbgdmalefdlaaGreatDoorZ39
import Derived.Test.YtjjbgdmalefdlaaGreatDoorZ40
set_option linter.unusedSimpArgs false
set_option linter.unusedVariables false
section
namespace Go.Proofs.YtjjbgdmalefdlaaGreatDoor
open Go.RowKit

set_option maxRecDepth 100000 in
set_option maxHeartbeats 4000000 in
theorem least_any (a : Option Addr) (n cap : Nat) (R : List Int) (L : Nat) (w : World) (h : Is .i64 w a n cap R) (hn3 : n ≤ 300) (hL : 1 ≤ L) (hL16 : L ≤ 16) (hnL : n ≤ 2 ^ L) (hR : ∀ x ∈ R, 0 ≤ x ∧ x ≤ 1099511627776) :
    Calls Tryz.prog 114 #[.slice a n cap, .int .i64 (L : Nat)] w (LeastPost w R L) := by
  by_cases hn : 2 ≤ n
  · exact least_two a n cap R L w h hn hn3 hL hL16 hnL hR
  · have HLN : Hid (Mg.lens R L = List.replicate n 1 ∧ R.length = n) := Lib.hid (by
      unfold Mg.lens; rw [h.hlen, if_pos (by omega)]; exact ⟨rfl, rfl⟩)
    have d2 : decide ((n : Int) < 2) = true := by simp; omega
    have hcell : (w.alloc (.cells #[Value.int .i64 1] 3)).cell? ⟨w.heap.size, 0, none⟩ = some (.int .i64 1) := by rw [World.cell?_alloc_at _ _ _ _ rfl]; rfl
    have hz : w.heap.size < (w.alloc (.cells #[Value.int .i64 1] 3)).heap.size := by simp
    have hb : Below w.heap.size w (w.alloc (.cells #[Value.int .i64 1] 3)) := below_alloc w _
    have H := Lib.hid (And.intro hcell (And.intro hz hb))
    have HR : Hid (∀ m, (m = 0 ∨ m = 1) → Calls Tryz.prog 96 #[.slice (some ⟨w.heap.size, 0, none⟩) 1 1, .int .i64 (m : Nat)] (w.alloc (.cells #[Value.int .i64 1] 3)) (RepPost (w.alloc (.cells #[Value.int .i64 1] 3)) m)) := Lib.hid (fun m hm => by
      rcases hm with rfl | rfl
      · exact repeat0_any _ _ hcell
      · exact repeat1_any _ _ hcell hz)
    clear hcell hz hb h
    go_enter Tryz.func114, Tryz.ntmps114
    go_wp2_with fail
    refine (HR.out n (by omega)).mono ?_
    rintro e w2 ⟨v, rfl, own2, hb2⟩
    have HO : Hid (w2.ownsRow w.heap.size 3 1 v R.length (ivs (Mg.lens R L)) ∧ Below w.heap.size w w2) := Lib.hid ⟨by
      rw [HLN.out.1, HLN.out.2]; exact own_base own2 (fun g hg => by have := (own2.lt g hg).1; have := H.out.2.1; omega), below_then H.out.2.2 hb2⟩
    clear own2 hb2
    go_wp2
    go_ret
    exact ⟨_, rfl, HO.out.1, HO.out.2⟩
end Go.Proofs.YtjjbgdmalefdlaaGreatDoor
end
