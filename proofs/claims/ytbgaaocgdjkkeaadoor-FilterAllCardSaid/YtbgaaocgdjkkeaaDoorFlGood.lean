/- filter.Filter at good and at bad rows. -/
import Derived.Test.YtbgaaocgdjkkeaaDoorFlOf
namespace Go.Proofs.YtbgaaocgdjkkeaaDoor
open Go.RowKit

/-- What Filter answers a good row. -/
def Fi.GPost (W : World) (n : Nat) (r : List UInt8) (e : Ending) (w' : World) : Prop :=
  ∃ g, e = .returned (.tuple #[.slice (some ⟨g, 0, none⟩) n n, .nilIface]) ∧ Hid (Bs w' (some ⟨g, 0, none⟩) n n r) ∧ Hid (w'.ownsRow W.heap.size 5 1 (.slice (some ⟨g, 0, none⟩) n n) n (bvs r)) ∧ Below W.heap.size W w'
theorem filter_good (k : Int) (ra : Option Addr) (n rcap : Nat) (l : List UInt8) (aa : Option Addr) (alen acap : Nat) (m : List UInt8) (p : Int) (w : World) (hg : Fi.good k n alen p = true)
    (hr : Bs w ra n rcap l) (ha : Bs w aa alen acap m) (hn : n ≤ 1000000) (hm : alen ≤ 1000000) :
    Calls Tryd.prog 15 #[.int .i64 k, .slice ra n rcap, .slice aa alen acap, .int .i64 p] w (Fi.GPost w n (Fi.flt k l m p.toNat)) :=
  (filter_any k ra n rcap l aa alen acap m p w hr ha (by omega) (by omega)).mono (fun e w' h => by
    obtain ⟨h1, h2⟩ := h
    rcases h2 with ⟨_, g, h3, h4⟩ | ⟨h3, _⟩
    · obtain ⟨a2, c2, e2, hbs2⟩ := own_bs h4 (by omega)
      simp only [Value.slice.injEq] at e2
      obtain ⟨rfl, _, rfl⟩ := e2
      exact ⟨g, h3, Lib.hid hbs2, Lib.hid h4, h1⟩
    · rw [hg] at h3; cases h3)
theorem filter_bad (k : Int) (ra : Option Addr) (n rcap : Nat) (l : List UInt8) (aa : Option Addr) (alen acap : Nat) (m : List UInt8) (p : Int) (w : World) (hg : Fi.good k n alen p = false)
    (hr : Bs w ra n rcap l) (ha : Bs w aa alen acap m) (hn : n ≤ 1000000) (hm : alen ≤ 1000000) :
    Calls Tryd.prog 15 #[.int .i64 k, .slice ra n rcap, .slice aa alen acap, .int .i64 p] w fun e w' => e = .returned (.tuple #[.slice none 0 0, .iface 38 (.int .i64 6)]) ∧ Below w.heap.size w w' :=
  (filter_any k ra n rcap l aa alen acap m p w hr ha (by omega) (by omega)).mono (fun e w' h => by
    obtain ⟨h1, h2⟩ := h
    rcases h2 with ⟨h3, _⟩ | ⟨_, h3⟩
    · rw [hg] at h3; cases h3
    · exact ⟨h3, h1⟩)
end Go.Proofs.YtbgaaocgdjkkeaaDoor
