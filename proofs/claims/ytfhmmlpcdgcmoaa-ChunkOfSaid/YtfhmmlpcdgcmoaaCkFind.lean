/- chunk.Find, and its iterator: their contracts. -/
import Derived.Test.YtfhmmlpcdgcmoaaCkPlaces
import Derived.Test.YtfhmmlpcdgcmoaaIterC
import Derived.Test.YtfhmmlpcdgcmoaaKc
import Derived.Test.YtfhmmlpcdgcmoaaFront
import Derived.Test.YtfhmmlpcdgcmoaaMarks
namespace Go.Proofs.Ytfhmmlpcdgcmoaa
open Go.RowKit
attribute [local go_sem] Oper.semAt_some

/-- What Find answers. -/
def FdPost (w : World) (l : List Ckm) (nm : List UInt8) (e : Ending) (w' : World) : Prop :=
  ∃ X v ms, e = .returned (.func (.func 49) #[] #[.pointer (some ⟨X, 0, none⟩)]) ∧ w.heap.size ≤ X ∧ Boxed w' X 86 v ∧ Pls w' w.heap.size v ms ∧ PlIs l nm l.length ms ∧ Below w.heap.size w w'
set_option maxRecDepth 100000 in
set_option maxHeartbeats 4000000 in
theorem find_any (a : Option Addr) (len cap : Nat) (l : List Ckm) (nm : List UInt8) (w : World) (h : Cs w a len cap l) (hr : len * 48 ≤ 140737488351232) (hd : ∀ c ∈ l, c.s.len ≤ 140737488351232) :
    Calls Try.prog 29 #[.slice a len cap, .string (str nm)] w (FdPost w l nm) := by
  have HC := Lib.hid (places_any a len cap l nm w h hr hd)
  clear h hd
  go_enter Try.func29, Try.ntmps29
  go_wp2_with fail
  refine HC.out.mono ?_
  rintro e w1 ⟨v, ms, rfl, hp, hi, hb⟩
  have hz := hb.size
  have hba := below_alloc w1 (.cells #[v] 86)
  have HE : Hid (FdPost w l nm (.returned (.func (.func 49) #[] #[.pointer (some ⟨w1.heap.size, 0, none⟩)])) (w1.alloc (.cells #[v] 86))) :=
    Lib.hid ⟨w1.heap.size, v, ms, rfl, hz, heap_alloc_last w1 _, hp.below hba, hi, hb.trans (hba.mono hz)⟩
  obtain ⟨a1, c1, rfl⟩ : ∃ a c, v = .slice a ms.length c := by
    rcases own_nil_or hp.own with ⟨h0, h⟩ | ⟨g, c, rfl, _⟩
    · rw [h]; exact ⟨none, 0, by rw [h0]⟩
    · exact ⟨_, _, rfl⟩
  clear hp hi hb hba
  go_wp2
  go_ret
  exact HE.out
end Go.Proofs.Ytfhmmlpcdgcmoaa
