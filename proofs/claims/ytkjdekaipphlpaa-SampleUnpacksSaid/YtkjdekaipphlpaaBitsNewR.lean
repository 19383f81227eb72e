/- NewReader: its contract. -/
import Derived.Test.YtkjdekaipphlpaaBytesClone
import Derived.Test.YtkjdekaipphlpaaBitsRd
namespace Go.Proofs.Ytkjdekaipphlpaa
open Go.RowKit

def NewReaderPost (w : World) (h : Bool) (l : List UInt8) (e : Ending) (w' : World) : Prop :=
  ∃ g v, e = .returned (.pointer (some ⟨g, 0, none⟩)) ∧ Rd w' w.heap.size g h v l 0 ∧ Below w.heap.size w w'
theorem newReader_any (h : Bool) (a : Option Addr) (len cap : Nat) (l : List UInt8) (w : World) (H : Bs w a len cap l) (hr : len ≤ 140737488355328) :
    Calls Try.prog 34 #[.slice a len cap, .bool h] w (NewReaderPost w h l) := by
  have HL := Lib.hid H.hlen
  go_enter Try.func34, Try.ntmps34
  go_wp2_with fail
  refine (clone_any _ _ _ _ _ H hr).mono ?_
  rintro e w1 ⟨v1, rfl, own1, hb1⟩
  obtain ⟨va, vc, rfl, hbs⟩ := own_bs own1 (by have := H.hcap; omega)
  have hx := Lib.hid (show NewReaderPost w h l (.returned (.pointer (some ⟨w1.heap.size, 0, none⟩))) (w1.alloc (.cells #[.bool h, .slice va len vc, .int .i64 0] 74)) from
    ⟨_, .slice va len vc, rfl, ⟨heap_alloc_last w1 _, by rw [HL.out]; exact own1.alloc _, hb1.size, fun e => by have := (own1.lt _ e).2; omega⟩, hb1.alloc hb1.size _⟩)
  clear own1 hb1 hbs H
  go_wp2
  go_ret
  exact hx.out
end Go.Proofs.Ytkjdekaipphlpaa
