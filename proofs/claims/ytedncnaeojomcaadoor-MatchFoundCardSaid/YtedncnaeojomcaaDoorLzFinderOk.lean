/- match.NewFinder: its contract, with enter's. -/
import Derived.Test.YtedncnaeojomcaaDoorLzFinder
import Derived.Test.YtedncnaeojomcaaDoorLzEnter
namespace Go.Proofs.YtedncnaeojomcaaDoor
open Go.RowKit Go.Maps

theorem enter_ok (a : Option Addr) (cap N : Nat) (l : List UInt8) (hN : N ≤ 1048576) (g mb bb base : Nat) (h1 : 0 < mb) (h2 : 0 < bb) (h3 : 0 < base) : EnterOk g mb bb a cap N l base :=
  fun w t n v R hen ht hn hv hb hR hvn hdb => enter_any t base v R hen ht hN hn hv hb hR hvn hdb ⟨h1, h2, h3⟩
theorem newFinder_any (a : Option Addr) (N cap : Nat) (l : List UInt8) (w : World) (h : Bs w a N cap l) (hN : N ≤ 1048576) (ha : ∀ ad, a = some ad → ad.block < w.heap.size) (hdb : Db w) (hdl : 0 < w.heap.size) :
    Calls Tryd.prog 12 #[.slice a N cap] w (NfdPost w N l) :=
  newFinder_yes a N cap l w h hN ha hdb hdl (enter_ok a cap N l hN)
end Go.Proofs.YtedncnaeojomcaaDoor
