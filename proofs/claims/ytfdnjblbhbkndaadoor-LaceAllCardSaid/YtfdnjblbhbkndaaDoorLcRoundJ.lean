/- A region that draws its order and ends in one store, within a round of a range over a function. -/
import Derived.Test.YtfdnjblbhbkndaaDoorRegionIn
import Derived.Test.YtfdnjblbhbkndaaDoorRegionJ
namespace Go.Proofs.YtfdnjblbhbkndaaDoor
open Go
theorem region_roundJ {P : Program} {ops : Array Oper} {Q : Exit → Act → World → Prop} {l n' id : Nat} {a : Act} {w : World} (n : Nat) (S : World → Prop) (hm : P.follows .mixedOrders = true) (hd : noDefer ops = true) (hl : ¬ LetsOut Q)
    (h : anyJ P .any ops Q S n ops.size (Array.replicate ops.size false) a w.drew) : (Code.region id ops true).wpIn (Fence.wide.inRound l) n' P Q a w :=
  wpIn_region_any hm (any_round hl (noDefer_spec hd) _ _ _ _ (any_of_J _ _ _ _ h))
end Go.Proofs.YtfdnjblbhbkndaaDoor
