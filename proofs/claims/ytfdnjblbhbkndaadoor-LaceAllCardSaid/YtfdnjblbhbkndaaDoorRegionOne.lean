/- A piece of code that comes to one end alone: the act and the world are found on the way. -/
import Derived.Test.YtfdnjblbhbkndaaDoorRegionK
import Derived.Test.YtfdnjblbhbkndaaDoorLcRoundJ
import Derived.Test.YtfdnjblbhbkndaaDoorRegionS
namespace Go.Proofs.YtfdnjblbhbkndaaDoor
open Go
/-- It ends so, and in no other way. -/
def EndsO (A : Act) (W : World) : Exit → Act → World → Prop
  | .normal, a, w => a = A ∧ w = W
  | _, _, _ => False
theorem endsO_no (A : Act) (W : World) : ¬ LetsOut (EndsO A W) := fun ⟨_, _, h⟩ => h
theorem wpIn_one {F : Fence} {n : Nat} {P : Program} {c : Code} {Q : Exit → Act → World → Prop} {a : Act} {w : World} (h : ∃ A W, c.wpIn F n P (EndsO A W) a w ∧ Q .normal A W) : c.wpIn F n P Q a w := by
  obtain ⟨A, W, h1, h2⟩ := h
  refine Go.wpIn_mono h1 ?_
  intro e a' w' h
  cases e <;> first | (obtain ⟨rfl, rfl⟩ := h; exact h2) | exact h.elim
theorem oneK {P : Program} {ops : Array Oper} {Q : Exit → Act → World → Prop} {m id : Nat} {a : Act} {w : World} (n n2 : Nat) (S : World → Prop) (hm : P.follows .mixedOrders = true)
    (h : ∃ A W, anyK P .any ops (EndsO A W) S n n2 ops.size (Array.replicate ops.size false) a w.drew ∧ Q .normal A W) : (Code.region id ops true).wpIn Fence.wide m P Q a w :=
  let ⟨A, W, h1, h2⟩ := h
  wpIn_one ⟨A, W, region_wdK n n2 S hm (endsO_no A W) h1, h2⟩
theorem oneJ {P : Program} {ops : Array Oper} {Q : Exit → Act → World → Prop} {l n' id : Nat} {a : Act} {w : World} (n : Nat) (S : World → Prop) (hm : P.follows .mixedOrders = true) (hd : noDefer ops = true)
    (h : ∃ A W, anyJ P .any ops (EndsO A W) S n ops.size (Array.replicate ops.size false) a w.drew ∧ Q .normal A W) : (Code.region id ops true).wpIn (Fence.wide.inRound l) n' P Q a w :=
  let ⟨A, W, h1, h2⟩ := h
  wpIn_one ⟨A, W, region_roundJ n S hm hd (endsO_no A W) h1, h2⟩
theorem oneH {P : Program} {ops : Array Oper} {Q : Exit → Act → World → Prop} {l n' id : Nat} {a : Act} {w : World} (S : World → Prop) (hm : P.follows .mixedOrders = true) (hd : noDefer ops = true)
    (h : ∃ A W, wpAnyH P .any ops (EndsO A W) S ops.size (Array.replicate ops.size false) a w.drew ∧ Q .normal A W) : (Code.region id ops true).wpIn (Fence.wide.inRound l) n' P Q a w :=
  let ⟨A, W, h1, h2⟩ := h
  wpIn_one ⟨A, W, region_round S hm hd (endsO_no A W) h1, h2⟩
theorem oneJw {P : Program} {ops : Array Oper} {Q : Exit → Act → World → Prop} {m id : Nat} {a : Act} {w : World} (n : Nat) (S : World → Prop) (hm : P.follows .mixedOrders = true)
    (h : ∃ A W, anyJ P .any ops (EndsO A W) S n ops.size (Array.replicate ops.size false) a w.drew ∧ Q .normal A W) : (Code.region id ops true).wpIn Fence.wide m P Q a w :=
  let ⟨A, W, h1, h2⟩ := h
  wpIn_one ⟨A, W, wpIn_region_any hm (any_wd (endsO_no A W) _ _ _ _ (any_of_J _ _ _ _ h1)), h2⟩
end Go.Proofs.YtfdnjblbhbkndaaDoor
