/- The document's Match, by what is common. -/
import Derived.Test.YtedncnaeojomcaaDoorMatchVer
import Derived.Test.YtedncnaeojomcaaDoorLzNear
namespace Go.Proofs.YtedncnaeojomcaaDoor
open Go.RowKit

theorem same_cp (l : List UInt8) (x y n m : Nat) (hx : x + n ≤ l.length) (hy : y + n ≤ l.length) (hm : n ≤ m) : Mt.same l x y n = true ↔ n ≤ Lz.cp (gb l) x y m := by
  rw [Mt.same_iff l x y n hx hy]
  exact ⟨fun h => Lz.cp_ge hm (fun i hi => h i hi), fun h k hk => Lz.cp_eq (gb l) m x y k (by omega)⟩
theorem ver_mat (l : List UInt8) (t n far : Nat) (h3 : 3 ≤ n) : Mt.ver l (t : Int) (n : Int) (far : Int) = true ↔ Lz.Mat (gb l) l.length t n far := by
  unfold Mt.ver Lz.Mat
  rw [Bool.and_eq_true, decide_eq_true_iff]
  have e1 : ((t : Int) - (far : Int)).toNat = t - far := by omega
  rw [e1, Int.toNat_natCast, Int.toNat_natCast]
  constructor
  · rintro ⟨⟨_, h2, h4, h5, h6, h7⟩, hs⟩
    refine ⟨by omega, by omega, by omega, ?_⟩
    exact (same_cp l (t - far) t n _ (by omega) (by omega) (by unfold Lz.L; omega)).1 hs
  · rintro ⟨h1, h2, h4, h5⟩
    have hL : n ≤ Lz.L l.length t := Nat.le_trans h5 (Lz.cp_le _ _ _ _)
    have hL2 : n ≤ 258 ∧ t + n ≤ l.length := by unfold Lz.L at hL; omega
    exact ⟨⟨by omega, by omega, by omega, by omega, by omega, by omega⟩, (same_cp l (t - far) t n _ (by omega) (by omega) hL).2 h5⟩
end Go.Proofs.YtedncnaeojomcaaDoor
