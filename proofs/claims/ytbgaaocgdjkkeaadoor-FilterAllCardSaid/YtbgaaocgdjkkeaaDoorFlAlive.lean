/- burnishlaw14.alive. -/
import Derived.Test.YtbgaaocgdjkkeaaDoorFlOf
namespace Go.Proofs.YtbgaaocgdjkkeaaDoor
open Go.RowKit

theorem alive14_any (w : World) : Calls Tryd.prog 5 #[] w fun e w' => e = .returned (.bool true) ∧ Below w.heap.size w w' := by
  have hbs := bs_new w w.heap.size rfl [1, 3, 6] 5 (0, 0) 3 rfl (by omega) #[.int .u8 1, .int .u8 3, .int .u8 6] rfl
  have hF := filter_any 1 (some ⟨w.heap.size, 0, none⟩) 3 3 [1, 3, 6] none 0 0 [] 1 _ hbs (bs_nil _) (by omega) (by omega)
  rw [show Fi.flt 1 [1, 3, 6] [] (1 : Int).toNat = [1, 2, 3] by decide +kernel] at hF
  have HF := Lib.hid hF
  have HB0 := Lib.hid (below_alloc w (.cells #[.int .u8 1, .int .u8 3, .int .u8 6] 5))
  clear hbs hF
  go_enter Tryd.func5, Tryd.ntmps5
  go_wp2_with fail
  refine HF.out.mono ?_
  rintro e w2 ⟨hb2, hcase⟩
  rcases hcase with ⟨_, g, rfl, own⟩ | ⟨h0, _⟩
  · obtain ⟨a2, c2, e2, hbs2⟩ := own_bs own (by omega)
    simp only [Value.slice.injEq] at e2
    obtain ⟨rfl, _, rfl⟩ := e2
    have k1 := conv_bs (P := Tryd.prog) hbs2 22 9 5 Tryd.underlying22 Tryd.underlying5 Tryd.underlying9
    have kj : ((str [1, 2, 3]).toList == [1, 2, 3]) = true := by rw [str_list]; rfl
    have HB2 := Lib.hid (below_then HB0.out hb2)
    clear hb2 own hbs2 HF HB0
    go_wp2
    go_ret
    exact ⟨rfl, HB2.out⟩
  · exact absurd h0 (by decide)
end Go.Proofs.YtbgaaocgdjkkeaaDoor
