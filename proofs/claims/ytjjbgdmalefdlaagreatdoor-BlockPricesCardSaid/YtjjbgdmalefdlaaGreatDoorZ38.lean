/- slices.Backward over rows of items: the iterator's contract. -/
import Derived.Test.YtjjbgdmalefdlaaGreatDoorZ8
import Derived.Test.YtjjbgdmalefdlaaGreatDoorZ29
import Derived.Shelf.Abstract
import Derived.Shelf.RegionOpen
import Derived.RangeFuncCalls
import Derived.OwnWalkIn
import Derived.TacticsInMore
import Derived.LoopNIn
import Derived.LoopIn
import Derived.RegionIn
set_option linter.unusedSimpArgs false
set_option linter.unusedVariables false
section
namespace Go.Proofs.YtjjbgdmalefdlaaGreatDoor
open Go.RowKit Go.Shelf
attribute [local go_sem] Oper.semAt_some
namespace Bk
set_option maxRecDepth 100000 in
set_option maxHeartbeats 2000000 in
theorem backR1_in (F : Fence) (n : Nat) (h7 : F.fn 129) (hro : F.round = none) (hn : 1 ≤ n) (y X : Nat) (a : Option Addr) (len cap : Nat) (U : Nat → Prop) (f : Nat → Value) (tx : TypeId) (hlen : len ≤ 1000000)
    (J Jx : List Nat → World → Prop) (B : Nat)
    (hY : ∀ pre x W, J pre W → Nxt len pre x → YieldAt F (n - 1) Tryz.prog y #[.int .i64 (x : Nat), f x] W fun e W' => KeepsFrom B W W' ∧
      ((e = .returned (.bool true) ∧ J (pre ++ [x]) W' ∧ Kc U W W') ∨ (e = .returned (.bool false) ∧ Jx (pre ++ [x]) W')))
    (W : World) (hX : ¬ U X) (hx : Boxed W X tx (.slice a len cap)) (hs : Src W U a len f) (h0 : J [] W) :
    CallsIn F n Tryz.prog 129 #[.func (.yield y) #[] #[], .pointer (some ⟨X, 0, none⟩)] W fun e W' => (∃ v, e = .returned v) ∧
      ((∃ ys, ys = down len len ∧ J ys W') ∨ (∃ pre, True ∧ Jx pre W')) := by
  refine callsIn_of_wp Tryz.func129 rfl h7 ?_ hro
  simp only [Tryz.ntmps129, List.size_toArray, List.length_cons, List.length_nil, Nat.reduceAdd, Nat.reduceSub, Array.replicate_succ, Array.replicate_zero, List.push_toArray, List.append_toArray, List.nil_append, List.cons_append]
  have hx0 := hx.cell
  have HX := Lib.hid hx
  have HS := Lib.hid hs
  have H0 := Lib.hid h0
  have HY := Lib.hid hY
  have HNU := Lib.hid hX
  clear hx hs h0 hY hX
  gi_wp2
  gi_loopw [3] (fun i wr => ∃ m : Nat, m ≤ len ∧ i = .int .i64 ((len : Int) - 1 - m) ∧ Hid (J (down len m) wr) ∧ Hid (Boxed wr X tx (.slice a len cap)) ∧ Hid (Src wr U a len f)) (fun i _ => (intOf i + 1).toNat)
  case atStart => exact ⟨0, by omega, by simp, H0, HX, HS⟩
  case round =>
    obtain ⟨m, hm, rfl, HJ, HB, HR⟩ := hrel
    have hcx := HB.out.cell
    by_cases hlt : m < len
    · obtain ⟨j, hj⟩ : ∃ j : Nat, j + m + 1 = len := ⟨len - 1 - m, by omega⟩
      have ej : (len : Int) - 1 - (m : Int) = (j : Int) := by omega
      have dge : decide (0 ≤ (j : Int)) = true := by simp
      obtain ⟨b, off, cs, t, fr, rfl, hnu, hrow, hcj⟩ := HR.out j (by omega)
      have hcell : wr.cell? ⟨b, off + j, none⟩ = some (f j) := by rw [cell_of_row _ _ _ _ _ fr hrow]; exact hcj
      obtain ⟨fn, tmps, assign, body, hy, hRd⟩ := HY.out (down len m) j wr HJ.out ⟨by rw [down_length]; omega, by rw [down_length], by rw [down_length]; omega⟩
      rw [show down len m ++ [j] = down len (m + 1) by rw [down_succ]; congr 2; omega] at hRd
      clear hrow hcj
      have hjl : j < len := by omega
      have HM := Lib.hid (show (len : Int) - 1 - ((m + 1 : Nat) : Int) = (j : Int) - 1 by omega)
      have hwr : (j : Int) ≤ 1000000 := by omega
      rw [ej]
      clear ej
      generalize f j = v at *
      gi_wp2
      refine hRd.mono ?_
      rintro e W3 ⟨_, (⟨rfl, hJ3, hk3⟩ | ⟨rfl, hJx3⟩)⟩
      · have HJ3 := Lib.hid hJ3
        have HB3 : Hid (Boxed W3 X tx (.slice (some ⟨b, off, none⟩) len cap)) := Lib.hid (hk3 X _ HB.out rfl HNU.out)
        have HR3 := Lib.hid (HR.out.kept hk3)
        clear hJ3 hk3 hRd hy hcell
        gi_wp2
        go_roundw
        case rel => exact ⟨m + 1, by omega, by rw [HM.out], HJ3, HB3, HR3⟩
        case measure => simp [intOf]
      · have HX3 := Lib.hid hJx3
        clear hJx3 hRd hy hcell
        gi_wp2
        refine bodyPost_ret (results_none rfl _ _ _) rfl ?_
        exact ⟨⟨_, rfl⟩, .inr ⟨_, trivial, HX3.out⟩⟩
    · obtain rfl : len = m := by omega
      rw [show (len : Int) - 1 - (len : Int) = -1 by omega]
      gi_wp2
      go_end0
      exact ⟨⟨_, rfl⟩, .inl ⟨_, rfl, HJ.out⟩⟩
theorem backR_iter (F : Fence) (n : Nat) (h7 : F.fn 129) (hro : F.round = none) (hn : 1 ≤ n) (X : Nat) (a : Option Addr) (len cap : Nat) (U : Nat → Prop) (f : Nat → Value) (tx : TypeId) (hlen : len ≤ 1000000)
    (w : World) (hX : ¬ U X) (hx : Boxed w X tx (.slice a len cap)) (hs : Src w U a len f) :
    IterN F n Tryz.prog 129 #[.pointer (some ⟨X, 0, none⟩)] (fun x : Nat => #[.int .i64 (x : Nat), f x]) (Kc U) (fun ys => ys = down len len) (fun _ => True) (Nxt len) w := fun y J Jx V hV _ _ h0 hY =>
  backR1_in F n h7 hro hn y X a len cap U f tx hlen J Jx V.heap.size hY V hX (by unfold Boxed at *; rw [hV.block X (Array.getElem?_eq_some_iff.1 hx).1]; exact hx) (hs.mono hV) h0
theorem backR_in (F : Fence) (n : Nat) (h5 : F.fn 124) (hro : F.round = none) (v : Value) (a : Option Addr) (len cap : Nat) (hv : v = .slice a len cap) (w : World) :
    CallsIn F n Tryz.prog 124 #[v] w fun e w' => e = .returned (.func (.func 129) #[] #[.pointer (some ⟨w.heap.size, 0, none⟩)]) ∧ w' = w.alloc (.cells #[v] 179) := by
  subst hv
  refine callsIn_of_wp Tryz.func124 rfl h5 ?_ hro
  simp only [Tryz.ntmps124, List.size_toArray, List.length_cons, List.length_nil, Nat.reduceAdd, Nat.reduceSub, Array.replicate_succ, Array.replicate_zero, List.push_toArray, List.append_toArray, List.nil_append, List.cons_append]
  gi_wp2
  go_ret
  exact ⟨rfl, rfl⟩
end Bk
end Go.Proofs.YtjjbgdmalefdlaaGreatDoor
end
