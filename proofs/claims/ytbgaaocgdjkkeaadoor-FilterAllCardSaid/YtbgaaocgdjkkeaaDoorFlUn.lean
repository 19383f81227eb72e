/- filter.unfilterTo: its contract. -/
import Derived.Test.YtbgaaocgdjkkeaaDoorFlTo
namespace Go.Proofs.YtbgaaocgdjkkeaaDoor
open Go.RowKit

set_option maxHeartbeats 1000000 in
theorem unfilterTo_any (g o n c : Nat) (L : List UInt8) (k : Int) (ra : Option Addr) (rcap : Nat) (l : List UInt8) (aa : Option Addr) (alen acap : Nat) (m : List UInt8) (p : Nat) (w : World)
    (hB : Bk w g L) (hL : o + n ≤ L.length) (hnc : n ≤ c) (hc : c ≤ 140737488355328) (hp : 1 ≤ p) (hp8 : p ≤ 8) (hm : alen = 0 ∨ alen = n)
    (hr : ∀ w', Ch w w' (fun k => k = g) → Bs w' ra n rcap l) (ha : ∀ j w', j ≤ n → Ch w w' (fun k => k = g) → Bk w' g (L.take o ++ Fi.unN k l m p j ++ L.drop (o + j)) → Bs w' aa alen acap m) :
    Calls Tryd.prog 28 #[.slice (some ⟨g, o, none⟩) n c, .int .i64 k, .slice ra n rcap, .slice aa alen acap, .int .i64 p] w (FtPost w g (L.take o ++ Fi.unf k l m p ++ L.drop (o + n))) := by
  have hln : l.length = n := (hr w (Ch.refl _ _)).hlen
  have HLN := Lib.hid hln
  have HR := Lib.hid hr
  have HA := Lib.hid ha
  have hst : Bk w g (L.take o ++ Fi.unN k l m p 0 ++ L.drop (o + 0)) := by
    rw [Fi.unN, List.append_nil, Nat.add_zero, List.take_append_drop]; exact hB
  have HS := Lib.hid hst
  have HLL := Lib.hid hL
  clear hr ha hB hst hln
  go_enter Tryd.func28, Tryd.ntmps28
  go_wp2
  go_loopw [10, 11, 14] (fun _ _ i wr => ∃ j : Nat, j ≤ n ∧ i = .int .i64 j ∧ Hid (Bk wr g (L.take o ++ Fi.unN k l m p j ++ L.drop (o + j)) ∧ Ch w wr (fun k => k = g))) (fun _ _ i _ => n - (intOf i).toNat)
  case atStart => exact ⟨0, by omega, rfl, Lib.hid ⟨HS.out, Ch.refl _ _⟩⟩
  case round =>
    obtain ⟨j, hj, rfl, HX⟩ := hrel
    clear HS
    by_cases hlt : j < n
    · have hr1 := HR.out wr HX.out.2
      have ha1 := HA.out j wr (by omega) HX.out.2 HX.out.1
      obtain ⟨b, off, rfl, hb, c0⟩ := hr1.at' j hlt
      have hpr := Fi.pre_lt k (Fi.unN k l m p j) m p j
      have hln := HLN.out
      have hlL := HLL.out
      have hlen : (L.take o ++ Fi.unN k l m p j ++ L.drop (o + j)).length = L.length := by
        simp only [List.length_append, List.length_take, List.length_drop, Fi.unN_length]; omega
      have hro := HX.out.1.bs o n c (by rw [hlen]; omega) hnc (by omega)
      have hpe : Fi.pre k (((L.take o ++ Fi.unN k l m p j ++ L.drop (o + j)).drop o).take n) m p j = Fi.pre k (Fi.unN k l m p j) m p j := Fi.pre_congr hp (fun i hi => by
        rw [List.append_assoc, List.drop_append_of_le_length (by simp; omega), List.drop_of_length_le (by simp; omega), List.nil_append]
        have e0 : gb ((Fi.unN k l m p j ++ L.drop (o + j)).take n) i = gb (Fi.unN k l m p j ++ L.drop (o + j)) i := by simp [gb, List.getD, List.getElem?_take, show i < n by omega]
        rw [e0, Fi.gb_append_left (by rw [Fi.unN_length]; exact hi)])
      have HC := Lib.hid (foretold_any k _ n c _ aa alen acap m j p wr hro ha1 hlt hp hp8 (by omega) (by omega))
      rw [hpe] at HC
      have hce := HX.out.1.cell (o + j) (by rw [hlen]; omega)
      have hfz := HX.out.1.fz (o + j)
      have hset := HX.out.1.set (o + j) (gb l j + Fi.pre k (Fi.unN k l m p j) m p j)
      rw [set_mid _ _ _ _ o j (by simp; omega) (Fi.unN_length _ _ _ _ _) (by simp; omega), List.drop_drop] at hset
      rw [show Fi.unN k l m p j ++ [UInt8.ofNat (gb l j + Fi.pre k (Fi.unN k l m p j) m p j)] = Fi.unN k l m p (j + 1) from rfl] at hset
      have e1 : (((gb l j + Fi.pre k (Fi.unN k l m p j) m p j) % 256 : Nat) : Int) = ((gb l j : Int) + (Fi.pre k (Fi.unN k l m p j) m p j : Nat)) % 256 := by
        omega
      rw [e1] at hset
      have HSE := Lib.hid hset
      have HCH := Lib.hid HX.out.2
      have hgl := gb_lt l j
      clear hset e1 hlen hr1 ha1 hln hlL HX hro hpe
      generalize Fi.pre k (Fi.unN k l m p j) m p j = q at *
      generalize gb l j = x at *
      generalize gb (List.take o L ++ Fi.unN k l m p j ++ List.drop (o + j) L) (o + j) = y at *
      go_wp2_with fail
      refine HC.out.mono ?_
      rintro e w' ⟨rfl, rfl⟩
      go_wp2
      go_roundw
      case rel => exact ⟨j + 1, by omega, by go_num, Lib.hid ⟨HSE.out, ch_one HCH.out _ _⟩⟩
      case measure => simp [intOf]; omega
    · obtain rfl : n = j := by omega
      have hln := HLN.out
      have hx := HX.out
      rw [show Fi.unN k l m p n = Fi.unf k l m p by unfold Fi.unf; rw [hln]] at hx
      have HX2 := Lib.hid hx
      clear hx hln HX
      go_wp2
      go_end0
      exact ⟨rfl, HX2.out.1, HX2.out.2⟩
end Go.Proofs.YtbgaaocgdjkkeaaDoor
