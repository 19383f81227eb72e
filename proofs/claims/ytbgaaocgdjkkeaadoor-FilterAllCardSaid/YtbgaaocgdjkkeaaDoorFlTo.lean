/- filter.filterTo: its contract. -/
import Derived.Test.YtbgaaocgdjkkeaaDoorFlRow
namespace Go.Proofs.YtbgaaocgdjkkeaaDoor
open Go.RowKit

/-- What a row is while it is filtered into a block's middle. -/
def FtPost (w : World) (g : Nat) (L : List UInt8) (e : Ending) (w' : World) : Prop := e = .returned (.tuple #[]) ∧ Bk w' g L ∧ Ch w w' (fun k => k = g)
set_option maxHeartbeats 1000000 in
theorem filterTo_any (g o n c : Nat) (L : List UInt8) (k : Int) (ra : Option Addr) (rcap : Nat) (l : List UInt8) (aa : Option Addr) (alen acap : Nat) (m : List UInt8) (p : Nat) (w : World)
    (hB : Bk w g L) (hL : o + n ≤ L.length) (hnc : n ≤ c) (hc : c ≤ 140737488355328) (hp : 1 ≤ p) (hp8 : p ≤ 8) (hm : alen = 0 ∨ alen = n)
    (hr : ∀ w', Ch w w' (fun k => k = g) → Bs w' ra n rcap l) (ha : ∀ w', Ch w w' (fun k => k = g) → Bs w' aa alen acap m) :
    Calls Tryd.prog 31 #[.slice (some ⟨g, o, none⟩) n c, .int .i64 k, .slice ra n rcap, .slice aa alen acap, .int .i64 p] w (FtPost w g (L.take o ++ Fi.flt k l m p ++ L.drop (o + n))) := by
  have hln : l.length = n := (hr w (Ch.refl _ _)).hlen
  have HLN := Lib.hid hln
  have HR := Lib.hid hr
  have HA := Lib.hid ha
  have hst : Bk w g (L.take o ++ (Fi.flt k l m p).take 0 ++ L.drop (o + 0)) := by
    rw [List.take_zero, List.append_nil, Nat.add_zero, List.take_append_drop]; exact hB
  have HS := Lib.hid hst
  have HLL := Lib.hid hL
  clear hr ha hB hst hln
  go_enter Tryd.func31, Tryd.ntmps31
  go_wp2
  go_loopw [10, 11, 14] (fun _ _ i wr => ∃ j : Nat, j ≤ n ∧ i = .int .i64 j ∧ Hid (Bk wr g (L.take o ++ (Fi.flt k l m p).take j ++ L.drop (o + j)) ∧ Ch w wr (fun k => k = g))) (fun _ _ i _ => n - (intOf i).toNat)
  case atStart => exact ⟨0, by omega, rfl, Lib.hid ⟨HS.out, Ch.refl _ _⟩⟩
  case round =>
    obtain ⟨j, hj, rfl, HX⟩ := hrel
    clear HS
    by_cases hlt : j < n
    · have hr1 := HR.out wr HX.out.2
      have ha1 := HA.out wr HX.out.2
      obtain ⟨b, off, rfl, hb, c0⟩ := hr1.at' j hlt
      have HC := Lib.hid (foretold_any k _ n rcap l aa alen acap m j p wr hr1 ha1 hlt hp hp8 (by omega) (by omega))
      have hpr := Fi.pre_lt k l m p j
      have hln := HLN.out
      have hlL := HLL.out
      have hlen : (L.take o ++ (Fi.flt k l m p).take j ++ L.drop (o + j)).length = L.length := by
        simp only [List.length_append, List.length_take, List.length_drop, Fi.flt_length]; omega
      have hce := HX.out.1.cell (o + j) (by rw [hlen]; omega)
      have hfz := HX.out.1.fz (o + j)
      have hset := HX.out.1.set (o + j) (gb l j + 256 - Fi.pre k l m p j)
      rw [set_mid _ _ _ _ o j (by simp; omega) (by simp [Fi.flt_length]; omega) (by simp; omega), List.drop_drop] at hset
      rw [show [UInt8.ofNat (gb l j + 256 - Fi.pre k l m p j)] = [Fi.fb k l m p j] from rfl, ← Fi.flt_take k l m p j (by omega)] at hset
      have e1 : (((gb l j + 256 - Fi.pre k l m p j) % 256 : Nat) : Int) = ((gb l j : Int) - (Fi.pre k l m p j : Nat)) % 256 := by
        have := gb_lt l j; omega
      rw [e1] at hset
      have HSE := Lib.hid hset
      have HCH := Lib.hid HX.out.2
      have hgl := gb_lt l j
      clear hset e1 hlen hr1 ha1 hln hlL HX
      generalize Fi.pre k l m p j = q at *
      generalize gb l j = x at *
      generalize gb (List.take o L ++ List.take j (Fi.flt k l m p) ++ List.drop (o + j) L) (o + j) = y at *
      go_wp2_with fail
      refine HC.out.mono ?_
      rintro e w' ⟨rfl, rfl⟩
      go_wp2
      go_roundw
      case rel => exact ⟨j + 1, by omega, by go_num, Lib.hid ⟨HSE.out, ch_one HCH.out _ _⟩⟩
      case measure => simp [intOf]; omega
    · obtain rfl : n = j := by omega
      have hln := HLN.out
      have hx := HX.out
      rw [List.take_of_length_le (l := Fi.flt k l m p) (by rw [Fi.flt_length]; omega)] at hx
      have HX2 := Lib.hid hx
      clear hx hln HX
      go_wp2
      go_end0
      exact ⟨rfl, HX2.out.1, HX2.out.2⟩
end Go.Proofs.YtbgaaocgdjkkeaaDoor
