/- The document's Filter, Unfilter: their contracts. -/
import Derived.Test.YtbgaaocgdjkkeaaDoorFlRef
import Derived.Test.YtbgaaocgdjkkeaaDoorApartMem
namespace Go.Proofs.YtbgaaocgdjkkeaaDoor
open Go.RowKit

namespace Fi
def RPost (w : World) (n : Nat) (r : List UInt8) (e : Ending) (w' : World) : Prop := ∃ v, e = .returned v ∧ w'.ownsRow w.heap.size 5 1 v n (bvs r) ∧ Below w.heap.size w w'
theorem src1 (w : World) (x : Nat) (hx : x < 256) : SrcRow (w.alloc (.cells #[Value.int .u8 (x : Nat)] 5)) (some ⟨w.heap.size, 0, none⟩) 1 1 (bvs [UInt8.ofNat x]) 1 := by
  have : bvs [UInt8.ofNat x] = [Value.int .u8 (x : Nat)] := by simp [bvs]; omega
  rw [this]
  exact src_new w #[Value.int .u8 (x : Nat)] 5 1 1 1 rfl (fun u hu => by simp only [List.mem_singleton] at hu; subst hu; rfl)
theorem ofNat_mod (n : Nat) : UInt8.ofNat (n % 256) = UInt8.ofNat n := by apply UInt8.toNat_inj.1; simp
end Fi
set_option maxHeartbeats 2000000 in
theorem refFilter_any (k : Int) (ra : Option Addr) (n rcap : Nat) (l : List UInt8) (aa : Option Addr) (alen acap : Nat) (m : List UInt8) (p : Nat) (w : World)
    (hr : Bs w ra n rcap l) (ha : Bs w aa alen acap m) (hn : n ≤ 100000000) (hm : alen ≤ 100000000) (hp : 1 ≤ p) (hp8 : p ≤ 8) :
    Calls Tryd.prog 26 #[.int .i64 k, .slice ra n rcap, .slice aa alen acap, .int .i64 p] w (Fi.RPost w n (Fi.flt k l m p)) := by
  have HLN := Lib.hid hr.hlen
  have HR := Lib.hid hr
  have HA := Lib.hid ha
  clear hr ha
  go_enter Tryd.func26, Tryd.ntmps26
  go_wp2
  go_loopw [9, 10, 11] (fun v i _ wr => ∃ j : Nat, j ≤ n ∧ i = .int .i64 j ∧ Hid (Below w.heap.size w wr) ∧ Hid (wr.ownsRow w.heap.size 5 1 v j (bvs ((Fi.flt k l m p).take j)))) (fun _ i _ _ => n - (intOf i).toNat)
  case atStart => exact ⟨0, by omega, rfl, Lib.hid (Below.refl _ _), Lib.hid (World.ownsRow_nil _ _ _ _)⟩
  case round =>
    obtain ⟨j, hj, rfl, HB, HO⟩ := hrel
    by_cases hlt : j < n
    · have hr1 := HR.out.mono HB.out
      have ha1 := HA.out.mono HB.out
      have C1 := Lib.hid (byteAt_any _ n rcap l ((j : Int) - p) wr hr1 (by omega) (by omega) (by omega))
      have C2 := Lib.hid (byteAt_any aa alen acap m (j : Nat) wr ha1 (by omega) (by omega) (by omega))
      have C3 := Lib.hid (byteAt_any aa alen acap m ((j : Int) - p) wr ha1 (by omega) (by omega) (by omega))
      have C4 := Lib.hid (refFore_any k (Fi.ba l ((j : Int) - p)) (gb m j) (Fi.ba m ((j : Int) - p)) wr (Fi.ba_lt _ _) (gb_lt _ _) (Fi.ba_lt _ _))
      rw [Fi.ba_nat] at C2
      rw [show Fi.fo k (Fi.ba l ((j : Int) - p)) (gb m j) (Fi.ba m ((j : Int) - p)) = Fi.pre k l m p j from rfl] at C4
      obtain ⟨b, off, rfl, hb, c0⟩ := hr1.at' j hlt
      have hgl := gb_lt l j
      have hpr := Fi.pre_lt k l m p j
      have HT : Hid ((Fi.flt k l m p).take j ++ [UInt8.ofNat (gb l j + 256 - Fi.pre k l m p j)] = (Fi.flt k l m p).take (j + 1)) := Lib.hid (by rw [Fi.flt_take k l m p j (by rw [HLN.out]; exact hlt)]; rfl)
      have hsrc := Fi.src1 wr ((gb l j + 256 - Fi.pre k l m p j) % 256) (by omega)
      rw [Fi.ofNat_mod] at hsrc
      obtain ⟨bt, hbt⟩ : ∃ bt, UInt8.ofNat (gb l j + 256 - Fi.pre k l m p j) = bt := ⟨_, rfl⟩
      rw [hbt] at hsrc HT
      clear hbt
      have hv : ((((gb l j + 256 - Fi.pre k l m p j) % 256 : Nat) : Int)) = ((gb l j : Nat) + 256 - (Fi.pre k l m p j : Nat) : Int) % 256 := by omega
      rw [hv] at hsrc
      have H2 := Lib.hid (HO.out.alloc (.cells #[Value.int .u8 (((gb l j : Nat) + 256 - (Fi.pre k l m p j : Nat) : Int) % 256)] 5))
      have hbb : w.heap.size ≤ (wr.alloc (.cells #[Value.int .u8 (((gb l j : Nat) + 256 - (Fi.pre k l m p j : Nat) : Int) % 256)] 5)).heap.size := by have := HB.out.size; simp; omega
      have hp1 : wrap64 ((j : Int) - p) = (j : Int) - p := IntWalk.wrap64_in _ ⟨by omega, by omega⟩
      clear hr1 ha1 hv hb
      generalize Fi.ba m ((j : Int) - p) = y1 at *
      generalize Fi.ba l ((j : Int) - p) = y2 at *
      generalize gb m j = y3 at *
      generalize Fi.pre k l m p j = q at *
      generalize gb l j = x at *
      go_wp2_with fail
      refine C1.out.mono ?_
      rintro e w' ⟨rfl, rfl⟩
      go_wp2_with fail
      refine C2.out.mono ?_
      rintro e w' ⟨rfl, rfl⟩
      go_wp2_with fail
      refine C3.out.mono ?_
      rintro e w' ⟨rfl, rfl⟩
      go_wp2_with fail
      refine C4.out.mono ?_
      rintro e w' ⟨rfl, rfl⟩
      clear C1 C2 C3 C4
      go_wp2_with (at_builtin; refine wpl_append tyB rfl _ _ rfl H2.out hsrc rfl rfl (by omega) (by omega) hbb ?_)
      intro v2 w2 own2 hg2 _
      have hb2 : Below w.heap.size w w2 := (HB.out.alloc HB.out.size _).grown hg2 hbb (fun k hk => (H2.out.lt k hk).1)
      rw [← bvs_append, HT.out] at own2
      have H3 := Lib.hid own2
      have HB2 := Lib.hid hb2
      clear own2 hg2 hsrc H2 HO hb2 HB
      go_wp2
      go_roundw
      case rel => exact ⟨j + 1, by omega, by go_num, HB2, H3⟩
      case measure => simp [intOf]; omega
    · obtain rfl : n = j := by omega
      have hx := HO.out
      have hln := HLN.out
      rw [show (Fi.flt k l m p).take n = Fi.flt k l m p by exact List.take_of_length_le (by rw [Fi.flt_length, hln]; exact Nat.le_refl _)] at hx
      have HX := Lib.hid hx
      clear hx hln HO
      go_wp2
      go_ret
      exact ⟨_, rfl, HX.out, HB.out⟩
end Go.Proofs.YtbgaaocgdjkkeaaDoor
